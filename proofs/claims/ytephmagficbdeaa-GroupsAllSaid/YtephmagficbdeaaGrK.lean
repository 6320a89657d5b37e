/-
  CONTRACT: groups in the document's order.
-/
import Derived.Test.YtephmagficbdeaaGrJ
namespace Go.Proofs.Ytephmagficbdeaa.Gr
open Go.RowKit Go.Shelf Go.Sort Mm Sp
set_option linter.unusedVariables false
set_option linter.unusedSimpArgs false
/-- rows that are read, by their values -/
theorem RRN.vals {B : Nat} {w : World} {ua : Option Addr} {g : List (List Nat)} (h : RRN B w ua g) : ∃ VG : Nat → Value, ∀ i, i < g.length → ∃ ad, ua = some ad ∧ ad.block < B ∧ w.cell? (ad.add i) = some (VG i) ∧
    ∃ a2 c2, VG i = .slice a2 (U g i).length c2 ∧ (U g i).length ≤ 9223372036854775807 ∧ ∀ j, (hj : j < (U g i).length) → ∃ ad2, a2 = some ad2 ∧ ad2.block < B ∧ w.cell? (ad2.add j) = some (.int .i64 (((U g i)[j] : Nat) : Int)) := by
  refine ⟨fun i => ((ua.bind fun ad => w.cell? (ad.add i)).getD (.slice none 0 0)), fun i hi => ?_⟩
  obtain ⟨ad, a2, c2, rfl, h1, h2, h3, h4⟩ := h i hi
  refine ⟨ad, rfl, h1, ?_, a2, c2, ?_, h3, h4⟩
  · simp only [Option.bind_some, h2, Option.getD_some]
  · simp only [Option.bind_some, h2, Option.getD_some]
/-- rows that are read, wherever they lie -/
def ReadG (w : World) (v : Value) (l : List (List Nat)) : Prop := ∃ a c, v = .slice a l.length c ∧ l.length ≤ 100000 ∧ RRN w.heap.size w a l
def OrdPost (g : List (List Nat)) (w : World) (e : Ending) (w' : World) : Prop := ∃ v l, e = .returned v ∧ Canon g l ∧ ReadG w' v l ∧ Below w.heap.size w w'
theorem readg_of {B : Nat} {w0 w : World} {ga : Option Addr} {gs : List (List Nat)} {VG : Nat → Value} {D : List Nat} {v : Value} (hD : ∀ i ∈ D, i < gs.length) (hB : B ≤ w.heap.size) (hl : D.length ≤ 100000)
    (hv : ∀ i, i < gs.length → ∃ ad, ga = some ad ∧ ad.block < B ∧ w0.cell? (ad.add i) = some (VG i) ∧
      ∃ a2 c2, VG i = .slice a2 (U gs i).length c2 ∧ (U gs i).length ≤ 9223372036854775807 ∧ ∀ j, (hj : j < (U gs i).length) → ∃ ad2, a2 = some ad2 ∧ ad2.block < B ∧ w0.cell? (ad2.add j) = some (.int .i64 (((U gs i)[j] : Nat) : Int)))
    (hb : Below B w0 w) (ho : w.ownsRow B TR 1 v D.length (D.map VG)) : ReadG w v (D.map fun j => gs.getD j []) := by
  obtain ⟨a, c, rfl⟩ := own_slice ho
  refine ⟨a, c, by rw [List.length_map], by rw [List.length_map]; exact hl, fun i hi => ?_⟩
  rw [List.length_map] at hi
  obtain ⟨g, rfl, hgB, hg, _, hc⟩ := own_at ho (by omega)
  have e2 : ((⟨g, 0, none⟩ : Addr).add i) = ⟨g, i, none⟩ := by
    simp [Addr.add]
    try (intro e; exact e.symm)
  have eU : U (D.map fun j => gs.getD j []) i = U gs D[i] := by
    unfold U
    simp [hi]
  obtain ⟨ad, _, _, _, a2, c2, k1, k2, k3⟩ := hv D[i] (hD _ (List.getElem_mem hi))
  rw [eU]
  refine ⟨⟨g, 0, Option.none⟩, a2, c2, rfl, hg, ?_, k2, fun j hj => ?_⟩
  · rw [e2, hc i (by omega), List.getElem?_map, List.getElem?_eq_getElem hi, ← k1]
    rfl
  · obtain ⟨ad2, q1, q2, q3⟩ := k3 j hj
    exact ⟨ad2, q1, by omega, by rw [hb.cell (by rw [block_of_add]; omega)]; exact q3⟩
theorem Lists.grownT {B B2 : Nat} {w w' : World} {X : Nat → Prop} {k : Nat} {us : Nat → List Nat} {V : Nat → Value} {t : TypeId} {size n : Nat} {v : Value} {xs : List Value} (h : Lists B w X k us V) (ho : w.ownsRow B2 t size v n xs) (hne : TI ≠ t) (hg : w.grownBy w' v.ownBlock) : Lists B w' X k us V :=
  ⟨fun j hj => (h.own j hj).kept hg (own_two (h.own j hj) ho hne), h.ap, h.far⟩
theorem mis_bounds (g gs : List (List Nat)) (D : List Nat) (i : Nat) : -1 ≤ mis g gs D i ∧ mis g gs D i ≤ gs.length := by
  unfold mis
  split
  · omega
  · have := List.length_filter_le (fun h => E g gs i h && decide (h ∉ D)) (List.range gs.length)
    rw [List.length_range] at this
    omega
/-- what is missing while those that use j are told -/
def misR (g gs : List (List Nat)) (D : List Nat) (j r i : Nat) : Int := if i = j then -1 else mis g gs D i - (if i ∈ (users g gs j).take r then 1 else 0)
theorem users_nodup (g gs : List (List Nat)) (j : Nat) : (users g gs j).Nodup := List.nodup_range.sublist List.filter_sublist
theorem users_mem {g gs : List (List Nat)} {j i : Nat} : i ∈ users g gs j ↔ i < gs.length ∧ E g gs i j = true := by
  unfold users
  rw [List.mem_filter, List.mem_range]
theorem E_self (g gs : List (List Nat)) (j : Nat) : E g gs j j = false := by simp [E]
theorem misR_step {g gs : List (List Nat)} {D : List Nat} {j r : Nat} (hr : r < (users g gs j).length) : (fun i => misR g gs D j (r + 1) i) = upd (misR g gs D j r) (users g gs j)[r] (misR g gs D j r (users g gs j)[r] - 1) := by
  have hne : (users g gs j)[r] ≠ j := fun e => by
    have := (users_mem.1 (List.getElem_mem hr)).2
    rw [e, E_self] at this
    cases this
  have hnt : (users g gs j)[r] ∉ (users g gs j).take r := fun e => by
    obtain ⟨q, hq, eq⟩ := List.mem_take_iff_getElem.1 e
    exact (List.pairwise_iff_getElem.1 (users_nodup g gs j)) q r (by omega) hr (by omega) eq
  have ht : (users g gs j).take (r + 1) = (users g gs j).take r ++ [(users g gs j)[r]] := by rw [List.take_add_one, List.getElem?_eq_getElem hr]; rfl
  funext i
  unfold upd misR
  by_cases e : i = (users g gs j)[r]
  · have hm : i ∈ (users g gs j).take (r + 1) := by rw [ht, e]; exact List.mem_append.2 (.inr (by simp))
    have hm2 : i ∉ (users g gs j).take r := by rw [e]; exact hnt
    have hij : ¬ i = j := by rw [e]; exact hne
    rw [if_pos e, ← e]
    simp only [if_neg hij, if_pos hm, if_neg hm2]
    omega
  · have hm : (i ∈ (users g gs j).take (r + 1)) = (i ∈ (users g gs j).take r) := by
      rw [ht, List.mem_append, List.mem_singleton]
      exact propext ⟨fun h => h.resolve_right e, .inl⟩
    rw [if_neg e]
    split
    · rfl
    · congr 1
      exact ite_congr hm (fun _ => rfl) (fun _ => rfl)
theorem misR_bounds (g gs : List (List Nat)) (D : List Nat) (j r i : Nat) : -2 ≤ misR g gs D j r i ∧ misR g gs D j r i ≤ gs.length := by
  have := mis_bounds g gs D i
  unfold misR
  split
  · omega
  · split <;> omega
set_option maxRecDepth 100000 in
set_option maxHeartbeats 8000000 in
theorem ordered_any {ua ga : Option Addr} {uc gc : Nat} {g gs : List (List Nat)} (w : World) (hu : RRN w.heap.size w ua g) (hgs : RRN w.heap.size w ga gs) (hg : ∀ x < g.length, ∀ y ∈ U g x, y < g.length) (hp : Parted g gs) (hby : ByHead gs) (hN : g.length ≤ 2048) :
    Calls Try.prog 18 #[.slice ua g.length uc, .slice ga gs.length gc] w (OrdPost g w) := by
  have hkN := hp.len
  obtain ⟨j0, hj0, hj1, hj2, hj3⟩ := info_parts Trow
  have HN := needs_any (uc := uc) (gc := gc) w hu hgs hg hp hN
  obtain ⟨VG, hVG⟩ := hgs.vals
  have HV := Lib.hid hVG
  have HG := Lib.hid hg
  have HP := Lib.hid hp
  have HBY := Lib.hid hby
  clear hu hgs hg hp hVG hby
  go_enter Try.func18, Try.ntmps18
  go_wp2_with fail
  go_step3
  go_wp2_with fail
  refine HN.mono ?_
  rintro e w1 ⟨m, mu, V, rfl, hm, hmu, hL, hb1⟩
  have HM := Lib.hid hm
  have HMU := Lib.hid hmu
  have HL := Lib.hid hL
  have HB1 := Lib.hid hb1
  have hmB := (hm.lt m rfl).1
  clear HN hm hmu hL hb1
  go_wp2_with fail
  go_step3
  go_wp2_with fail
  go_loopg [7] gs.length (fun d v wr => ∃ D : List Nat, D.length + d = gs.length ∧ Stand g gs D ∧ wr.ownsRow w.heap.size TR 1 v D.length (D.map VG) ∧ wr.ownsRow w.heap.size TI 1 (.slice (some ⟨m, 0, none⟩) gs.length gs.length) gs.length (fv gs.length fun i => .int .i64 (mis g gs D i)) ∧ wr.ownsRow w.heap.size TR 1 (.slice (some ⟨mu, 0, none⟩) gs.length gs.length) gs.length (fv gs.length V) ∧ Lists w.heap.size wr (fun b => b = m) gs.length (users g gs) V ∧ (∀ k, v.ownBlock = some k → k ≠ mu) ∧ Below w.heap.size w wr)
  case atStart => exact ⟨[], by simp, Stand.nil, World.ownsRow_nil _ _ _ _, HM.out, HMU.out, HL.out, fun k hk => by simp [Value.ownBlock] at hk, HB1.out⟩
  case round =>
    obtain ⟨D, hd, hst, ho, hm, hmu, hL, hmn, hb⟩ := hrel
    obtain ⟨al, cl, rfl⟩ := own_slice ho
    have HD := Lib.hid hd
    have HST := Lib.hid hst
    have HO := Lib.hid ho
    have HM2 := Lib.hid hm
    have HMU2 := Lib.hid hmu
    have HL2 := Lib.hid hL
    have HMN := Lib.hid hmn
    have HB := Lib.hid hb
    have hdl : D.length ≤ gs.length := by omega
    have hzB := hb.size
    clear hd hst ho hm hmu hL hmn hb
    by_cases hlt : D.length < gs.length
    · have hlt' : (D.length : Int) < gs.length := by omega
      obtain ⟨x, hx, hx0, hxl⟩ := HST.out.some HG.out HP.out hlt
      have HX0 := Lib.hid hx0
      have HXL := Lib.hid hxl
      clear hx0 hxl
      go_wp2_with fail
      go_loopg [7, 24] (x + 1) (fun d v7 v wx => ∃ j : Nat, j + d = x + 1 ∧ j ≤ x ∧ v = .int .i64 j ∧ v7 = .slice al D.length cl ∧ wr = wx)
      case atStart => exact ⟨0, by omega, by omega, rfl, rfl, rfl⟩
      case round =>
        obtain ⟨j, hj, hjx, rfl, rfl, rfl⟩ := hrel
        have HJ := Lib.hid hj
        have hjk : j < gs.length := by omega
        have hjk' : (j : Int) < gs.length := by omega
        have m0 := (World.ownsRow.cellAt HM2.out j (by omega)).trans (fv_get hjk)
        have m1 := World.ownsRow.frozenAt HM2.out j
        clear hj
        by_cases hjl : j < x
        · have e0 : (mis g gs D j != 0) = true := by
            have := HXL.out j hjl
            simpa using this
          generalize mis g gs D j = c at m0 e0
          go_wp2_with fail
          go_roundg (x + 1 - (j + 1))
          case measure => have := HJ.out; omega
          case rel => exact ⟨j + 1, by have := HJ.out; omega, by omega, by go_num, rfl, rfl⟩
        · obtain rfl : j = x := by omega
          rw [HX0.out] at m0
          obtain ⟨ad, rfl, had, y0, a2, c2, hvx, hUl, _⟩ := HV.out j hjk
          replace y0 := (HB.out.cell (p := ad.add j) (by rw [block_of_add]; exact had)).trans y0
          rw [hvx] at y0
          have HVX := Lib.hid hvx
          obtain ⟨W1, hW1⟩ : ∃ W1, wr.setCell ⟨m, j, none⟩ (.int .i64 (-1)) = W1 := ⟨_, rfl⟩
          have HVW : Hid (∀ b, b < wr.heap.size → b ≠ m → W1.heap[b]? = wr.heap[b]?) := by
            show ∀ b, _
            intro b hb hbm
            rw [← hW1]
            exact heap_setCell_other wr ⟨m, j, none⟩ b _ (fun e => hbm e)
          obtain ⟨csm, hbm⟩ := own_block HM2.out
          have o1 := Lib.hid (show W1.ownsRow w.heap.size TR 1 (.slice al D.length cl) D.length (D.map VG) by rw [← hW1]; exact own_far HO.out hbm (by decide) j _)
          have m2 := Lib.hid (show W1.ownsRow w.heap.size TI 1 (.slice (some ⟨m, 0, none⟩) gs.length gs.length) gs.length (fv gs.length fun i => .int .i64 (upd (mis g gs D) j (-1) i)) by
            rw [← hW1]
            have := (World.ownsRow.stored HM2.out j (.int .i64 (-1))).1
            rw [fv_set _ hjk, upd_map (Value.int .i64) (mis g gs D) j (-1)] at this
            exact this)
          have u2 := Lib.hid (show W1.ownsRow w.heap.size TR 1 (.slice (some ⟨mu, 0, none⟩) gs.length gs.length) gs.length (fv gs.length V) by rw [← hW1]; exact own_far HMU2.out hbm (by decide) j _)
          have l2 := Lib.hid (show Lists w.heap.size W1 (fun b => b = m) gs.length (users g gs) V by rw [← hW1]; exact HL2.out.set (a := ⟨m, j, none⟩) rfl _)
          have b2 := Lib.hid (show Below w.heap.size w W1 by rw [← hW1]; exact HB.out.setCell (p := ⟨m, j, none⟩) hmB _)
          have hz1 : w.heap.size ≤ W1.heap.size := b2.out.size
          have y1 := (b2.out.cell (p := ad.add j) (by rw [block_of_add]; exact had)).trans ((HB.out.cell (p := ad.add j) (by rw [block_of_add]; exact had)).symm.trans y0)
          clear hbm HVW hvx y0
          go_wp2_with (at_builtin; refine wpList_append_own_at _ rfl _ _ 22 rfl w.heap.size 28 j0 _ 1 24 Try.underlying22 hj0 hj1 hj2 hj3 rfl (by decide) _ _ _ rfl (o1.out.alloc _) ⟨W1.heap.size, 0, none⟩ 1 1 [.slice a2 (U gs j).length c2] rfl rfl (Go.cell_one_new _ _ _) (fun u hu => by simp only [List.mem_singleton] at hu; rw [hu]; rfl) (by unfold maxLen; omega) (by omega) (by simp; omega) ?_)
          intro v7 w7 hown hgrow _ hat7
          obtain ⟨a7, c7, rfl⟩ := own_slice hown
          have HO7 := Lib.hid (show w7.ownsRow w.heap.size TR 1 (.slice a7 (D.length + 1) c7) (D.length + 1) ((D ++ [j]).map VG) by rw [List.map_append, List.map_singleton, HVX.out]; exact hown)
          have hol := o1.out.alloc (.cells #[.slice a2 (U gs j).length c2] TR)
          have M7 := Lib.hid (World.ownsRow.kept (World.ownsRow.alloc m2.out (.cells #[.slice a2 (U gs j).length c2] TR)) hgrow (own_two (World.ownsRow.alloc m2.out (.cells #[.slice a2 (U gs j).length c2] TR)) hol (by decide)))
          have U7 := Lib.hid (World.ownsRow.kept (World.ownsRow.alloc u2.out (.cells #[.slice a2 (U gs j).length c2] TR)) hgrow (.inr (fun e => HMN.out mu e.symm rfl)))
          have L7 := Lib.hid ((l2.out.alloc (.cells #[.slice a2 (U gs j).length c2] TR)).grownT hol (by decide) hgrow)
          have B7 := Lib.hid ((b2.out.alloc hz1 (.cells #[.slice a2 (U gs j).length c2] TR)).grown hgrow (by simp; omega) (fun k hk => (o1.out.lt k hk).1))
          have hmul := (World.ownsRow.lt u2.out mu rfl).2
          have N7 := Lib.hid (show ∀ k, (Value.slice a7 (D.length + 1) c7).ownBlock = some k → k ≠ mu from fun k hk => by
            rcases hat7 with e | e
            · exact HMN.out k (e.symm.trans hk)
            · rw [e] at hk; simp at hk; omega)
          clear hown hgrow hat7 hol hW1 m0 m1 y1
          have hox := L7.out.own j hjk
          obtain ⟨ax, cx, hvj⟩ := own_slice hox
          have u0 := (World.ownsRow.cellAt U7.out j (by omega)).trans (fv_get hjk)
          rw [hvj] at u0
          have HVJ := Lib.hid hvj
          have hulen : (users g gs j).length ≤ 2048 := by
            have := List.length_filter_le (fun i => E g gs i j) (List.range gs.length)
            rw [List.length_range] at this
            show (List.filter (fun i => E g gs i j) (List.range gs.length)).length ≤ _
            omega
          have MR := Lib.hid (show (fun i => upd (mis g gs D) j (-1) i) = fun i => misR g gs D j 0 i by
            funext i
            unfold upd misR
            by_cases e : i = j <;> simp [e])
          clear hox hvj
          go_wp2_with fail
          go_loopg [50] (users g gs j).length (fun d v wr => ∃ r : Nat, r + d = (users g gs j).length ∧ v = .int .i64 r ∧ wr.ownsRow w.heap.size TI 1 (.slice (some ⟨m, 0, none⟩) gs.length gs.length) gs.length (fv gs.length fun i => .int .i64 (misR g gs D j r i)) ∧ wr.ownsRow w.heap.size TR 1 (.slice a7 (D.length + 1) c7) (D.length + 1) ((D ++ [j]).map VG) ∧ wr.ownsRow w.heap.size TR 1 (.slice (some ⟨mu, 0, none⟩) gs.length gs.length) gs.length (fv gs.length V) ∧ Lists w.heap.size wr (fun b => b = m) gs.length (users g gs) V ∧ Below w.heap.size w wr)
          case atStart =>
            refine ⟨0, by omega, rfl, ?_, HO7.out, U7.out, L7.out, B7.out⟩
            have := M7.out
            rw [fv_congr (G := fun i => .int .i64 (misR g gs D j 0 i)) (fun i hi => by rw [show upd (mis g gs D) j (-1) i = misR g gs D j 0 i from congrFun MR.out i])] at this
            exact this
          case round =>
            obtain ⟨r, hr, rfl, hm8, ho8, hu8, hl8, hb8⟩ := hrel
            have HR := Lib.hid hr
            have M8 := Lib.hid hm8
            have O8 := Lib.hid ho8
            have U8 := Lib.hid hu8
            have L8 := Lib.hid hl8
            have B8 := Lib.hid hb8
            have hrle : r ≤ (users g gs j).length := by omega
            clear hr hm8 ho8 hu8 hl8 hb8
            by_cases hrt : r < (users g gs j).length
            · have hrt' : (r : Int) < (users g gs j).length := by omega
              have hox := L8.out.own j hjk
              rw [HVJ.out] at hox
              obtain ⟨gx, rfl, _, _, _, hcx⟩ := own_at hox (by omega)
              have c0 := (hcx r (by omega)).trans (nv_get hrt)
              have huk : (users g gs j)[r] < gs.length := (users_mem.1 (List.getElem_mem hrt)).1
              have HMS := Lib.hid (misR_step (D := D) hrt)
              generalize (users g gs j)[r] = u at c0 huk HMS
              have huk' : (u : Int) < gs.length := by omega
              have m0 := (World.ownsRow.cellAt M8.out u (by omega)).trans (fv_get huk)
              have m1 := World.ownsRow.frozenAt M8.out u
              have hbd := misR_bounds g gs D j r u
              obtain ⟨mr, hmr⟩ : ∃ mr, misR g gs D j r u = mr := ⟨_, rfl⟩
              rw [hmr] at m0 hbd HMS
              obtain ⟨hbd1, hbd2⟩ := hbd
              obtain ⟨csm2, hbm2⟩ := own_block M8.out
              have HBM2 := Lib.hid hbm2
              clear hox hcx hmr hbm2 u0
              go_wp2_with fail
              go_roundg ((users g gs j).length - (r + 1))
              case measure => have := HR.out; omega
              case rel =>
                refine ⟨r + 1, by have := HR.out; omega, by go_num, ?_, own_far O8.out HBM2.out (by decide) u _, own_far U8.out HBM2.out (by decide) u _, L8.out.set (a := ⟨m, u, none⟩) rfl _, B8.out.setCell (p := ⟨m, u, none⟩) hmB _⟩
                have := (World.ownsRow.stored M8.out u (.int .i64 (mr - 1))).1
                rw [fv_set _ huk, upd_map (Value.int .i64) (fun i => misR g gs D j r i) u (mr - 1)] at this
                have e := HMS.out
                rw [fv_congr (G := fun i => .int .i64 (misR g gs D j (r + 1) i)) (fun i hi => by rw [show misR g gs D j (r + 1) i = upd (misR g gs D j r) u (mr - 1) i from congrFun e i])] at this
                exact this
            · have hrn : r = (users g gs j).length := by omega
              have hge : ¬ (r : Int) < (users g gs j).length := by omega
              have HRN := Lib.hid hrn
              clear hrn u0
              go_wp2_with fail
              go_roundg (gs.length - (D.length + 1))
              case measure => have := HD.out; omega
              case rel =>
                refine ⟨D ++ [j], by have := HD.out; simp; omega, HST.out.more HG.out HP.out hjk HX0.out HXL.out, by simpa using O8.out, ?_, U8.out, L8.out, N7.out, B8.out⟩
                have := M8.out
                rw [fv_congr (G := fun i => .int .i64 (mis g gs (D ++ [j]) i)) (fun i hi => by
                  rw [HST.out.mis_more hjk HX0.out i]
                  unfold misR
                  rw [HRN.out, List.take_length]
                  by_cases e : i = j
                  · simp [e]
                  · rw [if_neg e, if_neg e]
                    congr 2
                    exact ite_congr (by rw [users_mem]; simp [hi]) (fun _ => rfl) (fun _ => rfl))] at this
                exact this
    · have hge : ¬ (D.length : Int) < gs.length := by omega
      go_wp2_with fail
      go_ret
      refine ⟨_, _, rfl, HST.out.canon HG.out HP.out HBY.out (by omega), readg_of HST.out.lt hzB (by omega) HV.out HB.out HO.out, HB.out⟩
end Go.Proofs.Ytephmagficbdeaa.Gr
