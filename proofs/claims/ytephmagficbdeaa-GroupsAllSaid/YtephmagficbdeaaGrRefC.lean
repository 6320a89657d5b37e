/-
  CONTRACT: the document's Groups.
-/
import Derived.Test.YtephmagficbdeaaGrRefB
import Derived.Test.YtephmagficbdeaaGrPick
import Derived.Test.YtephmagficbdeaaGroupsOnceW
import Derived.Test.YtephmagficbdeaaGroupsRingsW
namespace Go.Proofs.Ytephmagficbdeaa.Gr
open Go.RowKit Go.Shelf Go.Sort Mm Sp GroupsOnce GroupsRings
set_option linter.unusedVariables false
set_option linter.unusedSimpArgs false
def Db (l : List (List Nat)) (i : Nat) : Bool := decide (∃ C ∈ l, i ∈ C)
theorem Db_iff {l : List (List Nat)} {i : Nat} : Db l i = true ↔ Dn l i := by unfold Db Dn; exact decide_eq_true_iff
theorem Db_more (l : List (List Nat)) (C : List Nat) (i : Nat) : Db (l ++ [C]) i = (Db l i || decide (i ∈ C)) := by
  unfold Db
  rw [← Bool.decide_or]
  refine decide_eq_decide.2 ⟨?_, ?_⟩
  · rintro ⟨D, hD, h⟩
    rcases List.mem_append.1 hD with e | e
    · exact .inl ⟨D, e, h⟩
    · simp at e; subst e; exact .inr h
  · rintro (⟨D, hD, h⟩ | h)
    · exact ⟨D, List.mem_append.2 (.inl hD), h⟩
    · exact ⟨C, by simp, h⟩
/-- what is picked, in memory -/
structure PickAt (B : Nat) (w1 wr : World) (n db : Nat) (M : Nat → Bool) (l : List (List Nat)) (v7 : Value) (vs : List Value) : Prop where
  done : wr.ownsRow B TB 1 (.slice (some ⟨db, 0, none⟩) n n) n (fv n fun i => .bool (M i))
  out : wr.ownsRow B TR 1 v7 l.length vs
  rows : RowsAt B wr (.slice none 0 0) (.slice none 0 0) vs l
  bel : Below B w1 wr
section
variable {B : Nat} {w1 wr w' : World} {n db : Nat} {M : Nat → Bool} {l : List (List Nat)} {v7 : Value} {vs : List Value}
theorem PickAt.here (h : PickAt B w1 wr n db M l v7 vs) (hb : Below wr.heap.size wr w') (hB : B ≤ wr.heap.size) : PickAt B w1 w' n db M l v7 vs :=
  ⟨own_here h.done hb, own_here h.out hb, fun i C hC => by
    obtain ⟨b, c, k1, k2, k3, k4⟩ := h.rows i C hC
    exact ⟨b, c, k1, k2, k3, own_here k4 hb⟩, h.bel.trans (hb.mono hB)⟩
theorem PickAt.drewN (h : PickAt B w1 wr n db M l v7 vs) (m : Nat) : PickAt B w1 (wr.drewN m) n db M l v7 vs := ⟨h.done, h.out, h.rows, ⟨h.bel.os, h.bel.tape, h.bel.output, h.bel.size, h.bel.block⟩⟩
theorem PickAt.mark (h : PickAt B w1 wr n db M l v7 vs) {x : Nat} (hx : x < n) : PickAt B w1 (wr.setCell ⟨db, x, none⟩ (.bool true)) n db (upd M x true) l v7 vs := by
  obtain ⟨cs, hb⟩ := own_block h.done
  refine ⟨?_, own_far h.out hb (by decide) x _, h.rows.set (a := ⟨db, x, none⟩) hb (by decide) _, h.bel.setCell (p := ⟨db, x, none⟩) (World.ownsRow.lt h.done db rfl).1 _⟩
  have := (World.ownsRow.stored h.done x (.bool true)).1
  rwa [fv_set _ hx, upd_map Value.bool M x true] at this
theorem PickAt.more (h : PickAt B w1 wr n db M l v7 vs) (hB : B ≤ wr.heap.size) {C : List Nat} {b c : Nat} (hC : wr.ownsRow B TI 1 (.slice (some ⟨b, 0, none⟩) C.length c) C.length (nv C)) {v8 : Value}
    (hown : w'.ownsRow B TR 1 v8 (l.length + 1) (vs ++ [.slice (some ⟨b, 0, none⟩) C.length c])) (hgrow : (wr.alloc (.cells #[.slice (some ⟨b, 0, none⟩) C.length c] TR)).grownBy w' v7.ownBlock) :
    PickAt B w1 w' n db M (l ++ [C]) v8 (vs ++ [.slice (some ⟨b, 0, none⟩) C.length c]) := by
  have ho := h.out.alloc (.cells #[.slice (some ⟨b, 0, none⟩) C.length c] TR)
  have hl : vs.length = l.length := by have := h.out.1; simpa using this
  have hr := RowsAt.grownT (RowsAt.alloc h.rows (.cells #[.slice (some ⟨b, 0, none⟩) C.length c] TR)) ho hgrow
  have hn := (hC.alloc (.cells #[.slice (some ⟨b, 0, none⟩) C.length c] TR)).kept hgrow (own_two (hC.alloc _) ho (by decide))
  refine ⟨World.ownsRow.kept (World.ownsRow.alloc h.done _) hgrow (own_two (World.ownsRow.alloc h.done _) ho (by decide)), by simpa using hown, fun i D hD => ?_, (h.bel.alloc hB _).grown hgrow (by simp; omega) (fun k hk => (h.out.lt k hk).1)⟩
  by_cases hi : i < l.length
  · rw [List.getElem?_append_left hi] at hD
    obtain ⟨b, c, k1, k2, k3, k4⟩ := hr i D hD
    exact ⟨b, c, by rw [List.getElem?_append_left (by omega)]; exact k1, k2, k3, k4⟩
  · rw [List.getElem?_append_right (by omega)] at hD
    have hi0 : i - l.length = 0 := by
      rcases Nat.eq_zero_or_pos (i - l.length) with e | e
      · exact e
      · rw [List.getElem?_eq_none (by simp; omega)] at hD; cases hD
    rw [hi0] at hD
    simp at hD
    subst hD
    exact ⟨b, c, by rw [List.getElem?_append_right (by omega), hl, hi0]; rfl, by simp [Value.ownBlock], by simp [Value.ownBlock], hn⟩
end
theorem _root_.Go.World.ownsRow.mono9 {B B' : Nat} {w : World} {e : TypeId} {size n : Nat} {v : Value} {xs : List Value} (h : w.ownsRow B e size v n xs) (hle : B' ≤ B) : w.ownsRow B' e size v n xs := by
  refine ⟨h.1, ?_⟩
  rcases h.2 with h2 | ⟨g, cap, cur, h1, h2, h3⟩
  · exact .inl h2
  · exact .inr ⟨g, cap, cur, h1, Nat.le_trans hle h2, h3⟩
/-- what the document's Groups answers of rows that nothing is wrong with -/
def RGPost (g : List (List Nat)) (w : World) (e : Ending) (w' : World) : Prop := ∃ v l, e = .returned (.tuple #[v, .int .i64 0]) ∧ ReadG w' v l ∧ Canon g l ∧ Below w.heap.size w w'
theorem meas1 {N a k : Nat} (hk : k < N) : a * (N + 1) + (N - (k + 1)) < a * (N + 1) + (N - k) := by omega
theorem meas2 {N a k : Nat} (ha : 0 < a) : (a - 1) * (N + 1) + (N - 0) < a * (N + 1) + (N - k) := by
  obtain ⟨b, rfl⟩ : ∃ b, a = b + 1 := ⟨a - 1, by omega⟩
  rw [Nat.add_sub_cancel, Nat.add_mul]
  omega
set_option maxRecDepth 100000 in
set_option maxHeartbeats 8000000 in
theorem rgroups_ok {ua : Option Addr} {uc : Nat} {g gs : List (List Nat)} (w : World) (hrr : RR w.heap.size w (.slice ua g.length uc) (gi g)) (hu : RRN w.heap.size w ua g) (h0 : wrongC (gi g) = 0) (hg : ∀ x < g.length, ∀ y ∈ U g x, y < g.length) (hp : Parted g gs) (hN : g.length ≤ 2048) :
    Calls Try.prog 11 #[.slice ua g.length uc] w (RGPost g w) := by
  obtain ⟨l0, hl0, hl1, hl2, hl3⟩ := info_parts Tbool
  obtain ⟨j0, hj0, hj1, hj2, hj3⟩ := info_parts Trow
  have HW := rwrong_any w hrr
  rw [h0] at HW
  have HND := Lib.hid (rneeds_any (uc := uc) w hu hg hN)
  have HG := Lib.hid hg
  have HP := Lib.hid hp
  clear hrr hu h0 hg hp
  go_enter Try.func11, Try.ntmps11
  go_wp2_with fail
  refine HW.mono ?_
  rintro e w' ⟨rfl, rfl⟩
  go_wp2_with fail
  refine HND.out.mono ?_
  rintro e w1 ⟨mb, R, rfl, hm⟩
  have HM := Lib.hid hm.reads
  have HB1 := Lib.hid hm.bel
  clear hm HND HW
  go_wp2_with (at_make; refine wpList_make_full _ rfl _ _ 35 rfl w1.heap.size 4 l0 _ 1 Try.underlying35 hl0 hl1 hl2 _ _ _ _ g.length rfl rfl rfl rfl (by rw [hl3]; omega) (by unfold maxLen; omega) (Nat.le_refl _) ?_)
  intro w2 hown hgrow
  have hp2 : PickAt w1.heap.size w1 w2 g.length w1.heap.size (Db []) [] (.slice none 0 0) [] := by
    refine ⟨?_, World.ownsRow_nil _ _ _ _, fun i C hC => by simp at hC, (Below.refl _ w1).grown hgrow (Nat.le_refl _) (fun k h => by cases h)⟩
    rw [fv_congr (G := fun _ => .bool false) (fun i hi => by simp [Db]), ← fv_made]
    simpa using hown
  have P2 := Lib.hid hp2
  clear hown hgrow hp2
  go_wp2_with fail
  go_loopg [7, 8] ((g.length - 0) * (g.length + 1) + (g.length - 0)) (fun d v7 v8 wr => ∃ (l : List (List Nat)) (k : Nat) (vs : List Value), (g.length - l.length) * (g.length + 1) + (g.length - k) = d ∧ v8 = .int .i64 k ∧ k ≤ g.length ∧ Pick g l k ∧ PickAt w1.heap.size w1 wr g.length w1.heap.size (Db l) l v7 vs)
  case atStart => exact ⟨[], 0, [], rfl, rfl, Nat.zero_le _, Pick.start g, P2.out⟩
  case round =>
    obtain ⟨l, k, vs, hd, rfl, hkle, hpk, hpa⟩ := hrel
    obtain ⟨a7, c7, rfl⟩ := own_slice hpa.out
    subst hd
    have HPK := Lib.hid hpk
    have HPA := Lib.hid hpa
    have hzB := hpa.bel.size
    have hll := hpk.len HG.out
    clear hpk hpa
    by_cases hkt : k < g.length
    · have hkt' : (k : Int) < g.length := by omega
      have HGR := Lib.hid (rgroup_any wr ((HM.out.below HPA.out.bel (Nat.le_refl _)).mono hzB) hkt hN)
      go_wp2_with fail
      refine HGR.out.mono ?_
      rintro e w7 ⟨v9, rfl, ho9, hb7⟩
      have hcpos : 0 < (cls g k).length := List.length_pos_of_mem (cls_self hkt)
      have hcle : (cls g k).length ≤ 2048 := by
        have := clsT_len g k g.length
        have e : clsT g k g.length = cls g k := rfl
        rw [e] at this; omega
      obtain ⟨p9, c9, rfl⟩ := own_slice ho9
      obtain ⟨b9, rfl, hb9a, hb9, _, _⟩ := own_at ho9 hcpos
      have HPA7 := Lib.hid (HPA.out.here hb7 hzB)
      have HO9 := Lib.hid (own_below ho9 (Below.refl w7.heap.size w7) (fun x hx => (ho9.lt x hx).2))
      have HM7 := Lib.hid ((HM.out.below HPA7.out.bel (Nat.le_refl _)).mono HPA7.out.bel.size)
      have hz7 : w1.heap.size ≤ w7.heap.size := HPA7.out.bel.size
      have s0 := (World.ownsRow.cellAt HPA7.out.done k (by omega)).trans (fv_get hkt)
      have x0 : w7.cell? ⟨b9, 0, none⟩ = some (.int .i64 ((cls g k)[0] : Nat)) := (ho9.cellAt 0 (by omega)).trans (nv_get hcpos)
      have HTEST := Lib.hid (HPK.out.ready_iff HG.out hkt (List.getElem_mem hcpos))
      have hx0 := cls_lt (List.getElem_mem hcpos)
      generalize hxx : (cls g k)[0] = x at x0 HTEST hx0
      clear hxx ho9 hb7 HGR hb9
      obtain ⟨dk, hdk⟩ : ∃ d, Db l k = d := ⟨_, rfl⟩
      rw [hdk] at s0
      have HDK := Lib.hid hdk
      clear hdk
      cases dk with
      | true =>
        clear x0
        go_wp2_with fail
        go_roundg ((g.length - l.length) * (g.length + 1) + (g.length - (k + 1)))
        case measure => exact meas1 hkt
        case rel => exact ⟨l, k + 1, vs, rfl, by go_num, by omega, HPK.out.skip (.inl (Db_iff.1 HDK.out)), HPA7.out⟩
      | false =>
        have HRDY := Lib.hid (rready_any (db := w1.heap.size) (c0 := c9) (n0 := (cls g k).length) (D := Db l) w7 HM7.out hx0 hcpos hcle x0 (fun i hi => (World.ownsRow.cellAt HPA7.out.done i (by omega)).trans (fv_get hi)) hN)
        clear x0
        go_wp2_with fail
        refine HRDY.out.mono ?_
        rintro e w8 ⟨t, rfl, ht, m, rfl⟩
        have HT := Lib.hid (show t = true ↔ Ready g l (cls g k) by
          rw [ht, HTEST.out]
          exact ⟨fun h i hi hw => (h i hi hw).imp Db_iff.1 id, fun h i hi hw => (h i hi hw).imp Db_iff.2 id⟩)
        have HPA8 := Lib.hid (HPA7.out.drewN m)
        have HO8 := Lib.hid (show (w7.drewN m).ownsRow wr.heap.size TI 1 (.slice (some ⟨b9, 0, none⟩) (cls g k).length c9) (cls g k).length (nv (cls g k)) from HO9.out)
        have hz8 : w1.heap.size ≤ (w7.drewN m).heap.size := hz7
        obtain ⟨W8, hW8⟩ : ∃ W, w7.drewN m = W := ⟨_, rfl⟩
        rw [hW8] at HPA8 HO8 hz8 ⊢
        clear ht hW8 s0 HRDY HPA7 HO9 HM7
        cases t with
        | false =>
          go_wp2_with fail
          go_roundg ((g.length - l.length) * (g.length + 1) + (g.length - (k + 1)))
          case measure => exact meas1 hkt
          case rel => exact ⟨l, k + 1, vs, rfl, by go_num, by omega, HPK.out.skip (.inr fun e => by have := HT.out.2 e; cases this), HPA8.out⟩
        | true =>
          have HPK2 := Lib.hid (HPK.out.pick hkt (fun e => by have := Db_iff.2 e; rw [HDK.out] at this; cases this) (HT.out.1 rfl))
          have HCLT := Lib.hid (show ∀ y ∈ cls g k, y < g.length from fun y hy => cls_lt hy)
          have hlen2 := HPK2.out.len HG.out
          rw [List.length_append, List.length_singleton] at hlen2
          generalize cls g k = C at HO8 hcpos hcle HPK2 HCLT
          go_wp2_with fail
          obtain ⟨wo, rfl⟩ : ∃ wo : World, wo = wr := ⟨_, rfl⟩
          go_loopg [10] C.length (fun d v wr => ∃ (r : Nat) (M : Nat → Bool), r + d = C.length ∧ v = .int .i64 r ∧ PickAt w1.heap.size w1 wr g.length w1.heap.size M l (.slice a7 l.length c7) vs ∧ wr.ownsRow wo.heap.size TI 1 (.slice (some ⟨b9, 0, none⟩) C.length c9) C.length (nv C) ∧ ∀ i, M i = (Db l i || decide (i ∈ C.take r)))
          case atStart => exact ⟨0, _, by omega, rfl, HPA8.out, HO8.out, fun i => by simp⟩
          case round =>
            obtain ⟨r, M, hr, rfl, hp9, ho9, hM⟩ := hrel
            have HR := Lib.hid hr
            have HP9 := Lib.hid hp9
            have HO9 := Lib.hid ho9
            have HMM := Lib.hid hM
            have hrle : r ≤ C.length := by omega
            have hz9 := hp9.bel.size
            clear hr hp9 ho9 hM
            by_cases hrt : r < C.length
            · have hrt' : (r : Int) < C.length := by omega
              have c0 := (HO9.out.cellAt r (by omega)).trans (nv_get hrt)
              have hyN := HCLT.out _ (List.getElem_mem hrt)
              have HTK := Lib.hid (show C.take (r + 1) = C.take r ++ [C[r]] by rw [List.take_add_one, List.getElem?_eq_getElem hrt]; rfl)
              generalize C[r] = y at c0 hyN HTK
              have hyN' : (y : Int) < g.length := by omega
              have s1 := (World.ownsRow.cellAt HP9.out.done y (by omega)).trans (fv_get hyN)
              have s2 := World.ownsRow.frozenAt HP9.out.done y
              obtain ⟨csd, hbd⟩ := own_block HP9.out.done
              have HBD := Lib.hid hbd
              clear hbd
              go_wp2_with fail
              go_roundg (C.length - (r + 1))
              case measure => have := HR.out; omega
              case rel =>
                refine ⟨r + 1, upd M y true, by have := HR.out; omega, by go_num, HP9.out.mark hyN, own_far HO9.out HBD.out (by decide) y _, fun i => ?_⟩
                rw [HTK.out]
                unfold upd
                by_cases e : i = y
                · rw [if_pos e]; simp [e]
                · rw [if_neg e, HMM.out i]; simp [e]
            · have hge : ¬ (r : Int) < C.length := by omega
              have hrn : r = C.length := by omega
              have HPE := Lib.hid (show PickAt w1.heap.size w1 wr g.length w1.heap.size (Db (l ++ [C])) l (.slice a7 l.length c7) vs from ⟨by
                have := HP9.out.done
                rwa [fv_congr (G := fun i => .bool (Db (l ++ [C]) i)) (fun i hi => by rw [Db_more, HMM.out i, hrn, List.take_length])] at this, HP9.out.out, HP9.out.rows, HP9.out.bel⟩)
              clear hrn
              go_wp2_with (at_builtin; refine wpList_append_own_at _ rfl _ _ 22 rfl w1.heap.size 28 j0 _ 1 24 Try.underlying22 hj0 hj1 hj2 hj3 rfl (by decide) _ _ _ rfl (HPE.out.out.alloc _) ⟨wr.heap.size, 0, none⟩ 1 1 [.slice (some ⟨b9, 0, none⟩) C.length c9] rfl rfl (Go.cell_one_new _ _ _) (fun u hu => by simp only [List.mem_singleton] at hu; rw [hu]; rfl) (by unfold maxLen; omega) (by omega) (by simp; omega) ?_)
              intro v7 wy hown hgrow _ _
              obtain ⟨a8, c8, rfl⟩ := own_slice hown
              have HPF := Lib.hid (HPE.out.more hz9 (HO9.out.mono9 (by omega)) hown hgrow)
              clear hown hgrow
              go_wp2_with fail
              go_roundg ((g.length - (l ++ [C]).length) * (g.length + 1) + (g.length - 0))
              case measure =>
                rw [List.length_append, List.length_singleton, show g.length - (l.length + 1) = (g.length - l.length) - 1 by omega]
                exact meas2 (by omega)
              case rel => exact ⟨l ++ [C], 0, _, rfl, rfl, Nat.zero_le _, HPK2.out, by have := HPF.out; rwa [show l.length + 1 = (l ++ [C]).length by simp] at this⟩
    · have hge : ¬ (k : Int) < g.length := by omega
      have HC := Lib.hid (HPK.out.canon HG.out HP.out (by omega))
      have HRD := Lib.hid (OwnGs.reads (a := a7) (n := l.length) (c := c7) ⟨vs, HPA.out.out, HPA.out.rows⟩ rfl)
      clear hkt
      go_wp2_with fail
      go_ret2
      exact ⟨_, l, rfl, ⟨a7, c7, rfl, by omega, HRD.out⟩, HC.out, HB1.out.trans (HPA.out.bel.mono HB1.out.size)⟩
end Go.Proofs.Ytephmagficbdeaa.Gr
