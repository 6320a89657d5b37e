/-
  CONTRACTS of layer heap: the document's Reached.
-/
import Derived.Test.YtbkklnihgejeoaaHpY
import Derived.Test.YtbkklnihgejeoaaHpS
import Derived.Deep.RegionHeld3
import Derived.Deep.DeepCutAuto
namespace Go.Proofs.Ytbkklnihgejeoaa.Hp
open Go.RowKit Mm Tm
set_option linter.unusedVariables false
set_option linter.unusedSimpArgs false
def RchP (S : Hs) (roots : List Int) (w : World) (e : Ending) (w' : World) : Prop := ∃ v out, e = .returned v ∧ OwnI w.heap.size TI w' v out ∧ out.Nodup ∧ (∀ x, x ∈ out ↔ Rch S roots x) ∧ Below w.heap.size w w'
/-- while roots are put in -/
structure R1 (w0 : World) (roots : List Int) (d : Nat) (v i : Value) (wr : World) : Prop where
  mem : ∃ (k : Nat) (out : List Int), k + d = roots.length ∧ i = .int .i64 k ∧ out.Nodup ∧ (∀ x ∈ out, x ∈ roots) ∧ (∀ j y, j < k → roots[j]? = some y → y ∈ out) ∧ OwnI w0.heap.size TI wr v out
  below : Below w0.heap.size w0 wr
/-- while cells are looked into -/
structure R2 (w0 : World) (S : Hs) (roots : List Int) (d : Nat) (v i : Value) (wr : World) : Prop where
  mem : ∃ (k : Nat) (out : List Int), k + d = S.live ∧ i = .int .i64 k ∧ k ≤ out.length ∧ RoI S roots k out ∧ OwnI w0.heap.size TI wr v out
  below : Below w0.heap.size w0 wr
/-- while a cell's pointers are looked at -/
structure R3 (w0 : World) (S : Hs) (roots : List Int) (m : Nat) (i : Nat) (nb : Nat) (va : Value) (d : Nat) (v kv : Value) (wz : World) : Prop where
  mem : ∃ (k : Nat) (out : List Int), k + d = (S.nd m).l.length ∧ kv = .int .i64 k ∧ RoI S roots i out ∧ out[i]? = some (m : Int) ∧ (∀ j y, j < k → (S.nd m).l[j]? = some y → y ∈ out) ∧ OwnI w0.heap.size TI wz v out
  box : Box wz nb TN #[.int .i64 (S.nd m).tag, .int .i64 (S.nd m).n, va]
  below : Below w0.heap.size w0 wz
theorem own_rd {B : Nat} {w : World} {a : Option Addr} {n c : Nat} {l : List Int} (h : OwnI B TI w (.slice a n c) l) : RdI (fun b => b < w.heap.size) w a l := (OwnI.reads h).mono fun b q => q.2
theorem len_own {B : Nat} {w : World} {v : Value} {l : List Int} (h : OwnI B TI w v l) : l.length ≤ 9223372036854775807 := by
  rcases h.2 with ⟨q1, q2⟩ | ⟨g, cap, cur, q1, _, _, q2, q3, _⟩
  · omega
  · unfold maxLen at q3; omega
/-- what a cut behind 'nd, ok := h.Get(x)' knows -/
def CutA (B : Nat) (x : Nd) (wr : World) (v8 : Value) (wx : World) : Prop := ∃ nb na nc, v8 = .pointer (some ⟨nb, 0, none⟩) ∧ Box wx nb TN #[.int .i64 x.tag, .int .i64 x.n, .slice na x.l.length nc] ∧ RdI (· < B) wx na x.l ∧ x.l.length ≤ 20 ∧ Below wr.heap.size wr wx
theorem CutA.here {B : Nat} {x : Nd} {wr w5 : World} {na : Option Addr} {nc : Nat} (hr : RdI (· < B) w5 na x.l) (hn : x.l.length ≤ 20) (hb : Below wr.heap.size wr w5) (hB : B ≤ wr.heap.size) :
    CutA B x wr (.pointer (some ⟨w5.heap.size, 0, none⟩)) (w5.alloc (.cells #[.int .i64 x.tag, .int .i64 x.n, .slice na x.l.length nc] TN)) :=
  ⟨_, na, nc, rfl, Box.new _ _ _, hr.frame (fun ad hl => World.cell?_alloc_lt _ _ _ (Nat.lt_of_lt_of_le hl (Nat.le_trans hB hb.size))) fun _ q => q, hn, hb.alloc hb.size _⟩
theorem CutA.there {B : Nat} {x : Nd} {wr w5 : World} {na : Option Addr} {nc : Nat} (hr : RdI (· < B) w5 na x.l) (hn : x.l.length ≤ 20) (hb : Below wr.heap.size wr w5) (hB : B ≤ wr.heap.size) (hx : Box w5 wr.heap.size TN #[.int .i64 0, .int .i64 0, .slice none 0 0]) :
    CutA B x wr (.pointer (some ⟨wr.heap.size, 0, none⟩)) (((w5.setCell ⟨wr.heap.size, 0, none⟩ (.int .i64 x.tag)).setCell ⟨wr.heap.size, 1, none⟩ (.int .i64 x.n)).setCell ⟨wr.heap.size, 2, none⟩ (.slice na x.l.length nc)) := by
  have hw : Wrote w5 (((w5.setCell ⟨wr.heap.size, 0, none⟩ (.int .i64 x.tag)).setCell ⟨wr.heap.size, 1, none⟩ (.int .i64 x.n)).setCell ⟨wr.heap.size, 2, none⟩ (.slice na x.l.length nc)) wr.heap.size := (((Wrote.refl w5 _).set 0 _).set 1 _).set 2 _
  exact ⟨_, na, nc, rfl, ((hx.put 0 _).put 1 _).put 2 _, hr.frame (fun ad hl => hw.cell ad (by intro e; omega)) fun _ q => q, hn, hw.below hb (Nat.le_refl _)⟩
set_option maxRecDepth 100000 in
set_option maxHeartbeats 16000000 in
theorem rreached_any {B cap allocs c hc : Nat} {a : Option Addr} {l : List Rc} {S : Hs} {ra : Option Addr} {rc : Nat} {roots : List Int} (w : World) (h : OwnC B w (.slice a l.length c) l) (hB : B ≤ w.heap.size) (hs : Sim S l) (hp : Pl hc 400 S) (hr : RdI (· < B) w ra roots) (hrn : roots.length ≤ 20) (hroots : ∀ x ∈ roots, S.held x = true) :
    Calls Try.prog 39 #[.agg #[.int .i64 cap, .slice a l.length c, .int .i64 allocs], .slice ra roots.length rc] w (RchP S roots w) := by
  obtain ⟨W0, hW0⟩ : ∃ W0, w.alloc (.cells #[.int .i64 cap, .slice a l.length c, .int .i64 allocs] RH) = W0 := ⟨_, rfl⟩
  have hb0 : Below w.heap.size w W0 := by rw [← hW0]; exact (Below.refl w.heap.size w).alloc (Nat.le_refl _) _
  have hx0 : Box W0 w.heap.size RH #[.int .i64 cap, .slice a l.length c, .int .i64 allocs] := by rw [← hW0]; exact Box.new _ _ _
  have hlive : S.live ≤ 400 := Nat.le_trans hp.liv hp.allocs
  have hll : l.length ≤ 400 := by rw [hs.length hp.good]; exact hlive
  have HB0 := Lib.hid hb0
  have HX0 := Lib.hid hx0
  have HO0 := Lib.hid (h.below hB hb0)
  have HBL := Lib.hid (Nat.le_trans hB hb0.size)
  have HRD := Lib.hid (hr.below hb0 fun b q => Nat.lt_of_lt_of_le q hB)
  have HS := Lib.hid hs
  have HG := Lib.hid hp.good
  have HH := Lib.hid hroots
  obtain ⟨i0, hinf, hz0, hz1, hz2'⟩ := info_parts infoI
  clear h hB hb0 hx0 hs hp hr hroots
  go_enter Try.func39, Try.ntmps39
  go_wp2_with fail
  clear hW0
  go_loopg [5, 6] roots.length (fun d v i wr => R1 W0 roots d v i wr)
  case atStart => exact ⟨⟨0, [], by omega, rfl, by simp, fun x hx => by simp at hx, fun j y hj => by omega, OwnI.nil _ _ _⟩, Below.refl _ _⟩
  case round =>
    obtain ⟨⟨k, out, hd, rfl, hnd, hsub, hin, hown⟩, hb⟩ := hrel
    obtain ⟨ua, uc, rfl⟩ := hown.slice
    have HD := Lib.hid hd
    have HND := Lib.hid hnd
    have HSUB := Lib.hid hsub
    have HIN := Lib.hid hin
    have HOW := Lib.hid hown
    have HB := Lib.hid hb
    have hkl : k ≤ roots.length := by omega
    have hol : out.length ≤ S.live := by
      rw [HG.out.live]
      exact length_le_cells hnd fun x hx => Hs.held_iff.1 (HH.out x (hsub x hx))
    by_cases hlt : k < roots.length
    · obtain ⟨y, hy⟩ : ∃ y, roots[k]? = some y := ⟨_, List.getElem?_eq_getElem hlt⟩
      obtain ⟨ad, rfl, had, c0⟩ := HRD.out k y hy
      have cy : wr.cell? (ad.add k) = some (.int .i64 y) := (hb.cell (p := ad.add k) (by rw [Tm.add_block]; exact Nat.lt_of_lt_of_le had HBL.out)).trans c0
      have HHA := Lib.hid (has_any (c := uc) y wr (own_rd hown) (len_own hown))
      have HY := Lib.hid hy
      clear hd hnd hsub hin hown hb hy c0 had
      by_cases hm : y ∈ out
      · rw [decide_eq_true hm] at HHA
        have HIN' := Lib.hid (show ∀ j z, j < k + 1 → roots[j]? = some z → z ∈ out from fun j z hj hz => by
          by_cases e : j = k
          · subst e
            rw [HY.out] at hz
            injection hz with hz
            rw [← hz]; exact hm
          · exact HIN.out j z (by omega) hz)
        clear hm
        go_wp2_with fail
        with_reducible refine HHA.out.mono ?_
        rintro e w' ⟨rfl, rfl⟩
        go_wp2_with fail
        go_roundg (roots.length - (k + 1))
        case measure => have := HD.out; omega
        case rel => exact ⟨⟨k + 1, out, by omega, by go_num, HND.out, HSUB.out, HIN'.out, HOW.out⟩, HB.out⟩
      · rw [decide_eq_false hm] at HHA
        obtain ⟨W1, hW1⟩ : ∃ W1, wr.alloc (.cells #[.int .i64 y] TI) = W1 := ⟨_, rfl⟩
        have hb1 : Below wr.heap.size wr W1 := by rw [← hW1]; exact (Below.refl wr.heap.size wr).alloc (Nat.le_refl _) _
        have HO1 := Lib.hid (own_here HOW.out hb1)
        have HNW := Lib.hid (show ∀ j u, [Value.int .i64 y][j]? = some u → W1.cell? ((⟨wr.heap.size, 0, none⟩ : Addr).add j) = some u from by
          have := news_new wr #[.int .i64 y] TI
          rw [hW1] at this
          exact this)
        have HB1 := Lib.hid (HB.out.trans (hb1.mono HB.out.size))
        have hs1 : W0.heap.size ≤ W1.heap.size := HB1.out.size
        have HNI := Lib.hid hm
        have hyc : W1.cell? (ad.add k) = some (.int .i64 y) := (hb1.cell (World.block_lt_of_cell? _ _ cy)).trans cy
        clear hm hb1
        go_wp2_with fail
        with_reducible refine HHA.out.mono ?_
        rintro e w' ⟨rfl, rfl⟩
        go_wp2_with (at_builtin; refine wpList_append_own _ rfl _ _ 35 rfl W0.heap.size 3 i0 _ 1 8 Try.underlying35 hinf hz0 hz1 hz2' rfl (by decide) (.slice ua out.length uc) out.length (out.map fun x => .int .i64 x) rfl HO1.out ⟨wr.heap.size, 0, none⟩ 1 1 [.int .i64 y] rfl rfl HNW.out (by intro u hu; simp only [List.mem_cons, List.not_mem_nil, or_false] at hu; subst hu; rfl) (by unfold maxLen; omega) (by omega) hs1 ?_)
        intro v' w2 hown' hgrow _
        have HE := Lib.hid (show R1 W0 roots (roots.length - (k + 1)) v' (.int .i64 ((k : Int) + 1)) w2 from
          ⟨⟨k + 1, out ++ [y], by omega, rfl, by
            rw [List.nodup_append]
            exact ⟨HND.out, by simp, fun p hp q hq e => HNI.out (by rw [List.mem_singleton.1 hq] at e; rw [← e]; exact hp)⟩, fun z hz => by
            rcases List.mem_append.1 hz with q | q
            · exact HSUB.out z q
            · rw [List.mem_singleton.1 q]; exact List.mem_of_getElem? HY.out, fun j z hj hz => by
            by_cases e : j = k
            · subst e
              rw [HY.out] at hz
              injection hz with hz
              rw [← hz]; simp
            · simp [HIN.out j z (by omega) hz], by
            unfold OwnI
            rw [List.length_append, List.map_append]
            exact hown'⟩, HB1.out.grown hgrow hs1 (fun q hq => (HO1.out.lt q hq).1)⟩)
        clear hown' hgrow hW1
        go_wp2_with fail
        go_roundg (roots.length - (k + 1))
        case measure => have := HD.out; omega
        case rel => exact HE.out
    · have HRI := Lib.hid (show RoI S roots 0 out from ⟨hnd, fun x hx => by
        obtain ⟨j, hj, rfl⟩ := List.getElem_of_mem hx
        exact hin j _ (by omega) (List.getElem?_eq_getElem hj), fun x hx => .root (hsub x hx), fun j x hj => by omega⟩)
      clear hd hnd hsub hin hown hb
      go_wp2_with fail
      obtain ⟨wq, hwq⟩ : ∃ q, q = wr := ⟨_, rfl⟩
      subst hwq
      go_loopg [5, 7] S.live (fun d v i wz => R2 W0 S roots d v i wz)
      case atStart => exact ⟨⟨0, out, by omega, rfl, by omega, HRI.out, HOW.out⟩, HB.out⟩
      case round =>
        obtain ⟨⟨i, ou, hd, rfl, hio, hR, hown⟩, hb⟩ := hrel
        obtain ⟨oa, oc, rfl⟩ := hown.slice
        have HDI := Lib.hid hd
        have HRI2 := Lib.hid hR
        have HOI := Lib.hid hown
        have HBI := Lib.hid hb
        have hole := hR.le HG.out HH.out
        by_cases hi : i < ou.length
        case neg =>
          obtain rfl : i = ou.length := by omega
          clear hd hR hown hb
          go_wp2_with fail
          go_ret
          exact ⟨_, ou, rfl, own_base HOI.out HB0.out.size, HRI2.out.nodup, HRI2.out.end_, HB0.out.trans (HBI.out.mono HB0.out.size)⟩
        obtain ⟨x, hx⟩ : ∃ x, ou[i]? = some x := ⟨_, List.getElem?_eq_getElem hi⟩
        have hheld := (hR.reach _ (List.mem_of_getElem? hx)).held HG.out HH.out
        obtain ⟨m, rfl⟩ : ∃ m : Nat, x = m := ⟨x.toNat, by have := (Hs.held_iff.1 hheld).1; omega⟩
        obtain ⟨gb, rfl, hgb1, hgb2, _, hgc⟩ := own_at hown (by omega)
        have hcx := hgc i (by omega)
        rw [List.getElem?_map, hx] at hcx
        have hcx : wr.cell? ⟨gb, i, none⟩ = some (.int .i64 m) := hcx
        have hhas : hasAt l m = true := by rw [HS.out.at_]; exact hheld
        obtain ⟨fi, r, e1, e2, e3⟩ := findV_has hhas
        have hnd : S.nd m = r.x := by have := HS.out.nd r (List.mem_of_getElem? e2); rw [e3] at this; exact this
        obtain ⟨x0, x1, x2⟩ : wr.cell? ⟨w.heap.size, 0, none⟩ = some (.int .i64 cap) ∧ wr.cell? ⟨w.heap.size, 1, none⟩ = some (.slice a l.length c) ∧ wr.cell? ⟨w.heap.size, 2, none⟩ = some (.int .i64 allocs) := by
          have := HX0.out.below hb HX0.out.lt
          exact ⟨this.cell 0, this.cell 1, this.cell 2⟩
        have hbd := hb.drew
        have HGT := Lib.hid (show ∀ wz : World, Below wr.heap.size wr wz → Calls Try.prog 29 #[.agg #[.int .i64 cap, .slice a l.length c, .int .i64 allocs], .int .i64 m] wz (RGetP B (S.nd m) wz) from fun wz hz => by
          have hz' := hb.trans (hz.mono hb.size)
          have := rget_ok (cap := cap) (allocs := allocs) (p := (m : Int)) wz (HO0.out.below HBL.out hz') (Nat.le_trans HBL.out hz'.size) (by omega) e2 e1
          rw [← hnd] at this
          exact this)
        have HBD := Lib.hid hbd
        have HXI := Lib.hid hx
        have hWr : w.heap.size < wr.heap.size := Nat.lt_of_lt_of_le HX0.out.lt hb.size
        have hgr : gb < wr.heap.size := hgb2
        have HG1 := Lib.hid hgb1
        have ne1 : ¬ w.heap.size = wr.heap.size := by omega
        have ne2 : ¬ gb = wr.heap.size := by omega
        have hWB : B ≤ wr.heap.size := Nat.le_trans HBL.out hb.size
        clear hd hR hown hb hheld hgc hhas e1 e2 e3 hnd hbd hx hgb1 hgb2
        go_wp2_with fail
        go_cut [8] (fun v8 wx => CutA B (S.nd m) wr v8 wx)
        case first =>
          go_region_held3 (fun w' => (w'.cell? ⟨w.heap.size, 0, none⟩ = some (.int .i64 cap) ∧ w'.cell? ⟨w.heap.size, 1, none⟩ = some (.slice a l.length c) ∧ w'.cell? ⟨w.heap.size, 2, none⟩ = some (.int .i64 allocs)) ∧ w'.cell? ⟨gb, i, none⟩ = some (.int .i64 m))
            (first
              | exact ⟨⟨x0, x1, x2⟩, hcx⟩
              | exact ⟨⟨m0, m1, m2⟩, m3⟩
              | exact ⟨⟨q0, q1, q2⟩, q3⟩
              | go_keep)
            (first
              | (go_at_call 29; refine (HGT.out _ ((Below.refl wr.heap.size wr).drew)).mono ?_; rintro e w5 ⟨na, nc, rfl, hrd5, hnl, hb5⟩; replace hb5 : Below wr.heap.size wr w5 := (Below.refl wr.heap.size wr).drew.trans hb5; have m0 := (hb5.cell (p := ⟨w.heap.size, 0, none⟩) hWr).trans x0; have m1 := (hb5.cell (p := ⟨w.heap.size, 1, none⟩) hWr).trans x1; have m2 := (hb5.cell (p := ⟨w.heap.size, 2, none⟩) hWr).trans x2; have m3 := (hb5.cell (p := ⟨gb, i, none⟩) hgr).trans hcx; have ne3 : ¬ w.heap.size = w5.heap.size := Nat.ne_of_lt (Nat.lt_of_lt_of_le hWr hb5.size); have ne4 : ¬ gb = w5.heap.size := Nat.ne_of_lt (Nat.lt_of_lt_of_le hgr hb5.size); have HFI := Lib.hid (CutA.here (x := S.nd m) (wr := wr) (nc := nc) hrd5 hnl hb5 hWB); clear hb5 hrd5)
              | (go_at_call 29; refine (HGT.out _ (((Below.refl wr.heap.size wr).alloc (Nat.le_refl _) _).drew)).mono ?_; rintro e w5 ⟨na, nc, rfl, hrd5, hnl, hb5⟩; have hx5 := (Box.new wr #[.int .i64 0, .int .i64 0, .slice none 0 0] TN).drew.below hb5 (by simp); replace hb5 : Below wr.heap.size wr w5 := (((Below.refl wr.heap.size wr).alloc (Nat.le_refl _) _).drew).trans (hb5.mono (by simp)); have m0 := (hb5.cell (p := ⟨w.heap.size, 0, none⟩) hWr).trans x0; have m1 := (hb5.cell (p := ⟨w.heap.size, 1, none⟩) hWr).trans x1; have m2 := (hb5.cell (p := ⟨w.heap.size, 2, none⟩) hWr).trans x2; have m3 := (hb5.cell (p := ⟨gb, i, none⟩) hgr).trans hcx; have hq : ∀ p : Addr, p.block ≠ wr.heap.size → (((w5.setCell ⟨wr.heap.size, 0, none⟩ (.int .i64 (S.nd m).tag)).setCell ⟨wr.heap.size, 1, none⟩ (.int .i64 (S.nd m).n)).setCell ⟨wr.heap.size, 2, none⟩ (.slice na (S.nd m).l.length nc)).cell? p = w5.cell? p := fun p h => ((((Wrote.refl w5 _).set 0 _).set 1 _).set 2 _).cell p h; have q0 := (hq ⟨w.heap.size, 0, none⟩ ne1).trans m0; have q1 := (hq ⟨w.heap.size, 1, none⟩ ne1).trans m1; have q2 := (hq ⟨w.heap.size, 2, none⟩ ne1).trans m2; have q3 := (hq ⟨gb, i, none⟩ ne2).trans m3; clear hq; have HFI := Lib.hid (CutA.there (x := S.nd m) (wr := wr) (nc := nc) hrd5 hnl hb5 hWB hx5); have z0 := hx5.cell 0; have z1 := hx5.cell 1; have z2 := hx5.cell 2; have f0 := hx5.free 0; have f1 := hx5.free 1; have f2 := hx5.free 2; clear hb5 hrd5 hx5))
          all_goals
            go_wp2_with fail
            go_meet
            exact HFI.out
        case rest =>
          obtain ⟨nb, na, nc, rfl, hx6, hrd5, hnl, hb56⟩ := hcut
          have HRL := Lib.hid hrd5
          have HN := Lib.hid (show R3 W0 S roots m i nb (.slice na (S.nd m).l.length nc) (S.nd m).l.length (.slice (some ⟨gb, 0, none⟩) ou.length oc) (.int .i64 0) wc from
            ⟨⟨0, ou, by omega, rfl, HRI2.out, HXI.out, fun j y hj => by omega, HOI.out.here hb56⟩, hx6, HBI.out.trans (hb56.mono HBI.out.size)⟩)
          have HB6 := Lib.hid (HBI.out.trans (hb56.mono HBI.out.size))
          clear hrd5 hx6 hb56 hcx x0 x1 x2 ne1 ne2
          go_wp2_with fail
          obtain ⟨wp, hwp⟩ : ∃ q, q = wc := ⟨_, rfl⟩
          subst hwp
          go_loopg [5, 10] (S.nd m).l.length (fun d v kv wz => R3 W0 S roots m i nb (.slice na (S.nd m).l.length nc) d v kv wz)
          case atStart => exact HN.out
          case round =>
            obtain ⟨⟨j, o3, hd, rfl, hR, hxm, hdn, hown⟩, hbx, hb⟩ := hrel
            obtain ⟨va, vc, rfl⟩ := hown.slice
            have HDJ := Lib.hid hd
            have HRJ := Lib.hid hR
            have HXM := Lib.hid hxm
            have HDN := Lib.hid hdn
            have HOJ := Lib.hid hown
            have HBX := Lib.hid hbx
            have HBJ := Lib.hid hb
            have hole3 := hR.le HG.out HH.out
            have hjl : j ≤ (S.nd m).l.length := by omega
            have s2 : wr.cell? ⟨nb, 2, none⟩ = some (.slice na (S.nd m).l.length nc) := hbx.cell 2
            have hi3 : i < o3.length := (List.getElem?_eq_some_iff.1 hxm).1
            by_cases hj : j < (S.nd m).l.length
            case neg =>
              have hdall : ∀ y ∈ (S.nd m).l, y ∈ o3 := fun y hy => by
                obtain ⟨q, hq, rfl⟩ := List.getElem_of_mem hy
                exact hdn q _ (by omega) (List.getElem?_eq_getElem hq)
              have HE := Lib.hid (show R2 W0 S roots (S.live - (i + 1)) (.slice va o3.length vc) (.int .i64 ((i : Int) + 1)) wr from ⟨⟨i + 1, o3, by omega, rfl, by omega, hR.next hxm hdall, hown⟩, hb⟩)
              clear hd hR hxm hdn hown hbx hb hdall
              go_wp2_with fail
              go_roundg (S.live - (i + 1))
              case measure => have := HDI.out; omega
              case rel => exact HE.out
            obtain ⟨y, hy⟩ : ∃ y, (S.nd m).l[j]? = some y := ⟨_, List.getElem?_eq_getElem hj⟩
            obtain ⟨yd, rfl, hyd, c0⟩ := HRL.out j y hy
            have cy : wr.cell? (yd.add j) = some (.int .i64 y) := by
              have h1 : (yd.add j).block < W0.heap.size := by rw [Tm.add_block]; exact Nat.lt_of_lt_of_le hyd HBL.out
              have h2 := hb.cell h1
              have h3 := HB6.out.cell h1
              exact (h2.trans h3.symm).trans c0
            have HHA := Lib.hid (has_any (c := vc) y wr (own_rd hown) (len_own hown))
            have HY := Lib.hid hy
            have HMY := Lib.hid (List.mem_of_getElem? hy)
            clear hd hR hxm hdn hown hb hy c0 hyd hbx
            by_cases hm : y ∈ o3
            · rw [decide_eq_true hm] at HHA
              have HE := Lib.hid (show R3 W0 S roots m i nb (.slice (some yd) (S.nd m).l.length nc) ((S.nd m).l.length - (j + 1)) (.slice va o3.length vc) (.int .i64 ((j : Int) + 1)) wr from
                ⟨⟨j + 1, o3, by omega, rfl, HRJ.out, HXM.out, fun q z hq hz => by
                  by_cases e : q = j
                  · subst e
                    rw [HY.out] at hz
                    injection hz with hz
                    rw [← hz]; exact hm
                  · exact HDN.out q z (by omega) hz, HOJ.out⟩, HBX.out, HBJ.out⟩)
              clear hm
              go_wp2_with fail
              with_reducible refine HHA.out.mono ?_
              rintro e w' ⟨rfl, rfl⟩
              go_wp2_with fail
              go_roundg ((S.nd m).l.length - (j + 1))
              case measure => have := HDJ.out; omega
              case rel => exact HE.out
            · rw [decide_eq_false hm] at HHA
              obtain ⟨W1, hW1⟩ : ∃ W1, wr.alloc (.cells #[.int .i64 y] TI) = W1 := ⟨_, rfl⟩
              have hb1 : Below wr.heap.size wr W1 := by rw [← hW1]; exact (Below.refl wr.heap.size wr).alloc (Nat.le_refl _) _
              have HO1 := Lib.hid (own_here HOJ.out hb1)
              have HNW := Lib.hid (show ∀ j u, [Value.int .i64 y][j]? = some u → W1.cell? ((⟨wr.heap.size, 0, none⟩ : Addr).add j) = some u from by
                have := news_new wr #[.int .i64 y] TI
                rw [hW1] at this
                exact this)
              have HB1 := Lib.hid (HBJ.out.trans (hb1.mono HBJ.out.size))
              have HBX1 := Lib.hid (HBX.out.below hb1 HBX.out.lt)
              have hs1 : W0.heap.size ≤ W1.heap.size := HB1.out.size
              have HNI := Lib.hid hm
              clear hm hb1
              go_wp2_with fail
              with_reducible refine HHA.out.mono ?_
              rintro e w' ⟨rfl, rfl⟩
              go_wp2_with (at_builtin; refine wpList_append_own _ rfl _ _ 35 rfl W0.heap.size 3 i0 _ 1 8 Try.underlying35 hinf hz0 hz1 hz2' rfl (by decide) (.slice va o3.length vc) o3.length (o3.map fun x => .int .i64 x) rfl HO1.out ⟨wr.heap.size, 0, none⟩ 1 1 [.int .i64 y] rfl rfl HNW.out (by intro u hu; simp only [List.mem_cons, List.not_mem_nil, or_false] at hu; subst hu; rfl) (by unfold maxLen; omega) (by omega) hs1 ?_)
              intro v' w2 hown' hgrow _
              have HE := Lib.hid (show R3 W0 S roots m i nb (.slice (some yd) (S.nd m).l.length nc) ((S.nd m).l.length - (j + 1)) v' (.int .i64 ((j : Int) + 1)) w2 from
                ⟨⟨j + 1, o3 ++ [y], by omega, rfl, HRJ.out.push HXM.out HMY.out HNI.out, by rw [List.getElem?_append_left hi3]; exact HXM.out, fun q z hq hz => by
                  by_cases e : q = j
                  · subst e
                    rw [HY.out] at hz
                    injection hz with hz
                    rw [← hz]; simp
                  · simp [HDN.out q z (by omega) hz], by
                  unfold OwnI
                  rw [List.length_append, List.map_append]
                  exact hown'⟩, HBX1.out.grown hgrow (own_ne HO1.out HBX1.out (by decide)), HB1.out.grown hgrow hs1 (fun q hq => (HO1.out.lt q hq).1)⟩)
              clear hown' hgrow hW1
              go_wp2_with fail
              go_roundg ((S.nd m).l.length - (j + 1))
              case measure => have := HDJ.out; omega
              case rel => exact HE.out
end Go.Proofs.Ytbkklnihgejeoaa.Hp
