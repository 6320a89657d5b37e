/-
  CONTRACTS of layer heap: the laws' fixed calls.
-/
import Derived.Test.YtbkklnihgejeoaaHpM
namespace Go.Proofs.Ytbkklnihgejeoaa.Hp
open Go.RowKit Mm Tm
set_option linter.unusedVariables false
set_option linter.unusedSimpArgs false
theorem NdA.zero (B : Nat) (w : World) (t n : Int) : NdA B w ⟨t, n, []⟩ none := ⟨fun i x hx => by simp at hx, by simp⟩
def k1 : Hs := (start 2).put 0 ⟨1, 0, []⟩
def k2 : Hs := k1.put 1 ⟨2, 0, []⟩
theorem vac0 {c : Nat} : IsVac (start c) 0 := ⟨Nat.le_refl _, fun a h => by omega, rfl⟩
theorem vac1 : IsVac k1 1 := by
  refine ⟨by decide, fun a h => ?_, rfl⟩
  obtain rfl : a = 0 := by omega
  show upd (start 2).is 0 1 0 ≠ 0
  rw [upd_same]
  decide
theorem good1 : Good k1 := put_good (start_good (by decide)) vac0 (by decide) (fun y h => by simp at h)
theorem good2 : Good k2 := put_good good1 vac1 (by decide) (fun y h => by simp at h)
theorem rch2 {x : Int} (h : Rch k2 [1] x) : x = 1 := by
  induction h with
  | root h => simpa using h
  | step _ hx ih =>
    subst ih
    exact absurd hx (by simp [k2, k1, Hs.put, upd])
theorem coll2 {S : Hs} (h : Coll k2 [1] S) : S.live = 1 ∧ IsVac S 0 ∧ S.cap = 2 ∧ S.allocs = 2 := by
  have h1 : S.is 1 = 1 := h.yes 1 (.root (by simp))
  have h0 : ∀ a : Nat, a ≠ 1 → S.is a = 0 := fun a ha => h.no a fun q => ha (by have := rch2 q; omega)
  have hu : 2 ≤ S.used := by
    apply Classical.byContradiction
    intro q
    have := h.good.above 1 (by omega)
    omega
  refine ⟨?_, ⟨Nat.zero_le _, fun a h => by omega, h0 0 (by omega)⟩, h.cap, h.allocs⟩
  rw [h.good.live, cnt_zero S.used hu fun a ha => h0 a (by omega)]
  unfold cnt cnt cnt
  rw [h1, h0 0 (by omega)]
  rfl
set_option maxRecDepth 100000 in
set_option maxHeartbeats 4000000 in
theorem known_any (w : World) : Calls Try.prog 12 #[] w (RetB (.bool true) w) := by
  have HN := Lib.hid (new_any (fun _ => False) 2 w (by decide) (by decide))
  go_enter Try.func12, Try.ntmps12
  go_wp2_with fail
  refine HN.out.mono ?_
  rintro e w1 ⟨rfl, hp1, hb1⟩
  have HA1 : Hid (Calls Try.prog 23 #[.pointer (some ⟨w.heap.size, 0, none⟩), .agg #[.int .i64 1, .int .i64 0, .slice none 0 0]] w1 (AllocP w.heap.size (fun _ => False) w1 w.heap.size (start 2) ⟨1, 0, []⟩)) :=
    Lib.hid (alloc_ok (x := ⟨1, 0, []⟩) (c := 0) w1 hp1 (start_good (by decide)) (NdA.zero _ _ _ _) rfl (by decide) (by decide) (fun b q => q.elim))
  have HK1 := Lib.hid (KG.of_below hb1 (Nat.le_refl _) : KH w.heap.size w w1)
  clear hp1 hb1
  go_wp2_with fail
  refine HA1.out.mono ?_
  rintro e w2 ⟨k, hv, rfl, hp2, hk2⟩
  obtain rfl := hv.unique vac0
  have HA2 : Hid (Calls Try.prog 23 #[.pointer (some ⟨w.heap.size, 0, none⟩), .agg #[.int .i64 2, .int .i64 0, .slice none 0 0]] w2 (AllocP w.heap.size (fun _ => False) w2 w.heap.size k1 ⟨2, 0, []⟩)) :=
    Lib.hid (alloc_ok (x := ⟨2, 0, []⟩) (c := 0) w2 hp2 good1 (NdA.zero _ _ _ _) rfl (by decide) (by decide) (fun b q => q.elim))
  have HK2 := Lib.hid (HK1.out.trans hk2)
  clear hp2 hk2 hv
  go_wp2_with fail
  refine HA2.out.mono ?_
  rintro e w3 ⟨k, hv, rfl, hp3, hk3⟩
  obtain rfl := hv.unique vac1
  have HA3 : Hid (Calls Try.prog 23 #[.pointer (some ⟨w.heap.size, 0, none⟩), .agg #[.int .i64 0, .int .i64 0, .slice none 0 0]] w3 (RetB (two 0 160) w3)) :=
    Lib.hid (alloc_full (x := ⟨0, 0, []⟩) (c := 0) w3 hp3 (NdA.zero _ _ _ _) rfl rfl)
  have HK3 := Lib.hid (HK2.out.trans hk3)
  have HP3 := Lib.hid (show HpI w.heap.size (fun _ => False) w3 w.heap.size k2 from hp3)
  clear hp3 hk3 hv
  go_wp2_with fail
  refine HA3.out.mono ?_
  rintro e w4 ⟨rfl, hb4⟩
  obtain ⟨W4, hW4⟩ : ∃ W4, w4.alloc (.cells #[.int .i64 1] TI) = W4 := ⟨_, rfl⟩
  have hbW4 : Below w4.heap.size w4 W4 := by rw [← hW4]; exact (Below.refl w4.heap.size w4).alloc (Nat.le_refl _) _
  have hp4 := (HP3.out.below hb4).below hbW4
  have hrd : RdI (ZA w.heap.size W4) W4 (some ⟨w4.heap.size, 0, none⟩) [1] := by
    rw [← hW4]
    intro i x hx
    match i, hx with
    | 0, hx =>
      injection hx with hx
      subst hx
      exact ⟨_, rfl, ⟨by simp, .inr ⟨_, Box.new w4 _ _⟩⟩, (Box.new w4 #[.int .i64 1] TI).cell 0⟩
  have HC : Hid (Calls Try.prog 20 #[.pointer (some ⟨w.heap.size, 0, none⟩), .slice (some ⟨w4.heap.size, 0, none⟩) 1 1] W4 (CollP w.heap.size (fun _ => False) W4 w.heap.size k2 [1])) :=
    Lib.hid (collect_ok (roots := [1]) (c := 1) W4 hp4 good2 hrd rfl (by decide) (by decide))
  have HK4 := Lib.hid ((HK3.out.trans (KG.of_below hb4 (Nat.le_refl _))).trans (KG.of_below hbW4 (Nat.le_refl _)) : KH w.heap.size w W4)
  clear hb4 hbW4 hp4 hrd
  go_wp2_with fail
  refine HC.out.mono ?_
  rintro e w5 ⟨S5, hcl, rfl, hp5, hk5⟩
  obtain ⟨hl5, hv5, hc5, ha5⟩ := coll2 hcl
  have hn5 : (k2.live : Int) - S5.live = 1 := by rw [hl5]; rfl
  rw [hn5]
  have HA5 : Hid (Calls Try.prog 23 #[.pointer (some ⟨w.heap.size, 0, none⟩), .agg #[.int .i64 3, .int .i64 0, .slice none 0 0]] w5 (AllocP w.heap.size (fun _ => False) w5 w.heap.size S5 ⟨3, 0, []⟩)) :=
    Lib.hid (alloc_ok (x := ⟨3, 0, []⟩) (c := 0) w5 hp5 hcl.good (NdA.zero _ _ _ _) rfl (by omega) (by omega) (fun b q => q.elim))
  have HK5 := Lib.hid (HK4.out.trans hk5)
  have HV5 := Lib.hid hv5
  have HN5 := Lib.hid (And.intro hl5 (And.intro hc5 ha5))
  clear hcl hp5 hk5 hv5 hl5 hc5 ha5 hn5 hW4
  go_wp2_with fail
  refine HA5.out.mono ?_
  rintro e w6 ⟨k, hv, rfl, hp6, hk6⟩
  obtain rfl := hv.unique HV5.out
  have HL := Lib.hid (by have := live_any w6 hp6; rw [show ((S5.put 0 ⟨3, 0, []⟩).live : Int) = 2 by show ((S5.live + 1 : Nat) : Int) = 2; rw [HN5.out.1]; rfl] at this; exact this)
  have HCP := Lib.hid (by have := cap_any w6 hp6; rw [show ((S5.put 0 ⟨3, 0, []⟩).cap : Int) = 2 by show ((S5.cap : Nat) : Int) = 2; rw [HN5.out.2.1]; rfl] at this; exact this)
  have HAL := Lib.hid (by have := allocs_any w6 hp6; rw [show ((S5.put 0 ⟨3, 0, []⟩).allocs : Int) = 3 by show ((S5.allocs + 1 : Nat) : Int) = 3; rw [HN5.out.2.2]; rfl] at this; exact this)
  have HK6 := Lib.hid (HK5.out.trans hk6)
  clear hv hp6 hk6
  go_wp2_with fail
  refine HL.out.mono ?_
  rintro e w' ⟨rfl, rfl⟩
  go_wp2_with fail
  refine HCP.out.mono ?_
  rintro e w' ⟨rfl, rfl⟩
  go_wp2_with fail
  refine HAL.out.mono ?_
  rintro e w' ⟨rfl, rfl⟩
  go_wp2_with fail
  go_ret
  exact ⟨rfl, HK6.out.below (Nat.le_refl _)⟩
end Go.Proofs.Ytbkklnihgejeoaa.Hp
