/-
  THE LAW HeapTwice: collected twice, nothing more is found.
-/
import Derived.Test.YtbkklnihgejeoaaHpQ
namespace Go.Proofs.Ytbkklnihgejeoaa.HeapTwice
open Go.RowKit Mm Tm Hp Ha
set_option linter.unusedVariables false
set_option linter.unusedSimpArgs false
theorem right_any (c : Int) (w : World) : Calls Try.prog 10 #[.int .i64 c] w (IsV (.bool (decide (1 ≤ c) && decide (c ≤ 16777216))) w) := by
  go_enter Try.func10, Try.ntmps10
  by_cases h1 : 1 ≤ c
  · by_cases h2 : c ≤ 16777216
    · rw [decide_eq_true h1, decide_eq_true h2]
      go_wp2_with fail
      go_ret
      exact ⟨rfl, rfl⟩
    · rw [decide_eq_true h1, decide_eq_false h2]
      have q : decide (c ≤ 16777216) = false := decide_eq_false h2
      go_wp2_with fail
      go_ret
      exact ⟨rfl, rfl⟩
  · rw [decide_eq_false h1]
    have q : decide (1 ≤ c) = false := decide_eq_false h1
    go_wp2_with fail
    go_ret
    exact ⟨rfl, rfl⟩
/-- what is collected is collected -/
theorem again {S S1 S2 : Hs} {roots : List Int} (g : Hp.Good S) (hr : S.holds roots = true) (h1 : Coll S roots S1) (h2 : Coll S1 roots S2) : S2.live = S1.live := by
  have hnd : S1.nd = S.nd := h1.nd
  have hR : ∀ {x : Int}, Rch S1 roots x ↔ Rch S roots x := by
    intro x
    constructor
    · intro h
      induction h with
      | root h => exact .root h
      | step _ hx ih => rw [hnd] at hx; exact .step ih hx
    · intro h
      induction h with
      | root h => exact .root h
      | step _ hx ih => rw [← hnd] at hx; exact .step ih hx
  have his : ∀ a, S2.is a = S1.is a := fun a => by
    by_cases q : Rch S roots (a : Int)
    · rw [h2.yes a (hR.2 q), h1.yes a q]
    · rw [h2.no a (fun e => q (hR.1 e)), h1.no a q]
  have hc1 := cnt_zero (f := S1.is) (max S1.used S2.used) (m := S1.used) (Nat.le_max_left _ _) h1.good.above
  have hc2 := cnt_zero (f := S2.is) (max S1.used S2.used) (m := S2.used) (Nat.le_max_right _ _) h2.good.above
  rw [h2.good.live, h1.good.live, ← hc1, ← hc2]
  exact cnt_congr _ fun a _ => by rw [his a]
theorem holds_again {S S1 : Hs} {roots : List Int} (g : Hp.Good S) (hr : S.holds roots = true) (h1 : Coll S roots S1) : S1.holds roots = true := List.all_eq_true.2 fun x hx => by
  have hS := List.all_eq_true.1 hr x hx
  obtain ⟨q0, q1, q2⟩ := Hs.held_iff.1 hS
  have hy := h1.yes x.toNat (.root (by rw [show ((x.toNat : Nat) : Int) = x by omega]; exact hx))
  refine Hs.held_iff.2 ⟨q0, ?_, by omega⟩
  apply Classical.byContradiction
  intro q
  have := h1.good.above x.toNat (by omega)
  omega
set_option maxRecDepth 100000 in
set_option maxHeartbeats 16000000 in
theorem law (c : Int) (hc1 : -9223372036854775808 ≤ c) (hc2 : c ≤ 9223372036854775807) (a : Option Addr) (n lc : Nat) (hn : n ≤ 9223372036854775807) (l : List HOp) (b : Option Addr) (m rc : Nat) (hm : m * 8 ≤ 140737488351232) (roots : List Int) (w : World) (hr : l.length = n ∧ RdO (· < w.heap.size) w a l) (hq : roots.length = m ∧ RdI (· < w.heap.size) w b roots) :
    Calls Try.prog 7 #[.int .i64 c, .slice a n lc, .slice b m rc] w fun e w' => e = .returned (.bool true) ∧ Below w.heap.size w w' := by
  obtain ⟨rfl, hr⟩ := hr
  obtain ⟨rfl, hq⟩ := hq
  have HKN := Lib.hid (fun w => known_any w)
  have HFW := Lib.hid (few_any (c := lc) w hr hn)
  have HR := Lib.hid hr
  have HQ := Lib.hid hq
  have HRT := Lib.hid (right_any c w)
  clear hr hq
  go_enter Try.func7, Try.ntmps7
  by_cases hf : fewB l = true
  case neg =>
    have hf : fewB l = false := by simpa using hf
    rw [hf] at HFW
    clear hf
    go_wp2_with fail
    with_reducible refine HFW.out.mono ?_
    rintro e w' ⟨rfl, rfl⟩
    go_wp2_with fail
    refine (HKN.out _).mono ?_
    rintro e w' ⟨rfl, hb⟩
    go_wp2_with fail
    go_ret
    exact ⟨rfl, hb⟩
  rw [hf] at HFW
  have HF := Lib.hid hf
  clear hf
  by_cases h1 : 1 ≤ c ∧ c ≤ 16777216
  case neg =>
    have hz : (decide (1 ≤ c) && decide (c ≤ 16777216)) = false := by
      apply Bool.eq_false_iff.2
      intro q
      simp only [Bool.and_eq_true, decide_eq_true_eq] at q
      exact h1 q
    rw [hz] at HRT
    clear hz h1
    go_wp2_with fail
    with_reducible refine HFW.out.mono ?_
    rintro e w' ⟨rfl, rfl⟩
    go_wp2_with fail
    with_reducible refine HRT.out.mono ?_
    rintro e w' ⟨rfl, rfl⟩
    go_wp2_with fail
    refine (HKN.out _).mono ?_
    rintro e w' ⟨rfl, hb⟩
    go_wp2_with fail
    go_ret
    exact ⟨rfl, hb⟩
  rw [decide_eq_true h1.1, decide_eq_true h1.2] at HRT
  obtain ⟨c, rfl⟩ : ∃ n : Nat, c = n := ⟨c.toNat, by omega⟩
  have h3 : 1 ≤ c := by omega
  have h4 : c ≤ 16777216 := by omega
  have HPD := Lib.hid (played_any (lc := lc) w HR.out HF.out h3 h4)
  clear h1 hc1 hc2
  rw [Bool.and_true] at HRT
  go_wp2_with fail
  with_reducible refine HFW.out.mono ?_
  rintro e w' ⟨rfl, rfl⟩
  go_wp2_with fail
  with_reducible refine HRT.out.mono ?_
  rintro e w' ⟨rfl, rfl⟩
  go_wp2_with fail
  with_reducible refine HPD.out.mono ?_
  rintro e w1 ⟨S, rfl, hp1, hpl, hb1⟩
  have hq1 := rd_za (B := w.heap.size) ((HQ.out.below hb1 fun b q => q).mono fun b q => q) hb1.size
  by_cases hh : S.holds roots = true
  · have HC1 := Lib.hid (collect_ok (c := rc) w1 hp1 hpl.good hq1 hh (by omega) (by have := hpl.rest; omega))
    have HPL := Lib.hid hpl
    have HB1 := Lib.hid hb1
    have HHH := Lib.hid hh
    have HK1 := Lib.hid (KG.of_below hb1 (Nat.le_refl _) : KH w.heap.size w w1)
    clear hp1 hpl hb1 hq1 hh
    go_wp2_with fail
    with_reducible refine HC1.out.mono ?_
    rintro e w2 ⟨S1, hcl, rfl, hp2, hk2⟩
    have hk12 := HK1.out.trans hk2
    have hb2 : Below w.heap.size w w2 := hk12.below (Nat.le_refl _)
    have hq2 := rd_za (B := w.heap.size) ((HQ.out.below hb2 fun b q => q).mono fun b q => q) hb2.size
    have hpl1 := HPL.out.coll HHH.out hcl
    have HC2 := Lib.hid (collect_ok (c := rc) w2 hp2 hpl1.good hq2 (holds_again HPL.out.good HHH.out hcl) (by omega) (by have := hpl1.rest; omega))
    have HCL := Lib.hid hcl
    have HK12 := Lib.hid hk12
    clear hcl hp2 hk2 hk12 hb2 hq2 hpl1
    go_wp2_with fail
    with_reducible refine HC2.out.mono ?_
    rintro e w3 ⟨S2, hcl2, rfl, hp3, hk3⟩
    have hz : (S1.live : Int) - S2.live = 0 := by rw [again HPL.out.good HHH.out HCL.out hcl2]; omega
    rw [hz]
    have HB3 := Lib.hid ((HK12.out.trans hk3).below (Nat.le_refl _))
    clear hcl2 hp3 hk3 hz
    go_wp2_with fail
    refine (HKN.out _).mono ?_
    rintro e w' ⟨rfl, hb⟩
    have HBE := Lib.hid (HB3.out.trans (hb.mono HB3.out.size))
    clear hb
    go_wp2_with fail
    go_ret
    exact ⟨rfl, HBE.out⟩
  · have HC1 := Lib.hid (collect_no (c := rc) w1 hp1 hq1 (by omega) (by simpa using hh))
    have HB1 := Lib.hid hb1
    clear hp1 hpl hb1 hq1 hh
    go_wp2_with fail
    with_reducible refine HC1.out.mono ?_
    rintro e w2 ⟨rfl, rfl⟩
    go_wp2_with fail
    with_reducible refine HC1.out.mono ?_
    rintro e w2 ⟨rfl, rfl⟩
    go_wp2_with fail
    refine (HKN.out _).mono ?_
    rintro e w' ⟨rfl, hb⟩
    have HBE := Lib.hid (HB1.out.trans (hb.mono HB1.out.size))
    clear hb
    go_wp2_with fail
    go_ret
    exact ⟨rfl, HBE.out⟩
end Go.Proofs.Ytbkklnihgejeoaa.HeapTwice
