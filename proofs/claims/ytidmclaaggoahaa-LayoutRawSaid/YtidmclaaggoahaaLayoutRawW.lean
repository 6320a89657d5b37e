/-
  The walk of 'changelinglaw04.LayoutRaw'.
-/
import Derived.Test.YtidmclaaggoahaaRlH
namespace Go.Proofs.Ytidmclaaggoahaa.Ly
open Go.RowKit Pl Ar Mm Lx
set_option linter.unusedVariables false
set_option linter.unusedSimpArgs false
theorem tk_real2 (L : List TokM) (k : Nat) : tk (L.map realT) k = realT (tk L k) := by
  unfold tk
  rw [List.getD_eq_getElem?_getD, List.getD_eq_getElem?_getD, List.getElem?_map]
  cases L[k]? <;> rfl
set_option maxRecDepth 100000 in
set_option maxHeartbeats 4000000 in
theorem raw_law (b : Option Addr) (n c : Nat) (hn : n ≤ 9223372036854775807) (L : List TokM) (w : World) (hr : RowM w w.heap.size b n L) :
    Calls Try.prog 4 #[.slice b n c] w fun e w' => e = .returned (.bool true) ∧ Below w.heap.size w w' := by
  have HR := Lib.hid hr.2
  have HL := Lib.hid hr.1
  clear hr
  go_enter Try.func4, Try.ntmps4
  by_cases hbig : 3000 < n
  · have d1 : (3000 : Int) < n := by omega
    go_wp2_with fail
    refine (known_any _).mono ?_
    rintro e w1 ⟨rfl, hb1⟩
    go_wp2
    go_returns
    exact ⟨rfl, hb1⟩
  · have d1 : ¬ (3000 : Int) < n := by omega
    have hlen : L.length ≤ 3000 := by rw [HL.out]; omega
    have hlen2 := layAll_len L
    go_wp2_with fail
    refine (Lay_is (by omega) rfl _ (HR.out c)).mono ?_
    rintro e w1 ⟨v1, rfl, o1, hb1⟩
    have S1 := Lib.hid (shows_own o1)
    have B1 := Lib.hid hb1
    have s1 := hb1.size
    have R1 := Lib.hid (((HR.out c).below hb1 (Nat.le_refl _)).mono s1)
    clear o1 hb1
    go_wp2_with fail
    refine (rLay_any (by omega) _ R1.out).mono ?_
    rintro e w2 ⟨v2, rfl, o2, hb2⟩
    have S2 := Lib.hid (shows_own o2)
    have s2 := hb2.size
    have S1b := Lib.hid ((S1.out.below hb2 (Nat.le_refl _)).mono s2)
    have R2 := Lib.hid ((R1.out.below hb2 (Nat.le_refl _)).mono s2)
    have B2 := Lib.hid (B1.out.trans (hb2.mono s1))
    clear o2 hb2
    go_wp2_with fail
    refine (real_any _ R2.out (by omega)).mono ?_
    rintro e w3 ⟨v3, rfl, o3, hb3⟩
    have s3 := hb3.size
    have S3 := Lib.hid (shows_own o3)
    have S1c := Lib.hid ((S1b.out.below hb3 (Nat.le_refl _)).mono s3)
    have S2c := Lib.hid ((S2.out.below hb3 (Nat.le_refl _)).mono s3)
    have R3 := Lib.hid ((R2.out.below hb3 (Nat.le_refl _)).mono s3)
    have B3 := Lib.hid (B2.out.trans (hb3.mono (by omega)))
    clear o3 hb3
    go_wp2_with fail
    refine (same_yes (by omega) _ S1c.out S2c.out).mono ?_
    rintro e w4 ⟨rfl, hb4⟩
    have s4 := hb4.size
    have S3b := S3.out.below hb4 (Nat.le_refl _)
    have R4 := R3.out.below hb4 (Nat.le_refl _)
    have B4 := Lib.hid (B3.out.trans (hb4.mono (by omega)))
    obtain ⟨b3, c3, rfl, hc3⟩ := S3b
    obtain ⟨b0, c0, hv0, hc0⟩ := R4
    rw [HL.out] at hv0
    injection hv0 with hv1 _ hv2
    subst hv1 hv2
    have hl3 : (L.map realT).length = n := by rw [List.length_map, HL.out]
    rw [hl3] at hc3 ⊢
    rw [HL.out] at hc0
    have HC3 := Lib.hid hc3
    have HC0 := Lib.hid hc0
    clear hb4 hc3 hc0 hl3
    go_wp2_with fail
    go_loopg [6] n (fun d v6 wr => ∃ k : Nat, d + k = n ∧ v6 = .int .i64 k ∧ Below w4.heap.size w4 wr)
    case atStart => exact ⟨0, by omega, rfl, Below.refl _ _⟩
    case round =>
      obtain ⟨k, hk, rfl, hbw⟩ := hrel
      have HK := Lib.hid hk
      have HBW := Lib.hid hbw
      have hle : k ≤ n := by omega
      clear hk hbw
      by_cases hlt : k < n
      · have hlt' : (k : Int) < n := by omega
        obtain ⟨ad, e, hg, y⟩ := HC0.out k hlt
        obtain ⟨ad3, e3, hg3, y3⟩ := HC3.out k hlt
        subst e e3
        rw [tk_real2] at y3
        obtain ⟨t, ht⟩ : ∃ t, tk L k = t := ⟨_, rfl⟩
        rw [ht] at y y3
        have sw := HBW.out.size
        obtain ⟨z0, z1, z2, z3, z4, z5⟩ := y.below HBW.out (by omega)
        have HY3 := Lib.hid (fun (w' : World) (hb : Below w4.heap.size w4 w') => y3.below hb (by omega))
        obtain ⟨tk0, tx, tn, tl, tc, tm⟩ := t
        simp only at z0 z1 z2 z3 z4 z5
        clear y y3 ht
        have hbw2 : Below w4.heap.size w4 (wr.alloc (.cells #[.int .i64 tk0, .string tx, .int .i64 tn, .int .i64 tl, .int .i64 tc, .bool false] TT)) := HBW.out.alloc sw _
        obtain ⟨q0, q1, q2, q3, q4, q5⟩ := HY3.out _ hbw2
        have HB2 := Lib.hid hbw2
        simp only [realT] at q0 q1 q2 q3 q4 q5
        clear hbw2
        go_wp2_with fail
        go_quiet (fail)
        go_wp2
        go_roundg (n - (k + 1))
        case measure => have := HK.out; omega
        case rel => exact ⟨k + 1, by have := HK.out; omega, by go_num, below_drewN HB2.out _⟩
      · obtain rfl : k = n := by omega
        have sw := HBW.out.size
        go_wp2_with fail
        refine (known_any _).mono ?_
        rintro e w5 ⟨rfl, hb5⟩
        have B5 := Lib.hid ((B4.out.trans (HBW.out.mono (by omega))).trans (hb5.mono (by omega)))
        clear hb5
        go_wp2
        go_returns
        exact ⟨rfl, B5.out⟩
end Go.Proofs.Ytidmclaaggoahaa.Ly
namespace Go.Proofs.Ytidmclaaggoahaa.LayoutRaw
open Go.RowKit Ly
theorem law (b : Option Addr) (n c : Nat) (hn : n ≤ 9223372036854775807) (L : List TokM) (w : World) (hr : RowM w w.heap.size b n L) :
    Calls Try.prog 4 #[.slice b n c] w fun e w' => e = .returned (.bool true) ∧ Below w.heap.size w w' := raw_law b n c hn L w hr
end Go.Proofs.Ytidmclaaggoahaa.LayoutRaw
