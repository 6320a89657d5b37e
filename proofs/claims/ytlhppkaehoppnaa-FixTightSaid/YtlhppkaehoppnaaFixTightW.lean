/-
  The walk of 'changelinglaw05.FixTight'.
-/
import Derived.Test.YtlhppkaehoppnaaFixShapeW
namespace Go.Proofs.Ytlhppkaehoppnaa.Fx
open Go.RowKit Fm Mm Nm
set_option linter.unusedVariables false

set_option maxRecDepth 100000 in
set_option maxHeartbeats 4000000 in
theorem tight_law (b : Option Addr) (n c : Nat) (hn : n ≤ 9223372036854775807) (r : Row) (w : World) (hr : Reads w w.heap.size b n r) :
    Calls Try.prog 6 #[.slice b n c] w fun e w' => e = .returned (.bool true) ∧ Below w.heap.size w w' := by
  have HR := Lib.hid hr
  clear hr
  go_enter Try.func6, Try.ntmps6
  go_wp2_with fail
  refine (resolve_cases b n c r hn _ HR.out).mono ?_
  rintro x w1 ⟨v, i, e, rfl, hc, hb⟩
  have HB := Lib.hid hb
  have z1 := hb.size
  clear hb
  rcases hc with ⟨he, rfl⟩ | ⟨rfl, rfl, hn4, hgood, F, T, hs, hft⟩
  · have d0 : ((e : Int) != 0) = true := by simp; omega
    clear he
    go_wp2_with fail
    refine (known_any _).mono ?_
    rintro x w2 ⟨rfl, hb2⟩
    have HB2 := Lib.hid (HB.out.trans (hb2.mono z1))
    clear hb2
    go_wp2
    go_returns
    exact ⟨rfl, HB2.out⟩
  · have HG := Lib.hid hgood
    have HFT := Lib.hid hft
    have HFH := Lib.hid (show ∀ k, k < n → F k ≤ k ∧ k < T k ∧ T k ≤ n from fun k hk => ⟨(HFT.out k hk).1.1, (HFT.out k hk).2.1, (HFT.out k hk).2.2.1⟩)
    clear hgood hft
    obtain ⟨s, c2, rfl, hc2⟩ := id hs
    have HC := Lib.hid hc2
    clear hs hc2
    by_cases h3 : 300 < n
    · have d0 : decide ((300 : Int) < n) = true := decide_eq_true (by omega)
      clear h3
      go_wp2_with fail
      refine (known_any _).mono ?_
      rintro x w2 ⟨rfl, hb2⟩
      have HB2 := Lib.hid (HB.out.trans (hb2.mono z1))
      clear hb2
      go_wp2
      go_returns
      exact ⟨rfl, HB2.out⟩
    · have d0 : decide ((300 : Int) < n) = false := decide_eq_false (by omega)
      go_wp2_with fail
      go_loopg [6] n (fun j i wr => ∃ k : Nat, j + k = n ∧ i = .int .i64 k ∧ Below w1.heap.size w1 wr)
      case atStart => exact ⟨0, by omega, rfl, Below.refl _ _⟩
      case round =>
        obtain ⟨i, hk, rfl, hbw⟩ := hrel
        have HK := Lib.hid hk
        have HBW := Lib.hid hbw
        have hle : i ≤ n := by omega
        have zr := hbw.size
        clear hk hbw
        by_cases hlt : i < n
        · have hlt' : (i : Int) < n := by omega
          obtain ⟨g, rfl, hg, p1, p2⟩ := HC.out i hlt
          rw [← HBW.out.cell (p := ⟨g, i * 2, none⟩) hg] at p1
          have hf := HFH.out i hlt
          obtain ⟨wo, rfl⟩ : ∃ wo : World, wo = wr := ⟨_, rfl⟩
          go_wp2_with fail
          go_loopg [7] (n - F i) (fun j kk wr => ∃ k : Nat, j + k = n ∧ kk = .int .i64 k ∧ F i ≤ k ∧ k ≤ T i ∧ Below w1.heap.size w1 wr)
          case atStart => exact ⟨F i, by omega, rfl, by omega, by omega, HBW.out⟩
          case round =>
            obtain ⟨k, hk, rfl, hFk, hkT, hbw⟩ := hrel
            have HKK := Lib.hid hk
            have HBX := Lib.hid hbw
            have hkn : k ≤ n := by omega
            clear hk hbw
            have p3 := (HBX.out.cell (p := ⟨g, i * 2 + 1, none⟩) hg).trans p2
            by_cases hkt : k < T i
            · have hkt' : (k : Int) < T i := by omega
              have hkn2 : k < n := by omega
              have hkn3 : (k : Int) < n := by omega
              have HBX2 := Lib.hid (HB.out.trans (HBX.out.mono z1))
              obtain ⟨ad, rfl, had, x0, x1, x2, x3, x4⟩ := (HR.out.below HBX2.out (Nat.le_refl _)) k hkn2
              obtain ⟨ad2, e2, had2, y0, y1, y2, y3, y4⟩ := (HR.out.below HBX2.out (Nat.le_refl _)) i hlt
              injection e2 with e2
              subst e2
              clear x0 x3 x4 y0 y3 y4
              by_cases hki : k = i
              · subst hki
                have e4 : decide (k ≤ k) = true := decide_eq_true (Nat.le_refl _)
                have e3 : ((k : Int) != (k : Int)) = false := by simp
                have hA : r.A k = 0 ∨ r.A k = 1 ∨ r.A k = 2 := by have := HG.out.1 k hlt; unfold Fine at this; omega
                obtain ⟨av, hav⟩ : ∃ av, r.A k = av := ⟨_, rfl⟩
                rw [hav] at hA x1 y1
                clear hav
                rcases hA with rfl | rfl | rfl
                all_goals
                  go_wp2_with fail
                  go_quiet (fail)
                  go_wp2_with fail
                  (try go_quiet (fail))
                  go_wp2
                  go_roundg (n - (k + 1))
                  case measure => have := HKK.out; omega
                  case rel => exact ⟨k + 1, by have := HKK.out; omega, by go_num, by omega, by omega, below_drewN HBX.out _⟩
              · have ht := Fm.tight HG.out HFT.out hlt hFk hkt hki
                have e3 : ((k : Int) != (i : Int)) = true := by simp; omega
                rcases ht with hL | ⟨hL, hA, hs⟩
                · have e1 : (r.L k == r.L i) = false := beq_eq_false_iff_ne.2 (by omega)
                  have e2 : decide (r.L k ≤ r.L i) = false := decide_eq_false (by omega)
                  clear hL
                  go_wp2_with fail
                  go_quiet (fail)
                  go_wp2_with fail
                  go_quiet (fail)
                  go_wp2
                  go_roundg (n - (k + 1))
                  case measure => have := HKK.out; omega
                  case rel => exact ⟨k + 1, by have := HKK.out; omega, by go_num, by omega, by omega, below_drewN HBX.out _⟩
                · have e1 : (r.L k == r.L i) = true := beq_iff_eq.2 hL
                  have e2 : decide (r.L k ≤ r.L i) = true := decide_eq_true (by omega)
                  have e4 : (r.A k == r.A i) = true := beq_iff_eq.2 hA
                  rcases hs with ⟨h1, h2⟩ | ⟨h1, h2⟩
                  · have e5 : (r.A i == 1) = true := beq_iff_eq.2 h1
                    have e6 : decide (k ≤ i) = true := decide_eq_true h2
                    clear hL hA h1 h2
                    go_wp2_with fail
                    go_quiet (fail)
                    go_wp2_with fail
                    go_quiet (fail)
                    go_wp2
                    go_roundg (n - (k + 1))
                    case measure => have := HKK.out; omega
                    case rel => exact ⟨k + 1, by have := HKK.out; omega, by go_num, by omega, by omega, below_drewN HBX.out _⟩
                  · have e5 : (r.A i == 1) = false := beq_eq_false_iff_ne.2 (by omega)
                    have e6 : (r.A i == 2) = true := beq_iff_eq.2 h1
                    have e7 : decide (i ≤ k) = true := decide_eq_true h2
                    clear hL hA h1 h2
                    go_wp2_with fail
                    go_quiet (fail)
                    go_wp2_with fail
                    go_quiet (fail)
                    go_wp2
                    go_roundg (n - (k + 1))
                    case measure => have := HKK.out; omega
                    case rel => exact ⟨k + 1, by have := HKK.out; omega, by go_num, by omega, by omega, below_drewN HBX.out _⟩
            · have hkt' : ¬ (k : Int) < T i := by omega
              go_wp2
              go_roundg (n - (i + 1))
              case measure => have := HK.out; omega
              case rel => exact ⟨i + 1, by have := HK.out; omega, by go_num, HBX.out⟩
        · have hke : i = n := by omega
          subst hke
          go_wp2_with fail
          refine (known_any _).mono ?_
          rintro x w3 ⟨rfl, hb3⟩
          have HB3 := Lib.hid ((HB.out.trans (HBW.out.mono z1)).trans (hb3.mono (by omega)))
          clear hb3
          go_wp2
          go_returns
          exact ⟨rfl, HB3.out⟩
end Go.Proofs.Ytlhppkaehoppnaa.Fx
namespace Go.Proofs.Ytlhppkaehoppnaa.FixTight
open Go.RowKit Fx
theorem law (b : Option Addr) (n c : Nat) (hn : n ≤ 9223372036854775807) (r : Row) (w : World) (hr : Reads w w.heap.size b n r) :
    Calls Try.prog 6 #[.slice b n c] w fun e w' => e = .returned (.bool true) ∧ Below w.heap.size w w' := tight_law b n c hn r w hr
end Go.Proofs.Ytlhppkaehoppnaa.FixTight
