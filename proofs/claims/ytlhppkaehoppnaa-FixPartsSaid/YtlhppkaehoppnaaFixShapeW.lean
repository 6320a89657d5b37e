/-
  The walk of 'changelinglaw05.FixShape'.
-/
import Derived.Test.YtlhppkaehoppnaaFixE
namespace Go.Proofs.Ytlhppkaehoppnaa.Fx
open Go.RowKit Fm Mm Nm
set_option linter.unusedVariables false

/-- what Resolve comes to: an error and nothing, or the spans -/
theorem resolve_cases (v : Option Addr) (n cap : Nat) (r : Row) (hn : n ≤ 9223372036854775807) (w : World) (hr : Reads w w.heap.size v n r) :
    Calls Try.prog 9 #[.slice v n cap] w fun x w' => ∃ v' i e, x = .returned (.tuple #[v', .int .i64 (i : Nat), .int .i64 (e : Nat)]) ∧
      ((e ≠ 0 ∧ v' = .slice none 0 0) ∨ (e = 0 ∧ i = 0 ∧ n ≤ 1024 ∧ Fm.Good r.A r.L n ∧ ∃ F T, ShowsS w' v' n F T ∧ ∀ k, k < n → IsFrom r.A r.L k (F k) ∧ IsTo r.A r.L n k (T k))) ∧ Below w.heap.size w w' := by
  refine (resolve_any v n cap r hn w hr).mono ?_
  rintro x w' ⟨v', F, T, i, e, rfl, hd, ho, hz, hb⟩
  refine ⟨v', i, e, rfl, ?_, hb⟩
  by_cases he : e = 0
  · rcases hd.out with ⟨rfl, _⟩ | ⟨rfl, _⟩ | ⟨rfl, _⟩ | ⟨rfl, rfl, h1, h2, h3⟩
    · exact absurd he (by decide)
    · exact absurd he (by decide)
    · exact absurd he (by decide)
    · exact .inr ⟨rfl, rfl, h1, h2, F, T, shows_of (ho rfl), h3⟩
  · exact .inl ⟨he, hz he⟩
set_option maxHeartbeats 1000000 in
theorem part_yes {v : Value} {n a b : Nat} {F T : Nat → Nat} (hn : n ≤ 1024) (ha : a ≤ 2000) (hb : b ≤ 2000) (w : World) (hs : ShowsS w v n F T) (hF : ∀ k, k < n → F k ≤ 2000 ∧ T k ≤ 2000) (h : a = b ∨ ∃ r, r < n ∧ F r = a ∧ T r = b) :
    Calls Try.prog 17 #[v, .int .i64 (a : Nat), .int .i64 (b : Nat)] w fun e w' => e = .returned (.bool true) ∧ Below w.heap.size w w' := by
  by_cases hab : a = b
  · have d0 : ((a : Int) == (b : Int)) = true := beq_iff_eq.2 (by omega)
    clear h hab
    go_enter Try.func17, Try.ntmps17
    go_wp2
    go_returns
    exact ⟨rfl, by go_grown⟩
  · obtain ⟨r, hr, hr1, hr2⟩ := h.resolve_left hab
    obtain ⟨s, c, rfl, hc⟩ := hs
    have d0 : ((a : Int) == (b : Int)) = false := beq_eq_false_iff_ne.2 (by omega)
    have HC := Lib.hid hc
    have HR1 := Lib.hid hr1
    have HR2 := Lib.hid hr2
    clear h hab hc hr1 hr2 hF
    go_enter Try.func17, Try.ntmps17
    go_wp2_with fail
    go_loopg [7] n (fun j i wr => ∃ k : Nat, j + k = n ∧ k ≤ r ∧ i = .int .i64 k ∧ Below w.heap.size w wr)
    case atStart => exact ⟨0, by omega, by omega, rfl, Below.refl _ _⟩
    case round =>
      obtain ⟨k, hk, hkr, rfl, hbw⟩ := hrel
      have HK := Lib.hid hk
      have HBW := Lib.hid hbw
      have hlt : k < n := by omega
      clear hk hbw
      have hlt' : (k : Int) < n := by omega
      obtain ⟨g, rfl, hg, p1, p2⟩ := HC.out k hlt
      rw [← HBW.out.cell (p := ⟨g, k * 2, none⟩) hg] at p1
      rw [← HBW.out.cell (p := ⟨g, k * 2 + 1, none⟩) hg] at p2
      by_cases h1 : F k = a
      · have d1 : ((F k : Int) == (a : Int)) = true := beq_iff_eq.2 (by omega)
        by_cases h2 : T k = b
        · have d2 : ((T k : Int) == (b : Int)) = true := beq_iff_eq.2 (by omega)
          clear h1 h2
          go_wp2
          go_returns
          exact ⟨rfl, HBW.out⟩
        · have d2 : ((T k : Int) == (b : Int)) = false := beq_eq_false_iff_ne.2 (by omega)
          have hne : k ≠ r := by rintro rfl; exact h2 HR2.out
          clear h1 h2
          go_wp2
          go_roundg (n - (k + 1))
          case measure => have := HK.out; omega
          case rel => exact ⟨k + 1, by have := HK.out; omega, by omega, by go_num, HBW.out⟩
      · have d1 : ((F k : Int) == (a : Int)) = false := beq_eq_false_iff_ne.2 (by omega)
        have hne : k ≠ r := by rintro rfl; exact h1 HR1.out
        clear h1
        go_wp2
        go_roundg (n - (k + 1))
        case measure => have := HK.out; omega
        case rel => exact ⟨k + 1, by have := HK.out; omega, by omega, by go_num, HBW.out⟩
set_option maxRecDepth 100000 in
set_option maxHeartbeats 2000000 in
theorem shape_law (b : Option Addr) (n c : Nat) (hn : n ≤ 9223372036854775807) (r : Row) (w : World) (hr : Reads w w.heap.size b n r) :
    Calls Try.prog 5 #[.slice b n c] w fun e w' => e = .returned (.bool true) ∧ Below w.heap.size w w' := by
  have HR := Lib.hid hr
  clear hr
  go_enter Try.func5, Try.ntmps5
  go_wp2_with fail
  refine (resolve_cases b n c r hn _ HR.out).mono ?_
  rintro x w1 ⟨v, i, e, rfl, hc, hb⟩
  have HB := Lib.hid hb
  have z1 := hb.size
  clear hb
  rcases hc with ⟨he, rfl⟩ | ⟨rfl, rfl, hn4, hgood, F, T, hs, hft⟩
  · have d0 : ((e : Int) != 0) = true := by simp; omega
    have d1 : ((e : Int) == 0) = false := beq_eq_false_iff_ne.2 (by omega)
    clear he
    go_wp2_with fail
    refine (known_any _).mono ?_
    rintro x w2 ⟨rfl, hb2⟩
    have HB2 := Lib.hid (HB.out.trans (hb2.mono z1))
    clear hb2
    go_wp2
    go_returns
    exact ⟨rfl, HB2.out⟩
  · have HG := Lib.hid hgood
    have HFT := Lib.hid hft
    have HF : ∀ k, k < n → F k ≤ k ∧ k < T k ∧ T k ≤ n := fun k hk => ⟨(HFT.out k hk).1.1, (HFT.out k hk).2.1, (HFT.out k hk).2.2.1⟩
    have HFH := Lib.hid HF
    clear hgood hft HF
    obtain ⟨s, c2, rfl, hc2⟩ := id hs
    have HS := Lib.hid hs
    have HC := Lib.hid hc2
    clear hs hc2
    by_cases h3 : 300 < n
    · have d0 : decide ((300 : Int) < n) = true := decide_eq_true (by omega)
      clear h3
      go_wp2_with fail
      refine (known_any _).mono ?_
      rintro x w2 ⟨rfl, hb2⟩
      have HB2 := Lib.hid (HB.out.trans (hb2.mono z1))
      clear hb2
      go_wp2
      go_returns
      exact ⟨rfl, HB2.out⟩
    · have d0 : decide ((300 : Int) < n) = false := decide_eq_false (by omega)
      have hF2 : ∀ k, k < n → F k ≤ 2000 ∧ T k ≤ 2000 := fun k hk => by have := HFH.out k hk; omega
      have HF2 := Lib.hid hF2
      clear hF2
      go_wp2_with fail
      refine (part_yes (a := 0) (b := n) (by omega) (by omega) (by omega) _ HS.out HF2.out (by
        by_cases h0 : n = 0
        · exact .inl h0.symm
        · obtain ⟨q, h1, h2, h3⟩ := shape_all HG.out HFT.out (by omega)
          exact .inr ⟨q, h1, h2, h3⟩)).mono ?_
      rintro x w2 ⟨rfl, hb2⟩
      have HB2 := Lib.hid (HB.out.trans (hb2.mono z1))
      have HW2 := Lib.hid hb2
      clear hb2
      go_wp2_with fail
      go_loopg [6] n (fun j i wr => ∃ k : Nat, j + k = n ∧ i = .int .i64 k ∧ Below w1.heap.size w1 wr)
      case atStart => exact ⟨0, by omega, rfl, HW2.out⟩
      case round =>
        obtain ⟨k, hk, rfl, hbw⟩ := hrel
        have HK := Lib.hid hk
        have HBW := Lib.hid hbw
        have hle : k ≤ n := by omega
        have zr := hbw.size
        clear hk hbw
        by_cases hlt : k < n
        · have hlt' : (k : Int) < n := by omega
          obtain ⟨g, rfl, hg, p1, p2⟩ := HC.out k hlt
          rw [← HBW.out.cell (p := ⟨g, k * 2, none⟩) hg] at p1
          rw [← HBW.out.cell (p := ⟨g, k * 2 + 1, none⟩) hg] at p2
          have hf := HFH.out k hlt
          have d1 : decide ((F k : Int) < 0) = false := decide_eq_false (by omega)
          have d2 : decide (k < F k) = false := decide_eq_false (by omega)
          have d3 : decide (T k ≤ k) = false := decide_eq_false (by omega)
          have d4 : decide (n < T k) = false := decide_eq_false (by omega)
          clear hf
          go_wp2_with fail
          refine (part_yes (a := F k) (b := k) (by omega) (HF2.out k hlt).1 (by omega) _ (HS.out.below HBW.out) HF2.out (by
            by_cases h0 : F k = k
            · exact .inl h0
            · obtain ⟨q, h1, h2, h3⟩ := shape_left HG.out HFT.out hlt h0
              exact .inr ⟨q, h1, h2, h3⟩)).mono ?_
          rintro x w3 ⟨rfl, hb3⟩
          have HW3 := Lib.hid (HBW.out.trans (hb3.mono zr))
          have z3 := HW3.out.size
          have p3 := (hb3.cell (p := ⟨g, k * 2 + 1, none⟩) (show g < wr.heap.size by omega)).trans p2
          clear hb3
          go_wp2_with fail
          refine (part_yes (a := k + 1) (b := T k) (by omega) (by omega) (HF2.out k hlt).2 _ (HS.out.below HW3.out) HF2.out (by
            by_cases h0 : k + 1 = T k
            · exact .inl h0
            · obtain ⟨q, h1, h2, h3⟩ := shape_right HG.out HFT.out hlt h0
              exact .inr ⟨q, h1, h2, h3⟩)).mono ?_
          rintro x w4 ⟨rfl, hb4⟩
          have HW4 := Lib.hid (HW3.out.trans (hb4.mono z3))
          clear hb4
          go_wp2
          go_roundg (n - (k + 1))
          case measure => have := HK.out; omega
          case rel => exact ⟨k + 1, by have := HK.out; omega, by go_num, HW4.out⟩
        · have hke : k = n := by omega
          subst hke
          go_wp2_with fail
          refine (known_any _).mono ?_
          rintro x w3 ⟨rfl, hb3⟩
          have HB3 := Lib.hid ((HB.out.trans (HBW.out.mono z1)).trans (hb3.mono (by omega)))
          clear hb3
          go_wp2
          go_returns
          exact ⟨rfl, HB3.out⟩
end Go.Proofs.Ytlhppkaehoppnaa.Fx
namespace Go.Proofs.Ytlhppkaehoppnaa.FixShape
open Go.RowKit Fx
theorem law (b : Option Addr) (n c : Nat) (hn : n ≤ 9223372036854775807) (r : Row) (w : World) (hr : Reads w w.heap.size b n r) :
    Calls Try.prog 5 #[.slice b n c] w fun e w' => e = .returned (.bool true) ∧ Below w.heap.size w w' := shape_law b n c hn r w hr
end Go.Proofs.Ytlhppkaehoppnaa.FixShape
