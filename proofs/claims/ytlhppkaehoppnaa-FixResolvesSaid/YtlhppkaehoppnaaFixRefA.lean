/-
  CONTRACTS of the document's own layer fix: what meets, what clashes, roots.
-/
import Derived.Test.YtlhppkaehoppnaaFixE
namespace Go.Proofs.Ytlhppkaehoppnaa.Fx
open Go.RowKit Fm Mm Nm
set_option linter.unusedVariables false

set_option maxHeartbeats 2000000 in
theorem meets_any {rb : Bool} (b : Option Addr) (n c : Nat) (hn : n ≤ 1024) (r : Row) (i k : Nat) (hi : i < k) (hk : k < n) (w : World) (hr : Reads w w.heap.size b n r) (h : rb = true ↔ Meets r.L i k) :
    Calls Try.prog 26 #[.slice b n c, .int .i64 (i : Nat), .int .i64 (k : Nat)] w fun e w' => e = .returned (.bool rb) ∧ Below w.heap.size w w' := by
  obtain ⟨ad, rfl, had, x0, x1, x2, x3, x4⟩ := hr i (by omega)
  obtain ⟨ad2, e2, had2, y0, y1, y2, y3, y4⟩ := hr k hk
  injection e2 with e2
  subst e2
  have HR := Lib.hid hr
  have HH := Lib.hid h
  have hin : (i : Int) < n := by omega
  have hkn : (k : Int) < n := by omega
  have hin2 : i < n := by omega
  clear hr h x0 x1 x3 x4 y0 y1 y3 y4
  by_cases hL : r.L i = r.L k
  · have d0 : (r.L i != r.L k) = false := by simp [hL]
    have HL := Lib.hid hL
    clear hL
    go_enter Try.func26, Try.ntmps26
    go_wp2_with fail
    go_quiet (fail)
    go_wp2_with fail
    go_loopg [7] (k - (i + 1)) (fun d j wr => ∃ x : Nat, d + x = k ∧ j = .int .i64 x ∧ i < x ∧ (∀ y, i < y → y < x → r.L k < r.L y) ∧ Below w.heap.size w wr)
    case atStart => exact ⟨i + 1, by omega, by go_num, by omega, (fun y h1 h2 => absurd h2 (by omega)), below_drewN (Below.refl _ _) _⟩
    case round =>
      obtain ⟨x, hx, rfl, hix, hy, hbw⟩ := hrel
      have HX := Lib.hid hx
      have HY := Lib.hid hy
      have HBW := Lib.hid hbw
      have hxk : x ≤ k := by omega
      clear hx hy hbw
      by_cases hlt : x < k
      · have hlt' : (x : Int) < k := by omega
        have hxn : x < n := by omega
        have hxn' : (x : Int) < n := by omega
        obtain ⟨ad3, e3, had3, z0, z1, z2, z3, z4⟩ := (HR.out.below HBW.out (Nat.le_refl _)) x hxn
        injection e3 with e3
        subst e3
        obtain ⟨ad4, e4, had4, u0, u1, u2, u3, u4⟩ := (HR.out.below HBW.out (Nat.le_refl _)) i hin2
        injection e4 with e4
        subst e4
        clear z0 z1 z3 z4 u0 u1 u3 u4 x2 y2
        by_cases hle : r.L x ≤ r.L i
        · have d1 : decide (r.L x ≤ r.L i) = true := decide_eq_true hle
          have hrb : rb = false := by
            rw [Bool.eq_false_iff]
            intro hb
            have := (HH.out.1 hb).2 x hix hlt
            have := HL.out
            omega
          subst hrb
          clear hle
          go_wp2_with fail
          go_quiet (fail)
          go_wp2
          go_returns
          exact ⟨rfl, below_drewN HBW.out _⟩
        · have d1 : decide (r.L x ≤ r.L i) = false := decide_eq_false hle
          have HY2 := Lib.hid (show ∀ y, i < y → y < x + 1 → r.L k < r.L y from fun y h1 h2 => by
            have := HL.out
            by_cases e : y = x
            · rw [e]; omega
            · exact HY.out y h1 (by omega))
          clear hle
          go_wp2_with fail
          go_quiet (fail)
          go_wp2
          go_roundg (k - (x + 1))
          case measure => have := HX.out; omega
          case rel => exact ⟨x + 1, by have := HX.out; omega, by go_num, by omega, HY2.out, below_drewN HBW.out _⟩
      · have hxe : x = k := by omega
        have hrb : rb = true := HH.out.2 ⟨HL.out, fun y h1 h2 => HY.out y h1 (by omega)⟩
        subst hxe hrb
        clear x2 y2
        go_wp2
        go_returns
        exact ⟨rfl, HBW.out⟩
  · have d0 : (r.L i != r.L k) = true := by simp [hL]
    have hrb : rb = false := by
      rw [Bool.eq_false_iff]
      intro hb
      exact hL (HH.out.1 hb).1
    subst hrb
    clear hL
    go_enter Try.func26, Try.ntmps26
    go_wp2_with fail
    go_quiet (fail)
    go_wp2
    go_returns
    exact ⟨rfl, below_drewN (Below.refl _ _) _⟩
open Classical in
set_option maxRecDepth 100000 in
set_option maxHeartbeats 4000000 in
theorem clashes_any {rb : Bool} (b : Option Addr) (n c : Nat) (hn : n ≤ 1024) (r : Row) (k : Nat) (hk : k < n) (hf : ∀ j, j < n → Fine r.A r.L j) (w : World) (hr : Reads w w.heap.size b n r) (h : rb = true ↔ Clash r.A r.L k) :
    Calls Try.prog 21 #[.slice b n c, .int .i64 (k : Nat)] w fun e w' => e = .returned (.bool rb) ∧ Below w.heap.size w w' := by
  have HR := Lib.hid hr
  have HH := Lib.hid h
  have HF := Lib.hid hf
  have hkn : (k : Int) < n := by omega
  clear hr h hf
  go_enter Try.func21, Try.ntmps21
  go_wp2_with fail
  go_loopg [5] k (fun d j wr => ∃ x : Nat, d + x = k ∧ j = .int .i64 x ∧ (∀ p, p < x → Meets r.L p k → Fit r.A p k) ∧ Below w.heap.size w wr)
  case atStart => exact ⟨0, by omega, rfl, (fun p hp => absurd hp (by omega)), Below.refl _ _⟩
  case round =>
    obtain ⟨x, hx, rfl, hy, hbw⟩ := hrel
    have HX := Lib.hid hx
    have HY := Lib.hid hy
    have HBW := Lib.hid hbw
    have zr := hbw.size
    have hxk : x ≤ k := by omega
    clear hx hy hbw
    by_cases hlt : x < k
    · have hlt' : (x : Int) < k := by omega
      have hxn : x < n := by omega
      have hxn' : (x : Int) < n := by omega
      have HN := Lib.hid (show (Meets r.L x k → Fit r.A x k) → ∀ p, p < x + 1 → Meets r.L p k → Fit r.A p k from fun h p hp hm => by
        by_cases e : p = x
        · rw [e] at hm ⊢; exact h hm
        · exact HY.out p (by omega) hm)
      by_cases hm : Meets r.L x k
      · have HM := Lib.hid hm
        clear hm
        go_wp2_with fail
        refine (meets_any (rb := true) b n c hn r x k hlt hk _ ((HR.out.below HBW.out (Nat.le_refl _)).mono zr) (by simp [HM.out])).mono ?_
        rintro e w2 ⟨rfl, hb2⟩
        have HB2 := Lib.hid (HBW.out.trans (hb2.mono zr))
        clear hb2
        obtain ⟨ad, rfl, had, x0, x1, x2, x3, x4⟩ := (HR.out.below HB2.out (Nat.le_refl _)) x hxn
        obtain ⟨ad2, e2, had2, y0, y1, y2, y3, y4⟩ := (HR.out.below HB2.out (Nat.le_refl _)) k hk
        injection e2 with e2
        subst e2
        clear x0 x2 x3 x4 y0 y2 y3 y4
        have hA := HF.out x hxn
        have hB := HF.out k hk
        have hfit : Fit r.A x k ↔ (r.A x = 1 ∧ r.A k = 1) ∨ (r.A x = 2 ∧ r.A k = 2) := by
          unfold Fine at hA hB
          unfold Fit
          omega
        have HFit := Lib.hid hfit
        clear hA hB hfit
        by_cases a1 : r.A x = 1
        · have d1 : (r.A x == 1) = true := beq_iff_eq.2 a1
          by_cases b1 : r.A k = 1
          · have d2 : (r.A k == 1) = true := beq_iff_eq.2 b1
            have HN2 := Lib.hid (HN.out fun _ => HFit.out.2 (.inl ⟨a1, b1⟩))
            clear a1 b1
            go_wp2
            go_roundg (k - (x + 1))
            case measure => have := HX.out; omega
            case rel => exact ⟨x + 1, by have := HX.out; omega, by go_num, HN2.out, HB2.out⟩
          · have d2 : (r.A k == 1) = false := beq_eq_false_iff_ne.2 b1
            have d3 : (r.A x == 2) = false := beq_eq_false_iff_ne.2 (by omega)
            have hrb : rb = true := HH.out.2 ⟨x, hlt, HM.out, fun hf => by have := HFit.out.1 hf; omega⟩
            subst hrb
            clear a1 b1
            go_wp2
            go_returns
            exact ⟨rfl, HB2.out⟩
        · have d1 : (r.A x == 1) = false := beq_eq_false_iff_ne.2 a1
          by_cases a2 : r.A x = 2
          · have d3 : (r.A x == 2) = true := beq_iff_eq.2 a2
            by_cases b2 : r.A k = 2
            · have d4 : (r.A k == 2) = true := beq_iff_eq.2 b2
              have HN2 := Lib.hid (HN.out fun _ => HFit.out.2 (.inr ⟨a2, b2⟩))
              clear a1 a2 b2
              go_wp2
              go_roundg (k - (x + 1))
              case measure => have := HX.out; omega
              case rel => exact ⟨x + 1, by have := HX.out; omega, by go_num, HN2.out, HB2.out⟩
            · have d4 : (r.A k == 2) = false := beq_eq_false_iff_ne.2 b2
              have hrb : rb = true := HH.out.2 ⟨x, hlt, HM.out, fun hf => by have := HFit.out.1 hf; omega⟩
              subst hrb
              clear a1 a2 b2
              go_wp2
              go_returns
              exact ⟨rfl, HB2.out⟩
          · have d3 : (r.A x == 2) = false := beq_eq_false_iff_ne.2 a2
            have hrb : rb = true := HH.out.2 ⟨x, hlt, HM.out, fun hf => by have := HFit.out.1 hf; omega⟩
            subst hrb
            clear a1 a2
            go_wp2
            go_returns
            exact ⟨rfl, HB2.out⟩
      · have HM := Lib.hid hm
        have HN2 := Lib.hid (HN.out fun h => absurd h hm)
        clear hm
        go_wp2_with fail
        refine (meets_any (rb := false) b n c hn r x k hlt hk _ ((HR.out.below HBW.out (Nat.le_refl _)).mono zr) (by simp [HM.out])).mono ?_
        rintro e w2 ⟨rfl, hb2⟩
        have HB2 := Lib.hid (HBW.out.trans (hb2.mono zr))
        clear hb2
        go_wp2
        go_roundg (k - (x + 1))
        case measure => have := HX.out; omega
        case rel => exact ⟨x + 1, by have := HX.out; omega, by go_num, HN2.out, HB2.out⟩
    · have hxe : x = k := by omega
      have hrb : rb = false := by
        rw [Bool.eq_false_iff]
        intro hb
        obtain ⟨p, hp, hm, hx⟩ := HH.out.1 hb
        exact hx (HY.out p (by omega) hm)
      subst hxe hrb
      go_wp2
      go_returns
      exact ⟨rfl, HBW.out⟩
set_option maxRecDepth 100000 in
set_option maxHeartbeats 4000000 in
theorem root_any (b : Option Addr) (n c : Nat) (hn : n ≤ 1024) (r : Row) (a t : Nat) (hat : a < t) (ht : t ≤ n) (w : World) (hr : Reads w w.heap.size b n r) :
    Calls Try.prog 27 #[.slice b n c, .int .i64 (a : Nat), .int .i64 (t : Nat)] w fun e w' => e = .returned (.int .i64 (rootTo r.A r.L a (t - a) : Nat)) ∧ Below w.heap.size w w' := by
  have HR := Lib.hid hr
  clear hr
  go_enter Try.func27, Try.ntmps27
  go_wp2_with fail
  go_loopg [7, 8] (t - a) (fun d v7 v8 wr => ∃ x q : Nat, d + x = t ∧ v8 = .int .i64 x ∧ a ≤ x ∧ v7 = .int .i64 q ∧ rootTo r.A r.L a (x - a) = q ∧ q < t ∧ Below w.heap.size w wr)
  case atStart => exact ⟨a, a, by omega, rfl, by omega, rfl, by rw [Nat.sub_self]; rfl, hat, Below.refl _ _⟩
  case round =>
    obtain ⟨x, q, hx, rfl, hax, rfl, hq, hqt, hbw⟩ := hrel
    have HX := Lib.hid hx
    have HQ := Lib.hid hq
    have HBW := Lib.hid hbw
    have hxt : x ≤ t := by omega
    clear hx hq hbw
    by_cases hlt : x < t
    · have hlt' : (x : Int) < t := by omega
      have hxn : x < n := by omega
      have hxn' : (x : Int) < n := by omega
      have hqn : q < n := by omega
      have hqn' : (q : Int) < n := by omega
      obtain ⟨ad, rfl, had, x0, x1, x2, x3, x4⟩ := (HR.out.below HBW.out (Nat.le_refl _)) x hxn
      obtain ⟨ad2, e2, had2, y0, y1, y2, y3, y4⟩ := (HR.out.below HBW.out (Nat.le_refl _)) q hqn
      injection e2 with e2
      subst e2
      clear x0 x3 x4 y0 y1 y3 y4
      have HS := Lib.hid (show rootTo r.A r.L a (x + 1 - a) = if r.L x < r.L q ∨ (r.L x = r.L q ∧ r.A x = 1) then x else q by
        rw [show x + 1 - a = (x - a) + 1 by omega]
        show (if _ then _ else _) = _
        rw [HQ.out, show a + (x - a) = x by omega])
      by_cases h1 : r.L x < r.L q
      · have d1 : decide (r.L x < r.L q) = true := decide_eq_true h1
        have HS2 := Lib.hid (HS.out.trans (if_pos (.inl h1)))
        clear h1
        go_wp2_with fail
        go_quiet (fail)
        go_wp2
        go_roundg (t - (x + 1))
        case measure => have := HX.out; omega
        case rel => exact ⟨x + 1, x, by have := HX.out; omega, by go_num, by omega, rfl, HS2.out, hlt, below_drewN HBW.out _⟩
      · have d1 : decide (r.L x < r.L q) = false := decide_eq_false h1
        by_cases h2 : r.L x = r.L q
        · have d2 : (r.L x == r.L q) = true := beq_iff_eq.2 h2
          by_cases h3 : r.A x = 1
          · have d3 : (r.A x == 1) = true := beq_iff_eq.2 h3
            have HS2 := Lib.hid (HS.out.trans (if_pos (.inr ⟨h2, h3⟩)))
            clear h1 h2 h3
            go_wp2_with fail
            go_quiet (fail)
            go_wp2
            go_roundg (t - (x + 1))
            case measure => have := HX.out; omega
            case rel => exact ⟨x + 1, x, by have := HX.out; omega, by go_num, by omega, rfl, HS2.out, hlt, below_drewN HBW.out _⟩
          · have d3 : (r.A x == 1) = false := beq_eq_false_iff_ne.2 h3
            have HS2 := Lib.hid (HS.out.trans (if_neg (by omega)))
            clear h1 h2 h3
            go_wp2_with fail
            go_quiet (fail)
            go_wp2
            go_roundg (t - (x + 1))
            case measure => have := HX.out; omega
            case rel => exact ⟨x + 1, q, by have := HX.out; omega, by go_num, by omega, rfl, HS2.out, hqt, below_drewN HBW.out _⟩
        · have d2 : (r.L x == r.L q) = false := beq_eq_false_iff_ne.2 h2
          have HS2 := Lib.hid (HS.out.trans (if_neg (by omega)))
          clear h1 h2
          go_wp2_with fail
          go_quiet (fail)
          go_wp2
          go_roundg (t - (x + 1))
          case measure => have := HX.out; omega
          case rel => exact ⟨x + 1, q, by have := HX.out; omega, by go_num, by omega, rfl, HS2.out, hqt, below_drewN HBW.out _⟩
    · have hxe : x = t := by omega
      subst hxe
      go_wp2
      go_ret
      exact ⟨by rw [HQ.out]; rfl, HBW.out⟩
end Go.Proofs.Ytlhppkaehoppnaa.Fx
