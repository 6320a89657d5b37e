/-
  CONTRACTS of layer fix: what may be, what clashes.
-/
import Derived.Test.YtlhppkaehoppnaaFixMath2
import Derived.Test.YtlhppkaehoppnaaChecked
import Derived.Handy
import Derived.Lib.Hide
import Derived.WalkSpells
import Derived.WalkLawsBesides
import Derived.Outline
import Derived.Deep.QuietTactic
import Derived.BigQuiet
import Derived.Deep.RegionHeld3
import Derived.Deep.RegionWith
import Derived.RegionTactic
import Derived.BigRegion
import Derived.IntWalk
import Derived.StillTailTactics
namespace Go.Proofs.Ytlhppkaehoppnaa.Fx
open Go.RowKit Fm
set_option linter.unusedVariables false

abbrev fixV (o : ByteArray) (a l p q : Int) : Value := .agg #[.string o, .int .i64 a, .int .i64 l, .int .i64 p, .int .i64 q]
def fineB (a l : Int) : Bool := decide (0 ≤ a ∧ a ≤ 2 ∧ 0 ≤ l ∧ l ≤ 9)
theorem maybe_any {a l : Int} {r : Bool} (h : fineB a l = r) (o : ByteArray) (p q : Int) (w : World) : Calls Try.prog 19 #[fixV o a l p q] w fun e w' => e = .returned (.bool r) ∧ Below w.heap.size w w' := by
  by_cases h0 : 0 ≤ a ∧ a ≤ 2
  · by_cases h1 : 0 ≤ l
    · have d1 : decide (0 ≤ l) = true := decide_eq_true h1
      obtain ⟨r2, d2⟩ : ∃ r2, decide (l ≤ 9) = r2 := ⟨_, rfl⟩
      have HR := Lib.hid (show r2 = r by rw [← h, ← d2]; unfold fineB; by_cases h9 : l ≤ 9 <;> simp [h0, h1, h9])
      clear h
      rcases (show a = 0 ∨ a = 1 ∨ a = 2 by omega) with rfl | rfl | rfl <;>
        (clear h0
         go_enter Try.func19, Try.ntmps19
         go_wp2
         go_returns
         exact ⟨by rw [HR.out]; rfl, by go_grown⟩)
    · have d1 : decide (0 ≤ l) = false := decide_eq_false h1
      have HR := Lib.hid (show r = false by rw [← h]; unfold fineB; simp [h1])
      clear h
      rcases (show a = 0 ∨ a = 1 ∨ a = 2 by omega) with rfl | rfl | rfl <;>
        (clear h0
         go_enter Try.func19, Try.ntmps19
         go_wp2
         go_returns
         exact ⟨by rw [HR.out]; rfl, by go_grown⟩)
  · obtain rfl : r = false := by rw [← h]; unfold fineB; exact decide_eq_false (by omega)
    clear h
    have e0 : (a == 0) = false := beq_eq_false_iff_ne.2 (by omega)
    have e1 : (a == 1) = false := beq_eq_false_iff_ne.2 (by omega)
    have e2 : (a == 2) = false := beq_eq_false_iff_ne.2 (by omega)
    clear h0
    go_enter Try.func19, Try.ntmps19
    go_wp2
    go_returns
    exact ⟨rfl, by go_grown⟩
/-- what two operators' ways make -/
def clashB (a b : Int) : Bool := decide (¬ (a = b ∧ a ≠ 0))
theorem clash_any {a b : Int} {r : Bool} (h : clashB a b = r) (o o2 : ByteArray) (l p q l2 p2 q2 : Int) (w : World) : Calls Try.prog 20 #[fixV o a l p q, fixV o2 b l2 p2 q2] w fun e w' => e = .returned (.bool r) ∧ Below w.heap.size w w' := by
  by_cases h1 : a = b
  · have e1 : (a != b) = false := by rw [h1]; simp
    by_cases h2 : a = 0
    · obtain rfl : r = true := by rw [← h]; unfold clashB; exact decide_eq_true (by omega)
      have e2 : (a == 0) = true := beq_iff_eq.2 h2
      clear h h1 h2
      go_enter Try.func20, Try.ntmps20
      go_wp2
      go_returns
      exact ⟨rfl, by go_grown⟩
    · obtain rfl : r = false := by rw [← h]; unfold clashB; exact decide_eq_false (by omega)
      have e2 : (a == 0) = false := beq_eq_false_iff_ne.2 h2
      clear h h1 h2
      go_enter Try.func20, Try.ntmps20
      go_wp2
      go_returns
      exact ⟨rfl, by go_grown⟩
  · obtain rfl : r = true := by rw [← h]; unfold clashB; exact decide_eq_true (by omega)
    have e1 : (a != b) = true := by simp [h1]
    clear h h1
    go_enter Try.func20, Try.ntmps20
    go_wp2
    go_returns
    exact ⟨rfl, by go_grown⟩
theorem right_any {a l : Int} {r : Bool} (h : fineB a l = r) (o : ByteArray) (p q : Int) (w : World) : Calls Try.prog 18 #[fixV o a l p q] w fun e w' => e = .returned (.bool r) ∧ Below w.heap.size w w' := by
  by_cases h0 : 0 ≤ a
  · have d0 : decide (0 ≤ a) = true := decide_eq_true h0
    by_cases h1 : a ≤ 2
    · have d1 : decide (a ≤ 2) = true := decide_eq_true h1
      by_cases h2 : 0 ≤ l
      · have d2 : decide (0 ≤ l) = true := decide_eq_true h2
        obtain ⟨r2, d3⟩ : ∃ r2, decide (l ≤ 9) = r2 := ⟨_, rfl⟩
        have HR := Lib.hid (show r2 = r by rw [← h, ← d3]; unfold fineB; by_cases h9 : l ≤ 9 <;> simp [h0, h1, h2, h9])
        clear h h0 h1 h2
        go_enter Try.func18, Try.ntmps18
        go_wp2
        go_returns
        exact ⟨by rw [HR.out]; rfl, by go_grown⟩
      · have d2 : decide (0 ≤ l) = false := decide_eq_false h2
        obtain rfl : r = false := by rw [← h]; unfold fineB; exact decide_eq_false (by omega)
        clear h h0 h1 h2
        go_enter Try.func18, Try.ntmps18
        go_wp2
        go_returns
        exact ⟨rfl, by go_grown⟩
    · have d1 : decide (a ≤ 2) = false := decide_eq_false h1
      obtain rfl : r = false := by rw [← h]; unfold fineB; exact decide_eq_false (by omega)
      clear h h0 h1
      go_enter Try.func18, Try.ntmps18
      go_wp2
      go_returns
      exact ⟨rfl, by go_grown⟩
  · have d0 : decide (0 ≤ a) = false := decide_eq_false h0
    obtain rfl : r = false := by rw [← h]; unfold fineB; exact decide_eq_false (by omega)
    clear h h0
    go_enter Try.func18, Try.ntmps18
    go_wp2
    go_returns
    exact ⟨rfl, by go_grown⟩
/-- a row of ways of binding as it lies in memory: op, group, level, place -/
structure Row where
  O : Nat → ByteArray
  A : Nat → Int
  L : Nat → Int
  P : Nat → Int
  Q : Nat → Int
def Reads (w : World) (B : Nat) (v : Option Addr) (n : Nat) (r : Row) : Prop := ∀ i, i < n → ∃ ad, v = some ad ∧ ad.block < B ∧
  w.cell? (ad.add (i * 5)) = some (.string (r.O i)) ∧ w.cell? ⟨(ad.add (i * 5)).block, (ad.add (i * 5)).off + 1, none⟩ = some (.int .i64 (r.A i)) ∧ w.cell? ⟨(ad.add (i * 5)).block, (ad.add (i * 5)).off + 2, none⟩ = some (.int .i64 (r.L i)) ∧
  w.cell? ⟨(ad.add (i * 5)).block, (ad.add (i * 5)).off + 3, none⟩ = some (.int .i64 (r.P i)) ∧ w.cell? ⟨(ad.add (i * 5)).block, (ad.add (i * 5)).off + 4, none⟩ = some (.int .i64 (r.Q i))
theorem block_of_add (a : Addr) (n : Nat) : (a.add n).block = a.block := by unfold Addr.add; split <;> rfl
theorem Reads.below {w w' : World} {B B' : Nat} {v : Option Addr} {n : Nat} {r : Row} (h : Reads w B v n r) (hb : Below B' w w') (hle : B ≤ B') : Reads w' B v n r := by
  intro i hi
  obtain ⟨ad, h1, h2, h3, h4, h5, h6, h7⟩ := h i hi
  have hlt : ad.block < B' := by omega
  refine ⟨ad, h1, h2, ?_, ?_, ?_, ?_, ?_⟩ <;> (rw [hb.cell (by simpa [block_of_add] using hlt)]; assumption)
theorem Reads.mono {w : World} {B B' : Nat} {v : Option Addr} {n : Nat} {r : Row} (h : Reads w B v n r) (hle : B ≤ B') : Reads w B' v n r := by
  intro i hi
  obtain ⟨ad, h1, h2, h3⟩ := h i hi
  exact ⟨ad, h1, by omega, h3⟩
end Go.Proofs.Ytlhppkaehoppnaa.Fx
