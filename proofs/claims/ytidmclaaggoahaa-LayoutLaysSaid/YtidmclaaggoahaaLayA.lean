/-
  CONTRACTS of layer layout: what a token closes, opens, and has due behind it.
-/
import Derived.Test.YtidmclaaggoahaaParse
import Derived.Outline
namespace Go.Proofs.Ytidmclaaggoahaa.Ly
open Go.RowKit Pl Ar
set_option linter.unusedVariables false
set_option linter.unusedSimpArgs false
/-- a token's value, made or not -/
abbrev tkV (k : Int) (t : ByteArray) (n ln col : Int) (m : Bool) : Value := .agg #[.int .i64 k, .string t, .int .i64 n, .int .i64 ln, .int .i64 col, .bool m]
def closedK (k : Int) (t : List UInt8) : Int :=
  if k = 5 then (if t = [41] then 6 else if t = [125] then 7 else 0)
  else if k = 6 then (if t = [105, 110] then 2 else if t = [111, 102] then 3 else if t = [116, 104, 101, 110] then 4 else if t = [101, 108, 115, 101] then 5 else 0) else 0
def openedK (k : Int) (t : List UInt8) : Int :=
  if k = 5 then (if t = [40] then 6 else if t = [123] then 7 else 0)
  else if k = 6 then (if t = [108, 101, 116] then 2 else if t = [99, 97, 115, 101] then 3 else if t = [105, 102] then 4 else if t = [116, 104, 101, 110] then 5 else 0) else 0
def dueK (k : Int) (t : List UInt8) : Bool := decide (k = 6 ∧ (t = [108, 101, 116] ∨ t = [111, 102]))
set_option maxHeartbeats 2000000 in
theorem closed_any (k : Int) (t : ByteArray) (n ln col : Int) (m : Bool) (w : World) : Calls Try.prog 43 #[tkV k t n ln col m] w fun e w' => e = .returned (.int .i64 (closedK k t.data.toList)) ∧ Below w.heap.size w w' := by
  obtain ⟨q, hq⟩ : ∃ q, closedK k t.data.toList = q := ⟨_, rfl⟩
  rw [hq]
  unfold closedK at hq
  rw [← Lib.toList_data] at hq
  go_enter Try.func43, Try.ntmps43
  go_wp2
  all_goals
    go_ret
    refine ⟨?_, by go_grown⟩
    subst hq
    simp only [beq_iff_eq, beq_eq_false_iff_ne, ne_eq] at *
    simp [*]
set_option maxHeartbeats 2000000 in
theorem opened_any (k : Int) (t : ByteArray) (n ln col : Int) (m : Bool) (w : World) : Calls Try.prog 39 #[tkV k t n ln col m] w fun e w' => e = .returned (.int .i64 (openedK k t.data.toList)) ∧ Below w.heap.size w w' := by
  obtain ⟨q, hq⟩ : ∃ q, openedK k t.data.toList = q := ⟨_, rfl⟩
  rw [hq]
  unfold openedK at hq
  rw [← Lib.toList_data] at hq
  go_enter Try.func39, Try.ntmps39
  go_wp2
  all_goals
    go_ret
    refine ⟨?_, by go_grown⟩
    subst hq
    simp only [beq_iff_eq, beq_eq_false_iff_ne, ne_eq] at *
    simp [*]
set_option maxHeartbeats 2000000 in
theorem due_any (k : Int) (t : ByteArray) (n ln col : Int) (m : Bool) (w : World) : Calls Try.prog 46 #[tkV k t n ln col m] w fun e w' => e = .returned (.bool (dueK k t.data.toList)) ∧ Below w.heap.size w w' := by
  obtain ⟨q, hq⟩ : ∃ q, dueK k t.data.toList = q := ⟨_, rfl⟩
  rw [hq]
  unfold dueK at hq
  rw [← Lib.toList_data] at hq
  go_enter Try.func46, Try.ntmps46
  go_wp2
  all_goals
    go_ret
    refine ⟨?_, by go_grown⟩
    subst hq
    simp only [beq_iff_eq, beq_eq_false_iff_ne, ne_eq] at *
    by_cases h1 : t.toList = [108, 101, 116] <;> by_cases h2 : t.toList = [111, 102] <;> simp_all
end Go.Proofs.Ytidmclaaggoahaa.Ly
