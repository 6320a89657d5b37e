/-
  Rows of numbers and of texts that came in, opened to their cells.
-/
import Derived.Test.YtggeafmbemmbpaaChecked
import Derived.Test.YtggeafmbemmbpaaRowI
import Derived.Test.YtggeafmbemmbpaaRows
import Derived.OpenShut
import Derived.Deep.Slices
import Derived.Carry
namespace Go.Proofs.Ytggeafmbemmbpaa.Sp
open Go.RowKit Mm
open Go.ChangeShapes Go.WideShapes Go.ChangeAt
set_option linter.unusedVariables false
theorem laidOut : laidOutB Try.prog = true := by kernel_rfl
theorem cellsInt : Try.prog.cellsOf 3 = 1 := by kernel_rfl
theorem cellsStr : Try.prog.cellsOf 9 = 1 := by kernel_rfl
theorem open_introw {H : Type} {enc : TypeId × Value → H} {W : World} {b : Option Addr} {n c : Nat} {d : DataW H} {ps : List MemPlace} (h : DataW.Trod enc Try.prog W 0 (fun _ => true) true 29 (.slice b n c) d ps) :
    n ≤ 9223372036854775807 ∧ ∃ f, ReadsV W W.heap.size b n (intV f) := by
  obtain ⟨fuel, hf⟩ := h
  rcases Deep.open_slice1 Try.underlying29 cellsInt hf with ⟨hcs, _⟩ | ⟨a, len, cap, m, k, V, D, Pl, hcs, _, hl, hm, hmm, _, hi⟩
  · simp [Value.cells] at hcs
    obtain ⟨rfl, rfl, rfl⟩ := hcs
    exact ⟨by omega, fun _ => 0, fun i hi => absurd hi (by omega)⟩
  · simp [Value.cells] at hcs
    obtain ⟨rfl, rfl, rfl⟩ := hcs
    refine ⟨by unfold maxLen at hm; omega, ?_⟩
    have key : ∀ i, i < n → ∃ x : Int, W.cell? (a.add i) = some (.int .i64 x) := by
      intro i hlt
      obtain ⟨hc, ht⟩ := hi i (by rw [hmm]; simp; omega)
      obtain ⟨x, e, _⟩ := DataW.trod_int Try.underlying3 ht
      simp at e
      exact ⟨x, by rw [hc, e]⟩
    obtain ⟨f, hf⟩ := Deep.choose_lt key
    refine ⟨f, fun i hlt => ⟨a, rfl, ?_, hf i hlt⟩⟩
    have := World.block_lt_of_cell? _ _ (hf i hlt)
    rwa [block_of_add] at this
theorem open_strrow {H : Type} {enc : TypeId × Value → H} {W : World} {b : Option Addr} {n c : Nat} {d : DataW H} {ps : List MemPlace} (h : DataW.Trod enc Try.prog W 0 (fun _ => true) true 49 (.slice b n c) d ps) :
    n ≤ 9223372036854775807 ∧ ∃ f, ReadsV W W.heap.size b n (strV f) := by
  obtain ⟨fuel, hf⟩ := h
  rcases Deep.open_slice1 Try.underlying49 cellsStr hf with ⟨hcs, _⟩ | ⟨a, len, cap, m, k, V, D, Pl, hcs, _, hl, hm, hmm, _, hi⟩
  · simp [Value.cells] at hcs
    obtain ⟨rfl, rfl, rfl⟩ := hcs
    exact ⟨by omega, fun _ => ByteArray.empty, fun i hi => absurd hi (by omega)⟩
  · simp [Value.cells] at hcs
    obtain ⟨rfl, rfl, rfl⟩ := hcs
    refine ⟨by unfold maxLen at hm; omega, ?_⟩
    have key : ∀ i, i < n → ∃ x : ByteArray, W.cell? (a.add i) = some (.string x) := by
      intro i hlt
      obtain ⟨hc, ht⟩ := hi i (by rw [hmm]; simp; omega)
      obtain ⟨x, e, _⟩ := DataW.trod_string Try.underlying9 ht
      simp at e
      exact ⟨x, by rw [hc, e]⟩
    obtain ⟨f, hf⟩ := Deep.choose_lt key
    refine ⟨f, fun i hlt => ⟨a, rfl, ?_, hf i hlt⟩⟩
    have := World.block_lt_of_cell? _ _ (hf i hlt)
    rwa [block_of_add] at this
end Go.Proofs.Ytggeafmbemmbpaa.Sp
