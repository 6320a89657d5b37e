/-
  Rows of rows of numbers that came in, opened to their cells.
-/
import Derived.Test.YtephmagficbdeaaGrN
import Derived.Test.YtephmagficbdeaaRows
import Derived.OpenShut
import Derived.Deep.Slices
import Derived.Deep.Matrix
import Derived.Carry
namespace Go.Proofs.Ytephmagficbdeaa.Gr
open Go.RowKit Mm Sp
open Go.ChangeShapes Go.WideShapes Go.ChangeAt
set_option linter.unusedVariables false
theorem cellsRow : Try.prog.cellsOf 28 = 1 := by kernel_rfl
theorem cellsInt : Try.prog.cellsOf 3 = 1 := by kernel_rfl
theorem laidOut : laidOutB Try.prog = true := by kernel_rfl
/-- The rows that lie at b. -/
def RowR (w : World) (B : Nat) (b : Option Addr) (n : Nat) (G : List (List Int)) : Prop := G.length = n ∧ ∀ c, RR B w (.slice b n c) G
theorem open_rows {H : Type} {enc : TypeId × Value → H} {W : World} {b : Option Addr} {n c : Nat} {d : DataW H} {ps : List MemPlace} (h : DataW.Trod enc Try.prog W 0 (fun _ => true) true 22 (.slice b n c) d ps) :
    n ≤ 9223372036854775807 ∧ ∃ G, RowR W W.heap.size b n G := by
  obtain ⟨fuel, hf⟩ := h
  rcases Deep.open_int_rows Try.underlying22 Try.underlying28 Try.underlying3 cellsRow cellsInt hf with ⟨hcs, _⟩ | ⟨a, len, cap, A, L, C, Z, hcs, _, hl, hm, _, hi⟩
  · simp [Value.cells] at hcs
    obtain ⟨rfl, rfl, rfl⟩ := hcs
    exact ⟨by omega, [], rfl, fun c => ⟨none, c, rfl, by simp, fun i hi => by simp at hi⟩⟩
  · simp [Value.cells] at hcs
    obtain ⟨rfl, rfl, rfl⟩ := hcs
    have hn : n ≤ 9223372036854775807 := by unfold maxLen at hm; omega
    refine ⟨hn, (List.range n).map (fun r => (Z r).take (L r)), by simp, fun c => ⟨some a, c, by simp, by simpa using hn, fun i hi2 => ?_⟩⟩
    have hi3 : i < n := by simpa using hi2
    obtain ⟨k1, k2, k3, k4, _, k6, k7⟩ := hi i (by omega)
    have e : ((List.range n).map (fun r => (Z r).take (L r))).getD i [] = (Z i).take (L i) := by
      rw [List.getD_eq_getElem?_getD, List.getElem?_map, List.getElem?_range hi3]
      rfl
    have hlen : ((Z i).take (L i)).length = L i := by rw [List.length_take]; omega
    refine ⟨a, _, rfl, ?_, k1, ?_⟩
    · have := World.block_lt_of_cell? _ _ k1
      rwa [block_of_add] at this
    · rw [e]
      refine ⟨A i, C i, by rw [hlen], by rw [hlen]; unfold maxLen at k3; omega, fun j hj => ?_⟩
      rw [hlen] at hj
      cases hA : A i with
      | none => have := k6 hA; omega
      | some a' =>
        obtain ⟨_, k8⟩ := k7 a' hA
        have k9 := k8 j (by omega)
        refine ⟨a', rfl, ?_, ?_⟩
        · have := World.block_lt_of_cell? _ _ k9
          rwa [block_of_add] at this
        · refine k9.trans ?_
          show some (Value.int .i64 ((Z i).getD j 0)) = some (Value.int .i64 (((Z i).take (L i)).getD j 0))
          rw [List.getD_eq_getElem?_getD, List.getD_eq_getElem?_getD, List.getElem?_take_of_lt hj]
end Go.Proofs.Ytephmagficbdeaa.Gr
