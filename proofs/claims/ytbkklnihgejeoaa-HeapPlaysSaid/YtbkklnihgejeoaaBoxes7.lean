/-
  WORDS ON MEMORY: a struct's box of seven, of nine cells: read, written as a whole. No program in sight.
-/
import Derived.Test.YtbkklnihgejeoaaBoxes
namespace Go.Proofs.Ytbkklnihgejeoaa.Mm
open Go.RowKit
set_option linter.unusedVariables false
section
variable {w : World} {g : Nat} {t : TypeId} {a0 a1 a2 a3 a4 a5 a6 a7 a8 : Value}
theorem Box.cells7 (h : Box w g t #[a0, a1, a2, a3, a4, a5, a6]) : w.cell? ⟨g, 0, none⟩ = some a0 ∧ w.cell? ⟨g, 1, none⟩ = some a1 ∧ w.cell? ⟨g, 2, none⟩ = some a2 ∧ w.cell? ⟨g, 3, none⟩ = some a3 ∧ w.cell? ⟨g, 4, none⟩ = some a4 ∧ w.cell? ⟨g, 5, none⟩ = some a5 ∧ w.cell? ⟨g, 6, none⟩ = some a6 :=
  ⟨h.cell 0, h.cell 1, h.cell 2, h.cell 3, h.cell 4, h.cell 5, h.cell 6⟩
theorem Box.free7 (h : Box w g t #[a0, a1, a2, a3, a4, a5, a6]) : w.frozen? ⟨g, 0, none⟩ = false ∧ w.frozen? ⟨g, 1, none⟩ = false ∧ w.frozen? ⟨g, 2, none⟩ = false ∧ w.frozen? ⟨g, 3, none⟩ = false ∧ w.frozen? ⟨g, 4, none⟩ = false ∧ w.frozen? ⟨g, 5, none⟩ = false ∧ w.frozen? ⟨g, 6, none⟩ = false :=
  ⟨h.free 0, h.free 1, h.free 2, h.free 3, h.free 4, h.free 5, h.free 6⟩
theorem Box.cells9 (h : Box w g t #[a0, a1, a2, a3, a4, a5, a6, a7, a8]) : w.cell? ⟨g, 0, none⟩ = some a0 ∧ w.cell? ⟨g, 1, none⟩ = some a1 ∧ w.cell? ⟨g, 2, none⟩ = some a2 ∧ w.cell? ⟨g, 3, none⟩ = some a3 ∧ w.cell? ⟨g, 4, none⟩ = some a4 ∧ w.cell? ⟨g, 5, none⟩ = some a5 ∧ w.cell? ⟨g, 6, none⟩ = some a6 ∧ w.cell? ⟨g, 7, none⟩ = some a7 ∧ w.cell? ⟨g, 8, none⟩ = some a8 :=
  ⟨h.cell 0, h.cell 1, h.cell 2, h.cell 3, h.cell 4, h.cell 5, h.cell 6, h.cell 7, h.cell 8⟩
theorem Box.free9 (h : Box w g t #[a0, a1, a2, a3, a4, a5, a6, a7, a8]) : w.frozen? ⟨g, 0, none⟩ = false ∧ w.frozen? ⟨g, 1, none⟩ = false ∧ w.frozen? ⟨g, 2, none⟩ = false ∧ w.frozen? ⟨g, 3, none⟩ = false ∧ w.frozen? ⟨g, 4, none⟩ = false ∧ w.frozen? ⟨g, 5, none⟩ = false ∧ w.frozen? ⟨g, 6, none⟩ = false ∧ w.frozen? ⟨g, 7, none⟩ = false ∧ w.frozen? ⟨g, 8, none⟩ = false :=
  ⟨h.free 0, h.free 1, h.free 2, h.free 3, h.free 4, h.free 5, h.free 6, h.free 7, h.free 8⟩
/-- the box, its cells written anew -/
theorem Box.write7 (h : Box w g t #[a0, a1, a2, a3, a4, a5, a6]) (v0 v1 v2 v3 v4 v5 v6 : Value) : ∃ W, (((((((w.setCell ⟨g, 0, none⟩ v0).setCell ⟨g, 1, none⟩ v1).setCell ⟨g, 2, none⟩ v2).setCell ⟨g, 3, none⟩ v3).setCell ⟨g, 4, none⟩ v4).setCell ⟨g, 5, none⟩ v5).setCell ⟨g, 6, none⟩ v6) = W ∧ Box W g t #[v0, v1, v2, v3, v4, v5, v6] ∧ Wrote w W g := by
  have h0 : Box _ g t #[v0, a1, a2, a3, a4, a5, a6] := h.put 0 v0
  have h1 : Box _ g t #[v0, v1, a2, a3, a4, a5, a6] := h0.put 1 v1
  have h2 : Box _ g t #[v0, v1, v2, a3, a4, a5, a6] := h1.put 2 v2
  have h3 : Box _ g t #[v0, v1, v2, v3, a4, a5, a6] := h2.put 3 v3
  have h4 : Box _ g t #[v0, v1, v2, v3, v4, a5, a6] := h3.put 4 v4
  have h5 : Box _ g t #[v0, v1, v2, v3, v4, v5, a6] := h4.put 5 v5
  have h6 : Box _ g t #[v0, v1, v2, v3, v4, v5, v6] := h5.put 6 v6
  exact ⟨_, rfl, h6, ((((((((Wrote.refl w g).set 0 v0).set 1 v1).set 2 v2).set 3 v3).set 4 v4).set 5 v5).set 6 v6)⟩
theorem Box.write9 (h : Box w g t #[a0, a1, a2, a3, a4, a5, a6, a7, a8]) (v0 v1 v2 v3 v4 v5 v6 v7 v8 : Value) : ∃ W, (((((((((w.setCell ⟨g, 0, none⟩ v0).setCell ⟨g, 1, none⟩ v1).setCell ⟨g, 2, none⟩ v2).setCell ⟨g, 3, none⟩ v3).setCell ⟨g, 4, none⟩ v4).setCell ⟨g, 5, none⟩ v5).setCell ⟨g, 6, none⟩ v6).setCell ⟨g, 7, none⟩ v7).setCell ⟨g, 8, none⟩ v8) = W ∧ Box W g t #[v0, v1, v2, v3, v4, v5, v6, v7, v8] ∧ Wrote w W g := by
  have h0 : Box _ g t #[v0, a1, a2, a3, a4, a5, a6, a7, a8] := h.put 0 v0
  have h1 : Box _ g t #[v0, v1, a2, a3, a4, a5, a6, a7, a8] := h0.put 1 v1
  have h2 : Box _ g t #[v0, v1, v2, a3, a4, a5, a6, a7, a8] := h1.put 2 v2
  have h3 : Box _ g t #[v0, v1, v2, v3, a4, a5, a6, a7, a8] := h2.put 3 v3
  have h4 : Box _ g t #[v0, v1, v2, v3, v4, a5, a6, a7, a8] := h3.put 4 v4
  have h5 : Box _ g t #[v0, v1, v2, v3, v4, v5, a6, a7, a8] := h4.put 5 v5
  have h6 : Box _ g t #[v0, v1, v2, v3, v4, v5, v6, a7, a8] := h5.put 6 v6
  have h7 : Box _ g t #[v0, v1, v2, v3, v4, v5, v6, v7, a8] := h6.put 7 v7
  have h8 : Box _ g t #[v0, v1, v2, v3, v4, v5, v6, v7, v8] := h7.put 8 v8
  exact ⟨_, rfl, h8, ((((((((((Wrote.refl w g).set 0 v0).set 1 v1).set 2 v2).set 3 v3).set 4 v4).set 5 v5).set 6 v6).set 7 v7).set 8 v8)⟩
end
end Go.Proofs.Ytbkklnihgejeoaa.Mm
