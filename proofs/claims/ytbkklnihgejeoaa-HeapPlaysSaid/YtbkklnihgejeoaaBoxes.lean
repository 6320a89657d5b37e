/-
  WORDS ON MEMORY: a struct's box of two, four, five cells: read, written as a whole. No program in sight.
-/
import Derived.Test.YtbkklnihgejeoaaMem
namespace Go.Proofs.Ytbkklnihgejeoaa.Mm
open Go.RowKit
set_option linter.unusedVariables false
section
variable {w : World} {g : Nat} {t : TypeId} {a0 a1 a2 a3 a4 : Value}
theorem Box.cells2 (h : Box w g t #[a0, a1]) : w.cell? ⟨g, 0, none⟩ = some a0 ∧ w.cell? ⟨g, 1, none⟩ = some a1 ∧ w.frozen? ⟨g, 0, none⟩ = false ∧ w.frozen? ⟨g, 1, none⟩ = false :=
  ⟨h.cell 0, h.cell 1, h.free 0, h.free 1⟩
theorem Box.cells4 (h : Box w g t #[a0, a1, a2, a3]) : w.cell? ⟨g, 0, none⟩ = some a0 ∧ w.cell? ⟨g, 1, none⟩ = some a1 ∧ w.cell? ⟨g, 2, none⟩ = some a2 ∧ w.cell? ⟨g, 3, none⟩ = some a3 ∧ w.frozen? ⟨g, 0, none⟩ = false ∧ w.frozen? ⟨g, 1, none⟩ = false ∧ w.frozen? ⟨g, 2, none⟩ = false ∧ w.frozen? ⟨g, 3, none⟩ = false :=
  ⟨h.cell 0, h.cell 1, h.cell 2, h.cell 3, h.free 0, h.free 1, h.free 2, h.free 3⟩
theorem Box.cells5 (h : Box w g t #[a0, a1, a2, a3, a4]) : w.cell? ⟨g, 0, none⟩ = some a0 ∧ w.cell? ⟨g, 1, none⟩ = some a1 ∧ w.cell? ⟨g, 2, none⟩ = some a2 ∧ w.cell? ⟨g, 3, none⟩ = some a3 ∧ w.cell? ⟨g, 4, none⟩ = some a4 ∧ w.frozen? ⟨g, 0, none⟩ = false ∧ w.frozen? ⟨g, 1, none⟩ = false ∧ w.frozen? ⟨g, 2, none⟩ = false ∧ w.frozen? ⟨g, 3, none⟩ = false ∧ w.frozen? ⟨g, 4, none⟩ = false :=
  ⟨h.cell 0, h.cell 1, h.cell 2, h.cell 3, h.cell 4, h.free 0, h.free 1, h.free 2, h.free 3, h.free 4⟩
/-- what a world keeps in which one block was written -/
structure Wrote (w W : World) (g : Nat) : Prop where
  size : W.heap.size = w.heap.size
  below : ∀ {B : Nat} {w0 : World}, Below B w0 w → B ≤ g → Below B w0 W
  cell : ∀ ad : Addr, ad.block ≠ g → W.cell? ad = w.cell? ad
  block : ∀ k, k ≠ g → W.heap[k]? = w.heap[k]?
theorem Wrote.refl (w : World) (g : Nat) : Wrote w w g := ⟨rfl, fun h _ => h, fun _ _ => rfl, fun _ _ => rfl⟩
theorem Wrote.set {W : World} (h : Wrote w W g) (j : Nat) (v : Value) : Wrote w (W.setCell ⟨g, j, none⟩ v) g :=
  ⟨by rw [World.size_setCell, h.size], fun hb hB => (h.below hb hB).setCell (p := ⟨g, j, none⟩) hB v, fun ad hne => (World.cell?_of_block (Below.heap_setCell W ⟨g, j, none⟩ v _ hne)).trans (h.cell ad hne), fun k hne => (Below.heap_setCell W ⟨g, j, none⟩ v k hne).trans (h.block k hne)⟩
theorem Box.write2 (h : Box w g t #[a0, a1]) (v0 v1 : Value) : ∃ W, ((w.setCell ⟨g, 0, none⟩ v0).setCell ⟨g, 1, none⟩ v1) = W ∧ Box W g t #[v0, v1] ∧ Wrote w W g :=
  ⟨_, rfl, (h.put 0 v0).put 1 v1, ((Wrote.refl w g).set 0 v0).set 1 v1⟩
theorem Box.write4 (h : Box w g t #[a0, a1, a2, a3]) (v0 v1 v2 v3 : Value) : ∃ W, ((((w.setCell ⟨g, 0, none⟩ v0).setCell ⟨g, 1, none⟩ v1).setCell ⟨g, 2, none⟩ v2).setCell ⟨g, 3, none⟩ v3) = W ∧ Box W g t #[v0, v1, v2, v3] ∧ Wrote w W g :=
  ⟨_, rfl, (((h.put 0 v0).put 1 v1).put 2 v2).put 3 v3, ((((Wrote.refl w g).set 0 v0).set 1 v1).set 2 v2).set 3 v3⟩
theorem Box.write5 (h : Box w g t #[a0, a1, a2, a3, a4]) (v0 v1 v2 v3 v4 : Value) : ∃ W, (((((w.setCell ⟨g, 0, none⟩ v0).setCell ⟨g, 1, none⟩ v1).setCell ⟨g, 2, none⟩ v2).setCell ⟨g, 3, none⟩ v3).setCell ⟨g, 4, none⟩ v4) = W ∧ Box W g t #[v0, v1, v2, v3, v4] ∧ Wrote w W g :=
  ⟨_, rfl, ((((h.put 0 v0).put 1 v1).put 2 v2).put 3 v3).put 4 v4, (((((Wrote.refl w g).set 0 v0).set 1 v1).set 2 v2).set 3 v3).set 4 v4⟩
theorem Box.wrote {w W : World} {g g' : Nat} {t : TypeId} {cs : Array Value} (h : Box w g t cs) (hw : Wrote w W g') (hne : g ≠ g') : Box W g t cs := (hw.block g hne).trans h
theorem Box.at_ {w : World} {k : Nat} (cs : Array Value) (t : TypeId) (hk : w.heap.size = k) : Box (w.alloc (.cells cs t)) k t cs := by subst hk; exact Box.new w cs t
end
end Go.Proofs.Ytbkklnihgejeoaa.Mm
