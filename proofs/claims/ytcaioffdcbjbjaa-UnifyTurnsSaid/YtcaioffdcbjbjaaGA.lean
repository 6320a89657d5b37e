/-
  WORDS ON MEMORY: a block that is known whole; rows that the call owns, cut, kept beside stores elsewhere. No program in sight.
-/
import Derived.WalkKit
import Derived.ProofKit
import Derived.Lib.Hide
import Derived.Below
import Derived.Laws.OwnMore
import Derived.OneCell
import Derived.Deep.Draws
import Derived.Maps.Own
import Derived.Maps.OwnOps
import Derived.Maps.OwnSet
import Derived.Maps.Views
import Derived.RangeFuncNested
import Derived.RangeFuncBound
import Derived.RangeFuncCalls
import Derived.RangeFuncLeaves
import Derived.Shelf.Abstract
import Derived.BigQuiet
import Derived.StillTail
import Derived.KernelRfl
namespace Go.Proofs.Ytcaioffdcbjbjaa.Mm
open Go.RowKit
set_option linter.unusedVariables false

/-- block g holds just these cells, none of which is frozen -/
def Box (w : World) (g : Nat) (t : TypeId) (cs : Array Value) : Prop := w.heap[g]? = some (.cells cs t (0, 0))
section
variable {w w' : World} {g : Nat} {t : TypeId} {cs : Array Value}
theorem Box.lt (h : Box w g t cs) : g < w.heap.size := lt_of_block h
theorem Box.cell (h : Box w g t cs) (j : Nat) : w.cell? ⟨g, j, none⟩ = cs[j]? := cell_of_row w g j cs t (0, 0) h
theorem Box.free (h : Box w g t cs) (j : Nat) : w.frozen? ⟨g, j, none⟩ = false := frozen_of_row w g j cs t h
theorem Box.new (w : World) (cs : Array Value) (t : TypeId) : Box (w.alloc (.cells cs t)) w.heap.size t cs := heap_alloc_new w _
theorem Box.alloc (h : Box w g t cs) (o : Obj) : Box (w.alloc o) g t cs := (Below.heap_alloc w o g h.lt).trans h
theorem Box.drew (h : Box w g t cs) : Box w.drew g t cs := h
theorem Box.drewN (h : Box w g t cs) (n : Nat) : Box (w.drewN n) g t cs := h
theorem Box.far (h : Box w g t cs) {a : Addr} (ha : a.block ≠ g) (u : Value) : Box (w.setCell a u) g t cs := (heap_setCell_other w a g u (fun e => ha e.symm)).trans h
theorem Box.put (h : Box w g t cs) (i : Nat) (u : Value) : Box (w.setCell ⟨g, i, none⟩ u) g t (cs.setIfInBounds i u) := heap_setCell_same w g i cs t u h
theorem Box.below {B : Nat} (h : Box w g t cs) (hb : Below B w w') (hg : g < B) : Box w' g t cs := (hb.block g hg).trans h
theorem Box.grown {row : Option Nat} (h : Box w g t cs) (hb : w.grownBy w' row) (hg : some g ≠ row) : Box w' g t cs := (hb.block g h.lt hg).trans h
theorem Box.same {t' : TypeId} {cs' : Array Value} (h : Box w g t cs) (h' : Box w g t' cs') : t = t' := by
  unfold Box at h h'
  rw [h] at h'
  injection h' with h'
  injection h' with _ ht
end
section
variable {w w' : World} {B : Nat} {e : TypeId} {size n : Nat} {v : Value} {xs : List Value}
theorem own_form {m : Nat} (h : w.ownsRow B e size v (m + 1) xs) : ∃ g c, v = .slice (some ⟨g, 0, none⟩) (m + 1) c ∧ B ≤ g ∧ g < w.heap.size ∧ m + 1 ≤ c := by
  have hx := h
  rcases h.2 with ⟨_, hn⟩ | ⟨g, cap, cur, rfl, hg, hh, hc, _⟩
  · cases hn
  · exact ⟨g, cap, rfl, hg, lt_of_block hh, hc⟩
theorem own_at {b : Option Addr} {c : Nat} (h : w.ownsRow B e size (.slice b n c) n xs) (hn : 0 < n) : ∃ g, b = some ⟨g, 0, none⟩ ∧ B ≤ g ∧ g < w.heap.size ∧ n ≤ c ∧ ∀ j, j < n * size → w.cell? ⟨g, j, none⟩ = xs[j]? := by
  obtain ⟨m, rfl⟩ : ∃ m, n = m + 1 := ⟨n - 1, by omega⟩
  obtain ⟨g, c', hv, h1, h2, h3⟩ := own_form h
  injection hv with hb _ hc
  subst hb
  subst hc
  exact ⟨g, rfl, h1, h2, h3, fun j hj => World.ownsRow.cellAt h j hj⟩
theorem own_slice (h : w.ownsRow B e size v n xs) : ∃ b c, v = .slice b n c := by
  rcases h.2 with ⟨rfl, rfl⟩ | ⟨g, cap, cur, rfl, _⟩
  · exact ⟨_, _, rfl⟩
  · exact ⟨_, _, rfl⟩
/-- a row cut behind some of its elements -/
theorem own_cut {g c m : Nat} (h : w.ownsRow B e size (.slice (some ⟨g, 0, none⟩) n c) n xs) (hm : m ≤ n) : w.ownsRow B e size (.slice (some ⟨g, 0, none⟩) m c) m (xs.take (m * size)) := by
  rcases h.2 with ⟨h', _⟩ | ⟨g', cap', cur, h', hb, hg, hnc, hcm, hcs, htake⟩
  · simp at h'
  · simp only [Value.slice.injEq, Option.some.injEq, Addr.mk.injEq, and_true, true_and] at h'
    obtain ⟨rfl, rfl⟩ := h'
    have hle : m * size ≤ n * size := Nat.mul_le_mul_right _ hm
    refine ⟨by rw [List.length_take, h.1]; omega, .inr ⟨g, c, cur, rfl, hb, hg, by omega, hcm, hcs, ?_⟩⟩
    rw [← htake, List.take_take, Nat.min_eq_left hle]
theorem own_below {B' : Nat} (h : w.ownsRow B e size v n xs) (hb : Below B' w w') (hl : ∀ g, v.ownBlock = some g → g < B') : w'.ownsRow B e size v n xs := by
  refine ⟨h.1, ?_⟩
  rcases h.2 with h2 | ⟨g, cap, cur, rfl, hg, hh, r⟩
  · exact .inl h2
  · exact .inr ⟨g, cap, cur, rfl, hg, by rw [hb.block g (hl g rfl)]; exact hh, r⟩
theorem own_here (h : w.ownsRow B e size v n xs) (hb : Below w.heap.size w w') : w'.ownsRow B e size v n xs := own_below h hb fun g hg => (h.lt g hg).2
theorem own_base {B' : Nat} (h : w.ownsRow B e size v n xs) (hB : B' ≤ B) : w.ownsRow B' e size v n xs := by
  refine ⟨h.1, ?_⟩
  rcases h.2 with h2 | ⟨g, cap, cur, rfl, hg, r⟩
  · exact .inl h2
  · exact .inr ⟨g, cap, cur, rfl, by omega, r⟩
theorem own_drew (h : w.ownsRow B e size v n xs) : w.drew.ownsRow B e size v n xs := h
theorem own_drewN (h : w.ownsRow B e size v n xs) (k : Nat) : (w.drewN k).ownsRow B e size v n xs := h
/-- the block of a row that is owned -/
theorem own_block {g c : Nat} (h : w.ownsRow B e size (.slice (some ⟨g, 0, none⟩) n c) n xs) : ∃ cur, Box w g e cur := by
  rcases h.2 with ⟨h', _⟩ | ⟨g', cap', cur, h', hb, hg, _⟩
  · simp at h'
  · simp only [Value.slice.injEq, Option.some.injEq, Addr.mk.injEq, and_true, true_and] at h'
    obtain ⟨rfl, rfl⟩ := h'
    exact ⟨cur, hg⟩
theorem own_far {g : Nat} {t : TypeId} {cs : Array Value} (h : w.ownsRow B e size v n xs) (hx : Box w g t cs) (hne : e ≠ t) (j : Nat) (u : Value) : (w.setCell ⟨g, j, none⟩ u).ownsRow B e size v n xs := by
  refine ownsRow_setCell_other h ?_ u
  intro hv
  rcases h.2 with ⟨rfl, _⟩ | ⟨g', cap, cur, rfl, _, hh, _⟩
  · simp [Value.ownBlock] at hv
  · obtain rfl : g' = g := by simpa [Value.ownBlock] using hv
    exact hne (Box.same hh hx)
theorem own_ne {g : Nat} {t : TypeId} {cs : Array Value} (h : w.ownsRow B e size v n xs) (hx : Box w g t cs) (hne : e ≠ t) : some g ≠ v.ownBlock := by
  intro hv
  rcases h.2 with ⟨rfl, _⟩ | ⟨g', cap, cur, rfl, _, hh, _⟩
  · simp [Value.ownBlock] at hv
  · obtain rfl : g' = g := by simpa [Value.ownBlock] using hv.symm
    exact hne (Box.same hh hx)
end
end Go.Proofs.Ytcaioffdcbjbjaa.Mm
/-
  WORDS ON MEMORY: a struct's box of two, four, five cells: read, written as a whole. No program in sight.
-/
namespace Go.Proofs.Ytcaioffdcbjbjaa.Mm
open Go.RowKit
set_option linter.unusedVariables false
section
variable {w : World} {g : Nat} {t : TypeId} {a0 a1 a2 a3 a4 : Value}
theorem Box.cells2 (h : Box w g t #[a0, a1]) : w.cell? ⟨g, 0, none⟩ = some a0 ∧ w.cell? ⟨g, 1, none⟩ = some a1 ∧ w.frozen? ⟨g, 0, none⟩ = false ∧ w.frozen? ⟨g, 1, none⟩ = false :=
  ⟨h.cell 0, h.cell 1, h.free 0, h.free 1⟩
theorem Box.cells4 (h : Box w g t #[a0, a1, a2, a3]) : w.cell? ⟨g, 0, none⟩ = some a0 ∧ w.cell? ⟨g, 1, none⟩ = some a1 ∧ w.cell? ⟨g, 2, none⟩ = some a2 ∧ w.cell? ⟨g, 3, none⟩ = some a3 ∧ w.frozen? ⟨g, 0, none⟩ = false ∧ w.frozen? ⟨g, 1, none⟩ = false ∧ w.frozen? ⟨g, 2, none⟩ = false ∧ w.frozen? ⟨g, 3, none⟩ = false :=
  ⟨h.cell 0, h.cell 1, h.cell 2, h.cell 3, h.free 0, h.free 1, h.free 2, h.free 3⟩
theorem Box.cells5 (h : Box w g t #[a0, a1, a2, a3, a4]) : w.cell? ⟨g, 0, none⟩ = some a0 ∧ w.cell? ⟨g, 1, none⟩ = some a1 ∧ w.cell? ⟨g, 2, none⟩ = some a2 ∧ w.cell? ⟨g, 3, none⟩ = some a3 ∧ w.cell? ⟨g, 4, none⟩ = some a4 ∧ w.frozen? ⟨g, 0, none⟩ = false ∧ w.frozen? ⟨g, 1, none⟩ = false ∧ w.frozen? ⟨g, 2, none⟩ = false ∧ w.frozen? ⟨g, 3, none⟩ = false ∧ w.frozen? ⟨g, 4, none⟩ = false :=
  ⟨h.cell 0, h.cell 1, h.cell 2, h.cell 3, h.cell 4, h.free 0, h.free 1, h.free 2, h.free 3, h.free 4⟩
/-- what a world keeps in which one block was written -/
structure Wrote (w W : World) (g : Nat) : Prop where
  size : W.heap.size = w.heap.size
  below : ∀ {B : Nat} {w0 : World}, Below B w0 w → B ≤ g → Below B w0 W
  cell : ∀ ad : Addr, ad.block ≠ g → W.cell? ad = w.cell? ad
  block : ∀ k, k ≠ g → W.heap[k]? = w.heap[k]?
theorem Wrote.refl (w : World) (g : Nat) : Wrote w w g := ⟨rfl, fun h _ => h, fun _ _ => rfl, fun _ _ => rfl⟩
theorem Wrote.set {W : World} (h : Wrote w W g) (j : Nat) (v : Value) : Wrote w (W.setCell ⟨g, j, none⟩ v) g :=
  ⟨by rw [World.size_setCell, h.size], fun hb hB => (h.below hb hB).setCell (p := ⟨g, j, none⟩) hB v, fun ad hne => (World.cell?_of_block (Below.heap_setCell W ⟨g, j, none⟩ v _ hne)).trans (h.cell ad hne), fun k hne => (Below.heap_setCell W ⟨g, j, none⟩ v k hne).trans (h.block k hne)⟩
theorem Box.write2 (h : Box w g t #[a0, a1]) (v0 v1 : Value) : ∃ W, ((w.setCell ⟨g, 0, none⟩ v0).setCell ⟨g, 1, none⟩ v1) = W ∧ Box W g t #[v0, v1] ∧ Wrote w W g :=
  ⟨_, rfl, (h.put 0 v0).put 1 v1, ((Wrote.refl w g).set 0 v0).set 1 v1⟩
theorem Box.write4 (h : Box w g t #[a0, a1, a2, a3]) (v0 v1 v2 v3 : Value) : ∃ W, ((((w.setCell ⟨g, 0, none⟩ v0).setCell ⟨g, 1, none⟩ v1).setCell ⟨g, 2, none⟩ v2).setCell ⟨g, 3, none⟩ v3) = W ∧ Box W g t #[v0, v1, v2, v3] ∧ Wrote w W g :=
  ⟨_, rfl, (((h.put 0 v0).put 1 v1).put 2 v2).put 3 v3, ((((Wrote.refl w g).set 0 v0).set 1 v1).set 2 v2).set 3 v3⟩
theorem Box.write5 (h : Box w g t #[a0, a1, a2, a3, a4]) (v0 v1 v2 v3 v4 : Value) : ∃ W, (((((w.setCell ⟨g, 0, none⟩ v0).setCell ⟨g, 1, none⟩ v1).setCell ⟨g, 2, none⟩ v2).setCell ⟨g, 3, none⟩ v3).setCell ⟨g, 4, none⟩ v4) = W ∧ Box W g t #[v0, v1, v2, v3, v4] ∧ Wrote w W g :=
  ⟨_, rfl, ((((h.put 0 v0).put 1 v1).put 2 v2).put 3 v3).put 4 v4, (((((Wrote.refl w g).set 0 v0).set 1 v1).set 2 v2).set 3 v3).set 4 v4⟩
theorem Box.wrote {w W : World} {g g' : Nat} {t : TypeId} {cs : Array Value} (h : Box w g t cs) (hw : Wrote w W g') (hne : g ≠ g') : Box W g t cs := (hw.block g hne).trans h
theorem Box.at_ {w : World} {k : Nat} (cs : Array Value) (t : TypeId) (hk : w.heap.size = k) : Box (w.alloc (.cells cs t)) k t cs := by subst hk; exact Box.new w cs t
end
end Go.Proofs.Ytcaioffdcbjbjaa.Mm
/-
  WORDS ON MEMORY: a struct's box of seven, of nine cells: read, written as a whole. No program in sight.
-/
namespace Go.Proofs.Ytcaioffdcbjbjaa.Mm
open Go.RowKit
set_option linter.unusedVariables false
section
variable {w : World} {g : Nat} {t : TypeId} {a0 a1 a2 a3 a4 a5 a6 a7 a8 : Value}
theorem Box.cells7 (h : Box w g t #[a0, a1, a2, a3, a4, a5, a6]) : w.cell? ⟨g, 0, none⟩ = some a0 ∧ w.cell? ⟨g, 1, none⟩ = some a1 ∧ w.cell? ⟨g, 2, none⟩ = some a2 ∧ w.cell? ⟨g, 3, none⟩ = some a3 ∧ w.cell? ⟨g, 4, none⟩ = some a4 ∧ w.cell? ⟨g, 5, none⟩ = some a5 ∧ w.cell? ⟨g, 6, none⟩ = some a6 :=
  ⟨h.cell 0, h.cell 1, h.cell 2, h.cell 3, h.cell 4, h.cell 5, h.cell 6⟩
theorem Box.free7 (h : Box w g t #[a0, a1, a2, a3, a4, a5, a6]) : w.frozen? ⟨g, 0, none⟩ = false ∧ w.frozen? ⟨g, 1, none⟩ = false ∧ w.frozen? ⟨g, 2, none⟩ = false ∧ w.frozen? ⟨g, 3, none⟩ = false ∧ w.frozen? ⟨g, 4, none⟩ = false ∧ w.frozen? ⟨g, 5, none⟩ = false ∧ w.frozen? ⟨g, 6, none⟩ = false :=
  ⟨h.free 0, h.free 1, h.free 2, h.free 3, h.free 4, h.free 5, h.free 6⟩
theorem Box.cells9 (h : Box w g t #[a0, a1, a2, a3, a4, a5, a6, a7, a8]) : w.cell? ⟨g, 0, none⟩ = some a0 ∧ w.cell? ⟨g, 1, none⟩ = some a1 ∧ w.cell? ⟨g, 2, none⟩ = some a2 ∧ w.cell? ⟨g, 3, none⟩ = some a3 ∧ w.cell? ⟨g, 4, none⟩ = some a4 ∧ w.cell? ⟨g, 5, none⟩ = some a5 ∧ w.cell? ⟨g, 6, none⟩ = some a6 ∧ w.cell? ⟨g, 7, none⟩ = some a7 ∧ w.cell? ⟨g, 8, none⟩ = some a8 :=
  ⟨h.cell 0, h.cell 1, h.cell 2, h.cell 3, h.cell 4, h.cell 5, h.cell 6, h.cell 7, h.cell 8⟩
theorem Box.free9 (h : Box w g t #[a0, a1, a2, a3, a4, a5, a6, a7, a8]) : w.frozen? ⟨g, 0, none⟩ = false ∧ w.frozen? ⟨g, 1, none⟩ = false ∧ w.frozen? ⟨g, 2, none⟩ = false ∧ w.frozen? ⟨g, 3, none⟩ = false ∧ w.frozen? ⟨g, 4, none⟩ = false ∧ w.frozen? ⟨g, 5, none⟩ = false ∧ w.frozen? ⟨g, 6, none⟩ = false ∧ w.frozen? ⟨g, 7, none⟩ = false ∧ w.frozen? ⟨g, 8, none⟩ = false :=
  ⟨h.free 0, h.free 1, h.free 2, h.free 3, h.free 4, h.free 5, h.free 6, h.free 7, h.free 8⟩
/-- the box, its cells written anew -/
theorem Box.write7 (h : Box w g t #[a0, a1, a2, a3, a4, a5, a6]) (v0 v1 v2 v3 v4 v5 v6 : Value) : ∃ W, (((((((w.setCell ⟨g, 0, none⟩ v0).setCell ⟨g, 1, none⟩ v1).setCell ⟨g, 2, none⟩ v2).setCell ⟨g, 3, none⟩ v3).setCell ⟨g, 4, none⟩ v4).setCell ⟨g, 5, none⟩ v5).setCell ⟨g, 6, none⟩ v6) = W ∧ Box W g t #[v0, v1, v2, v3, v4, v5, v6] ∧ Wrote w W g := by
  have h0 : Box _ g t #[v0, a1, a2, a3, a4, a5, a6] := h.put 0 v0
  have h1 : Box _ g t #[v0, v1, a2, a3, a4, a5, a6] := h0.put 1 v1
  have h2 : Box _ g t #[v0, v1, v2, a3, a4, a5, a6] := h1.put 2 v2
  have h3 : Box _ g t #[v0, v1, v2, v3, a4, a5, a6] := h2.put 3 v3
  have h4 : Box _ g t #[v0, v1, v2, v3, v4, a5, a6] := h3.put 4 v4
  have h5 : Box _ g t #[v0, v1, v2, v3, v4, v5, a6] := h4.put 5 v5
  have h6 : Box _ g t #[v0, v1, v2, v3, v4, v5, v6] := h5.put 6 v6
  exact ⟨_, rfl, h6, ((((((((Wrote.refl w g).set 0 v0).set 1 v1).set 2 v2).set 3 v3).set 4 v4).set 5 v5).set 6 v6)⟩
theorem Box.write9 (h : Box w g t #[a0, a1, a2, a3, a4, a5, a6, a7, a8]) (v0 v1 v2 v3 v4 v5 v6 v7 v8 : Value) : ∃ W, (((((((((w.setCell ⟨g, 0, none⟩ v0).setCell ⟨g, 1, none⟩ v1).setCell ⟨g, 2, none⟩ v2).setCell ⟨g, 3, none⟩ v3).setCell ⟨g, 4, none⟩ v4).setCell ⟨g, 5, none⟩ v5).setCell ⟨g, 6, none⟩ v6).setCell ⟨g, 7, none⟩ v7).setCell ⟨g, 8, none⟩ v8) = W ∧ Box W g t #[v0, v1, v2, v3, v4, v5, v6, v7, v8] ∧ Wrote w W g := by
  have h0 : Box _ g t #[v0, a1, a2, a3, a4, a5, a6, a7, a8] := h.put 0 v0
  have h1 : Box _ g t #[v0, v1, a2, a3, a4, a5, a6, a7, a8] := h0.put 1 v1
  have h2 : Box _ g t #[v0, v1, v2, a3, a4, a5, a6, a7, a8] := h1.put 2 v2
  have h3 : Box _ g t #[v0, v1, v2, v3, a4, a5, a6, a7, a8] := h2.put 3 v3
  have h4 : Box _ g t #[v0, v1, v2, v3, v4, a5, a6, a7, a8] := h3.put 4 v4
  have h5 : Box _ g t #[v0, v1, v2, v3, v4, v5, a6, a7, a8] := h4.put 5 v5
  have h6 : Box _ g t #[v0, v1, v2, v3, v4, v5, v6, a7, a8] := h5.put 6 v6
  have h7 : Box _ g t #[v0, v1, v2, v3, v4, v5, v6, v7, a8] := h6.put 7 v7
  have h8 : Box _ g t #[v0, v1, v2, v3, v4, v5, v6, v7, v8] := h7.put 8 v8
  exact ⟨_, rfl, h8, ((((((((((Wrote.refl w g).set 0 v0).set 1 v1).set 2 v2).set 3 v3).set 4 v4).set 5 v5).set 6 v6).set 7 v7).set 8 v8)⟩
end
end Go.Proofs.Ytcaioffdcbjbjaa.Mm
/-
  WORDS ON MAPS of any keys and elements: a block that reads as a function of the key's datum, its entries counted: looked up, stored into, struck. No program in sight.
-/
namespace Go.Proofs.Ytcaioffdcbjbjaa.Mk
open Go.RowKit Mm Go.Maps Go.ChangeMaps
set_option linter.unusedVariables false
abbrev FK := Lit → Option Value
/-- an element is read as itself -/
def rawK (v : Value) : Option (DataW Value × List MemPlace) := some (.held v, [])
open Classical in
noncomputable def updK (F : FK) (s : Lit) (v : Value) : FK := fun x => if x = s then some v else F x
open Classical in
noncomputable def delK (F : FK) (s : Lit) : FK := fun x => if x = s then none else F x
/-- the datum reads as F -/
def ReadsK (D : DataW Value) (F : FK) : Prop := ∀ s, WideAt.IsKeyLit s → ∀ z, D.atKey s z = ((F s).elim z .held)
/-- Block b is a map of c entries that reads as F. -/
def MapK (w : World) (P : Program) (k : TypeId) (b : Nat) (F : FK) (c : Nat) : Prop :=
  ∃ D : DataW Value, w.ownsMap P k rawK b c D ∧ ReadsK D F ∧ Maps.size D = c
section
variable {w : World} {P : Program} {k : TypeId} {b c n : Nat} {F : FK} {D : DataW Value}
theorem own_tight (h : w.ownsMap P k rawK b n D) : w.ownsMap P k rawK b (Maps.size D) D := by
  obtain ⟨es, clock, k1, k2, k3, k4⟩ := h
  refine ⟨es, clock, k1, k2, ?_, k4⟩
  subst k4
  simp [Maps.size, length_sorted]
theorem MapK.made (w : World) (P : Program) (k : TypeId) : MapK (w.alloc (.map #[] 0)) P k w.heap.size (fun _ => none) 0 :=
  ⟨_, World.ownsMap_made _ _ _ _, fun s _ z => by simp [DataW.atKey], rfl⟩
theorem MapK.congr (h : MapK w P k b F c) {F' : FK} (hF : ∀ s, F s = F' s) : MapK w P k b F' c := by
  obtain ⟨D, h1, h2, h3⟩ := h
  exact ⟨D, h1, fun s hs z => by rw [h2 s hs, hF], h3⟩
theorem MapK.lt (h : MapK w P k b F c) : b < w.heap.size := by
  obtain ⟨D, h1, h2⟩ := h
  exact h1.lt
theorem MapK.same (h : MapK w P k b F c) {w' : World} (hb : w'.heap[b]? = w.heap[b]?) : MapK w' P k b F c := by
  obtain ⟨D, ⟨es, clock, k1, k2, k3, k4⟩, h2⟩ := h
  exact ⟨D, ⟨es, clock, hb.trans k1, k2, k3, k4⟩, h2⟩
theorem MapK.below (h : MapK w P k b F c) {B : Nat} {w' : World} (hb : Below B w w') (hlt : b < B) : MapK w' P k b F c := h.same (hb.block b hlt)
theorem MapK.kept (h : MapK w P k b F c) {w' : World} {row : Option Nat} (hg : w.grownBy w' row) (hne : some b ≠ row) : MapK w' P k b F c := h.same (hg.block b h.lt hne)
theorem MapK.alloc (h : MapK w P k b F c) (o : Obj) : MapK (w.alloc o) P k b F c := h.same (Below.heap_alloc w o b h.lt)
theorem MapK.drew (h : MapK w P k b F c) : MapK w.drew P k b F c := h
theorem MapK.drewN (h : MapK w P k b F c) (j : Nat) : MapK (w.drewN j) P k b F c := h
theorem MapK.setCell (h : MapK w P k b F c) {a : Addr} (ha : b ≠ a.block) (u : Value) : MapK (w.setCell a u) P k b F c := by
  obtain ⟨D, h1, h2⟩ := h
  exact ⟨D, h1.setCell ha u, h2⟩
theorem MapK.ne (h : MapK w P k b F c) {g : Nat} {t : TypeId} {cs : Array Value} (hx : Box w g t cs) : b ≠ g := by
  rintro rfl
  obtain ⟨D, ⟨es, clock, k1, _⟩, _⟩ := h
  unfold Box at hx
  rw [hx] at k1
  cases k1
theorem hasK {s : Lit} (h : ∀ z, D.atKey s z = ((F s).elim z .held)) : Maps.has D s = (F s).isSome := by
  cases hF : F s with
  | none => exact has_false_of_atKey fun z => by rw [h, hF]; rfl
  | some v => exact has_true_of_atKey (y := .held v) fun z => by rw [h, hF]; rfl
theorem rawK_inv {v : Value} {d : DataW Value} {ps : List MemPlace} {z : Value} {s : Lit} (hv : rawK v = some (d, ps)) (hd : d = ((F s).elim (.held z) .held)) : v = (F s).getD z := by
  unfold rawK at hv
  injection hv with hv
  injection hv with h1 h2
  rw [hd] at h1
  cases hF : F s with
  | none => rw [hF] at h1; injection h1
  | some u => rw [hF] at h1; injection h1
/-- m[s] -/
theorem MapK.look {t e : TypeId} (h : MapK w P k b F c) (K : Keyed P k) (ht : P.underlying t = some (.map k e)) {z : Value} (hz : (zeroValue e).run P w = .ok z w) {key : Value} {s : Lit} (hkey : keyOf P k key = some s) (hs : WideAt.IsKeyLit s) :
    (Instr.lookup t (.map (some b)) key false).run P w = .ok ((F s).getD z) w := by
  obtain ⟨D, h1, h2, _⟩ := h
  obtain ⟨v, ps, hrun, hv⟩ := h1.lookup K ht hz (show rawK z = some (.held z, []) from rfl) hkey
  rw [hrun, rawK_inv hv (h2 s hs _)]
/-- v, ok := m[s] -/
theorem MapK.look_ok {t e : TypeId} (h : MapK w P k b F c) (K : Keyed P k) (ht : P.underlying t = some (.map k e)) {z : Value} (hz : (zeroValue e).run P w = .ok z w) {key : Value} {s : Lit} (hkey : keyOf P k key = some s) (hs : WideAt.IsKeyLit s) :
    (Instr.lookup t (.map (some b)) key true).run P w = .ok (.tuple #[(F s).getD z, .bool (F s).isSome]) w := by
  obtain ⟨D, h1, h2, _⟩ := h
  obtain ⟨v, ps, hrun, hv⟩ := h1.look_ok K ht hz (show rawK z = some (.held z, []) from rfl) hkey
  rw [hrun, rawK_inv hv (h2 s hs _), hasK (h2 s hs)]
/-- len(m) -/
theorem MapK.len {t e : TypeId} (h : MapK w P k b F c) (ht : P.underlying t = some (.map k e)) (ty : TypeId) : (Builtin.len_ #[t] ty #[.map (some b)]).run P w = .ok (.int .i64 c) w := by
  obtain ⟨D, h1, h2, h3⟩ := h
  rw [← h3]
  exact h1.len ht ty
theorem put_isK (hD : IsMap D) (h : ReadsK D F) (s : Lit) (hs : WideAt.IsKeyLit s) (v : Value) : ReadsK (D.put s (.held v)) (updK F s v) := by
  intro x hx z
  unfold updK
  by_cases e : x = s
  · subst e
    rw [if_pos rfl, atKey_put_same hD hs]
    rfl
  · rw [if_neg e, atKey_put_other e, h x hx]
theorem del_isK (h : ReadsK D F) (s : Lit) : ReadsK (D.del s) (delK F s) := by
  intro x hx z
  unfold delK
  by_cases e : x = s
  · subst e
    rw [if_pos rfl, atKey_del_same]
    rfl
  · rw [if_neg e, atKey_del_other e, h x hx]
/-- how many entries there are behind a store -/
def cntPut (F : FK) (s : Lit) (c : Nat) : Nat := if (F s).isSome then c else c + 1
def cntDel (F : FK) (s : Lit) (c : Nat) : Nat := if (F s).isSome then c - 1 else c
theorem put_sizeK (h : w.ownsMap P k rawK b n D) (K : Keyed P k) (hr : ReadsK D F) {s : Lit} (hs : WideAt.IsKeyLit s) (hc : Maps.size D = c) (v : DataW Value) : Maps.size (D.put s v) = cntPut F s c := by
  unfold cntPut
  rw [size_put (h.tidy K), hasK (hr s hs), hc]
theorem del_sizeK (h : w.ownsMap P k rawK b n D) (K : Keyed P k) (hr : ReadsK D F) {s : Lit} (hs : WideAt.IsKeyLit s) (hc : Maps.size D = c) : Maps.size (D.del s) = cntDel F s c := by
  have h1 := size_del (k := s) (h.tidy K)
  rw [hasK (hr s hs), hc] at h1
  unfold cntDel
  split <;> rename_i hq <;> simp only [hq] at h1 <;> simp at h1 <;> omega
end
theorem turned_same {w w' : World} {b : Nat} (h : w.mapTurned w' b) : w.grownBy w' (some b) ∧ w'.heap.size = w.heap.size := by
  refine ⟨h.grown, ?_⟩
  obtain ⟨es, clock, es', clock', hb, rfl⟩ := h
  simp [setBlock]
section
variable {P : Program} (w : World) {ops : Array Oper} {rest : List Oper} {o : Oper} {a : Act} {Q : Exit → Act → World → Prop}
/-- m[s] = v at the operation -/
theorem wpList_putK (hg : o.guard = none) (m x v : Operand) (t : TypeId) (hop : o.op = Op.mapUpdate t m x v)
    (k e : TypeId) (K : Keyed P k) (ht : P.underlying t = some (.map k e)) (b : Nat) (F : FK) (c : Nat)
    (hm : a.eval m = .map (some b)) (hown : MapK w P k b F c) (hn : c < maxLen) (key val : Value) (s : Lit) (hs : WideAt.IsKeyLit s) (hx : a.eval x = key) (hv : a.eval v = val) (hkey : keyOf P k key = some s)
    (hK : ∀ w', MapK w' P k b (updK F s val) (cntPut F s c) → w.mapTurned w' b → wpList P ops Q rest (a.put o.dst undef) w') :
    wpList P ops Q (o :: rest) a w := by
  obtain ⟨D, h1, h2, h3⟩ := hown
  refine wpList_mapUpdate_in w hg m x v t hop k e K ht rawK b c D hm h1 hn key val s hx hv hkey (.held val) [] rfl fun w' k1 k2 => hK w' ?_ k2
  have h4 := put_sizeK h1 K h2 hs h3 (.held val)
  exact ⟨_, by rw [← h4]; exact own_tight k1, put_isK h1.isMap h2 s hs val, h4⟩
/-- delete(m, s) at the operation -/
theorem wpList_delK (hg : o.guard = none) (m x : Operand) (t k : TypeId) (hop : o.op = Op.call { callee := Callee.builtin Builtin.delete, args := #[m, x], argTypes := #[t, k] })
    (e : TypeId) (K : Keyed P k) (ht : P.underlying t = some (.map k e)) (b : Nat) (F : FK) (c : Nat)
    (hm : a.eval m = .map (some b)) (hown : MapK w P k b F c) (key : Value) (s : Lit) (hs : WideAt.IsKeyLit s) (hx : a.eval x = key) (hkey : keyOf P k key = some s)
    (hK : ∀ w', MapK w' P k b (delK F s) (cntDel F s c) → w.mapTurned w' b → wpList P ops Q rest (a.put o.dst (.tuple #[])) w') :
    wpList P ops Q (o :: rest) a w := by
  obtain ⟨D, h1, h2, h3⟩ := hown
  refine wpList_delete_own w hg m x t k hop e K ht rawK b c D hm h1 key s hx hkey fun w' k1 k2 => hK w' ?_ k2
  have h4 := del_sizeK h1 K h2 hs h3
  exact ⟨_, by rw [← h4]; exact own_tight k1, del_isK h2 s, h4⟩
/-- m[s] at the operation -/
theorem wpList_lookK (hg : o.guard = none) (m x : Operand) (t : TypeId) (hop : o.op = Op.lookup t m x false)
    (k e : TypeId) (K : Keyed P k) (ht : P.underlying t = some (.map k e)) {z : Value} (hz : (zeroValue e).run P w = .ok z w) (b : Nat) (F : FK) (c : Nat)
    (hm : a.eval m = .map (some b)) (hown : MapK w P k b F c) (key : Value) (s : Lit) (hs : WideAt.IsKeyLit s) (hx : a.eval x = key) (hkey : keyOf P k key = some s)
    (hK : wpList P ops Q rest (a.put o.dst ((F s).getD z)) w) :
    wpList P ops Q (o :: rest) a w := by
  refine wpList_plain hg fun K' hK' => ?_
  have hrun := hown.look K ht hz hkey hs
  unfold Oper.wp
  simp [execOp, hop, hm, hx, hrun, Result.andThen]
  exact hK' _ _ hK
/-- v, ok := m[s] at the operation -/
theorem wpList_look_okK (hg : o.guard = none) (m x : Operand) (t : TypeId) (hop : o.op = Op.lookup t m x true)
    (k e : TypeId) (K : Keyed P k) (ht : P.underlying t = some (.map k e)) {z : Value} (hz : (zeroValue e).run P w = .ok z w) (b : Nat) (F : FK) (c : Nat)
    (hm : a.eval m = .map (some b)) (hown : MapK w P k b F c) (key : Value) (s : Lit) (hs : WideAt.IsKeyLit s) (hx : a.eval x = key) (hkey : keyOf P k key = some s)
    (hK : wpList P ops Q rest (a.put o.dst (.tuple #[(F s).getD z, .bool (F s).isSome])) w) :
    wpList P ops Q (o :: rest) a w := by
  refine wpList_plain hg fun K' hK' => ?_
  have hrun := hown.look_ok K ht hz hkey hs
  unfold Oper.wp
  simp [execOp, hop, hm, hx, hrun, Result.andThen]
  exact hK' _ _ hK
end
end Go.Proofs.Ytcaioffdcbjbjaa.Mk
/-
  WORDS ON MAPS keyed by texts, whatever their elements are: a block that reads as a function; looked up, stored into. No program in sight.
-/
namespace Go.Proofs.Ytcaioffdcbjbjaa.Mv
open Go.RowKit Mm Go.Maps Go.ChangeMaps
set_option linter.unusedVariables false
abbrev FM := List UInt8 → Option Value
/-- an element is read as itself -/
def rawR (v : Value) : Option (DataW Value × List MemPlace) := some (.held v, [])
def updF (F : FM) (s : List UInt8) (v : Value) : FM := fun x => if x = s then some v else F x
/-- Block b is a map, of at most n entries, that reads as F. -/
def MapIs (w : World) (P : Program) (k : TypeId) (b n : Nat) (F : FM) : Prop :=
  ∃ D : DataW Value, w.ownsMap P k rawR b n D ∧ ∀ s z, D.atKey (.string s) z = ((F s).elim z .held)
section
variable {w : World} {P : Program} {k : TypeId} {b n : Nat} {F : FM}
theorem MapIs.made (w : World) (P : Program) (k : TypeId) : MapIs (w.alloc (.map #[] 0)) P k w.heap.size 0 (fun _ => none) :=
  ⟨_, World.ownsMap_made _ _ _ _, fun s z => by simp [DataW.atKey]⟩
theorem MapIs.mono (h : MapIs w P k b n F) {n' : Nat} (hn : n ≤ n') : MapIs w P k b n' F := by
  obtain ⟨D, h1, h2⟩ := h
  exact ⟨D, h1.mono hn, h2⟩
theorem MapIs.congr (h : MapIs w P k b n F) {F' : FM} (hF : ∀ s, F s = F' s) : MapIs w P k b n F' := by
  obtain ⟨D, h1, h2⟩ := h
  exact ⟨D, h1, fun s z => by rw [h2, hF]⟩
theorem MapIs.lt (h : MapIs w P k b n F) : b < w.heap.size := by
  obtain ⟨D, h1, h2⟩ := h
  exact h1.lt
theorem MapIs.below (h : MapIs w P k b n F) {B : Nat} {w' : World} (hb : Below B w w') (hlt : b < B) : MapIs w' P k b n F := by
  obtain ⟨D, ⟨es, clock, k1, k2, k3, k4⟩, h2⟩ := h
  exact ⟨D, ⟨es, clock, (hb.block b hlt).trans k1, k2, k3, k4⟩, h2⟩
theorem MapIs.kept (h : MapIs w P k b n F) {w' : World} {row : Option Nat} (hg : w.grownBy w' row) (hne : some b ≠ row) : MapIs w' P k b n F := by
  obtain ⟨D, h1, h2⟩ := h
  exact ⟨D, h1.kept hg hne, h2⟩
theorem MapIs.alloc (h : MapIs w P k b n F) (o : Obj) : MapIs (w.alloc o) P k b n F := by
  obtain ⟨D, h1, h2⟩ := h
  exact ⟨D, h1.alloc o, h2⟩
theorem MapIs.drew (h : MapIs w P k b n F) : MapIs w.drew P k b n F := h
theorem MapIs.drewN (h : MapIs w P k b n F) (j : Nat) : MapIs (w.drewN j) P k b n F := h
theorem MapIs.setCell (h : MapIs w P k b n F) {a : Addr} (ha : b ≠ a.block) (u : Value) : MapIs (w.setCell a u) P k b n F := by
  obtain ⟨D, h1, h2⟩ := h
  exact ⟨D, h1.setCell ha u, h2⟩
theorem has_is {D : DataW Value} {s : List UInt8} (h : ∀ z, D.atKey (.string s) z = ((F s).elim z .held)) : Maps.has D (.string s) = (F s).isSome := by
  cases hF : F s with
  | none => exact has_false_of_atKey fun z => by rw [h, hF]; rfl
  | some v => exact has_true_of_atKey (y := .held v) fun z => by rw [h, hF]; rfl
theorem raw_inv {v : Value} {d : DataW Value} {ps : List MemPlace} {z : Value} {s : List UInt8} (hv : rawR v = some (d, ps)) (hd : d = ((F s).elim (.held z) .held)) : v = (F s).getD z := by
  unfold rawR at hv
  injection hv with hv
  injection hv with h1 h2
  rw [hd] at h1
  cases hF : F s with
  | none => rw [hF] at h1; injection h1
  | some u => rw [hF] at h1; injection h1
/-- m[s] -/
theorem MapIs.look {t e : TypeId} (h : MapIs w P k b n F) (K : Keyed P k) (ht : P.underlying t = some (.map k e)) {z : Value} (hz : (zeroValue e).run P w = .ok z w) {key : Value} {s : List UInt8} (hkey : keyOf P k key = some (.string s)) :
    (Instr.lookup t (.map (some b)) key false).run P w = .ok ((F s).getD z) w := by
  obtain ⟨D, h1, h2⟩ := h
  obtain ⟨v, ps, hrun, hv⟩ := h1.lookup K ht hz (show rawR z = some (.held z, []) from rfl) hkey
  rw [hrun, raw_inv hv (h2 s _)]
/-- v, ok := m[s] -/
theorem MapIs.look_ok {t e : TypeId} (h : MapIs w P k b n F) (K : Keyed P k) (ht : P.underlying t = some (.map k e)) {z : Value} (hz : (zeroValue e).run P w = .ok z w) {key : Value} {s : List UInt8} (hkey : keyOf P k key = some (.string s)) :
    (Instr.lookup t (.map (some b)) key true).run P w = .ok (.tuple #[(F s).getD z, .bool (F s).isSome]) w := by
  obtain ⟨D, h1, h2⟩ := h
  obtain ⟨v, ps, hrun, hv⟩ := h1.look_ok K ht hz (show rawR z = some (.held z, []) from rfl) hkey
  rw [hrun, raw_inv hv (h2 s _), has_is (h2 s)]
/-- len(m): some number -/
theorem MapIs.len {t e : TypeId} (h : MapIs w P k b n F) (ht : P.underlying t = some (.map k e)) : ∃ m : Nat, m ≤ n ∧ ∀ ty, (Builtin.len_ #[t] ty #[.map (some b)]).run P w = .ok (.int .i64 m) w := by
  obtain ⟨D, h1, h2⟩ := h
  exact ⟨_, h1.size_le, fun ty => h1.len ht ty⟩
end
theorem put_is {D : DataW Value} {F : FM} (hD : IsMap D) (h : ∀ s z, D.atKey (.string s) z = ((F s).elim z .held)) (s : List UInt8) (v : Value) : ∀ x z, (D.put (.string s) (.held v)).atKey (.string x) z = ((updF F s v x).elim z .held) := by
  intro x z
  unfold updF
  by_cases e : x = s
  · subst e
    rw [if_pos rfl, atKey_put_same hD (by simp [WideAt.IsKeyLit])]
    rfl
  · rw [if_neg e, atKey_put_other (fun q => e (by injection q)), h]
/-- .. and how many entries it has -/
def MapC (w : World) (P : Program) (k : TypeId) (b n : Nat) (F : FM) (m : Nat) : Prop :=
  ∃ D : DataW Value, w.ownsMap P k rawR b n D ∧ (∀ s z, D.atKey (.string s) z = ((F s).elim z .held)) ∧ Maps.size D = m
theorem MapC.is {w : World} {P : Program} {k : TypeId} {b n : Nat} {F : FM} {m : Nat} (h : MapC w P k b n F m) : MapIs w P k b n F := by
  obtain ⟨D, h1, h2, _⟩ := h
  exact ⟨D, h1, h2⟩
theorem MapC.made (w : World) (P : Program) (k : TypeId) : MapC (w.alloc (.map #[] 0)) P k w.heap.size 0 (fun _ => none) 0 :=
  ⟨_, World.ownsMap_made _ _ _ _, fun s z => by simp [DataW.atKey], rfl⟩
theorem MapC.len {w : World} {P : Program} {k : TypeId} {b n : Nat} {F : FM} {m : Nat} {t e : TypeId} (h : MapC w P k b n F m) (ht : P.underlying t = some (.map k e)) (ty : TypeId) : (Builtin.len_ #[t] ty #[.map (some b)]).run P w = .ok (.int .i64 m) w := by
  obtain ⟨D, h1, h2, h3⟩ := h
  rw [← h3]
  exact h1.len ht ty
section
variable {P : Program} (w : World) {ops : Array Oper} {rest : List Oper} {o : Oper} {a : Act} {Q : Exit → Act → World → Prop}
/-- m[s] = v at the operation -/
theorem wpList_put (hg : o.guard = none) (m x v : Operand) (t : TypeId) (hop : o.op = Op.mapUpdate t m x v)
    (k e : TypeId) (K : Keyed P k) (ht : P.underlying t = some (.map k e)) (b n : Nat) (F : FM)
    (hm : a.eval m = .map (some b)) (hown : MapIs w P k b n F) (hn : n < maxLen) (key val : Value) (s : List UInt8) (hx : a.eval x = key) (hv : a.eval v = val) (hkey : keyOf P k key = some (.string s))
    (hK : ∀ w', MapIs w' P k b (n + 1) (updF F s val) → w.grownBy w' (some b) → wpList P ops Q rest (a.put o.dst undef) w') :
    wpList P ops Q (o :: rest) a w := by
  obtain ⟨D, h1, h2⟩ := hown
  exact wpList_mapUpdate_own w hg m x v t hop k e K ht rawR b n D hm h1 hn key val (.string s) hx hv hkey (.held val) [] rfl fun w' k1 k2 => hK w' ⟨_, k1, put_is h1.isMap h2 s val⟩ k2
/-- m[s] at the operation -/
theorem wpList_look (hg : o.guard = none) (m x : Operand) (t : TypeId) (hop : o.op = Op.lookup t m x false)
    (k e : TypeId) (K : Keyed P k) (ht : P.underlying t = some (.map k e)) {z : Value} (hz : (zeroValue e).run P w = .ok z w) (b n : Nat) (F : FM)
    (hm : a.eval m = .map (some b)) (hown : MapIs w P k b n F) (key : Value) (s : List UInt8) (hx : a.eval x = key) (hkey : keyOf P k key = some (.string s))
    (hK : wpList P ops Q rest (a.put o.dst ((F s).getD z)) w) :
    wpList P ops Q (o :: rest) a w := by
  refine wpList_plain hg fun K' hK' => ?_
  have hrun := hown.look K ht hz hkey
  unfold Oper.wp
  simp [execOp, hop, hm, hx, hrun, Result.andThen]
  exact hK' _ _ hK
/-- v, ok := m[s] at the operation -/
theorem wpList_look_ok (hg : o.guard = none) (m x : Operand) (t : TypeId) (hop : o.op = Op.lookup t m x true)
    (k e : TypeId) (K : Keyed P k) (ht : P.underlying t = some (.map k e)) {z : Value} (hz : (zeroValue e).run P w = .ok z w) (b n : Nat) (F : FM)
    (hm : a.eval m = .map (some b)) (hown : MapIs w P k b n F) (key : Value) (s : List UInt8) (hx : a.eval x = key) (hkey : keyOf P k key = some (.string s))
    (hK : wpList P ops Q rest (a.put o.dst (.tuple #[(F s).getD z, .bool (F s).isSome])) w) :
    wpList P ops Q (o :: rest) a w := by
  refine wpList_plain hg fun K' hK' => ?_
  have hrun := hown.look_ok K ht hz hkey
  unfold Oper.wp
  simp [execOp, hop, hm, hx, hrun, Result.andThen]
  exact hK' _ _ hK
/-- a literal's entry at the operation -/
theorem wpList_ins (hg : o.guard = none) (m x v : Operand) (t : TypeId) (hop : o.op = Op.insert t m x v)
    (k e : TypeId) (K : Keyed P k) (ht : P.underlying t = some (.map k e)) (b n : Nat) (F : FM)
    (hm : a.eval m = .map (some b)) (hown : MapIs w P k b n F) (hn : n < maxLen) (key val : Value) (s : List UInt8) (hx : a.eval x = key) (hv : a.eval v = val) (hkey : keyOf P k key = some (.string s))
    (hK : ∀ w', MapIs w' P k b (n + 1) (updF F s val) → w.grownBy w' (some b) → wpList P ops Q rest (a.put o.dst undef) w') :
    wpList P ops Q (o :: rest) a w := by
  obtain ⟨D, h1, h2⟩ := hown
  refine wpList_plain hg fun K' hK' => ?_
  obtain ⟨w', hrun, r1, r2⟩ := h1.update K ht hn hkey (show rawR val = some (.held val, []) from rfl)
  unfold Oper.wp
  simp [execOp, hop, hm, hx, hv, hrun, Result.andThen]
  exact hK' _ _ (hK w' ⟨_, r1, put_is h1.isMap h2 s val⟩ r2)
/-- m[s] = v at the operation, the entries counted -/
theorem wpList_putc (hg : o.guard = none) (m x v : Operand) (t : TypeId) (hop : o.op = Op.mapUpdate t m x v)
    (k e : TypeId) (K : Keyed P k) (ht : P.underlying t = some (.map k e)) (b n : Nat) (F : FM) (c : Nat)
    (hm : a.eval m = .map (some b)) (hown : MapC w P k b n F c) (hn : n < maxLen) (key val : Value) (s : List UInt8) (hx : a.eval x = key) (hv : a.eval v = val) (hkey : keyOf P k key = some (.string s))
    (hK : ∀ w' c', MapC w' P k b (n + 1) (updF F s val) c' → (F s = none → c' = c + 1) → w.grownBy w' (some b) → wpList P ops Q rest (a.put o.dst undef) w') :
    wpList P ops Q (o :: rest) a w := by
  obtain ⟨D, h1, h2, h3⟩ := hown
  refine wpList_mapUpdate_own w hg m x v t hop k e K ht rawR b n D hm h1 hn key val (.string s) hx hv hkey (.held val) [] rfl fun w' k1 k2 => hK w' _ ⟨_, k1, put_is h1.isMap h2 s val, rfl⟩ (fun hF => ?_) k2
  rw [size_put (h1.tidy K), has_is (h2 s), h3, hF]
  rfl
end
end Go.Proofs.Ytcaioffdcbjbjaa.Mv
/-
  WORDS ON MEMORY: types (api.Type) that are read: rows of structs of four cells, the last one a row of the same kind. No program in sight.
-/
namespace Go.Proofs.Ytcaioffdcbjbjaa.Tm
open Go.RowKit Mm
set_option linter.unusedVariables false
/-- rows of types: the first one, what it is made of, the others -/
inductive Tys where
  | nil
  | cons (kd n : Int) (nm : ByteArray) (args rest : Tys)
/-- one type -/
structure Ty where
  kd : Int
  n : Int
  nm : ByteArray
  args : Tys
namespace Tys
def len : Tys → Nat
  | nil => 0
  | cons _ _ _ _ r => r.len + 1
def nodes : Tys → Nat
  | nil => 0
  | cons _ _ _ a r => a.nodes + r.nodes + 1
def toL : Tys → List Ty
  | nil => []
  | cons k n m a r => ⟨k, n, m, a⟩ :: r.toL
def ofL : List Ty → Tys
  | [] => nil
  | x :: l => cons x.kd x.n x.nm x.args (ofL l)
theorem toL_len : ∀ t : Tys, t.toL.length = t.len
  | nil => rfl
  | cons _ _ _ _ r => by rw [toL, List.length_cons, toL_len r, len]
theorem toL_ofL : ∀ l : List Ty, (ofL l).toL = l
  | [] => rfl
  | x :: l => by rw [ofL, toL, toL_ofL l]
theorem ofL_toL : ∀ t : Tys, ofL t.toL = t
  | nil => rfl
  | cons k n m a r => by rw [toL, ofL, ofL_toL r]
theorem len_ofL (l : List Ty) : (ofL l).len = l.length := by rw [← toL_len, toL_ofL]
theorem nodes_get : ∀ (t : Tys) (i : Nat) (x : Ty), t.toL[i]? = some x → x.args.nodes < t.nodes
  | nil, i, x, h => by simp [toL] at h
  | cons k n m a r, 0, x, h => by
    simp [toL] at h
    subst h
    show a.nodes < a.nodes + r.nodes + 1
    omega
  | cons k n m a r, i + 1, x, h => by
    have := nodes_get r i x (by simpa [toL] using h)
    show x.args.nodes < a.nodes + r.nodes + 1
    omega
end Tys
/-- The row of types that lies at a, from place k on, in blocks of Z. -/
def RdT (Z : Nat → Prop) (w : World) : Option Addr → Tys → Nat → Prop
  | _, .nil, _ => True
  | a, .cons kd n nm args rest, k =>
    (∃ ad a2 c2, a = some ad ∧ Z ad.block ∧ w.cell? (ad.add (k * 4)) = some (.int .i64 kd) ∧ w.cell? ⟨(ad.add (k * 4)).block, (ad.add (k * 4)).off + 1, none⟩ = some (.int .i64 n) ∧ w.cell? ⟨(ad.add (k * 4)).block, (ad.add (k * 4)).off + 2, none⟩ = some (.string nm) ∧
      w.cell? ⟨(ad.add (k * 4)).block, (ad.add (k * 4)).off + 3, none⟩ = some (.slice a2 args.len c2) ∧ nm.size ≤ 9223372036854775807 ∧ args.len * 56 ≤ 140737488355328 ∧ RdT Z w a2 args 0) ∧ RdT Z w a rest (k + 1)
/-- One type of a row. -/
def TyAt (Z : Nat → Prop) (w : World) (a : Option Addr) (k : Nat) (x : Ty) : Prop :=
  ∃ ad a2 c2, a = some ad ∧ Z ad.block ∧ w.cell? (ad.add (k * 4)) = some (.int .i64 x.kd) ∧ w.cell? ⟨(ad.add (k * 4)).block, (ad.add (k * 4)).off + 1, none⟩ = some (.int .i64 x.n) ∧ w.cell? ⟨(ad.add (k * 4)).block, (ad.add (k * 4)).off + 2, none⟩ = some (.string x.nm) ∧
      w.cell? ⟨(ad.add (k * 4)).block, (ad.add (k * 4)).off + 3, none⟩ = some (.slice a2 x.args.len c2) ∧ x.nm.size ≤ 9223372036854775807 ∧ x.args.len * 56 ≤ 140737488355328 ∧ RdT Z w a2 x.args 0
theorem add_block (a : Addr) (n : Nat) : (a.add n).block = a.block := by unfold Addr.add; split <;> rfl
theorem RdT.at_ {Z : Nat → Prop} {w : World} {a : Option Addr} : ∀ {t : Tys} {k : Nat}, RdT Z w a t k → ∀ (i : Nat) (x : Ty), t.toL[i]? = some x → TyAt Z w a (k + i) x
  | .nil, k, _, i, x, hx => by simp [Tys.toL] at hx
  | .cons kd n nm args rest, k, h, 0, x, hx => by
    simp [Tys.toL] at hx
    subst hx
    exact h.1
  | .cons kd n nm args rest, k, h, i + 1, x, hx => by
    have := RdT.at_ h.2 i x (by simpa [Tys.toL] using hx)
    rwa [show k + (i + 1) = k + 1 + i by omega]
theorem RdT.mk {Z : Nat → Prop} {w : World} {a : Option Addr} : ∀ {t : Tys} {k : Nat}, (∀ (i : Nat) (x : Ty), t.toL[i]? = some x → TyAt Z w a (k + i) x) → RdT Z w a t k
  | .nil, k, _ => trivial
  | .cons kd n nm args rest, k, h => ⟨h 0 ⟨kd, n, nm, args⟩ rfl, RdT.mk fun i x hx => by
    have := h (i + 1) x (by simpa [Tys.toL] using hx)
    rwa [show k + (i + 1) = k + 1 + i by omega] at this⟩
theorem RdT.frame {Z Z' : Nat → Prop} {w w' : World} (hc : ∀ b o, Z b → w'.cell? ⟨b, o, none⟩ = w.cell? ⟨b, o, none⟩) (ha : ∀ ad : Addr, Z ad.block → w'.cell? ad = w.cell? ad) (hz : ∀ b, Z b → Z' b) : ∀ {a : Option Addr} {t : Tys} {k : Nat}, RdT Z w a t k → RdT Z' w' a t k
  | _, .nil, _, _ => trivial
  | a, .cons kd n nm args rest, k, ⟨⟨ad, a2, c2, h1, h2, h3, h4, h5, h6, h7, h8, h9⟩, hr⟩ =>
    ⟨⟨ad, a2, c2, h1, hz _ h2, by rw [ha _ (by rw [add_block]; exact h2)]; exact h3, by rw [hc _ _ (by rw [add_block]; exact h2)]; exact h4, by rw [hc _ _ (by rw [add_block]; exact h2)]; exact h5, by rw [hc _ _ (by rw [add_block]; exact h2)]; exact h6, h7, h8, RdT.frame hc ha hz h9⟩, RdT.frame hc ha hz hr⟩
theorem RdT.mono {Z Z' : Nat → Prop} {w : World} {a : Option Addr} {t : Tys} {k : Nat} (h : RdT Z w a t k) (hz : ∀ b, Z b → Z' b) : RdT Z' w a t k := h.frame (fun _ _ _ => rfl) (fun _ _ => rfl) hz
theorem RdT.below {Z : Nat → Prop} {B : Nat} {w w' : World} {a : Option Addr} {t : Tys} {k : Nat} (h : RdT Z w a t k) (hb : Below B w w') (hz : ∀ b, Z b → b < B) : RdT Z w' a t k :=
  h.frame (fun b o hZ => hb.cell (p := ⟨b, o, none⟩) (hz b hZ)) (fun ad hZ => hb.cell (hz _ hZ)) fun _ h => h
theorem RdT.grown {Z : Nat → Prop} {w w' : World} {row : Option Nat} {a : Option Addr} {t : Tys} {k : Nat} (h : RdT Z w a t k) (hg : w.grownBy w' row) (hz : ∀ b, Z b → b < w.heap.size ∧ row ≠ some b) : RdT Z w' a t k :=
  h.frame (fun b o hZ => World.cell?_of_block (hg.block b (hz b hZ).1 (fun e => (hz b hZ).2 e.symm))) (fun ad hZ => World.cell?_of_block (hg.block _ (hz _ hZ).1 (fun e => (hz _ hZ).2 e.symm))) fun _ h => h
theorem RdT.drew {Z : Nat → Prop} {w : World} {a : Option Addr} {t : Tys} {k : Nat} (h : RdT Z w a t k) : RdT Z w.drew a t k := h.frame (w := w) (w' := w.drew) (fun _ _ _ => rfl) (fun _ _ => rfl) fun _ h => h
theorem RdT.drewN {Z : Nat → Prop} {w : World} {a : Option Addr} {t : Tys} {k : Nat} (h : RdT Z w a t k) (n : Nat) : RdT Z (w.drewN n) a t k := h.frame (w := w) (w' := w.drewN n) (fun _ _ _ => rfl) (fun _ _ => rfl) fun _ h => h
/-- The cells of a row of the call's own: each type's own row lies in blocks of Z. -/
def RowT (Z : Nat → Prop) (w : World) : List Value → List Ty → Prop
  | vs, [] => vs = []
  | vs, x :: l => ∃ a2 c2 r, vs = [.int .i64 x.kd, .int .i64 x.n, .string x.nm, .slice a2 x.args.len c2] ++ r ∧ x.nm.size ≤ 9223372036854775807 ∧ x.args.len * 56 ≤ 140737488355328 ∧ RdT Z w a2 x.args 0 ∧ RowT Z w r l
theorem RowT.frame {Z Z' : Nat → Prop} {w w' : World} (hc : ∀ b o, Z b → w'.cell? ⟨b, o, none⟩ = w.cell? ⟨b, o, none⟩) (ha : ∀ ad : Addr, Z ad.block → w'.cell? ad = w.cell? ad) (hz : ∀ b, Z b → Z' b) : ∀ {vs : List Value} {l : List Ty}, RowT Z w vs l → RowT Z' w' vs l
  | _, [], h => h
  | vs, x :: l, ⟨a2, c2, r, h1, h2, h3, h4, h5⟩ => ⟨a2, c2, r, h1, h2, h3, h4.frame hc ha hz, RowT.frame hc ha hz h5⟩
theorem RowT.mono {Z Z' : Nat → Prop} {w : World} {vs : List Value} {l : List Ty} (h : RowT Z w vs l) (hz : ∀ b, Z b → Z' b) : RowT Z' w vs l := h.frame (fun _ _ _ => rfl) (fun _ _ => rfl) hz
theorem RowT.below {Z : Nat → Prop} {B : Nat} {w w' : World} {vs : List Value} {l : List Ty} (h : RowT Z w vs l) (hb : Below B w w') (hz : ∀ b, Z b → b < B) : RowT Z w' vs l :=
  h.frame (fun b o hZ => hb.cell (p := ⟨b, o, none⟩) (hz b hZ)) (fun ad hZ => hb.cell (hz _ hZ)) fun _ h => h
theorem RowT.grown {Z : Nat → Prop} {w w' : World} {row : Option Nat} {vs : List Value} {l : List Ty} (h : RowT Z w vs l) (hg : w.grownBy w' row) (hz : ∀ b, Z b → b < w.heap.size ∧ row ≠ some b) : RowT Z w' vs l :=
  h.frame (fun b o hZ => World.cell?_of_block (hg.block b (hz b hZ).1 (fun e => (hz b hZ).2 e.symm))) (fun ad hZ => World.cell?_of_block (hg.block _ (hz _ hZ).1 (fun e => (hz _ hZ).2 e.symm))) fun _ h => h
theorem RowT.len {Z : Nat → Prop} {w : World} : ∀ {vs : List Value} {l : List Ty}, RowT Z w vs l → vs.length = l.length * 4
  | vs, [], h => by rw [show vs = [] from h]; rfl
  | vs, x :: l, ⟨a2, c2, r, h1, _, _, _, h5⟩ => by
    rw [h1, List.length_append, RowT.len h5, List.length_cons]
    simp; omega
theorem RowT.snoc {Z : Nat → Prop} {w : World} {x : Ty} {a2 : Option Addr} {c2 : Nat} (h2 : x.nm.size ≤ 9223372036854775807) (h3 : x.args.len * 56 ≤ 140737488355328) (h4 : RdT Z w a2 x.args 0) : ∀ {vs : List Value} {l : List Ty}, RowT Z w vs l → RowT Z w (vs ++ [.int .i64 x.kd, .int .i64 x.n, .string x.nm, .slice a2 x.args.len c2]) (l ++ [x])
  | vs, [], h => by rw [show vs = [] from h]; exact ⟨a2, c2, [], rfl, h2, h3, h4, rfl⟩
  | vs, y :: l, ⟨b2, d2, r, k1, k2, k3, k4, k5⟩ => by
    subst k1
    exact ⟨b2, d2, r ++ [.int .i64 x.kd, .int .i64 x.n, .string x.nm, .slice a2 x.args.len c2], List.append_assoc _ _ _, k2, k3, k4, RowT.snoc h2 h3 h4 k5⟩
theorem RowT.get {Z : Nat → Prop} {w : World} : ∀ {vs : List Value} {l : List Ty}, RowT Z w vs l → ∀ (i : Nat) (x : Ty), l[i]? = some x →
    ∃ a2 c2, vs[i * 4]? = some (.int .i64 x.kd) ∧ vs[i * 4 + 1]? = some (.int .i64 x.n) ∧ vs[i * 4 + 2]? = some (.string x.nm) ∧ vs[i * 4 + 3]? = some (.slice a2 x.args.len c2) ∧ x.nm.size ≤ 9223372036854775807 ∧ x.args.len * 56 ≤ 140737488355328 ∧ RdT Z w a2 x.args 0
  | vs, [], h, i, x, hx => by simp at hx
  | vs, y :: l, ⟨b2, d2, r, k1, k2, k3, k4, k5⟩, 0, x, hx => by
    simp at hx
    subst hx
    subst k1
    exact ⟨b2, d2, rfl, rfl, rfl, rfl, k2, k3, k4⟩
  | vs, y :: l, ⟨b2, d2, r, k1, k2, k3, k4, k5⟩, i + 1, x, hx => by
    obtain ⟨a2, c2, g0, g1, g2, g3, g4⟩ := RowT.get k5 i x (by simpa using hx)
    subst k1
    refine ⟨a2, c2, ?_, ?_, ?_, ?_, g4⟩
    · rw [show (i + 1) * 4 = i * 4 + 4 by omega]; exact g0
    · rw [show (i + 1) * 4 + 1 = i * 4 + 1 + 4 by omega]; exact g1
    · rw [show (i + 1) * 4 + 2 = i * 4 + 2 + 4 by omega]; exact g2
    · rw [show (i + 1) * 4 + 3 = i * 4 + 3 + 4 by omega]; exact g3
/-- block b holds cells of a type's own -/
def TyB (e : TypeId) (w : World) (b : Nat) : Prop := ∃ cs, w.heap[b]? = some (.cells cs e (0, 0))
theorem TyB.lt {e : TypeId} {w : World} {b : Nat} (h : TyB e w b) : b < w.heap.size := by
  obtain ⟨cs, h⟩ := h
  exact lt_of_block h
theorem TyB.same {e : TypeId} {w w' : World} {b : Nat} (h : TyB e w b) (hb : w'.heap[b]? = w.heap[b]?) : TyB e w' b := by
  obtain ⟨cs, h⟩ := h
  exact ⟨cs, hb.trans h⟩
theorem TyB.below {e : TypeId} {w w' : World} {b : Nat} (h : TyB e w b) (hb : Below w.heap.size w w') : TyB e w' b := h.same (hb.block b h.lt)
/-- A row of types of the call's own, in blocks from B on. -/
def OwnT (B : Nat) (e : TypeId) (w : World) (v : Value) (l : List Ty) : Prop :=
  ∃ vs, w.ownsRow B e 4 v l.length vs ∧ RowT (fun b => B ≤ b ∧ TyB e w b ∧ v.ownBlock ≠ some b) w vs l
theorem OwnT.nil (B : Nat) (e : TypeId) (w : World) : OwnT B e w (.slice none 0 0) [] := ⟨[], World.ownsRow_nil _ _ _ _, rfl⟩
theorem OwnT.slice {B : Nat} {e : TypeId} {w : World} {v : Value} {l : List Ty} (h : OwnT B e w v l) : ∃ a c, v = .slice a l.length c := by
  obtain ⟨vs, h1, _⟩ := h
  exact own_slice h1
theorem OwnT.here {B : Nat} {e : TypeId} {w w' : World} {v : Value} {l : List Ty} (h : OwnT B e w v l) (hb : Below w.heap.size w w') : OwnT B e w' v l := by
  obtain ⟨vs, h1, h2⟩ := h
  exact ⟨vs, own_here h1 hb, (h2.below hb fun b hZ => hZ.2.1.lt).mono fun b hZ => ⟨hZ.1, hZ.2.1.below hb, hZ.2.2⟩⟩
theorem OwnT.base {B B' : Nat} {e : TypeId} {w : World} {v : Value} {l : List Ty} (h : OwnT B e w v l) (hB : B' ≤ B) : OwnT B' e w v l := by
  obtain ⟨vs, h1, h2⟩ := h
  exact ⟨vs, own_base h1 hB, h2.mono fun b hZ => ⟨Nat.le_trans hB hZ.1, hZ.2⟩⟩
theorem OwnT.reads {B : Nat} {e : TypeId} {w : World} {a : Option Addr} {n c : Nat} {l : List Ty} (h : OwnT B e w (.slice a n c) l) : RdT (fun b => B ≤ b ∧ TyB e w b) w a (Tys.ofL l) 0 := by
  obtain ⟨vs, h1, h2⟩ := h
  refine RdT.mk fun i x hx => ?_
  rw [Tys.toL_ofL] at hx
  have hi : i < l.length := (List.getElem?_eq_some_iff.1 hx).1
  obtain ⟨b, d, hv⟩ := own_slice h1
  injection hv with e1 e2 e3
  subst e1 e2
  obtain ⟨g, rfl, hg1, hg2, _, hc⟩ := own_at h1 (by omega)
  obtain ⟨cur, hcur⟩ := own_block h1
  obtain ⟨a2, c2, g0, g1, g2, g3, g4, g5, g6⟩ := h2.get i x hx
  have hadd : ((⟨g, 0, none⟩ : Addr).add ((0 + i) * 4)) = ⟨g, i * 4, none⟩ := by
    rw [Nat.zero_add]
    simp [Addr.add]
    try (intro e; omega)
  refine ⟨⟨g, 0, none⟩, a2, c2, rfl, ⟨hg1, cur, hcur⟩, ?_, ?_, ?_, ?_, g4, g5, g6.mono fun b hZ => ⟨hZ.1, hZ.2.1⟩⟩
  · rw [hadd, hc _ (by omega)]; exact g0
  · rw [hadd]; show w.cell? ⟨g, i * 4 + 1, none⟩ = _; rw [hc _ (by omega)]; exact g1
  · rw [hadd]; show w.cell? ⟨g, i * 4 + 2, none⟩ = _; rw [hc _ (by omega)]; exact g2
  · rw [hadd]; show w.cell? ⟨g, i * 4 + 3, none⟩ = _; rw [hc _ (by omega)]; exact g3
/-- one more type behind a row of the call's own: the append, in a world in which the new type's own row has been made behind it -/
theorem OwnT.more {B : Nat} {e : TypeId} {w w' : World} {v v' : Value} {l : List Ty} {x : Ty} {vs : List Value} {a2 : Option Addr} {c2 : Nat} {o : Obj}
    (hr : RowT (fun b => B ≤ b ∧ TyB e w b ∧ v.ownBlock ≠ some b) w vs l) (hB : B ≤ w.heap.size)
    (h2 : x.nm.size ≤ 9223372036854775807) (h3 : x.args.len * 56 ≤ 140737488355328) (h4 : RdT (fun b => B ≤ b ∧ TyB e w b ∧ v.ownBlock ≠ some b) w a2 x.args 0)
    (hown : w'.ownsRow B e 4 v' (l.length + 1) (vs ++ [.int .i64 x.kd, .int .i64 x.n, .string x.nm, .slice a2 x.args.len c2])) (hg : (w.alloc o).grownBy w' v.ownBlock) (hat : v'.ownBlock = v.ownBlock ∨ v'.ownBlock = some (w.alloc o).heap.size) :
    OwnT B e w' v' (l ++ [x]) := by
  refine ⟨_, by rwa [List.length_append, List.length_singleton], ?_⟩
  have hs := RowT.snoc (c2 := c2) h2 h3 h4 hr
  have hA := hs.below ((Below.refl w.heap.size w).alloc (Nat.le_refl _) o) (fun b hZ => hZ.2.1.lt)
  have hsz : (w.alloc o).heap.size = w.heap.size + 1 := by simp
  refine (hA.grown hg (fun b hZ => ⟨by rw [hsz]; have := hZ.2.1.lt; omega, hZ.2.2⟩)).mono fun b hZ => ⟨hZ.1, ?_, ?_⟩
  · have hlt := hZ.2.1.lt
    exact hZ.2.1.same ((hg.block b (by rw [hsz]; omega) (fun e => hZ.2.2 e.symm)).trans (Below.heap_alloc w o b hlt))
  · have hlt := hZ.2.1.lt
    rcases hat with q | q
    · rw [q]; exact hZ.2.2
    · rw [q, hsz]
      intro e
      injection e with e
      omega
end Go.Proofs.Ytcaioffdcbjbjaa.Tm
/-
  WORDS ON MEMORY for layer unify: what a call may turn; rows of numbers that are read or owned; rows of types of the call's own whose parts lie wherever they lie. No program in sight.
-/
namespace Go.Proofs.Ytcaioffdcbjbjaa.Tm
open Go.RowKit Mm
set_option linter.unusedVariables false
/-- From w to w' nothing turned but, perhaps, blocks of X; no block has gone. -/
structure Kept (X : Nat → Prop) (w w' : World) : Prop where
  os : w'.os = w.os
  tape : w'.tape = w.tape
  output : w'.output = w.output
  size : w.heap.size ≤ w'.heap.size
  block : ∀ k, k < w.heap.size → ¬ X k → w'.heap[k]? = w.heap[k]?
section
variable {X Y : Nat → Prop} {w w' w'' : World}
theorem Kept.refl (X : Nat → Prop) (w : World) : Kept X w w := ⟨rfl, rfl, rfl, Nat.le_refl _, fun _ _ _ => rfl⟩
theorem Kept.trans (h : Kept X w w') (k : Kept X w' w'') : Kept X w w'' :=
  ⟨k.os.trans h.os, k.tape.trans h.tape, k.output.trans h.output, Nat.le_trans h.size k.size, fun i hi hx => (k.block i (Nat.lt_of_lt_of_le hi h.size) hx).trans (h.block i hi hx)⟩
theorem Kept.mono (h : Kept X w w') (hx : ∀ k, k < w.heap.size → X k → Y k) : Kept Y w w' := ⟨h.os, h.tape, h.output, h.size, fun i hi hy => h.block i hi fun e => hy (hx i hi e)⟩
theorem Kept.below {B : Nat} (h : Kept X w w') (hB : B ≤ w.heap.size) (hx : ∀ k, X k → B ≤ k) : Below B w w' :=
  ⟨h.os, h.tape, h.output, h.size, fun k hk => h.block k (by omega) fun e => by have := hx k e; omega⟩
theorem Kept.of_below {B : Nat} (h : Below B w w') (hB : w.heap.size ≤ B) (X : Nat → Prop) : Kept X w w' := ⟨h.os, h.tape, h.output, h.size, fun k hk _ => h.block k (by omega)⟩
theorem Kept.alloc (h : Kept X w w') (o : Obj) : Kept X w (w'.alloc o) :=
  h.trans ⟨rfl, rfl, rfl, by simp, fun k hk _ => Below.heap_alloc _ _ _ hk⟩
theorem Kept.drew (h : Kept X w w') : Kept X w w'.drew := ⟨h.os, h.tape, h.output, h.size, h.block⟩
theorem Kept.setCell (h : Kept X w w') {a : Addr} (ha : a.block < w.heap.size → X a.block) (u : Value) : Kept X w (w'.setCell a u) :=
  ⟨h.os, h.tape, h.output, by simpa [World.setCell] using h.size, fun k hk hx => (Below.heap_setCell _ _ _ _ (fun e => hx (by subst e; exact ha hk))).trans (h.block k hk hx)⟩
theorem Kept.grown {row : Option Nat} (h : Kept X w w') (hg : w'.grownBy w'' row) (hr : ∀ k, row = some k → k < w.heap.size → X k) : Kept X w w'' :=
  ⟨hg.os.trans h.os, hg.tape.trans h.tape, hg.output.trans h.output, Nat.le_trans h.size hg.size, fun k hk hx => (hg.block k (Nat.lt_of_lt_of_le hk h.size) (fun e => hx (hr k e.symm hk))).trans (h.block k hk hx)⟩
theorem Kept.box {g : Nat} {t : TypeId} {cs : Array Value} (h : Kept X w w') (b : Box w g t cs) (hg : ¬ X g) : Box w' g t cs := (h.block g b.lt hg).trans b
theorem Kept.cell {a : Addr} {v : Value} (h : Kept X w w') (ha : w.cell? a = some v) (hx : ¬ X a.block) : w'.cell? a = some v :=
  (World.cell?_of_block (h.block a.block (World.block_lt_of_cell? w a ha) hx)).trans ha
/-- types that are read stay, where what may turn is none of theirs -/
theorem Kept.types {Z : Nat → Prop} (h : Kept X w w') {a : Option Addr} {t : Tys} {k : Nat} (hr : RdT Z w a t k) (hz : ∀ b, Z b → b < w.heap.size ∧ ¬ X b) : RdT Z w' a t k :=
  hr.frame (fun b o hZ => World.cell?_of_block (h.block b (hz b hZ).1 (hz b hZ).2)) (fun ad hZ => World.cell?_of_block (h.block ad.block (hz _ hZ).1 (hz _ hZ).2)) fun _ h => h
end
/-- A row of numbers that is read, in blocks of Z. -/
def RdI (Z : Nat → Prop) (w : World) (a : Option Addr) (l : List Int) : Prop := ∀ (i : Nat) (x : Int), l[i]? = some x → ∃ ad, a = some ad ∧ Z ad.block ∧ w.cell? (ad.add i) = some (.int .i64 x)
section
variable {Z Z' : Nat → Prop} {w w' : World} {a : Option Addr} {l : List Int}
theorem RdI.frame (h : RdI Z w a l) (ha : ∀ ad : Addr, Z ad.block → w'.cell? ad = w.cell? ad) (hz : ∀ b, Z b → Z' b) : RdI Z' w' a l := by
  intro i x hx
  obtain ⟨ad, h1, h2, h3⟩ := h i x hx
  exact ⟨ad, h1, hz _ h2, by rw [ha _ (by rw [add_block]; exact h2)]; exact h3⟩
theorem RdI.mono (h : RdI Z w a l) (hz : ∀ b, Z b → Z' b) : RdI Z' w a l := h.frame (fun _ _ => rfl) hz
theorem RdI.below {B : Nat} (h : RdI Z w a l) (hb : Below B w w') (hz : ∀ b, Z b → b < B) : RdI Z w' a l := h.frame (fun ad hZ => hb.cell (hz _ hZ)) fun _ h => h
theorem RdI.nil (Z : Nat → Prop) (w : World) (a : Option Addr) : RdI Z w a [] := fun i x hx => by simp at hx
theorem RdI.drew (h : RdI Z w a l) : RdI Z w.drew a l := h
end
/-- A row of numbers of the call's own. -/
def OwnI (B : Nat) (e : TypeId) (w : World) (v : Value) (l : List Int) : Prop := w.ownsRow B e 1 v l.length (l.map fun x => .int .i64 x)
theorem OwnI.nil (B : Nat) (e : TypeId) (w : World) : OwnI B e w (.slice none 0 0) [] := World.ownsRow_nil _ _ _ _
theorem OwnI.slice {B : Nat} {e : TypeId} {w : World} {v : Value} {l : List Int} (h : OwnI B e w v l) : ∃ a c, v = .slice a l.length c := own_slice h
theorem OwnI.here {B : Nat} {e : TypeId} {w w' : World} {v : Value} {l : List Int} (h : OwnI B e w v l) (hb : Below w.heap.size w w') : OwnI B e w' v l := own_here h hb
theorem OwnI.reads {B : Nat} {e : TypeId} {w : World} {a : Option Addr} {n c : Nat} {l : List Int} (h : OwnI B e w (.slice a n c) l) : RdI (fun b => B ≤ b ∧ b < w.heap.size) w a l := by
  intro i x hx
  have hi : i < l.length := (List.getElem?_eq_some_iff.1 hx).1
  obtain ⟨b, d, hv⟩ := own_slice h
  injection hv with e1 e2 e3
  subst e1 e2
  obtain ⟨g, rfl, hg1, hg2, _, hc⟩ := own_at h (by omega)
  refine ⟨⟨g, 0, none⟩, rfl, ⟨hg1, hg2⟩, ?_⟩
  have hadd : ((⟨g, 0, none⟩ : Addr).add i) = ⟨g, i, none⟩ := by
    simp [Addr.add]
    try (intro e; omega)
  rw [hadd, hc _ (by omega), List.getElem?_map, hx]
  rfl
/-- A row of types of the call's own, whose parts lie wherever they lie, but not in it. -/
def OwnA (B : Nat) (e : TypeId) (w : World) (v : Value) (l : List Ty) : Prop :=
  ∃ vs, w.ownsRow B e 4 v l.length vs ∧ RowT (fun b => b < w.heap.size ∧ v.ownBlock ≠ some b) w vs l
theorem OwnA.nil (B : Nat) (e : TypeId) (w : World) : OwnA B e w (.slice none 0 0) [] := ⟨[], World.ownsRow_nil _ _ _ _, rfl⟩
theorem OwnA.slice {B : Nat} {e : TypeId} {w : World} {v : Value} {l : List Ty} (h : OwnA B e w v l) : ∃ a c, v = .slice a l.length c := by
  obtain ⟨vs, h1, _⟩ := h
  exact own_slice h1
theorem OwnA.here {B : Nat} {e : TypeId} {w w' : World} {v : Value} {l : List Ty} (h : OwnA B e w v l) (hb : Below w.heap.size w w') : OwnA B e w' v l := by
  obtain ⟨vs, h1, h2⟩ := h
  exact ⟨vs, own_here h1 hb, (h2.below hb fun b hZ => hZ.1).mono fun b hZ => ⟨Nat.lt_of_lt_of_le hZ.1 hb.size, hZ.2⟩⟩
theorem OwnA.base {B B' : Nat} {e : TypeId} {w : World} {v : Value} {l : List Ty} (h : OwnA B e w v l) (hB : B' ≤ B) : OwnA B' e w v l := by
  obtain ⟨vs, h1, h2⟩ := h
  exact ⟨vs, own_base h1 hB, h2⟩
theorem OwnA.reads {B : Nat} {e : TypeId} {w : World} {a : Option Addr} {n c : Nat} {l : List Ty} (h : OwnA B e w (.slice a n c) l) : RdT (fun b => b < w.heap.size) w a (Tys.ofL l) 0 := by
  obtain ⟨vs, h1, h2⟩ := h
  refine RdT.mk fun i x hx => ?_
  rw [Tys.toL_ofL] at hx
  have hi : i < l.length := (List.getElem?_eq_some_iff.1 hx).1
  obtain ⟨b, d, hv⟩ := own_slice h1
  injection hv with e1 e2 e3
  subst e1 e2
  obtain ⟨g, rfl, hg1, hg2, _, hc⟩ := own_at h1 (by omega)
  obtain ⟨a2, c2, g0, g1, g2, g3, g4, g5, g6⟩ := h2.get i x hx
  have hadd : ((⟨g, 0, none⟩ : Addr).add ((0 + i) * 4)) = ⟨g, i * 4, none⟩ := by
    rw [Nat.zero_add]
    simp [Addr.add]
    try (intro e; omega)
  refine ⟨⟨g, 0, none⟩, a2, c2, rfl, hg2, ?_, ?_, ?_, ?_, g4, g5, g6.mono fun b hZ => hZ.1⟩
  · rw [hadd, hc _ (by omega)]; exact g0
  · rw [hadd]; show w.cell? ⟨g, i * 4 + 1, none⟩ = _; rw [hc _ (by omega)]; exact g1
  · rw [hadd]; show w.cell? ⟨g, i * 4 + 2, none⟩ = _; rw [hc _ (by omega)]; exact g2
  · rw [hadd]; show w.cell? ⟨g, i * 4 + 3, none⟩ = _; rw [hc _ (by omega)]; exact g3
/-- one more type behind a row of the call's own: the append -/
theorem OwnA.more {B : Nat} {e : TypeId} {w w' : World} {v v' : Value} {l : List Ty} {x : Ty} {vs : List Value} {a2 : Option Addr} {c2 : Nat} {o : Obj}
    (hr : RowT (fun b => b < w.heap.size ∧ v.ownBlock ≠ some b) w vs l)
    (h2 : x.nm.size ≤ 9223372036854775807) (h3 : x.args.len * 56 ≤ 140737488355328) (h4 : RdT (fun b => b < w.heap.size ∧ v.ownBlock ≠ some b) w a2 x.args 0)
    (hown : w'.ownsRow B e 4 v' (l.length + 1) (vs ++ [.int .i64 x.kd, .int .i64 x.n, .string x.nm, .slice a2 x.args.len c2])) (hg : (w.alloc o).grownBy w' v.ownBlock) (hat : v'.ownBlock = v.ownBlock ∨ v'.ownBlock = some (w.heap.size + 1)) :
    OwnA B e w' v' (l ++ [x]) := by
  refine ⟨_, by rwa [List.length_append, List.length_singleton], ?_⟩
  have hs := RowT.snoc (c2 := c2) h2 h3 h4 hr
  have hA := hs.below ((Below.refl w.heap.size w).alloc (Nat.le_refl _) o) (fun b hZ => hZ.1)
  have hsz : (w.alloc o).heap.size = w.heap.size + 1 := by simp
  have hgs := hg.size
  refine (hA.grown hg (fun b hZ => ⟨by rw [hsz]; have := hZ.1; omega, hZ.2⟩)).mono fun b hZ => ⟨?_, ?_⟩
  · have hlt := hZ.1
    omega
  · have hlt := hZ.1
    rcases hat with q | q
    · rw [q]; exact hZ.2
    · rw [q]
      intro e
      injection e with e
      omega
end Go.Proofs.Ytcaioffdcbjbjaa.Tm
/-
  A RANGE OVER A FUNCTION whose iterator has memory of its own: cells that it writes between two rounds. The law for the caller, by the kit's base law of the statement. No program in sight.
-/
namespace Go.Proofs.Ytcaioffdcbjbjaa.Rg
open Go Go.RowKit Go.Shelf Mm Tm
set_option linter.unusedVariables false
/-- blocks that hold cells of types of T -/
def Typed (T : TypeId → Prop) (w : World) (b : Nat) : Prop := ∃ t, T t ∧ TyB t w b
/-- A step of the iterator's: new blocks; of those that lie from B on, any but the caller's: X. -/
def Steps (X : World → Nat → Prop) (B : Nat) (A C : World) : Prop := Kept (fun b => B ≤ b ∧ ¬ X A b) A C
/-- A round that goes on turns its record l, and the caller's blocks: X. -/
def Rounds (X : World → Nat → Prop) (l : Nat) (A C : World) : Prop := Kept (fun b => b = l ∨ X A b) A C
theorem kept_put {X : Nat → Prop} (w : World) (l : Nat) (o : Obj) (hl : X l) : Kept X w (w.putObj l o) :=
  ⟨rfl, rfl, rfl, by simp, fun k _ hx => World.putObj_heap_other (fun e => hx (by rw [e]; exact hl))⟩
/-- WHAT AN ITERATOR PROMISES: S: the rows that come if no round leaves; Sp: those that have come when one does. -/
def Seq {α : Type} (P : Program) (n : Nat) (X : World → Nat → Prop) (g : Nat) (lb : Array Value) (encs : α → Array Value) (S Sp : List α → Prop) (N : Nat) (w0 : World) : Prop :=
  ∀ (l : Nat) (J Jx : List α → World → Prop) (W : World), Below w0.heap.size w0 W → w0.heap.size ≤ l → l < W.heap.size → (∀ A : World, A.heap[l]? = W.heap[l]? ∨ (∃ r, A.heap[l]? = some (.loop r)) → ¬ X A l) →
    (∀ s A C, J s A → Steps X W.heap.size A C → J s C) → (∀ s A C, Jx s A → Steps X W.heap.size A C → Jx s C) →
    (∀ pre x W1, J pre W1 → pre.length < N → YieldAt Fence.wide (n - 1) P l (encs x) W1 fun e W' =>
      (e = .returned (.bool true) ∧ J (pre ++ [x]) W' ∧ Rounds X l W1 W') ∨ (e = .returned (.bool false) ∧ Jx (pre ++ [x]) W' ∧ Kept (fun b => b < W.heap.size ∨ X W1 b) W1 W')) →
    J [] W →
    CallsIn Fence.wide n P g (#[.func (.yield l) #[] #[]] ++ lb) W fun e W' => (∃ v, e = .returned v) ∧ ((∃ xs, S xs ∧ J xs W') ∨ (∃ pre, Sp pre ∧ Jx pre W'))
/-- how a round's body is left -/
def BodyPost {α : Type} (X : World → Nat → Prop) (B : Nat) (I : List α → World → Prop) (Ix : Code → List α → World → Prop) (xs : List α) (W : World) : Exit → Act → World → Prop
  | .normal, _, W' => Kept (X W) W W' ∧ I xs W'
  | .ret, _, W' => Kept (fun b => b < B ∨ X W b) W W' ∧ Ix .ret xs W'
  | .exit id, _, W' => Kept (fun b => b < B ∨ X W b) W W' ∧ Ix (.exit id) xs W'
  | _, _, _ => False
theorem obj_ne {w : World} {l : Nat} {o : Obj} {t : TypeId} (h : w.heap[l]? = some o) (ho : o.isCells = false) : ¬ TyB t w l := by
  rintro ⟨cs, hc⟩
  rw [h] at hc
  injection hc with hc
  rw [hc] at ho
  cases ho
/-- THE STATEMENT -/
theorem range_own {α : Type} {P : Program} {n : Nat} {X : World → Nat → Prop} {g : Operand} {ps : Array Tmp} {assign body : Code} {Q : Exit → Act → World → Prop} {a : Act} {w : World}
    (h1 : 1 ≤ n) {gf : Nat} {lb : Array Value} (hg : a.eval g = .func (.func gf) #[] lb) (eg : ∀ args w, (callFunc gf args).run P w = .ok (.enter gf args) w)
    {encs : α → Array Value} {S Sp : List α → Prop} {N : Nat} {w0 : World} (hseq : Seq P (n - 1) X gf lb encs S Sp N w0) (hb0 : Below w0.heap.size w0 w) (hps : ∀ x, (encs x).size = ps.size) (hXo : ∀ (A : World) (b : Nat) (o : Obj), w.heap.size ≤ b → b ≤ w.heap.size + 1 → A.heap[b]? = some o → o.isCells = false → ¬ X A b) (hXs : ∀ (A C : World) (b : Nat), C.heap[b]? = A.heap[b]? → X C b → X A b)
    (I : List α → World → Prop) (Ix : Code → List α → World → Prop) (hI : ∀ s A C, I s A → Steps X w.heap.size A C → I s C) (hIx : ∀ c s A C, Ix c s A → Steps X w.heap.size A C → Ix c s C) (h0 : I [] w)
    (Ax : α → Act → World → Prop) (hAx : ∀ x a' A k o o', Ax x a' A → A.heap[k]? = some o → o.isCells = false → Ax x a' (A.putObj k o'))
    (hassign : ∀ (l : Nat) (pre : List α) (x : α) (W : World) (K : Act → World → Prop), I pre W → w.heap.size + 1 < W.heap.size → (∀ a₁ W', Below W.heap.size W W' → Ax x a₁ W' → K a₁ W') →
      assign.wpIn (Fence.wide.inRound l) (n - 1 - 1) P (Exit.then K (fun _ _ _ => False)) { tmps := (ps.zip (encs x)).foldl (fun t (p, v) => t.setIfInBounds p v) a.tmps, defers := [] } W)
    (hbody : ∀ (l : Nat) (pre : List α) (x : α) (a₁ : Act) (W : World), w.heap.size < l → l < W.heap.size → I pre W → pre.length < N → Ax x a₁ W → body.wpIn (Fence.wide.inRound l) (n - 1 - 1) P (BodyPost X w.heap.size I Ix (pre ++ [x]) W) a₁ W)
    (hdone : ∀ (D : Nat) (xs : List α) (W : World), w.heap.size ≤ D → S xs → I xs W → W.heap[D]? = some (.deferred (some [])) → Q .normal { a with defers := { target := .collected D, args := #[] } :: a.defers } W)
    (hstop : ∀ (D : Nat) (c : Code) (pre : List α) (W : World), w.heap.size ≤ D → Sp pre → Ix c pre W → W.heap[D]? = some (.deferred (some [])) → c.wpIn Fence.wide n P Q { a with defers := { target := .collected D, args := #[] } :: a.defers } W) :
    (Code.rangeFunc g ps assign body).wpIn Fence.wide n P Q a w := by
  refine wpIn_rangeFunc fun fn hfn => ?_
  obtain ⟨rec, hrec⟩ : ∃ rec : LoopState → Option Code → Loop, rec = fun st pe => { state := st, pending := pe, fn := fn, tmps := a.tmps, params := ps, assign := assign, body := body, defers := w.heap.size } := ⟨_, rfl⟩
  obtain ⟨W1, hW1⟩ : ∃ W1, (w.alloc (.deferred (some []))).alloc (.loop (rec .ready none)) = W1 := ⟨_, rfl⟩
  have hz1 : W1.heap.size = w.heap.size + 2 := by rw [← hW1]; simp
  have hL1 : W1.heap[w.heap.size + 1]? = some (.loop (rec .ready none)) := by
    rw [← hW1]
    have := World.alloc_heap_new (w.alloc (.deferred (some []))) (.loop (rec .ready none))
    rwa [World.size_alloc] at this
  have hD1 : W1.heap[w.heap.size]? = some (.deferred (some [])) := by
    rw [← hW1]
    exact (Below.heap_alloc _ _ _ (by simp)).trans (World.alloc_heap_new w _)
  have hB1 : Below w.heap.size w W1 := by rw [← hW1]; exact ((Below.refl _ w).alloc (Nat.le_refl _) _).alloc (by simp) _
  have hI1 : I [] W1 := hI _ _ _ h0 (Kept.of_below hB1 (Nat.le_refl _) _)
  have step1 : ∀ {A C : World}, Steps X W1.heap.size A C → Steps X w.heap.size A C := fun h => Kept.mono h fun k _ q => ⟨by have := q.1; omega, q.2⟩
  have turn : ∀ {A : World} {o o' : Obj}, A.heap[w.heap.size + 1]? = some o → o.isCells = false → Steps X w.heap.size A (A.putObj (w.heap.size + 1) o') := fun h ho =>
    kept_put _ _ _ ⟨by omega, hXo _ _ _ (by omega) (Nat.le_refl _) h ho⟩
  refine ⟨w.heap.size + 1, [{ target := .collected w.heap.size, args := #[] }], W1, { target := .fn (.func gf) lb, args := #[.func (.yield (w.heap.size + 1)) #[] #[]] }, W1, gf, #[.func (.yield (w.heap.size + 1)) #[] #[]] ++ lb, W1, ?_, ?_, fun f' _ => trivial, ?_, fun _ => h1, ?_⟩
  · rw [← hW1, hrec]; exact run_enterLoop_outer _ _ _ _ _
  · simp only [resolve, hg]
    simp [go_sem]
  · simp [invoke, go_sem, eg]
  refine (hseq (w.heap.size + 1)
    (fun pre W => I pre W ∧ W.heap[w.heap.size + 1]? = some (.loop (rec .ready none)) ∧ W.heap[w.heap.size]? = some (.deferred (some [])))
    (fun pre W => ∃ c, Ix c pre W ∧ W.heap[w.heap.size + 1]? = some (.loop (rec .done (some c))) ∧ W.heap[w.heap.size]? = some (.deferred (some [])))
    W1 (hb0.trans (hB1.mono hb0.size)) (by have := hb0.size; omega) (by omega) (fun A hA => by
      rcases hA with q | ⟨r, q⟩
      · exact hXo _ _ _ (by omega) (Nat.le_refl _) (q.trans hL1) rfl
      · exact hXo _ _ _ (by omega) (Nat.le_refl _) q rfl) ?_ ?_ ?_ ⟨hI1, hL1, hD1⟩).mono ?_
  · rintro s A C ⟨q1, q2, q3⟩ hs
    have hlt := (Array.getElem?_eq_some_iff.1 q2).1
    exact ⟨hI _ _ _ q1 (step1 hs), (hs.block _ hlt (fun q => by have := q.1; omega)).trans q2, (hs.block _ (by omega) (fun q => by have := q.1; omega)).trans q3⟩
  · rintro s A C ⟨c, q1, q2, q3⟩ hs
    have hlt := (Array.getElem?_eq_some_iff.1 q2).1
    exact ⟨c, hIx _ _ _ _ q1 (step1 hs), (hs.block _ hlt (fun q => by have := q.1; omega)).trans q2, (hs.block _ (by omega) (fun q => by have := q.1; omega)).trans q3⟩
  · rintro pre x W ⟨hi, hl, hd⟩ hlen
    have hlt : w.heap.size + 1 < W.heap.size := (Array.getElem?_eq_some_iff.1 hl).1
    have hy := run_yield (P := P) (args := encs x) hl (by rw [hrec]; exact hps x)
    rw [hrec] at hy
    refine ⟨fn, _, assign, body, hy, roundIn_of_wpIn hfn (hassign _ pre x W _ hi hlt fun a₁ W' hb' hax => ?_)⟩
    have hl' : W'.heap[w.heap.size + 1]? = some (.loop (rec .ready none)) := (hb'.block _ hlt).trans hl
    have hd' : W'.heap[w.heap.size]? = some (.deferred (some [])) := (hb'.block _ (by omega)).trans hd
    have hlt' : w.heap.size + 1 < W'.heap.size := (Array.getElem?_eq_some_iff.1 hl').1
    obtain ⟨W2, hW2⟩ : ∃ W2, W'.putObj (w.heap.size + 1) (.loop { rec .ready none with state := .busy }) = W2 := ⟨_, rfl⟩
    have hs2 : W2.heap.size = W'.heap.size := by rw [← hW2]; simp
    have hl2 : W2.heap[w.heap.size + 1]? = some (.loop { rec .ready none with state := .busy }) := by rw [← hW2]; exact World.putObj_heap_same hlt'
    have hd2 : W2.heap[w.heap.size]? = some (.deferred (some [])) := by rw [← hW2]; exact (World.putObj_heap_other (by omega)).trans hd'
    have hi2 : I pre W2 := by rw [← hW2]; exact hI _ _ _ (hI _ _ _ hi (Kept.of_below hb' (Nat.le_refl _) _)) (turn hl' rfl)
    have hax2 : Ax x a₁ W2 := by rw [← hW2]; exact hAx _ _ _ _ _ _ hax hl' rfl
    have hr2 : Rounds X (w.heap.size + 1) W W2 := by
      rw [← hW2]
      exact (Kept.of_below hb' (Nat.le_refl _) _).trans ((kept_put (X := fun b => b = w.heap.size + 1) W' (w.heap.size + 1) _ rfl).mono (fun k hk e => .inl e)) |> fun h => h
    refine ⟨W2, by rw [← hW2]; exact run_beginRound hl' (by rw [hrec]), wpIn_mono (hbody _ pre x a₁ W2 (by omega) (by omega) hi2 hlen hax2) ?_⟩
    have fin : ∀ (jump : Option Code) (W3 : World), W3.heap[w.heap.size + 1]? = some (.loop { rec .ready none with state := .busy }) →
        (Instr.endRound (w.heap.size + 1) jump).run P W3 = .ok (.bool jump.isNone) (W3.putObj (w.heap.size + 1) (.loop (rec (if jump.isNone then .ready else .done) jump))) := fun jump W3 h3 => by
      have := run_endRound (P := P) jump h3
      rw [hrec] at this ⊢
      exact this
    have leave : ∀ (c : Code) (W3 : World), Kept (fun b => b < w.heap.size ∨ X W2 b) W2 W3 → Ix c (pre ++ [x]) W3 → ∃ v w', (Instr.endRound (w.heap.size + 1) (some c)).run P W3 = .ok v w' ∧ ((Ending.returned v = .returned (.bool true) ∧ (I (pre ++ [x]) w' ∧ w'.heap[w.heap.size + 1]? = some (.loop (rec .ready none)) ∧ w'.heap[w.heap.size]? = some (.deferred (some []))) ∧ Rounds X (w.heap.size + 1) W w') ∨
        (Ending.returned v = .returned (.bool false) ∧ (∃ c, Ix c (pre ++ [x]) w' ∧ w'.heap[w.heap.size + 1]? = some (.loop (rec .done (some c))) ∧ w'.heap[w.heap.size]? = some (.deferred (some []))) ∧ Kept (fun b => b < W1.heap.size ∨ X W b) W w')) := fun c W3 hk3 hi3 => by
      have hl3 := (hk3.block _ (by omega) (fun q => q.elim (fun e => by omega) fun e => hXo _ _ _ (by omega) (Nat.le_refl _) hl2 rfl e)).trans hl2
      have hd3 := (hk3.block w.heap.size (by omega) (fun q => q.elim (fun e => by omega) fun e => hXo _ _ _ (Nat.le_refl _) (by omega) hd2 rfl e)).trans hd2
      refine ⟨_, _, fin (some c) W3 hl3, .inr ⟨rfl, ⟨c, hIx _ _ _ _ hi3 (turn hl3 rfl), World.putObj_heap_same (Array.getElem?_eq_some_iff.1 hl3).1, (World.putObj_heap_other (by omega)).trans hd3⟩, ?_⟩⟩
      refine ⟨hk3.os.trans hr2.os, hk3.tape.trans hr2.tape, hk3.output.trans hr2.output, by rw [World.putObj_size]; exact Nat.le_trans hr2.size hk3.size, fun k hk hx => ?_⟩
      have hkb : ¬ k < W1.heap.size := fun e => hx (.inl e)
      have e1 := hr2.block k hk (fun q => q.elim (fun e => by omega) fun e => hx (.inr e))
      refine (World.putObj_heap_other (by omega)).trans ((hk3.block k (Nat.lt_of_lt_of_le hk hr2.size) (fun q => q.elim (fun e => by omega) fun e => hx (.inr (hXs _ _ _ e1 e)))).trans e1)
    rintro e a3 W3 hp
    cases e with
    | normal =>
      obtain ⟨hk3, hi3⟩ := hp
      have hl3 := (hk3.block _ (by omega) (fun e => hXo _ _ _ (by omega) (Nat.le_refl _) hl2 rfl e)).trans hl2
      have hd3 := (hk3.block w.heap.size (by omega) (fun e => hXo _ _ _ (Nat.le_refl _) (by omega) hd2 rfl e)).trans hd2
      have hk4 : Rounds X (w.heap.size + 1) W W3 := by
        refine ⟨hk3.os.trans hr2.os, hk3.tape.trans hr2.tape, hk3.output.trans hr2.output, Nat.le_trans hr2.size hk3.size, fun k hk hx => ?_⟩
        have e1 := hr2.block k hk hx
        refine (hk3.block k (Nat.lt_of_lt_of_le hk hr2.size) (fun q => hx (.inr (hXs _ _ _ e1 q)))).trans e1
      refine ⟨_, _, fin none W3 hl3, .inl ⟨rfl, ⟨hI _ _ _ hi3 (turn hl3 rfl), World.putObj_heap_same (Array.getElem?_eq_some_iff.1 hl3).1, (World.putObj_heap_other (by omega)).trans hd3⟩, ?_⟩⟩
      exact ⟨hk4.os, hk4.tape, hk4.output, by rw [World.putObj_size]; exact hk4.size, fun k hk hx => (World.putObj_heap_other (fun e => hx (.inl e))).trans (hk4.block k hk hx)⟩
    | ret => exact leave .ret W3 hp.1 hp.2
    | exit id => exact leave (.exit id) W3 hp.1 hp.2
    | goto t => exact hp.elim
    | panic ch => exact hp.elim
    | outgrown => exact hp.elim
  · rintro e W2 ⟨⟨v, rfl⟩, (⟨xs, hS, hi, hl, hd⟩ | ⟨pre, hSp, c, hi, hl, hd⟩)⟩
    · exact ⟨none, _, by have := run_endLoop (P := P) hl (by rw [hrec]; simp); rw [hrec] at this; exact this, hdone _ xs _ (Nat.le_refl _) hS (hI _ _ _ hi (turn hl rfl)) ((World.putObj_heap_other (by omega)).trans hd)⟩
    · exact ⟨some c, _, by have := run_endLoop (P := P) hl (by rw [hrec]; simp); rw [hrec] at this; exact this, hstop _ c pre _ (Nat.le_refl _) hSp (hIx _ _ _ _ hi (turn hl rfl)) ((World.putObj_heap_other (by omega)).trans hd)⟩
end Go.Proofs.Ytcaioffdcbjbjaa.Rg
/-
  THE STORE OF LAYER UNIFY, PLAINLY: what is known of variables, and what each of its functions makes of that; 'none' where the fuel or the room ends. No memory in sight.
-/
namespace Go.Proofs.Ytcaioffdcbjbjaa.Un
open Go.RowKit Mm Tm
set_option linter.unusedVariables false
/-- what is known of a variable: one that it is the same as; what those have in common that are the same as it; a type, of variables -/
inductive PF where
  | link (r : Int)
  | opn (l d : Int) (h : Bool)
  | typ (kd : Int) (nm : ByteArray) (xs : List Int)
abbrev PS := Int → Option PF
def updP (K : PS) (n : Int) (f : Option PF) : PS := fun x => if x = n then f else K x
theorem updP_same (K : PS) (n : Int) (f : Option PF) : updP K n f n = f := if_pos rfl
theorem updP_other (K : PS) {n x : Int} (f : Option PF) (h : x ≠ n) : updP K n f x = K x := if_neg h
theorem updP_back (K : PS) (n : Int) (f : Option PF) : updP (updP K n f) n (K n) = K := by
  funext x
  unfold updP
  split
  · rename_i h; rw [h]
  · rfl
def inI (n : Int) : Bool := decide (-4611686018427387904 ≤ n) && decide (n ≤ 4611686018427387904)
theorem inI_iff {n : Int} : inI n = true ↔ -4611686018427387904 ≤ n ∧ n ≤ 4611686018427387904 := by simp [inI]
def wr (n : Int) : Int := wrap64 n
/-- the end of a way -/
def endP (K : PS) : Nat → Int → Option (Int × PF)
  | 0, _ => none
  | q + 1, n => if inI n then
      match K n with
      | none => some (n, .opn n 0 false)
      | some (.link r) => endP K q r
      | some f => some (n, f)
    else none
/-- what is being made: what is known, of how many, and what was told before -/
structure St where
  K : PS
  cnt : Nat
  old : List (Int × Option PF)
def lim : Nat := 100000000000
def setP (s : St) (n : Int) (f : PF) : Option St :=
  if inI n && decide (s.cnt < lim) && decide (s.old.length < lim) then some ⟨updP s.K n (some f), if (s.K n).isSome then s.cnt else s.cnt + 1, s.old ++ [(n, s.K n)]⟩ else none
/-- a type as it is taken -/
inductive Sd where
  | typ (x : Ty)
  | var (n : Int) (f : PF)
def takenP (q : Nat) (K : PS) (x : Ty) : Option Sd :=
  if x.kd = 1 then (endP K q x.n).map fun r => .var r.1 r.2 else if x.kd = 0 then none else some (.typ x)
def holdP (q : Nat) (s : St) (n : Int) : Option St :=
  match endP s.K q n with
  | none => none
  | some (r, .opn l d false) => setP s r (.opn l d true)
  | some _ => some s
def innerP (s : St) (f : PF) : Option (St × Int) := (setP s (-1 - s.cnt) f).map fun s1 => (s1, -1 - (s.cnt : Int))
/-- a type's parts as variables -/
def flatL (q : Nat) : St → Tys → Option (St × List Int)
  | s, .nil => some (s, [])
  | s, .cons kd n nm args rest =>
    if kd = 1 then (if decide (nm = (⟨#[]⟩ : ByteArray)) && decide (args.len = 0) then (holdP q s n).bind fun s1 => (flatL q s1 rest).map fun r => (r.1, n :: r.2) else none)
    else if kd = 0 then none
    else (flatL q s args).bind fun r => (innerP r.1 (.typ kd nm r.2)).bind fun i => (flatL q i.1 rest).map fun z => (z.1, i.2 :: z.2)
/-- the sides of a join, the one that leads on last -/
def joinP (s : St) (a : Int) (la da : Int) (ha : Bool) (b : Int) (lb db : Int) (hb : Bool) : Option St :=
  if da > db then (setP s b (.link a)).bind fun s1 => setP s1 a (.opn (min lb la) (max (wr (db + 1)) da) (hb || ha))
  else (setP s a (.link b)).bind fun s1 => setP s1 b (.opn (min la lb) (max (wr (da + 1)) db) (ha || hb))
end Go.Proofs.Ytcaioffdcbjbjaa.Un
/-
  WORDS ON MEMORY: what a call may turn: blocks from base on, of some kinds or by name. No program in sight.
-/
namespace Go.Proofs.Ytcaioffdcbjbjaa.Tm
open Go.RowKit Mm
set_option linter.unusedVariables false
/-- blocks that may turn: from base on, those of D, and those that hold cells of a type of T -/
def XG (base : Nat) (T : TypeId → Prop) (D : Nat → Prop) (w : World) (b : Nat) : Prop := base ≤ b ∧ (D b ∨ ∃ t, T t ∧ TyB t w b)
def KG (base : Nat) (T : TypeId → Prop) (D : Nat → Prop) (w w' : World) : Prop := Kept (XG base T D w) w w'
section
variable {base : Nat} {T T' : TypeId → Prop} {D D' : Nat → Prop} {w w' w'' : World}
theorem KG.refl (base : Nat) (T : TypeId → Prop) (D : Nat → Prop) (w : World) : KG base T D w w := Kept.refl _ w
theorem KG.size (h : KG base T D w w') : w.heap.size ≤ w'.heap.size := Kept.size h
theorem XG.back (h : KG base T D w w') {b : Nat} (hb : b < w.heap.size) (hx : ¬ XG base T D w b) : ¬ XG base T D w' b := by
  rintro ⟨h1, h2 | ⟨t, ht, h2⟩⟩
  · exact hx ⟨h1, .inl h2⟩
  · exact hx ⟨h1, .inr ⟨t, ht, h2.same (h.block b hb hx).symm⟩⟩
theorem KG.trans (h : KG base T D w w') (k : KG base T D w' w'') : KG base T D w w'' :=
  ⟨k.os.trans h.os, k.tape.trans h.tape, k.output.trans h.output, Nat.le_trans h.size k.size, fun i hi hx => (k.block i (Nat.lt_of_lt_of_le hi h.size) (XG.back h hi hx)).trans (h.block i hi hx)⟩
theorem KG.mono (h : KG base T D w w') (hT : ∀ t, T t → T' t) (hD : ∀ b, b < w.heap.size → D b → D' b) : KG base T' D' w w' :=
  Kept.mono h fun k hk hx => ⟨hx.1, hx.2.elim (fun q => .inl (hD k hk q)) fun ⟨t, ht, q⟩ => .inr ⟨t, hT t ht, q⟩⟩
theorem KG.of_below {B : Nat} (h : Below B w w') (hB : w.heap.size ≤ B) : KG base T D w w' := Kept.of_below h hB _
theorem KG.alloc (h : KG base T D w w') (o : Obj) : KG base T D w (w'.alloc o) := Kept.alloc h o
theorem KG.drew (h : KG base T D w w') : KG base T D w w'.drew := Kept.drew h
theorem KG.box {g : Nat} {t : TypeId} {cs : Array Value} (h : KG base T D w w') (b : Box w g t cs) (hD : ¬ D g) (hT : ¬ T t) : Box w' g t cs :=
  Kept.box h b fun ⟨_, q⟩ => q.elim hD fun ⟨t', ht, cs', hc⟩ => hT (by unfold Box at b; rw [b] at hc; injection hc with hc; injection hc with _ e; rwa [e])
theorem KG.lowbox {g : Nat} {t : TypeId} {cs : Array Value} (h : KG base T D w w') (b : Box w g t cs) (hg : g < base) : Box w' g t cs :=
  Kept.box h b fun ⟨q, _⟩ => by omega
theorem KG.tyB {g : Nat} {t : TypeId} (h : KG base T D w w') (b : TyB t w g) (hD : ¬ D g) (hT : ¬ T t) : TyB t w' g := by
  obtain ⟨cs, hc⟩ := b
  exact ⟨cs, h.box (show Box w g t cs from hc) hD hT⟩
theorem KG.cell {ad : Addr} (h : KG base T D w w') (hl : ad.block < base) (hs : ad.block < w.heap.size) : w'.cell? ad = w.cell? ad := World.cell?_of_block (h.block ad.block hs fun q => by have := q.1; omega)
theorem KG.cellT {t : TypeId} {ad : Addr} (h : KG base T D w w') (hl : TyB t w ad.block) (hD : ¬ D ad.block) (hT : ¬ T t) : w'.cell? ad = w.cell? ad :=
  World.cell?_of_block (h.block ad.block hl.lt fun ⟨_, q⟩ => q.elim hD fun ⟨t', ht, cs', hc⟩ => hT (by obtain ⟨cs, hb⟩ := hl; rw [hb] at hc; injection hc with hc; injection hc with _ e; rwa [e]))
/-- types below base, or in blocks of their own kind, stay -/
theorem KG.types {tt : TypeId} {a : Option Addr} {t : Tys} {k : Nat} (h : KG base T D w w') (hr : RdT (fun b => (b < base ∧ b < w.heap.size) ∨ (base ≤ b ∧ TyB tt w b)) w a t k) (hD : ∀ b, D b → ¬ TyB tt w b) (hT : ¬ T tt) : RdT (fun b => (b < base ∧ b < w'.heap.size) ∨ (base ≤ b ∧ TyB tt w' b)) w' a t k := by
  have hc : ∀ ad : Addr, ((ad.block < base ∧ ad.block < w.heap.size) ∨ (base ≤ ad.block ∧ TyB tt w ad.block)) → w'.cell? ad = w.cell? ad := fun ad hz => hz.elim (fun q => h.cell q.1 q.2) fun q => h.cellT q.2 (fun e => hD _ e q.2) hT
  exact hr.frame (fun b o hz => hc ⟨b, o, none⟩ hz) hc fun b hz => hz.imp (fun q => ⟨q.1, Nat.lt_of_lt_of_le q.2 h.size⟩) fun q => ⟨q.1, h.tyB q.2 (fun e => hD _ e q.2) hT⟩
theorem KG.below (h : KG base T D w w') (hB : base ≤ w.heap.size) : Below base w w' := Kept.below h hB fun k q => q.1
theorem KG.own {B : Nat} {e : TypeId} {size : Nat} {v : Value} {n : Nat} {xs : List Value} (h : KG base T D w w') (o : w.ownsRow B e size v n xs) (hD : ∀ g, v.ownBlock = some g → ¬ D g) (hT : ¬ T e) : w'.ownsRow B e size v n xs := by
  refine ⟨o.1, ?_⟩
  rcases o.2 with h2 | ⟨g, cap, cur, rfl, hg, hh, r⟩
  · exact .inl h2
  · exact .inr ⟨g, cap, cur, rfl, hg, h.box (show Box w g e cur from hh) (hD g rfl) hT, r⟩
/-- a block that is written -/
theorem KG.setCell (h : KG base T D w w') {a : Addr} (hb : base ≤ a.block) (ha : a.block < w.heap.size → D a.block ∨ ∃ t, T t ∧ TyB t w a.block) (u : Value) : KG base T D w (w'.setCell a u) := Kept.setCell h (fun q => ⟨hb, ha q⟩) u
theorem KG.grown {row : Option Nat} (h : KG base T D w w') (hg : w'.grownBy w'' row) (hr : ∀ k, row = some k → k < w.heap.size → base ≤ k ∧ (D k ∨ ∃ t, T t ∧ TyB t w k)) : KG base T D w w'' := Kept.grown h hg hr
end
/-- where types of a store's may lie: below base, or in blocks of types -/
def ZB (base : Nat) (tt : TypeId) (w : World) (b : Nat) : Prop := (b < base ∧ b < w.heap.size) ∨ (base ≤ b ∧ TyB tt w b)
theorem ZB.lt {base : Nat} {tt : TypeId} {w : World} {b : Nat} (h : ZB base tt w b) : b < w.heap.size := h.elim (fun q => q.2) fun q => q.2.lt
end Go.Proofs.Ytcaioffdcbjbjaa.Tm
/-
  WORDS on a region that draws its order and ends in a writing call: the reads ahead of it, by the quiet walk's cheap steps. No program in sight.
-/
namespace Go.Proofs.Ytcaioffdcbjbjaa.Sq
open Go Go.RowKit
theorem still_of_quiet {P : Program} {ops : Array Oper} {w : World} {Q : Act → Prop} : ∀ (l : List Oper) (a : Act), wpQuiet P ops (fun w' => w' = w) Q l a → wpStill P ops w Q l a
  | [], _, h => h
  | o :: rest, a, h => by
    unfold wpQuiet at h
    unfold wpStill
    split
    · rename_i hw
      rw [if_pos hw] at h
      obtain ⟨v, h1, h2⟩ := h
      have h3 := h1 w rfl
      have h4 := still_of_quiet rest _ h2
      unfold Oper.quietAt at h3
      unfold Oper.still
      generalize (execOp a.eval o).run P w = r at h3 ⊢
      cases r with
      | ok n w' =>
        cases n <;> simp only [Oper.quietUpon] at h3 <;> simp only [Oper.stillUpon]
        case value u => exact ⟨h3.1, h3.2 ▸ h4⟩
        case skip => exact ⟨h3.1, h3.2 ▸ h4⟩
        case enter f args => exact ⟨h3.1, v, h3.1 ▸ h3.2, h4⟩
      | halt x w' => simp only [Oper.quietUpon] at h3
    · rename_i hw
      rw [if_neg hw] at h
      exact still_of_quiet rest _ h
/-- A region that draws: n reads, by the quiet walk, then its tail in its order. -/
theorem region_reads {P : Program} {id : Nat} {Q : Exit → Act → World → Prop} {a : Act} {w : World} {l : List Oper} (n : Nat) (hm : P.follows .mixedOrders = true) (hB : Region.lexTailB .any l.toArray n = true)
    (h : wpQuiet P l.toArray (fun w' => w' = w.drew) (fun a' => wpList P l.toArray Q (l.drop n) a' w.drew) (l.take n) a) : (Code.region id l.toArray true).wp P Q a w :=
  wp_region_still_tail n hm hB (still_of_quiet _ _ h)
end Go.Proofs.Ytcaioffdcbjbjaa.Sq
/-
  PAIRS of variables, plainly: how often each was made the same. No memory in sight.
-/
namespace Go.Proofs.Ytcaioffdcbjbjaa.Un
open Go.RowKit Mm Tm
set_option linter.unusedVariables false
abbrev PM := Int → Int → Int
def updM (M : PM) (a b c : Int) : PM := fun x y => if x = a ∧ y = b then c else M x y
/-- were two variables made the same ahead? -/
def aheadP (M : PM) (a b : Int) : PM × Bool := (updM M (min a b) (max a b) (wr (M (min a b) (max a b) + 1)), decide (1 < wr (M (min a b) (max a b) + 1)))
def unlikeP (k1 k2 : Int) (n1 n2 : ByteArray) (l1 l2 : Nat) : Bool := (k1 != k2) || ((n1.toList != n2.toList) || (l1 != l2))
end Go.Proofs.Ytcaioffdcbjbjaa.Un
/-
  THE OPEN VARIABLES of a type, plainly: as they come, each once. No memory in sight.
-/
namespace Go.Proofs.Ytcaioffdcbjbjaa.Un
open Go.RowKit Mm Tm
set_option linter.unusedVariables false
abbrev SN := Int → Int
def updN (M : SN) (a c : Int) : SN := fun x => if x = a then c else M x
def PF.isOpn : PF → Bool
  | .opn _ _ _ => true
  | _ => false
/-- the parts of what is known -/
def PF.parts : PF → List Ty
  | .typ _ _ xs => xs.map fun n => ⟨1, n, (⟨#[]⟩ : ByteArray), .nil⟩
  | _ => []
def limT : Nat := 1000000000
/-- the open variables, from what is still to be looked at; how often each was met -/
def openL (q : Nat) (K : PS) (deep : Bool) : Nat → SN → List Ty → Option (List (Int × PF))
  | _, _, [] => some []
  | 0, _, _ :: _ => none
  | d + 1, seen, x :: td =>
    match takenP q K x with
    | none => none
    | some (.typ y) => if y.args.len + td.length < limT then openL q K deep d seen (y.args.toL ++ td) else none
    | some (.var r f) =>
      if decide (1 < wr (seen r + 1)) || (!deep && !f.isOpn) then openL q K deep d (updN seen r (wr (seen r + 1))) td
      else if f.isOpn then (openL q K deep d (updN seen r (wr (seen r + 1))) td).map fun l => (r, f) :: l
      else if f.parts.length + td.length < limT then openL q K deep d (updN seen r (wr (seen r + 1))) (f.parts ++ td) else none
end Go.Proofs.Ytcaioffdcbjbjaa.Un
/-
  TYPES MADE THE SAME, plainly: a variable is bound, two types are made the same but for their parts, all that waits is made the same; what was told in vain is taken back; a type as it is known. 'none' where the fuel or the room ends. No memory in sight.
-/
namespace Go.Proofs.Ytcaioffdcbjbjaa.Un
open Go.RowKit Mm Tm
set_option linter.unusedVariables false
abbrev vrT (n : Int) : Ty := ⟨1, n, (⟨#[]⟩ : ByteArray), .nil⟩
def Sd.asTy : Sd → Ty
  | .typ x => x
  | .var n _ => vrT n
def Sd.parts : Sd → List Ty
  | .typ x => x.args.toL
  | .var _ f => f.parts
def Sd.isOpn : Sd → Bool
  | .typ _ => false
  | .var _ f => f.isOpn
def PF.kd : PF → Int
  | .link _ => 1
  | .opn _ _ _ => 0
  | .typ kd _ _ => kd
def PF.nm : PF → ByteArray
  | .typ _ nm _ => nm
  | _ => ⟨#[]⟩
def Sd.kd : Sd → Int
  | .typ x => x.kd
  | .var _ f => f.kd
def Sd.nm : Sd → ByteArray
  | .typ x => x.nm
  | .var _ f => f.nm
def hasV (n : Int) (L : List (Int × PF)) : Bool := L.any fun y => decide (y.1 = n)
/-- a variable of which nothing is known is bound: the error, and what is known then -/
def bindP (q d : Nat) (s : St) (n : Int) (held : Bool) (is : Sd) : Option (Int × St) :=
  (openL q s.K held d (fun _ => 0) [is.asTy]).bind fun L =>
    if hasV n L then some (101, s) else
    match is with
    | .var r _ => (setP s n (.link r)).map fun s' => (0, s')
    | .typ x => (flatL q s x.args).bind fun r => (setP r.1 n (.typ x.kd x.nm r.2)).map fun s' => (0, s')
/-- what comes of a pair: the error, what is known, the pairs that were met, what is to be made the same next -/
structure PR where
  err : Int
  st : St
  M : PM
  more : List (Ty × Ty)
def sameVar : Sd → Sd → Bool
  | .var n _, .var r _ => decide (n = r)
  | _, _ => false
/-- two types of which both are known -/
def matchP (s : St) (M : PM) (a b : Sd) : PR :=
  if a.kd ≠ b.kd ∨ a.nm ≠ b.nm ∨ a.parts.length ≠ b.parts.length then ⟨100, s, M, []⟩ else
  match a, b with
  | .var n _, .var r _ => if (aheadP M n r).2 then ⟨0, s, (aheadP M n r).1, []⟩ else ⟨0, s, (aheadP M n r).1, a.parts.zip b.parts⟩
  | _, _ => ⟨0, s, M, a.parts.zip b.parts⟩
def pairP (q d : Nat) (s : St) (M : PM) (a b : Sd) : Option PR :=
  if sameVar a b then some ⟨0, s, M, []⟩ else
  match a, b with
  | .var n (.opn la da ha), .var r (.opn lb db hb) => (joinP s n la da ha r lb db hb).map fun s' => ⟨0, s', M, []⟩
  | .var n (.opn la da ha), b => (bindP q d s n ha b).map fun e => ⟨e.1, e.2, M, []⟩
  | a, .var r (.opn lb db hb) => (bindP q d s r hb a).map fun e => ⟨e.1, e.2, M, []⟩
  | a, b => some (matchP s M a b)
/-- all that waits -/
def sameP (q d : Nat) : Nat → St → PM → List (Ty × Ty) → Option (Int × St)
  | _, s, _, [] => some (0, s)
  | 0, _, _, _ :: _ => none
  | k + 1, s, M, (x, y) :: td =>
    match takenP q s.K x, takenP q s.K y with
    | some a, some b =>
      match pairP q d s M a b with
      | none => none
      | some r => if r.err ≠ 0 then some (r.err, r.st) else if r.more.length + td.length < limT then sameP q d k r.st r.M (r.more ++ td) else none
    | _, _ => none
/-- what was told is taken back, the last of it first -/
def undoK (K : PS) : List (Int × Option PF) → PS
  | [] => K
  | (n, f) :: l => updP (undoK K l) n f
def unifyP (q d k : Nat) (K : PS) (cnt : Nat) (a b : Ty) : Option (Int × PS × Nat) :=
  (sameP q d k ⟨K, cnt, []⟩ (fun _ _ => 0) [(a, b)]).map fun r => if r.1 = 0 then (0, r.2.K, r.2.cnt) else (r.1, undoK r.2.K r.2.old, cnt)
/-- the parts of a type as it is known, as long as there is room -/
def foldW (f : Nat → Ty → Option (Nat × Option Ty)) : Nat → List Ty → List Ty → Option (Nat × Option (List Ty))
  | room, [], acc => some (room, some acc)
  | room, x :: l, acc =>
    match f room x with
    | none => none
    | some (room', none) => some (room', none)
    | some (room', some y) => foldW f room' l (acc ++ [y])
/-- a type as it is known, as long as there is room -/
def wholeP (q : Nat) (K : PS) : Nat → Nat → Ty → Option (Nat × Option Ty)
  | 0, room, _ => if room = 0 then some (0, none) else none
  | k + 1, room, x =>
    if room = 0 then some (0, none) else
    match takenP q K x with
    | none => none
    | some (.var _ (.opn l _ _)) => some (room - 1, some (vrT l))
    | some sd => (foldW (wholeP q K k) (room - 1) sd.parts []).map fun r => (r.1, r.2.map fun ys => ⟨sd.kd, 0, sd.nm, Tys.ofL ys⟩)
end Go.Proofs.Ytcaioffdcbjbjaa.Un
/-
  WHAT WAS TOLD IS TAKEN BACK, plainly: with it what is known, and of how many variables, is as it was. No memory in sight.
-/
namespace Go.Proofs.Ytcaioffdcbjbjaa.Un
open Go.RowKit Mm Tm
set_option linter.unusedVariables false
/-- one change is taken back -/
def undo1 (s : PS × Nat) (x : Int × Option PF) : PS × Nat := (updP s.1 x.1 x.2, if x.2.isSome then (if (s.1 x.1).isSome then s.2 else s.2 + 1) else (if (s.1 x.1).isSome then s.2 - 1 else s.2))
/-- what was told is taken back, the last of it first -/
def undoS (s : PS × Nat) : List (Int × Option PF) → PS × Nat
  | [] => s
  | x :: l => undo1 (undoS s l) x
theorem undoS_snoc (s : PS × Nat) (x : Int × Option PF) : ∀ l, undoS s (l ++ [x]) = undoS (undo1 s x) l
  | [] => rfl
  | y :: l => by rw [List.cons_append, undoS, undoS_snoc s x l, undoS]
/-- what is being made came of what was known by being set -/
def Hist (K : PS) (c : Nat) (s : St) : Prop := undoS (s.K, s.cnt) s.old = (K, c)
theorem Hist.start (K : PS) (c : Nat) : Hist K c ⟨K, c, []⟩ := rfl
theorem Hist.set {K : PS} {c : Nat} {s s' : St} {n : Int} {f : PF} (h : Hist K c s) (hs : setP s n f = some s') : Hist K c s' := by
  unfold setP at hs
  split at hs
  · injection hs with hs
    subst hs
    unfold Hist
    rw [undoS_snoc]
    have e : undo1 (updP s.K n (some f), if (s.K n).isSome then s.cnt else s.cnt + 1) (n, s.K n) = (s.K, s.cnt) := by
      unfold undo1
      simp only [updP_same, updP_back, Option.isSome_some, if_true]
      cases s.K n <;> simp
    rw [e]
    exact h
  · cases hs
theorem Inv.hold {P : St → Prop} (hP : ∀ s n f s', P s → setP s n f = some s' → P s') {q : Nat} {s s' : St} {n : Int} (h : P s) (hs : holdP q s n = some s') : P s' := by
  unfold holdP at hs
  split at hs
  · cases hs
  · exact hP _ _ _ _ h hs
  · injection hs with hs; subst hs; exact h
theorem Inv.flat {P : St → Prop} (hP : ∀ s n f s', P s → setP s n f = some s' → P s') {q : Nat} : ∀ (t : Tys) (s s' : St) (xs : List Int), P s → flatL q s t = some (s', xs) → P s'
  | .nil, s, s', xs, h, hf => by
    simp only [flatL, Option.some.injEq, Prod.mk.injEq] at hf
    rw [← hf.1]
    exact h
  | .cons kd n nm args rest, s, s', xs, h, hf => by
    unfold flatL at hf
    split at hf
    · split at hf
      · obtain ⟨s1, h1, h2⟩ := Option.bind_eq_some_iff.1 hf
        obtain ⟨⟨s2, x2⟩, h3, h4⟩ := Option.map_eq_some_iff.1 h2
        simp only [Prod.mk.injEq] at h4
        rw [← h4.1]
        exact Inv.flat hP rest s1 s2 x2 (Inv.hold hP h h1) h3
      · cases hf
    · split at hf
      · cases hf
      · obtain ⟨⟨s1, x1⟩, h1, h2⟩ := Option.bind_eq_some_iff.1 hf
        obtain ⟨⟨s2, i2⟩, h3, h4⟩ := Option.bind_eq_some_iff.1 h2
        obtain ⟨⟨s3, x3⟩, h5, h6⟩ := Option.map_eq_some_iff.1 h4
        simp only [Prod.mk.injEq] at h6
        rw [← h6.1]
        unfold innerP at h3
        obtain ⟨s4, h7, h8⟩ := Option.map_eq_some_iff.1 h3
        simp only [Prod.mk.injEq] at h8
        obtain ⟨rfl, rfl⟩ := h8
        exact Inv.flat hP rest _ s3 x3 (hP _ _ _ _ (Inv.flat hP args s s1 x1 h h1) h7) h5
theorem Inv.join {P : St → Prop} (hP : ∀ s n f s', P s → setP s n f = some s' → P s') {s s' : St} {a b la da lb db : Int} {ha hb : Bool} (h : P s) (hs : joinP s a la da ha b lb db hb = some s') : P s' := by
  unfold joinP at hs
  split at hs <;> (obtain ⟨s1, h1, h2⟩ := Option.bind_eq_some_iff.1 hs; exact hP _ _ _ _ (hP _ _ _ _ h h1) h2)
theorem Inv.bind {P : St → Prop} (hP : ∀ s n f s', P s → setP s n f = some s' → P s') {q d : Nat} {s s' : St} {n e : Int} {hd : Bool} {is : Sd} (h : P s) (hs : bindP q d s n hd is = some (e, s')) : P s' := by
  unfold bindP at hs
  obtain ⟨L, _, h2⟩ := Option.bind_eq_some_iff.1 hs
  split at h2
  · simp only [Option.some.injEq, Prod.mk.injEq] at h2
    rw [← h2.2]
    exact h
  · cases is with
    | var r f =>
      obtain ⟨s1, h3, h4⟩ := Option.map_eq_some_iff.1 h2
      simp only [Prod.mk.injEq] at h4
      rw [← h4.2]
      exact hP _ _ _ _ h h3
    | typ x =>
      obtain ⟨⟨s1, x1⟩, h3, h4⟩ := Option.bind_eq_some_iff.1 h2
      obtain ⟨s2, h5, h6⟩ := Option.map_eq_some_iff.1 h4
      simp only [Prod.mk.injEq] at h6
      rw [← h6.2]
      exact hP _ _ _ _ (Inv.flat hP _ _ _ _ h h3) h5
theorem matchP_st (s : St) (M : PM) (a b : Sd) : (matchP s M a b).st = s := by
  unfold matchP
  split
  · rfl
  · split
    · split <;> rfl
    · rfl
theorem Inv.pair {P : St → Prop} (hP : ∀ s n f s', P s → setP s n f = some s' → P s') {q d : Nat} {s : St} {M : PM} {a b : Sd} {r : PR} (h : P s) (hs : pairP q d s M a b = some r) : P r.st := by
  unfold pairP at hs
  split at hs
  · injection hs with hs; subst hs; exact h
  · split at hs
    · obtain ⟨s1, h1, rfl⟩ := Option.map_eq_some_iff.1 hs
      exact Inv.join hP h h1
    · obtain ⟨⟨e1, s1⟩, h1, rfl⟩ := Option.map_eq_some_iff.1 hs
      exact Inv.bind hP h h1
    · obtain ⟨⟨e1, s1⟩, h1, rfl⟩ := Option.map_eq_some_iff.1 hs
      exact Inv.bind hP h h1
    · injection hs with hs; subst hs; rw [matchP_st]; exact h
theorem Inv.same {P : St → Prop} (hP : ∀ s n f s', P s → setP s n f = some s' → P s') {q d : Nat} : ∀ (k : Nat) (s : St) (M : PM) (td : List (Ty × Ty)) (r : Int × St), P s → sameP q d k s M td = some r → P r.2
  | _, s, M, [], r, h, hs => by
    unfold sameP at hs
    injection hs with hs
    subst hs
    exact h
  | 0, s, M, (x, y) :: td, r, h, hs => by cases hs
  | k + 1, s, M, (x, y) :: td, r, h, hs => by
    unfold sameP at hs
    split at hs
    · split at hs
      · cases hs
      · rename_i pr hp
        split at hs
        · injection hs with hs; subst hs; exact Inv.pair hP h hp
        · split at hs
          · exact Inv.same hP k _ _ _ r (Inv.pair hP h hp) hs
          · cases hs
    · cases hs
/-- what is being made is small, and its variables are in their bounds -/
def Small (s : St) : Prop := s.old.length ≤ 100000000000 ∧ s.cnt ≤ 100000000000 ∧ ∀ x ∈ s.old, inI x.1 = true
theorem Small.set {s s' : St} {n : Int} {f : PF} (h : Small s) (hs : setP s n f = some s') : Small s' := by
  unfold setP at hs
  split at hs
  · rename_i hc
    simp only [Bool.and_eq_true, decide_eq_true_eq] at hc
    unfold lim at hc
    injection hs with hs
    subst hs
    refine ⟨by rw [List.length_append]; simp only [List.length_cons, List.length_nil]; omega, ?_, fun x hx => ?_⟩
    · show (if (s.K n).isSome then s.cnt else s.cnt + 1) ≤ _
      split <;> omega
    · rcases List.mem_append.1 hx with q | q
      · exact h.2.2 x q
      · rw [List.mem_singleton.1 q]; exact hc.1.1
  · cases hs
theorem Hist.same {K : PS} {c q d k : Nat} {s : St} {M : PM} {td : List (Ty × Ty)} {r : Int × St} (h : Hist K c s) (hs : sameP q d k s M td = some r) : Hist K c r.2 := Inv.same (fun _ _ _ _ h q => Hist.set h q) k s M td r h hs
theorem Small.same {q d k : Nat} {s : St} {M : PM} {td : List (Ty × Ty)} {r : Int × St} (h : Small s) (hs : sameP q d k s M td = some r) : Small r.2 := Inv.same (fun _ _ _ _ h q => Small.set h q) k s M td r h hs
/-- what comes of Unify: the error, what is known, of how many -/
def unifyQ (q d k : Nat) (K : PS) (cnt : Nat) (a b : Ty) : Option (Int × PS × Nat) :=
  (sameP q d k ⟨K, cnt, []⟩ (fun _ _ => 0) [(a, b)]).map fun r => if r.1 = 0 then (0, r.2.K, r.2.cnt) else (r.1, K, cnt)
end Go.Proofs.Ytcaioffdcbjbjaa.Un
/-
  WHAT MUST COME OF FIXED CALLS, plainly: two pairs that are made the same, what comes of it, one that can't be. No memory in sight.
-/
namespace Go.Proofs.Ytcaioffdcbjbjaa.Un
open Go.RowKit Mm Tm
set_option linter.unusedVariables false
def nmI : ByteArray := ⟨#[73, 110, 116]⟩
def nmB : ByteArray := ⟨#[66, 111, 111, 108]⟩
def conT (nm : ByteArray) : Ty := ⟨2, 0, nm, .nil⟩
def toT (a b : Ty) : Ty := ⟨3, 0, (⟨#[]⟩ : ByteArray), Tys.ofL [a, b]⟩
def r0 : Int × PS × Nat := (0, (fun _ => none), 0)
def u1 : Int × PS × Nat := (unifyQ 10 100 100 (fun _ => none) 0 (vrT 0) (toT (conT nmI) (vrT 1))).getD r0
def u2 : Int × PS × Nat := (unifyQ 10 100 100 u1.2.1 u1.2.2 (vrT 0) (toT (vrT 2) (conT nmB))).getD r0
def u3 : Int × PS × Nat := (unifyQ 10 100 100 (fun _ => none) 0 (vrT 0) (toT (vrT 0) (conT nmI))).getD r0
theorem getD_some {α : Type} {o : Option α} {d : α} (h : o.isSome = true) : o = some (o.getD d) := by cases o with
  | none => cases h
  | some x => rfl
theorem u1_is : unifyQ 10 100 100 (fun _ => none) 0 (vrT 0) (toT (conT nmI) (vrT 1)) = some u1 := getD_some (by kernel_rfl)
theorem u1_ok : u1.1 = 0 := by kernel_rfl
theorem u1_cnt : u1.2.2 = 3 := by kernel_rfl
theorem u2_is : unifyQ 10 100 100 u1.2.1 u1.2.2 (vrT 0) (toT (vrT 2) (conT nmB)) = some u2 := getD_some (by kernel_rfl)
theorem u2_ok : u2.1 = 0 := by kernel_rfl
theorem u3_is : unifyQ 10 100 100 (fun _ => none) 0 (vrT 0) (toT (vrT 0) (conT nmI)) = some u3 := getD_some (by kernel_rfl)
theorem u3_no : u3.1 = 101 := by kernel_rfl
def w2 : Nat × Option Ty := (wholeP 10 u2.2.1 300 256 (vrT 0)).getD (0, none)
theorem w2_is : wholeP 10 u2.2.1 300 256 (vrT 0) = some w2 := getD_some (by kernel_rfl)
theorem w2_ok : w2.2 = some (toT (conT nmI) (conT nmB)) := by kernel_rfl
end Go.Proofs.Ytcaioffdcbjbjaa.Un
