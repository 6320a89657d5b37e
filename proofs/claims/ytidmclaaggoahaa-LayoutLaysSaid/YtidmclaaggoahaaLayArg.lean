/-
  A row of tokens that came in, opened to its cells.
-/
import Derived.Test.YtidmclaaggoahaaLayX
import Derived.Test.YtidmclaaggoahaaRows
import Derived.OpenShut
import Derived.Deep.Slices
import Derived.Carry
namespace Go.Proofs.Ytidmclaaggoahaa.Ly
open Go.RowKit Pl Ar Mm Lx
open Go.ChangeShapes Go.WideShapes Go.ChangeAt
set_option linter.unusedVariables false

theorem cellsTok : Try.prog.cellsOf 35 = 6 := by kernel_rfl
theorem cellsStr : Try.prog.cellsOf 9 = 1 := by kernel_rfl
theorem cellsInt : Try.prog.cellsOf 3 = 1 := by kernel_rfl
theorem cellsI64 : Try.prog.cellsOf 2 = 1 := by kernel_rfl
theorem cellsBool : Try.prog.cellsOf 4 = 1 := by kernel_rfl
theorem cellsPos : Try.prog.cellsOf 25 = 2 := by kernel_rfl
theorem laidOut : laidOutB Try.prog = true := by kernel_rfl
theorem tok_cells {H : Type} {enc : TypeId × Value → H} {W : World} {base : Nat} {sp : Nat → Bool} {held : Bool} {fuel : Nat} {cs : List Value} {x : DataW H × List MemPlace} (h : DataW.trod enc Try.prog W base sp held fuel 35 cs = some x) :
    ∃ t : TokM, cs = tmCells t := by
  obtain ⟨xs, n, _, _, hl, hlen, hf⟩ := DataW.trod_struct Try.underlying35 h
  rw [cellsTok] at hl
  match cs, hl with
  | [c0, c1, c2, c3, c4, c5], _ =>
    have g0 : DataW.trod enc Try.prog W base sp held n 3 (([c0, c1, c2, c3, c4, c5].drop 0).take (Try.prog.cellsOf 3)) = xs[0]? := hf 0 _ rfl
    have g1 : DataW.trod enc Try.prog W base sp held n 9 (([c0, c1, c2, c3, c4, c5].drop 1).take (Try.prog.cellsOf 9)) = xs[1]? := hf 1 _ rfl
    have g2 : DataW.trod enc Try.prog W base sp held n 2 (([c0, c1, c2, c3, c4, c5].drop 2).take (Try.prog.cellsOf 2)) = xs[2]? := hf 2 _ rfl
    have g3 : DataW.trod enc Try.prog W base sp held n 25 (([c0, c1, c2, c3, c4, c5].drop 3).take (Try.prog.cellsOf 25)) = xs[3]? := hf 3 _ rfl
    have g4 : DataW.trod enc Try.prog W base sp held n 4 (([c0, c1, c2, c3, c4, c5].drop 5).take (Try.prog.cellsOf 4)) = xs[4]? := hf 4 _ rfl
    rw [cellsStr] at g1
    rw [cellsInt] at g0
    rw [cellsI64] at g2
    rw [cellsPos] at g3
    rw [cellsBool] at g4
    have hlen : xs.length = 5 := hlen
    match xs, hlen with
    | [y0, y1, y2, y3, y4], _ =>
      simp at g0 g1 g2 g3 g4
      obtain ⟨a, e0, _⟩ := DataW.trod_int Try.underlying3 g0
      obtain ⟨o, e1, _⟩ := DataW.trod_string Try.underlying9 g1
      obtain ⟨l, e2, _⟩ := DataW.trod_int Try.underlying2 g2
      obtain ⟨z0, z1, m, _, _, t0, t1⟩ := trod_struct2 Try.underlying25 g3
      have t0 : DataW.trod enc Try.prog W base sp held m 3 (([c3, c4].drop 0).take (Try.prog.cellsOf 3)) = some z0 := t0
      have t1 : DataW.trod enc Try.prog W base sp held m 3 (([c3, c4].drop 1).take (Try.prog.cellsOf 3)) = some z1 := t1
      rw [cellsInt] at t0 t1
      simp at t0 t1
      obtain ⟨p, e3, _⟩ := DataW.trod_int Try.underlying3 t0
      obtain ⟨q, e4, _⟩ := DataW.trod_int Try.underlying3 t1
      obtain ⟨b, e5, _⟩ := DataW.trod_bool Try.underlying4 g4
      simp at e0 e1 e2 e3 e4 e5
      exact ⟨⟨a, o, l, p, q, b⟩, by rw [e0, e1, e2, e3, e4, e5]; rfl⟩
theorem cell_at {W : World} {a : Addr} {j : Nat} {v : Value} (hj : j ≠ 0) (h : W.cell? (a.add j) = some v) : W.cell? ⟨a.block, a.off + j, none⟩ = some v := by
  unfold Addr.add at h
  rw [if_neg hj] at h
  exact h
/-- The row of n tokens at b. -/
def RowM (w : World) (B : Nat) (b : Option Addr) (n : Nat) (L : List TokM) : Prop := L.length = n ∧ ∀ c, ShowsM w B (.slice b n c) L
theorem open_toks {H : Type} {enc : TypeId × Value → H} {W : World} {b : Option Addr} {n c : Nat} {d : DataW H} {ps : List MemPlace} (h : DataW.Trod enc Try.prog W 0 (fun _ => true) true 22 (.slice b n c) d ps) :
    n ≤ 9223372036854775807 ∧ ∃ L, RowM W W.heap.size b n L := by
  obtain ⟨fuel, hf⟩ := h
  rcases Deep.open_slice Try.underlying22 hf with ⟨hcs, _⟩ | ⟨a, len, cap, m, k, D, Pl, hcs, _, hl, hm, hmm, _, hi⟩
  · simp [Value.cells] at hcs
    obtain ⟨rfl, rfl, rfl⟩ := hcs
    exact ⟨by omega, [], rfl, fun c => ⟨none, c, rfl, fun i hi => absurd hi (by simp)⟩⟩
  · simp [Value.cells] at hcs
    obtain ⟨rfl, rfl, rfl⟩ := hcs
    refine ⟨by unfold maxLen at hm; omega, ?_⟩
    have key : ∀ i, i < n → ∃ t : TokM, TokAt W (a.add (i * 6)) t := by
      intro i hlt
      obtain ⟨cs', hc, ht⟩ := hi i (by rw [hmm]; simp; omega)
      rw [cellsTok] at hc
      obtain ⟨t, rfl⟩ := tok_cells ht
      obtain ⟨_, _, hat⟩ := World.cells?_some hc
      exact ⟨t, hat 0 (by omega), cell_at (by omega) (hat 1 (by omega)), cell_at (by omega) (hat 2 (by omega)), cell_at (by omega) (hat 3 (by omega)), cell_at (by omega) (hat 4 (by omega)), cell_at (by omega) (hat 5 (by omega))⟩
    haveI : Inhabited TokM := ⟨⟨0, ByteArray.empty, 0, 0, 0, false⟩⟩
    obtain ⟨f, hf⟩ := Deep.choose_lt key
    have hlen : ((List.range n).map f).length = n := by simp
    refine ⟨(List.range n).map f, hlen, fun c => ⟨some a, c, by rw [hlen], fun i hlt => ?_⟩⟩
    rw [hlen] at hlt
    have e : tk ((List.range n).map f) i = f i := by
      unfold tk
      rw [List.getD_eq_getElem?_getD, List.getElem?_map, List.getElem?_range hlt]
      rfl
    rw [e]
    exact ⟨a, rfl, World.block_lt_of_cell? _ _ (hf i hlt).c0, hf i hlt⟩
end Go.Proofs.Ytidmclaaggoahaa.Ly
