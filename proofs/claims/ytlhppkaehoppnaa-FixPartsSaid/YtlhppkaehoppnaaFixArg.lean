/-
  A row of ways of binding that came in, opened to its cells.
-/
import Derived.Test.YtlhppkaehoppnaaFixE
import Derived.Test.YtlhppkaehoppnaaRows
import Derived.OpenShut
import Derived.Deep.Slices
import Derived.Carry
namespace Go.Proofs.Ytlhppkaehoppnaa.Fx
open Go.RowKit Fm Mm Nm
open Go.ChangeShapes Go.WideShapes Go.ChangeAt
set_option linter.unusedVariables false

theorem cellsFix : Try.prog.cellsOf 33 = 5 := by kernel_rfl
theorem cellsStr : Try.prog.cellsOf 9 = 1 := by kernel_rfl
theorem cellsInt : Try.prog.cellsOf 3 = 1 := by kernel_rfl
theorem cellsPos : Try.prog.cellsOf 31 = 2 := by kernel_rfl
theorem laidOut : laidOutB Try.prog = true := by kernel_rfl
theorem fix_cells {H : Type} {enc : TypeId × Value → H} {W : World} {base : Nat} {sp : Nat → Bool} {held : Bool} {fuel : Nat} {cs : List Value} {x : DataW H × List MemPlace} (h : DataW.trod enc Try.prog W base sp held fuel 33 cs = some x) :
    ∃ o a l p q, cs = [.string o, .int .i64 a, .int .i64 l, .int .i64 p, .int .i64 q] := by
  obtain ⟨xs, n, _, _, hl, hlen, hf⟩ := DataW.trod_struct Try.underlying33 h
  rw [cellsFix] at hl
  match cs, hl with
  | [c0, c1, c2, c3, c4], _ =>
    have g0 : DataW.trod enc Try.prog W base sp held n 9 (([c0, c1, c2, c3, c4].drop 0).take (Try.prog.cellsOf 9)) = xs[0]? := hf 0 _ rfl
    have g1 : DataW.trod enc Try.prog W base sp held n 3 (([c0, c1, c2, c3, c4].drop 1).take (Try.prog.cellsOf 3)) = xs[1]? := hf 1 _ rfl
    have g2 : DataW.trod enc Try.prog W base sp held n 3 (([c0, c1, c2, c3, c4].drop 2).take (Try.prog.cellsOf 3)) = xs[2]? := hf 2 _ rfl
    have g3 : DataW.trod enc Try.prog W base sp held n 31 (([c0, c1, c2, c3, c4].drop 3).take (Try.prog.cellsOf 31)) = xs[3]? := hf 3 _ rfl
    rw [cellsStr] at g0
    rw [cellsInt] at g1 g2
    rw [cellsPos] at g3
    have hlen : xs.length = 4 := hlen
    match xs, hlen with
    | [y0, y1, y2, y3], _ =>
      simp at g0 g1 g2 g3
      obtain ⟨o, e0, _⟩ := DataW.trod_string Try.underlying9 g0
      obtain ⟨a, e1, _⟩ := DataW.trod_int Try.underlying3 g1
      obtain ⟨l, e2, _⟩ := DataW.trod_int Try.underlying3 g2
      obtain ⟨z0, z1, m, _, _, t0, t1⟩ := trod_struct2 Try.underlying31 g3
      have t0 : DataW.trod enc Try.prog W base sp held m 3 (([c3, c4].drop 0).take (Try.prog.cellsOf 3)) = some z0 := t0
      have t1 : DataW.trod enc Try.prog W base sp held m 3 (([c3, c4].drop 1).take (Try.prog.cellsOf 3)) = some z1 := t1
      rw [cellsInt] at t0 t1
      simp at t0 t1
      obtain ⟨p, e3, _⟩ := DataW.trod_int Try.underlying3 t0
      obtain ⟨q, e4, _⟩ := DataW.trod_int Try.underlying3 t1
      simp at e0 e1 e2 e3 e4
      exact ⟨o, a, l, p, q, by rw [e0, e1, e2, e3, e4]⟩
theorem open_fix {H : Type} {enc : TypeId × Value → H} {W : World} {rc : Reach} {bs : Nat} {v : Value} {d : DataW H} {ps : List MemPlace} (hv : Value.okWide Try.prog W rc bs 33 v) (h : DataW.Trod enc Try.prog W 0 (fun _ => true) true 33 v d ps) :
    ∃ o a l p q, v = fixV o a l p q := by
  obtain ⟨cs, rfl, _⟩ := okWide_struct Try.underlying33 hv
  obtain ⟨fuel, hf⟩ := h
  obtain ⟨o, a, l, p, q, e⟩ := fix_cells hf
  have e' : cs.toList = [.string o, .int .i64 a, .int .i64 l, .int .i64 p, .int .i64 q] := e
  exact ⟨o, a, l, p, q, congrArg Value.agg (Array.toList_inj.1 (by rw [e']))⟩
theorem cell_at {W : World} {a : Addr} {j : Nat} {v : Value} (hj : j ≠ 0) (h : W.cell? (a.add j) = some v) : W.cell? ⟨a.block, a.off + j, none⟩ = some v := by
  unfold Addr.add at h
  rw [if_neg hj] at h
  exact h
theorem open_fixes {H : Type} {enc : TypeId × Value → H} {W : World} {b : Option Addr} {n c : Nat} {d : DataW H} {ps : List MemPlace} (h : DataW.Trod enc Try.prog W 0 (fun _ => true) true 22 (.slice b n c) d ps) :
    n ≤ 9223372036854775807 ∧ ∃ r, Reads W W.heap.size b n r := by
  obtain ⟨fuel, hf⟩ := h
  rcases Deep.open_slice Try.underlying22 hf with ⟨hcs, _⟩ | ⟨a, len, cap, m, k, D, Pl, hcs, _, hl, hm, hmm, _, hi⟩
  · simp [Value.cells] at hcs
    obtain ⟨rfl, rfl, rfl⟩ := hcs
    exact ⟨by omega, ⟨fun _ => ByteArray.empty, fun _ => 0, fun _ => 0, fun _ => 0, fun _ => 0⟩, fun i hi => absurd hi (by omega)⟩
  · simp [Value.cells] at hcs
    obtain ⟨rfl, rfl, rfl⟩ := hcs
    refine ⟨by unfold maxLen at hm; omega, ?_⟩
    have key : ∀ i, i < n → ∃ x : ByteArray × Int × Int × Int × Int, W.cell? (a.add (i * 5)) = some (.string x.1) ∧ W.cell? ⟨(a.add (i * 5)).block, (a.add (i * 5)).off + 1, none⟩ = some (.int .i64 x.2.1) ∧ W.cell? ⟨(a.add (i * 5)).block, (a.add (i * 5)).off + 2, none⟩ = some (.int .i64 x.2.2.1) ∧
        W.cell? ⟨(a.add (i * 5)).block, (a.add (i * 5)).off + 3, none⟩ = some (.int .i64 x.2.2.2.1) ∧ W.cell? ⟨(a.add (i * 5)).block, (a.add (i * 5)).off + 4, none⟩ = some (.int .i64 x.2.2.2.2) := by
      intro i hlt
      obtain ⟨cs', hc, ht⟩ := hi i (by rw [hmm]; simp; omega)
      rw [cellsFix] at hc
      obtain ⟨o, x, l, p, q, rfl⟩ := fix_cells ht
      obtain ⟨_, _, hat⟩ := World.cells?_some hc
      exact ⟨⟨o, x, l, p, q⟩, hat 0 (by omega), cell_at (by omega) (hat 1 (by omega)), cell_at (by omega) (hat 2 (by omega)), cell_at (by omega) (hat 3 (by omega)), cell_at (by omega) (hat 4 (by omega))⟩
    haveI : Inhabited (ByteArray × Int × Int × Int × Int) := ⟨⟨ByteArray.empty, 0, 0, 0, 0⟩⟩
    obtain ⟨f, hf⟩ := Deep.choose_lt key
    refine ⟨⟨fun i => (f i).1, fun i => (f i).2.1, fun i => (f i).2.2.1, fun i => (f i).2.2.2.1, fun i => (f i).2.2.2.2⟩, fun i hlt => ⟨a, rfl, ?_, hf i hlt⟩⟩
    have := World.block_lt_of_cell? _ _ (hf i hlt).1
    rwa [block_of_add] at this
end Go.Proofs.Ytlhppkaehoppnaa.Fx
