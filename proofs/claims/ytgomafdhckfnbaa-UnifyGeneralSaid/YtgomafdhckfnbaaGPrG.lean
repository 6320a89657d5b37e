/-
  A row of types that came in.
-/
import Derived.Test.YtgomafdhckfnbaaGUnArg

namespace Go.Proofs.Ytgomafdhckfnbaa.Ua
open Go.RowKit Mm Tm
open Go.ChangeShapes Go.WideShapes Go.ChangeAt
set_option linter.unusedVariables false
theorem open_tys {H : Type} {enc : TypeId × Value → H} {W : World} {b : Option Addr} {n c : Nat} {d : DataW H} {ps : List MemPlace} (h : DataW.Trod enc Try.prog W 0 (fun _ => true) true 27 (.slice b n c) d ps) (hw : WB 27 d) :
    n * 56 ≤ 140737488355328 ∧ ∃ t : Tys, t.len = n ∧ RdT (· < W.heap.size) W b t 0 := by
  obtain ⟨fuel, hf⟩ := h
  exact open_types fuel fuel (Nat.le_refl _) hf hw
end Go.Proofs.Ytgomafdhckfnbaa.Ua
