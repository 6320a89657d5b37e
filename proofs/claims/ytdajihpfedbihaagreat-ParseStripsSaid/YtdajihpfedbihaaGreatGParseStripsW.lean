/-
  The law ParseStrips: a program and an expression without their places are the same otherwise.
-/
import Derived.Test.YtdajihpfedbihaaGreatGParseStripsV
import Derived.Test.YtdajihpfedbihaaGreatGV

namespace Go.Proofs.YtdajihpfedbihaaGreat.ParseStrips
open Go.RowKit Mm Tm St
theorem law (k0 : Nat) (cs0 : List Value) (k1 : Nat) (cs1 : List Value) (w : World) (hp0 : FF (G (· < w.heap.size) w k0) (· < w.heap.size) w pgF cs0) (hp1 : G (· < w.heap.size) w k1 .ex cs1) :
    Calls Tryz.prog 3 #[.agg cs0.toArray, .agg cs1.toArray] w fun e w' => e = .returned (.bool true) ∧ Below w.heap.size w w' := law0 Pa.known_any k0 cs0 k1 cs1 w hp0 hp1
end Go.Proofs.YtdajihpfedbihaaGreat.ParseStrips
