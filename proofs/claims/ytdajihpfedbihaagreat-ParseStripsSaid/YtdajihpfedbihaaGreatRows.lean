/-
  NARROWER THAN 'FOR EVERY INPUT', by the rows' own cells (each row's printed sentence says how): ParseStrips: loops.
  DERIVED. THE GIVEN ROWS OF THIS SEAT. 3 by the template 'for every input the law returns true; each argument reads behind the call as it read before'; 0 by the template 'total and deterministic' (their statements: YtdajihpfedbihaaGreatTotals.lean).
  GIVEN WITH THE SEED: the statements are not yours to turn. If you find one false, say at which input.
  Laid BY PROGRAM, IN A SANDBOX (cutbox-rows.mjs): the forced cells as the released guide's own fill.sh prints them over the translation 8c3cc2817af4b922… (all of the seat's roots in one cut). By AI agents, Wed Nov 11 2026. No macro, syntax, notation, axiom, sorry.
-/
import Derived.Test.YtdajihpfedbihaaGreatChecked
import GoSem.Claim
import GoSem.ClaimJoined
import GoSem.ClaimMapViews
import Derived.JoinedTies
import Derived.KernelRfl
namespace Go.Proofs.YtdajihpfedbihaaGreat
/- THE CELL 'sum', in the pinned program and in every row, IS THE sha256 OF THE DUMP (.gsa) THAT YtdajihpfedbihaaGreatProg.lean LOADS. Nothing in Lean hashes anything: it is a label: what it is worth is what the hold of that sum in a sandbox is worth. -/
noncomputable def Tryz.pinned : Pinned := { name := "ytdajihpfedbihaagreat", sum := "8c3cc2817af4b92289149eade51c855614bdf5ef0361f6e6e0ba4068d56b7e97", checked := Tryz.checked }
namespace Rows
def none {H : Type} : Left H := { results := [], args := [] }

/-- 'changelinglaw06.ParseStrips': WHATEVER THE INPUT: true; the input reads as it did. -/
def parseStripsSpec : ChangeSpec := { name := "parseStrips", fn := fun _ => fun
  | [d1, d2] => { results := [.lit (.bool true)], args := [d1, d2] }
  | _ => none }
def parseStripsRow : OpenClaim := { program := "ytdajihpfedbihaagreat", sum := "8c3cc2817af4b92289149eade51c855614bdf5ef0361f6e6e0ba4068d56b7e97", func := "changeling/changelinglaw06.ParseStrips", spec := "parseStrips", unfollowed := true, recurses := true, loops := true, plainKeys := false, apart := false }
def ParseStripsSaid : Prop := parseStripsRow.holds Tryz.pinned (OpenSpec.ofChange parseStripsSpec)

/-- ITS FALSE NEIGHBOUR: 'it returns false'. Refute it at one input. -/
def parseStripsWrong : ChangeSpec := { name := "parseStrips", fn := fun _ => fun
  | [d1, d2] => { results := [.lit (.bool false)], args := [d1, d2] }
  | _ => none }
def ParseStripsWrongFalsely : Prop := parseStripsRow.holds Tryz.pinned (OpenSpec.ofChange parseStripsWrong)

/-- 'changelinglaw06.ParseJoins': WHATEVER THE INPUT: true; the input reads as it did. -/
def parseJoinsSpec : ChangeSpec := { name := "parseJoins", fn := fun _ => fun
  | [d1, d2] => { results := [.lit (.bool true)], args := [d1, d2] }
  | _ => none }
def parseJoinsRow : OpenClaim := { program := "ytdajihpfedbihaagreat", sum := "8c3cc2817af4b92289149eade51c855614bdf5ef0361f6e6e0ba4068d56b7e97", func := "changeling/changelinglaw06.ParseJoins", spec := "parseJoins", unfollowed := true, recurses := true, plainKeys := false, apart := false }
def ParseJoinsSaid : Prop := parseJoinsRow.holds Tryz.pinned (OpenSpec.ofChange parseJoinsSpec)

/-- ITS FALSE NEIGHBOUR: 'it returns false'. Refute it at one input. -/
def parseJoinsWrong : ChangeSpec := { name := "parseJoins", fn := fun _ => fun
  | [d1, d2] => { results := [.lit (.bool false)], args := [d1, d2] }
  | _ => none }
def ParseJoinsWrongFalsely : Prop := parseJoinsRow.holds Tryz.pinned (OpenSpec.ofChange parseJoinsWrong)

/-- 'changelinglaw06.ParseRows': WHATEVER THE INPUT: true; the input reads as it did. -/
def parseRowsSpec : ChangeSpec := { name := "parseRows", fn := fun _ => fun
  | [d1, d2] => { results := [.lit (.bool true)], args := [d1, d2] }
  | _ => none }
def parseRowsRow : OpenClaim := { program := "ytdajihpfedbihaagreat", sum := "8c3cc2817af4b92289149eade51c855614bdf5ef0361f6e6e0ba4068d56b7e97", func := "changeling/changelinglaw06.ParseRows", spec := "parseRows", unfollowed := true, recurses := true, plainKeys := false, apart := false }
def ParseRowsSaid : Prop := parseRowsRow.holds Tryz.pinned (OpenSpec.ofChange parseRowsSpec)

/-- ITS FALSE NEIGHBOUR: 'it returns false'. Refute it at one input. -/
def parseRowsWrong : ChangeSpec := { name := "parseRows", fn := fun _ => fun
  | [d1, d2] => { results := [.lit (.bool false)], args := [d1, d2] }
  | _ => none }
def ParseRowsWrongFalsely : Prop := parseRowsRow.holds Tryz.pinned (OpenSpec.ofChange parseRowsWrong)

/- THE SECOND FORM. 'bulk': how many values and letters a reading holds, each counted each time it is reached (what is shared counts as often as it is met; a slice's spare places count too). A statement '..UptoSaid' is the law's where the arguments, and the package variables that the reading takes, are together of bulk at most 1048576: NARROWER than '..Said'. Prove '..Said' where nothing that the law and all that it calls make is longer than what came in: it says more and counts as full. Else prove '..UptoSaid'. A law counts once. -/
mutual
def uptoBulk {H : Type} : DataW H → Nat
  | .lit (.string bytes) => bytes.length + 1
  | .lit _ => 1
  | .nil => 1
  | .ptr d => uptoBulk d + 1
  | .slice elems spare => uptoBulkAll elems + uptoBulkAll spare + 1
  | .agg parts => uptoBulkAll parts + 1
  | .iface _ d => uptoBulk d + 1
  | .map entries => uptoBulkEntries entries + 1
  | .held _ => 1
def uptoBulkAll {H : Type} : List (DataW H) → Nat
  | [] => 0
  | d :: r => uptoBulk d + uptoBulkAll r
def uptoBulkEntries {H : Type} : List (Lit × DataW H) → Nat
  | [] => 0
  | x :: r => uptoBulkEntry x + uptoBulkEntries r
def uptoBulkEntry {H : Type} : Lit × DataW H → Nat
  | (.string bytes, d) => bytes.length + uptoBulk d + 1
  | (_, d) => uptoBulk d + 1
 end
def uptoSmall : (H : Type) → List (DataW H) → Bool := fun _ ds => decide (uptoBulkAll ds ≤ 1048576)
def OpenSpec.upto (s : _root_.Go.ChangeSpec) : _root_.Go.OpenSpec := { _root_.Go.OpenSpec.ofChange s with cond := some uptoSmall }

/-- 'changelinglaw06.ParseStrips', WHERE WHAT IT READS IS OF BULK AT MOST 1048576: true; the input reads as it did. -/
def parseStripsUptoRow : OpenClaim := { program := "ytdajihpfedbihaagreat", sum := "8c3cc2817af4b92289149eade51c855614bdf5ef0361f6e6e0ba4068d56b7e97", func := "changeling/changelinglaw06.ParseStrips", spec := "parseStrips", unfollowed := true, recurses := true, loops := true, plainKeys := false, apart := false, narrowed := true }
def ParseStripsUptoSaid : Prop := parseStripsUptoRow.holds Tryz.pinned (OpenSpec.upto parseStripsSpec)

/-- 'changelinglaw06.ParseJoins', WHERE WHAT IT READS IS OF BULK AT MOST 1048576: true; the input reads as it did. -/
def parseJoinsUptoRow : OpenClaim := { program := "ytdajihpfedbihaagreat", sum := "8c3cc2817af4b92289149eade51c855614bdf5ef0361f6e6e0ba4068d56b7e97", func := "changeling/changelinglaw06.ParseJoins", spec := "parseJoins", unfollowed := true, recurses := true, plainKeys := false, apart := false, narrowed := true }
def ParseJoinsUptoSaid : Prop := parseJoinsUptoRow.holds Tryz.pinned (OpenSpec.upto parseJoinsSpec)

/-- 'changelinglaw06.ParseRows', WHERE WHAT IT READS IS OF BULK AT MOST 1048576: true; the input reads as it did. -/
def parseRowsUptoRow : OpenClaim := { program := "ytdajihpfedbihaagreat", sum := "8c3cc2817af4b92289149eade51c855614bdf5ef0361f6e6e0ba4068d56b7e97", func := "changeling/changelinglaw06.ParseRows", spec := "parseRows", unfollowed := true, recurses := true, plainKeys := false, apart := false, narrowed := true }
def ParseRowsUptoSaid : Prop := parseRowsUptoRow.holds Tryz.pinned (OpenSpec.upto parseRowsSpec)

end Rows
end Go.Proofs.YtdajihpfedbihaaGreat
