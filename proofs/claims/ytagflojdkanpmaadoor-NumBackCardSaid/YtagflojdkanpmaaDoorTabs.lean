/-
  WHAT THE ROWS' LIST OF VARIABLES GIVES: the cells of the table of operators' texts (a string each).
-/
import Derived.Test.YtagflojdkanpmaaDoorRows
import Derived.WalkKit
import Derived.ProofKit
import Derived.OpenShut
import Derived.Lay
import Derived.Lib.LaidTab
import Derived.MakeChecks
namespace Go.Proofs.YtagflojdkanpmaaDoor.Tb
open Go.ChangeShapes Go.WideShapes Go.ChangeAt Go.RowKit

/-- A table of texts as a row lists it. -/
def strData {H : Type} (ss : List (List UInt8)) : DataW H := .agg (ss.map fun b => .lit (.string b))

theorem strs_cells {H : Type} {enc : TypeId × Value → H} {P : Program} {w : World} {base : Nat} {sp : Nat → Bool} {held : Bool} {fuel : Nat} {t e : TypeId} {n : Nat} {cs : List Value} {ss : List (List UInt8)} {p : List MemPlace}
    (ht : P.underlying t = some (.array n e)) (he : P.underlying e = some .string) (hce : P.cellsOf e = 1)
    (h : DataW.trod enc P w base sp held fuel t cs = some (strData ss, p)) : ∀ (i : Nat) b, ss[i]? = some b → cs[i]? = some (.string ⟨b.toArray⟩) := by
  intro i b hb
  obtain ⟨xs, m, rfl, hx, hl, hn, hall⟩ := DataW.trod_array ht h
  have hxs : xs.map (·.1) = ss.map fun b => (DataW.lit (.string b) : DataW H) := by
    have := congrArg Prod.fst hx
    simp only [strData, DataW.agg.injEq] at this
    exact this.symm
  have hi : i < ss.length := (List.getElem?_eq_some_iff.1 hb).1
  have hin : i < n := by
    have := congrArg List.length hxs
    simp at this
    omega
  obtain ⟨x, hx1⟩ : ∃ x, xs[i]? = some x := ⟨xs[i]'(by omega), List.getElem?_eq_getElem _⟩
  have ht2 := hall i hin
  rw [hx1, hce, Nat.mul_one] at ht2
  obtain ⟨s, hc, rfl, _⟩ := DataW.trod_string he ht2
  have h2 : (xs.map (·.1))[i]? = some (DataW.lit (.string s.data.toList) : DataW H) := by simp [hx1]
  rw [hxs] at h2
  simp only [List.getElem?_map, hb, Option.map_some, Option.some.injEq, DataW.lit.injEq, Lit.string.injEq] at h2
  have h3 := congrArg (·[0]?) hc
  simp only [List.getElem?_take, List.getElem?_drop] at h3
  simp at h3
  rw [h3, h2]

theorem strs_of_head {P : Program} {W : World} {name : String} {ss : List (List UInt8)} {rest : List (String × DataW Unit)} {g : Nat} {t e : TypeId} {n : Nat}
    (hg : P.globalNamed name = some g) (hty : (P.globals[g]?).map (·.type) = some t) (ht : P.underlying t = some (.array n e)) (he : P.underlying e = some .string) (hce : P.cellsOf e = 1)
    (h : laidMet P ((name, strData ss) :: rest) W) : ∀ (i : Nat) b, ss[i]? = some b → W.cell? ⟨g, i, none⟩ = some (.string ⟨b.toArray⟩) := by
  obtain ⟨ps, ⟨g', t', cs, fuel, p, q, hg', ht', hvar, hd, _, _⟩, _⟩ := h
  obtain rfl := Option.some.inj (hg.symm.trans hg')
  obtain rfl := Option.some.inj (hty.symm.trans ht')
  intro i b hb
  have := strs_cells ht he hce hd i b hb
  rw [World.var?_cell hg hvar i]
  simpa using this

def opTexts : List (List UInt8) := [[], [43], [45], [42], [47], [37], [61, 61], [47, 61], [60], [60, 61], [62], [62, 61]]
/-- The table of operators' texts lies in W as the program's text lays it. -/
def NamesAt (W : World) : Prop := ∀ (i : Nat) b, opTexts[i]? = some b → W.cell? ⟨0, i, none⟩ = some (.string ⟨b.toArray⟩)
theorem gN : Tryd.prog.globalNamed "changeling/num.names" = some 0 := by kernel_rfl
theorem gNType : (Tryd.prog.globals[0]?).map (·.type) = some 50 := by kernel_rfl
theorem cellsStr : Tryd.prog.cellsOf 9 = 1 := by kernel_rfl
theorem names_of {W : World} {rest : List (String × DataW Unit)} (h : laidMet Tryd.prog (("changeling/num.names", strData opTexts) :: rest) W) : NamesAt W :=
  strs_of_head gN gNType Tryd.underlying50 Tryd.underlying9 cellsStr h
end Go.Proofs.YtagflojdkanpmaaDoor.Tb
