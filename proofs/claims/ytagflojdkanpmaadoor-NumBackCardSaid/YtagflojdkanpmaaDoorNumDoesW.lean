/-
  THE WALK of the law NumDoes: both calls give one and the same.
-/
import Derived.Test.YtagflojdkanpmaaDoorKnown
import Derived.Test.YtagflojdkanpmaaDoorTabs
namespace Go.Proofs.YtagflojdkanpmaaDoor.NumDoes
open Go.RowKit Pl Ar Dx Kn Tb

theorem known_at {w : World} (hn : NamesAt w) : w.cell? ⟨0, 7, none⟩ = some (.string ⟨#[47, 61]⟩) := hn 7 [47, 61] rfl
theorem law (op : Int) (_ : -9223372036854775808 ≤ op) (_ : op ≤ 9223372036854775807) (a : Int) (h1 : -9223372036854775808 ≤ a) (h2 : a ≤ 9223372036854775807) (b : Int) (h3 : -9223372036854775808 ≤ b) (h4 : b ≤ 9223372036854775807) (w : World) (hn : NamesAt w) :
    Calls Tryd.prog 3 #[.int .i64 op, .int .i64 a, .int .i64 b] w fun e w' => e = .returned (.bool true) ∧ Below w.heap.size w w' := by
  have hc := known_at hn
  have HN := Lib.hid hc
  clear hn hc
  go_enter Tryd.func3, Tryd.ntmps3
  go_wp2_with fail
  refine (do_any op a b _).mono ?_
  rintro e w' ⟨rfl, rfl⟩
  go_wp2_with fail
  refine (rdo_any op a b _ h1 h2 h3 h4).mono ?_
  rintro e w' ⟨rfl, rfl⟩
  go_wp2_with (go_at_call 13; refine (known_any _ HN.out).mono ?_; rintro e w' ⟨rfl, rfl⟩)
  go_ret
  exact ⟨rfl, Below.refl _ _⟩
end Go.Proofs.YtagflojdkanpmaaDoor.NumDoes
