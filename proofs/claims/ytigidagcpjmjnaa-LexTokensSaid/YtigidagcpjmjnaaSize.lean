/-
  CONTRACT: a number without its sign (changelingref01.Size).
-/
import Derived.Test.YtigidagcpjmjnaaPlain
import Derived.Handy
import Derived.Lib.Hide
import Derived.WalkSpells
import Derived.WalkLawsBesides
import Derived.Outline
namespace Go.Proofs.Ytigidagcpjmjnaa.Ar
open Go.RowKit Pl

theorem ret_int {k : IntKind} {a b : Int} (h : a = b) : Ending.returned (.int k a) = .returned (.int k b) := by rw [h]
theorem ret_two {k : IntKind} {a b c d : Int} (h : a = b) (g : c = d) : Ending.returned (.tuple #[.int k a, .int k c]) = .returned (.tuple #[.int k b, .int k d]) := by rw [h, g]

theorem size_any (a : Int) (h1 : -9223372036854775808 ≤ a) (h2 : a ≤ 9223372036854775807) (w : World) : Calls Try.prog 17 #[.int .i64 a] w fun e w' => e = .returned (.int .u64 (size a : Nat)) ∧ w = w' := by
  have e1 := size_neg a h1
  have E1 := Lib.hid e1
  clear e1
  by_cases h : a < 0
  · go_enter Try.func17, Try.ntmps17
    go_wp2
    go_ret
    exact ⟨ret_int (by rw [← E1.out h]; simp), rfl⟩
  · go_enter Try.func17, Try.ntmps17
    go_wp2
    go_ret
    exact ⟨ret_int (by unfold size; omega), rfl⟩
end Go.Proofs.Ytigidagcpjmjnaa.Ar
