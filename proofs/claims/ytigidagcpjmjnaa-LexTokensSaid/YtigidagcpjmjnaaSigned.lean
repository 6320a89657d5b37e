/-
  CONTRACT: a number with a sign (changelingref01.signed).
-/
import Derived.Test.YtigidagcpjmjnaaSize
namespace Go.Proofs.Ytigidagcpjmjnaa.Dx
open Go.RowKit Pl Ar

theorem wrap64_congr {x y : Int} (h : x % 18446744073709551616 = y % 18446744073709551616) : wrap64 x = wrap64 y := by
  unfold wrap64; rw [Int.add_emod, h, ← Int.add_emod]
theorem wrap64_id {a : Int} (h1 : -9223372036854775808 ≤ a) (h2 : a ≤ 9223372036854775807) : wrap64 a = a := by unfold wrap64; omega
/-- signed's value -/
def sgn (n : Int) (below : Bool) : Int := if below then wrap64 (IntKind.u64.wrap (-n)) else wrap64 n
theorem sgn_true (n : Int) : sgn n true = wrap64 (IntKind.u64.wrap (-n)) := by simp [sgn]
theorem sgn_false (n : Int) : sgn n false = wrap64 n := by simp [sgn]
theorem signed_any (n : Int) (below : Bool) (w : World) : Calls Try.prog 51 #[.int .u64 n, .bool below] w fun e w' => e = .returned (.int .i64 (sgn n below)) ∧ w = w' := by
  cases below
  · have H := Lib.hid (show sgn n false = wrap64 n by simp [sgn])
    go_enter Try.func51, Try.ntmps51
    go_wp2
    go_ret
    exact ⟨ret_int H.out.symm, rfl⟩
  · have H := Lib.hid (show sgn n true = wrap64 (IntKind.u64.wrap (-n)) by simp [sgn])
    go_enter Try.func51, Try.ntmps51
    go_wp2
    go_ret
    exact ⟨ret_int H.out.symm, rfl⟩
end Go.Proofs.Ytigidagcpjmjnaa.Dx
