/-
  CONTRACTS of layer num's arithmetic: the document's own (changelingref01) product, division, signs, operators; the program's (num) operators.
-/
import Derived.Test.YtagflojdkanpmaaDoorPlain
import Derived.Handy
import Derived.Lib.Hide
import Derived.WalkSpells
import Derived.WalkLawsBesides
import Derived.Outline
namespace Go.Proofs.YtagflojdkanpmaaDoor.Ar
open Go.RowKit Pl

theorem ret_int {k : IntKind} {a b : Int} (h : a = b) : Ending.returned (.int k a) = .returned (.int k b) := by rw [h]
theorem ret_two {k : IntKind} {a b c d : Int} (h : a = b) (g : c = d) : Ending.returned (.tuple #[.int k a, .int k c]) = .returned (.tuple #[.int k b, .int k d]) := by rw [h, g]

set_option maxHeartbeats 400000 in
theorem product_any (a b : Nat) (hb : b < 18446744073709551616) (w : World) : Calls Tryd.prog 34 #[.int .u64 a, .int .u64 b] w fun e w' => e = .returned (.int .u64 ((a * b % 18446744073709551616 : Nat) : Int)) ∧ w = w' := by
  go_enter Tryd.func34, Tryd.ntmps34
  go_wp2
  go_loop [5, 6] (fun n i => ∃ k : Nat, k ≤ 64 ∧ i = .int .i64 k ∧ n = .int .u64 (prodTo a b k : Nat)) (fun _ i => 64 - (intOf i).toNat)
  case atStart => exact ⟨0, by omega, rfl, by rw [prodTo_zero]; rfl⟩
  case round =>
    obtain ⟨k, hk, rfl, rfl⟩ := hrel
    by_cases hlt : k < 64
    · go_wp2
      · have hy := bit_yes b k hb (by assumption)
        go_round
        case rel => exact ⟨k + 1, by omega, by go_num, by rw [prod_val a b k hy]⟩
        case measure => first | (simp [intOf]; done) | (simp [intOf]; omega)
      · have hn := bit_no b k hb (by assumption)
        go_round
        case rel => exact ⟨k + 1, by omega, by go_num, by rw [prodTo_nil a b k hn]⟩
        case measure => first | (simp [intOf]; done) | (simp [intOf]; omega)
    · have h64 : k = 64 := by omega
      have H := Lib.hid h64
      clear h64
      go_wp2
      go_ret
      exact ⟨ret_int (by rw [H.out, prodTo_end a b hb]; simp), rfl⟩

theorem div_m (m k : Nat) (h : m = k) : Value.int .u64 (m : Int) = .int .u64 (k : Int) := by rw [h]
set_option maxHeartbeats 400000 in
theorem divided_any (a b : Nat) (ha : a < 18446744073709551616) (hb : b < 18446744073709551616) (h0 : 0 < b) (w : World) : Calls Tryd.prog 32 #[.int .u64 a, .int .u64 b] w fun e w' => e = .returned (.tuple #[.int .u64 ((a / b : Nat) : Int), .int .u64 ((a % b : Nat) : Int)]) ∧ w = w' := by
  go_enter Tryd.func32, Tryd.ntmps32
  go_wp2
  go_loop [6, 7, 8] (fun q r i => ∃ k : Nat, k ≤ 64 ∧ i = .int .i64 ((k : Int) - 1) ∧ q = .int .u64 (divQ a b k : Nat) ∧ r = .int .u64 (divR a b k : Nat)) (fun _ _ i => (intOf i + 1).toNat)
  case atStart => exact ⟨64, by omega, rfl, by rw [divQ_start a b ha]; rfl, by rw [divR_start a b ha]; rfl⟩
  case round =>
    obtain ⟨k, hk, rfl, rfl, rfl⟩ := hrel
    cases k with
    | succ k =>
      have ek : ((k + 1 : Nat) : Int) - 1 = (k : Int) := by omega
      rw [ek]
      clear ek
      go_wp2
      · have hs := div_off a b k ha hb h0 (by omega) (Or.inl (by assumption))
        go_round
        case rel => exact ⟨k, by omega, rfl, congrArg (Value.int .u64) hs.2, congrArg (Value.int .u64) hs.1⟩
        case measure => first | (simp [intOf]; done) | (simp [intOf]; omega)
      · rename_i h1 h2
        have hs := div_off a b k ha hb h0 (by omega) (h2.imp (fun h => by simpa using h) id)
        go_round
        case rel => exact ⟨k, by omega, rfl, congrArg (Value.int .u64) hs.2, congrArg (Value.int .u64) hs.1⟩
        case measure => first | (simp [intOf]; done) | (simp [intOf]; omega)
      · rename_i h1 h2
        have hs := div_on a b k ha hb h0 h1 h2.2
        go_round
        case rel => exact ⟨k, by omega, rfl, div_m _ _ hs.2, congrArg (Value.int .u64) hs.1⟩
        case measure => first | (simp [intOf]; done) | (simp [intOf]; omega)
    | zero =>
      rw [show (((0 : Nat) : Int) - 1) = -1 from rfl]
      go_wp2
      go_ret2
      exact ⟨ret_two (by rw [divQ_end]; simp) (by rw [divR_end]; simp), rfl⟩

theorem size_any (a : Int) (h1 : -9223372036854775808 ≤ a) (h2 : a ≤ 9223372036854775807) (w : World) : Calls Tryd.prog 27 #[.int .i64 a] w fun e w' => e = .returned (.int .u64 (size a : Nat)) ∧ w = w' := by
  have e1 := size_neg a h1
  have E1 := Lib.hid e1
  clear e1
  by_cases h : a < 0
  · go_enter Tryd.func27, Tryd.ntmps27
    go_wp2
    go_ret
    exact ⟨ret_int (by rw [← E1.out h]; simp), rfl⟩
  · go_enter Tryd.func27, Tryd.ntmps27
    go_wp2
    go_ret
    exact ⟨ret_int (by unfold size; omega), rfl⟩
end Go.Proofs.YtagflojdkanpmaaDoor.Ar
