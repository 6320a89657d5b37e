/-
  PLAIN MATHEMATICS for layer num: sums of bits, long division, the operators' plain functions. No program in sight.
-/
import Derived.Test.YtidmclaaggoahaaChecked
import Derived.WalkKit
import Derived.ProofKit
import Derived.Laws.ShiftsVarLaws
import Derived.Laws.Bits64
import Derived.Laws.BitsAllLaws
namespace Go.Proofs.Ytidmclaaggoahaa.Pl
open Go.RowKit

/-- The product's sum after k rounds. -/
def prodTo (a b k : Nat) : Nat := a * (b % 2 ^ k) % 18446744073709551616

theorem prodTo_lt (a b k : Nat) : prodTo a b k < 18446744073709551616 := Nat.mod_lt _ (by decide)
theorem prodTo_zero (a b : Nat) : prodTo a b 0 = 0 := by simp [prodTo, Nat.mod_one]
theorem prodTo_end (a b : Nat) (hb : b < 18446744073709551616) : prodTo a b 64 = a * b % 18446744073709551616 := by
  unfold prodTo; rw [Nat.mod_eq_of_lt (show b < 2 ^ 64 from hb)]
theorem mod_succ_pow (b k : Nat) : b % 2 ^ (k + 1) = b % 2 ^ k + 2 ^ k * (b / 2 ^ k % 2) := by
  rw [Nat.pow_succ, Nat.mod_mul]
theorem prodTo_one (a b k : Nat) (h : b / 2 ^ k % 2 = 1) : prodTo a b (k + 1) = (prodTo a b k + a * 2 ^ k % 18446744073709551616) % 18446744073709551616 := by
  unfold prodTo
  rw [mod_succ_pow, h, Nat.mul_one, Nat.mul_add, Nat.add_mod]
theorem prodTo_nil (a b k : Nat) (h : ¬ b / 2 ^ k % 2 = 1) : prodTo a b (k + 1) = prodTo a b k := by
  unfold prodTo
  have : b / 2 ^ k % 2 = 0 := by omega
  rw [mod_succ_pow, this, Nat.mul_zero, Nat.add_zero]

theorem shr_cast (b k : Nat) : ((b : Int) / 2 ^ k) = ((b / 2 ^ k : Nat) : Int) := by simp
theorem shr_lt (b k : Nat) (hb : b < 18446744073709551616) : b / 2 ^ k < 18446744073709551616 := Nat.lt_of_le_of_lt (Nat.div_le_self _ _) hb
/-- The walk's test of a bit. -/
theorem bit_eq (b k : Nat) (hb : b < 18446744073709551616) : bits BinOp.and IntKind.u64 ((b : Int) / 2 ^ k) 1 = ((b / 2 ^ k % 2 : Nat) : Int) := by
  rw [shr_cast, show (1 : Int) = ((1 : Nat) : Int) from rfl, u64_and_nat _ _ (shr_lt b k hb) (by decide), nat_mask1]
theorem bit_yes (b k : Nat) (hb : b < 18446744073709551616) (h : (bits BinOp.and IntKind.u64 ((b : Int) / 2 ^ k) 1 == 1) = true) : b / 2 ^ k % 2 = 1 := by
  rw [bit_eq b k hb] at h; generalize b / 2 ^ k % 2 = x at h; have := beq_iff_eq.1 h; omega
theorem bit_no (b k : Nat) (hb : b < 18446744073709551616) (h : (bits BinOp.and IntKind.u64 ((b : Int) / 2 ^ k) 1 == 1) = false) : ¬ b / 2 ^ k % 2 = 1 := by
  rw [bit_eq b k hb] at h; generalize b / 2 ^ k % 2 = x at h; have := beq_eq_false_iff_ne.1 h; omega
theorem prod_val (a b k : Nat) (h : b / 2 ^ k % 2 = 1) : IntKind.u64.wrap ((prodTo a b k : Int) + IntKind.u64.wrap ((a : Int) * 2 ^ k)) = (prodTo a b (k + 1) : Nat) := by
  rw [prodTo_one a b k h, IntKind.wrap_u64, IntKind.wrap_u64]
  simp

/-! ### long division -/
/-- What is left when the bits above k have been gone through. -/
def divR (a b k : Nat) : Nat := a / 2 ^ k % b
def divQ (a b k : Nat) : Nat := a / 2 ^ k / b * 2 ^ k

theorem divR_start (a b : Nat) (ha : a < 18446744073709551616) : divR a b 64 = 0 := by
  unfold divR; rw [Nat.div_eq_of_lt (show a < 2 ^ 64 from ha)]; simp
theorem divQ_start (a b : Nat) (ha : a < 18446744073709551616) : divQ a b 64 = 0 := by
  unfold divQ; rw [Nat.div_eq_of_lt (show a < 2 ^ 64 from ha)]; simp
theorem divR_end (a b : Nat) : divR a b 0 = a % b := by simp [divR]
theorem divQ_end (a b : Nat) : divQ a b 0 = a / b := by simp [divQ]
theorem divR_lt (a b k : Nat) (hb : 0 < b) : divR a b k < b := Nat.mod_lt _ hb
theorem divQ_le (a b k : Nat) : divQ a b k ≤ a := by
  unfold divQ
  have h1 : a / 2 ^ k / b ≤ a / 2 ^ k := Nat.div_le_self _ _
  exact Nat.le_trans (Nat.mul_le_mul_right _ h1) (Nat.div_mul_le_self _ _)
/-- the next bit comes in -/
theorem half (a k : Nat) : a / 2 ^ k = 2 * (a / 2 ^ (k + 1)) + a / 2 ^ k % 2 := by
  rw [Nat.pow_succ, ← Nat.div_div_eq_div_mul]; omega
theorem div_step (a b k : Nat) (hb : 0 < b) :
    (b ≤ 2 * divR a b (k + 1) + a / 2 ^ k % 2 → divR a b k = 2 * divR a b (k + 1) + a / 2 ^ k % 2 - b ∧ a / 2 ^ k / b = 2 * (a / 2 ^ (k + 1) / b) + 1) ∧
    (2 * divR a b (k + 1) + a / 2 ^ k % 2 < b → divR a b k = 2 * divR a b (k + 1) + a / 2 ^ k % 2 ∧ a / 2 ^ k / b = 2 * (a / 2 ^ (k + 1) / b)) := by
  have hh := half a k
  have hr := divR_lt a b (k + 1) hb
  unfold divR at *
  have hbit := Nat.mod_lt (a / 2 ^ k) (show 0 < 2 by decide)
  generalize a / 2 ^ (k + 1) = x at *
  have hx : x = b * (x / b) + x % b := (Nat.div_add_mod x b).symm
  generalize a / 2 ^ k % 2 = t at *
  have ht : a / 2 ^ k = b * (2 * (x / b)) + (2 * (x % b) + t) := by
    rw [hh]
    have : 2 * x = b * (2 * (x / b)) + 2 * (x % b) := by
      have h2 : 2 * x = 2 * (b * (x / b) + x % b) := by rw [← hx]
      rw [h2, Nat.mul_add, Nat.mul_left_comm]
    omega
  generalize x / b = q at *
  generalize x % b = r at *
  constructor
  · intro hle
    have ht2 : a / 2 ^ k = b * (2 * q + 1) + (2 * r + t - b) := by
      rw [ht, Nat.mul_add b (2 * q) 1, Nat.mul_one]; generalize b * (2 * q) = z; omega
    rw [ht2]
    have hlt : 2 * r + t - b < b := by
      omega
    constructor
    · rw [Nat.mul_add_mod, Nat.mod_eq_of_lt hlt]
    · rw [Nat.mul_add_div hb, Nat.div_eq_of_lt hlt, Nat.add_zero]
  · intro hlt
    rw [ht]
    constructor
    · rw [Nat.mul_add_mod, Nat.mod_eq_of_lt hlt]
    · rw [Nat.mul_add_div hb, Nat.div_eq_of_lt hlt, Nat.add_zero]
theorem divQ_yes (a b k : Nat) (h : a / 2 ^ k / b = 2 * (a / 2 ^ (k + 1) / b) + 1) : divQ a b k = divQ a b (k + 1) + 2 ^ k := by
  unfold divQ
  rw [h, Nat.add_mul, Nat.one_mul, Nat.pow_succ, Nat.mul_comm (2 ^ k) 2, ← Nat.mul_assoc, Nat.mul_comm 2 (_ / b)]
theorem divQ_no (a b k : Nat) (h : a / 2 ^ k / b = 2 * (a / 2 ^ (k + 1) / b)) : divQ a b k = divQ a b (k + 1) := by
  unfold divQ
  rw [h, Nat.pow_succ, Nat.mul_comm (2 ^ k) 2, ← Nat.mul_assoc, Nat.mul_comm 2 (_ / b)]
theorem in_eq (a n k : Nat) (ha : a < 18446744073709551616) : bits BinOp.or IntKind.u64 (IntKind.u64.wrap ((n : Int) * 2)) (bits BinOp.and IntKind.u64 ((a : Int) / 2 ^ k) 1) = ((2 * n % 18446744073709551616 + a / 2 ^ k % 2 : Nat) : Int) := by
  rw [bit_eq a k ha, IntKind.wrap_u64]
  generalize ht : a / 2 ^ k % 2 = t
  have hlt : t < 2 := by rw [← ht]; exact Nat.mod_lt _ (by decide)
  rw [show (n : Int) * 2 % 18446744073709551616 = ((2 * n % 18446744073709551616 : Nat) : Int) by omega]
  rw [u64_or_nat _ _ (Nat.mod_lt _ (by decide)) (by omega), nat_join 1 _ _ (by omega) (by omega)]
theorem wrap_pow (k : Nat) (hk : k < 64) : IntKind.u64.wrap ((2 : Int) ^ k) = ((2 ^ k : Nat) : Int) := by
  rw [IntKind.wrap_u64]
  have h : 2 ^ k < 2 ^ 64 := Nat.pow_lt_pow_right (by decide) hk
  have e : ((2 : Int) ^ k) = ((2 ^ k : Nat) : Int) := by simp
  rw [e]
  generalize 2 ^ k = x at *
  omega
theorem or_pow (m k : Nat) (hk : k < 64) (hm : m < 18446744073709551616) (h : m % 2 ^ (k + 1) = 0) : bits BinOp.or IntKind.u64 (m : Int) (IntKind.u64.wrap ((2 : Int) ^ k)) = ((m + 2 ^ k : Nat) : Int) := by
  have h2 : 2 ^ k < 2 ^ 64 := Nat.pow_lt_pow_right (by decide) hk
  rw [wrap_pow k hk, u64_or_nat _ _ hm h2, nat_join (k + 1) _ _ h (Nat.pow_lt_pow_right (by decide) (by omega))]
theorem divQ_mod (a b k : Nat) : divQ a b k % 2 ^ k = 0 := by unfold divQ; simp
/-- A round in which the divisor goes off. -/
theorem div_off (a b k : Nat) (ha : a < 18446744073709551616) (hb : b < 18446744073709551616) (h0 : 0 < b) (hk : k < 64)
    (h : ((divR a b (k + 1) : Nat) : Int) / 9223372036854775808 = 1 ∨ (b : Int) ≤ bits BinOp.or IntKind.u64 (IntKind.u64.wrap (((divR a b (k + 1) : Nat) : Int) * 2)) (bits BinOp.and IntKind.u64 ((a : Int) / 2 ^ k) 1)) :
    IntKind.u64.wrap (bits BinOp.or IntKind.u64 (IntKind.u64.wrap (((divR a b (k + 1) : Nat) : Int) * 2)) (bits BinOp.and IntKind.u64 ((a : Int) / 2 ^ k) 1) - (b : Int)) = ((divR a b k : Nat) : Int) ∧
    bits BinOp.or IntKind.u64 ((divQ a b (k + 1) : Nat) : Int) (IntKind.u64.wrap ((2 : Int) ^ k)) = ((divQ a b k : Nat) : Int) := by
  have hr := divR_lt a b (k + 1) h0
  have hs := (div_step a b k h0).1
  have hq := divQ_yes a b k
  have hql := divQ_le a b (k + 1)
  rw [in_eq a _ k ha] at *
  have hbit := Nat.mod_lt (a / 2 ^ k) (show 0 < 2 by decide)
  have hge : b ≤ 2 * divR a b (k + 1) + a / 2 ^ k % 2 := by
    generalize a / 2 ^ k % 2 = t at *
    omega
  obtain ⟨e1, e2⟩ := hs hge
  constructor
  · rw [e1, IntKind.wrap_u64]
    generalize a / 2 ^ k % 2 = t at *
    omega
  · rw [or_pow _ k hk (by omega) (divQ_mod a b (k + 1)), ← hq e2]
theorem div_on (a b k : Nat) (ha : a < 18446744073709551616) (hb : b < 18446744073709551616) (h0 : 0 < b)
    (h1 : ¬ ((divR a b (k + 1) : Nat) : Int) / 9223372036854775808 = 1) (h2 : bits BinOp.or IntKind.u64 (IntKind.u64.wrap (((divR a b (k + 1) : Nat) : Int) * 2)) (bits BinOp.and IntKind.u64 ((a : Int) / 2 ^ k) 1) < (b : Int)) :
    bits BinOp.or IntKind.u64 (IntKind.u64.wrap (((divR a b (k + 1) : Nat) : Int) * 2)) (bits BinOp.and IntKind.u64 ((a : Int) / 2 ^ k) 1) = ((divR a b k : Nat) : Int) ∧ divQ a b (k + 1) = divQ a b k := by
  have hr := divR_lt a b (k + 1) h0
  have hs := (div_step a b k h0).2
  have hq := divQ_no a b k
  rw [in_eq a _ k ha] at *
  have hbit := Nat.mod_lt (a / 2 ^ k) (show 0 < 2 by decide)
  have hlt : 2 * divR a b (k + 1) + a / 2 ^ k % 2 < b := by
    generalize a / 2 ^ k % 2 = t at *
    omega
  obtain ⟨e1, e2⟩ := hs hlt
  constructor
  · rw [e1]
    generalize a / 2 ^ k % 2 = t at *
    omega
  · rw [hq e2]

/-! ### signs -/
/-- A number without its sign. -/
def size (a : Int) : Nat := a.natAbs
theorem size_lt (a : Int) (h1 : -9223372036854775808 ≤ a) (h2 : a ≤ 9223372036854775807) : size a < 18446744073709551616 := by unfold size; omega
theorem size_neg (a : Int) (h1 : -9223372036854775808 ≤ a) (h : a < 0) : IntKind.u64.wrap (0 - IntKind.u64.wrap a) = ((size a : Nat) : Int) := by
  rw [IntKind.wrap_u64, IntKind.wrap_u64]; unfold size; omega
theorem size_pos (a : Int) (h2 : a ≤ 9223372036854775807) (h : 0 ≤ a) : IntKind.u64.wrap a = ((size a : Nat) : Int) := by
  rw [IntKind.wrap_u64]; unfold size; omega

/-! ### the operators -/
/-- What an operator gives, and the error's number. -/
def dof (op a b : Int) : Int × Int :=
  if op < 1 ∨ 11 < op then (0, 1)
  else if (op = 4 ∨ op = 5) ∧ b = 0 then (0, 10)
  else if op = 1 then (wrap64 (a + b), 0)
  else if op = 2 then (wrap64 (a - b), 0)
  else if op = 3 then (wrap64 (a * b), 0)
  else if op = 4 then (wrap64 (a.tdiv b), 0)
  else if op = 5 then (a.tmod b, 0)
  else if op = 6 then (if a = b then 1 else 0, 0)
  else if op = 7 then (if a = b then 0 else 1, 0)
  else if op = 8 then (if a < b then 1 else 0, 0)
  else if op = 9 then (if b < a then 0 else 1, 0)
  else if op = 10 then (if b < a then 1 else 0, 0)
  else (if a < b then 0 else 1, 0)
end Go.Proofs.Ytidmclaaggoahaa.Pl
