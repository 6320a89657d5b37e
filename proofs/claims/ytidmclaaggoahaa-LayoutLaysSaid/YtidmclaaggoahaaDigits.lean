/-
  PLAIN MATHEMATICS: a number's text: digits, their value, reading and writing. No program in sight.
-/
namespace Go.Proofs.Ytidmclaaggoahaa.Dg

/-- a value with one digit more -/
def more (v : Nat) (c : UInt8) : Nat := 10 * v + (c.toNat - 48)
/-- the value of some digits (whatever the bytes) behind a value -/
def valF (v : Nat) (d : List UInt8) : Nat := d.foldl more v
def val (d : List UInt8) : Nat := valF 0 d
def isD (c : UInt8) : Bool := decide (48 ≤ c.toNat) && decide (c.toNat ≤ 57)

theorem valF_append (v : Nat) (a b : List UInt8) : valF v (a ++ b) = valF (valF v a) b := List.foldl_append
theorem val_snoc (a : List UInt8) (c : UInt8) : val (a ++ [c]) = 10 * val a + (c.toNat - 48) := valF_append 0 a [c]
theorem more_le (v : Nat) (c : UInt8) : v ≤ more v c := by unfold more; omega
theorem valF_mono (v : Nat) (d : List UInt8) : v ≤ valF v d := by
  induction d generalizing v with
  | nil => exact Nat.le_refl _
  | cons c r ih => exact Nat.le_trans (more_le v c) (ih (more v c))
theorem val_le_append (a b : List UInt8) : val a ≤ val (a ++ b) := by
  unfold val; rw [valF_append]; exact valF_mono _ _
theorem val_take_le (d : List UInt8) (i : Nat) : val (d.take i) ≤ val d := by
  conv => rhs; rw [← List.take_append_drop i d]
  exact val_le_append _ _
theorem take_snoc (d : List UInt8) (i : Nat) (h : i < d.length) : d.take (i + 1) = d.take i ++ [d[i]] := by
  rw [List.take_succ_eq_append_getElem h]
theorem val_take_succ (d : List UInt8) (i : Nat) (h : i < d.length) : val (d.take (i + 1)) = 10 * val (d.take i) + (d[i].toNat - 48) := by
  rw [take_snoc d i h, val_snoc]

/-- the digits of a text behind its sign -/
def digitsOf : List UInt8 → List UInt8
  | [] => []
  | c :: r => if c = 45 then r else c :: r
def below (l : List UInt8) : Bool := l.head? == some 45
/-- the greatest number without a sign that a text may name -/
def most (b : Bool) : Nat := if b then 9223372036854775808 else 9223372036854775807
/-- is it a number's text -/
def good (l : List UInt8) : Bool :=
  !(digitsOf l).isEmpty && !(((digitsOf l).head? == some 48) && !(l == [48])) && (digitsOf l).all isD && decide (val (digitsOf l) ≤ most (below l))
/-- the number that a text names, and the error -/
def prs (l : List UInt8) : Int × Int :=
  if good l then (if below l then -(val (digitsOf l) : Int) else (val (digitsOf l) : Int), 0) else (0, 11)

theorem prs_good {l : List UInt8} (h : good l = true) : prs l = (if below l then -(val (digitsOf l) : Int) else (val (digitsOf l) : Int), 0) := by
  unfold prs; rw [if_pos h]
theorem prs_bad {l : List UInt8} (h : good l = false) : prs l = (0, 11) := by
  unfold prs; rw [if_neg (by rw [h]; decide)]
end Go.Proofs.Ytidmclaaggoahaa.Dg
