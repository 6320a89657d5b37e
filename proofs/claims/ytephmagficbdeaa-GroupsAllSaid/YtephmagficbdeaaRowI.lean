/-
  ROWS of numbers that came in or are read: their cells; the row of values from one place on. No program in sight.
-/
import Derived.Test.YtephmagficbdeaaMem
namespace Go.Proofs.Ytephmagficbdeaa.Sp
open Go.RowKit Mm
set_option linter.unusedVariables false
/-- The values V k, V (k + 1), ..: d of them. -/
def vals (V : Nat → Value) : Nat → Nat → List Value
  | _, 0 => []
  | k, d + 1 => V k :: vals V (k + 1) d
theorem vals_length (V : Nat → Value) : ∀ d k, (vals V k d).length = d
  | 0, _ => rfl
  | d + 1, k => by simp [vals, vals_length V d]
theorem vals_end (V : Nat → Value) : ∀ d k, vals V k (d + 1) = vals V k d ++ [V (k + d)]
  | 0, _ => by simp [vals]
  | d + 1, k => by
    rw [vals, vals_end V d, vals, Nat.add_right_comm, List.cons_append]
    rfl
theorem vals_get (V : Nat → Value) : ∀ d k j, j < d → (vals V k d)[j]? = some (V (k + j))
  | 0, _, _, h => by omega
  | d + 1, k, 0, _ => by simp [vals]
  | d + 1, k, j + 1, h => by
    rw [vals, List.getElem?_cons_succ, vals_get V d (k + 1) j (by omega), Nat.add_assoc, Nat.add_comm 1 j]
theorem vals_add (V : Nat → Value) : ∀ a b k, vals V k (a + b) = vals V k a ++ vals V (k + a) b
  | 0, b, k => by simp [vals]
  | a + 1, b, k => by
    rw [Nat.add_right_comm, vals, vals_add V a b, vals, List.cons_append, Nat.add_assoc, Nat.add_comm 1 a]
theorem vals_drop (V : Nat → Value) : ∀ j d k, (vals V k d).drop j = vals V (k + j) (d - j)
  | 0, d, k => by simp
  | j + 1, 0, k => by simp [vals]
  | j + 1, d + 1, k => by
    rw [vals, List.drop_succ_cons, vals_drop V j d (k + 1), Nat.add_assoc, Nat.add_comm 1 j, Nat.add_sub_add_right]
theorem vals_take (V : Nat → Value) : ∀ j d k, (vals V k d).take j = vals V k (min j d)
  | 0, d, k => by simp [vals]
  | j + 1, 0, k => by simp [vals]
  | j + 1, d + 1, k => by
    rw [vals, List.take_succ_cons, vals_take V j d (k + 1), Nat.add_min_add_right, vals]
theorem vals_same (V V' : Nat → Value) : ∀ d k k', (∀ j, j < d → V (k + j) = V' (k' + j)) → vals V k d = vals V' k' d
  | 0, _, _, _ => rfl
  | d + 1, k, k', h => by
    rw [vals, vals, vals_same V V' d (k + 1) (k' + 1) (fun j hj => by have := h (j + 1) (by omega); rw [Nat.add_assoc, Nat.add_comm 1 j, this, Nat.add_assoc k', Nat.add_comm 1 j])]
    congr 1
    exact h 0 (by omega)
/-- A row of one cell an element, below block B. -/
def ReadsV (w : World) (B : Nat) (v : Option Addr) (n : Nat) (V : Nat → Value) : Prop := ∀ i, i < n → ∃ ad, v = some ad ∧ ad.block < B ∧ w.cell? (ad.add i) = some (V i)
theorem block_of_add (a : Addr) (n : Nat) : (a.add n).block = a.block := by unfold Addr.add; split <;> rfl
theorem ReadsV.below {w w' : World} {B B' : Nat} {v : Option Addr} {n : Nat} {V : Nat → Value} (h : ReadsV w B v n V) (hb : Below B' w w') (hle : B ≤ B') : ReadsV w' B v n V := by
  intro i hi
  obtain ⟨ad, h1, h2, h3⟩ := h i hi
  exact ⟨ad, h1, h2, by rw [hb.cell (by rw [block_of_add]; omega)]; exact h3⟩
theorem ReadsV.mono {w : World} {B B' : Nat} {v : Option Addr} {n : Nat} {V : Nat → Value} (h : ReadsV w B v n V) (hle : B ≤ B') : ReadsV w B' v n V := by
  intro i hi
  obtain ⟨ad, h1, h2, h3⟩ := h i hi
  exact ⟨ad, h1, by omega, h3⟩
def intV (f : Nat → Int) : Nat → Value := fun i => .int .i64 (f i)
def strV (f : Nat → ByteArray) : Nat → Value := fun i => .string (f i)
end Go.Proofs.Ytephmagficbdeaa.Sp
