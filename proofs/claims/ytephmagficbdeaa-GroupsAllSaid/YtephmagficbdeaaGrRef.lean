/-
  PLAIN MATHEMATICS for the document's own Needs, Groups, Reach of layer group: the closing of a matrix; the groups picked one after another. No program in sight.
-/
import Derived.Test.YtephmagficbdeaaGrMath3
namespace Go.Proofs.Ytephmagficbdeaa.Gr
set_option linter.unusedVariables false
/-- what is needed by ways through things ahead of k alone -/
def Wk (g : List (List Nat)) : Nat → Nat → Nat → Bool
  | 0, i, j => decide (j ∈ U g i)
  | k + 1, i, j => Wk g k i j || (Wk g k i k && Wk g k k j)
theorem Wk.mono {g : List (List Nat)} {i j : Nat} : ∀ {k d : Nat}, Wk g k i j = true → Wk g (k + d) i j = true
  | _, 0, h => h
  | k, d + 1, h => by
    rw [← Nat.add_assoc, Wk, Wk.mono (d := d) h, Bool.true_or]
theorem Wk.up {g : List (List Nat)} {i j k m : Nat} (h : Wk g k i j = true) (hkm : k ≤ m) : Wk g m i j = true := by
  have := Wk.mono (d := m - k) h
  rwa [show k + (m - k) = m by omega] at this
/-- the row and the column k stay as they are in round k -/
theorem Wk.row (g : List (List Nat)) (k j : Nat) : Wk g (k + 1) k j = Wk g k k j := by
  rw [Wk]
  cases Wk g k k j <;> cases Wk g k k k <;> rfl
theorem Wk.col (g : List (List Nat)) (k i : Nat) : Wk g (k + 1) i k = Wk g k i k := by
  rw [Wk]
  cases Wk g k i k <;> cases Wk g k k k <;> rfl
theorem Wk.needs {g : List (List Nat)} : ∀ {k i j : Nat}, Wk g k i j = true → Needs g i j
  | 0, i, j, h => ⟨j, by simpa [Wk] using h, .refl j⟩
  | k + 1, i, j, h => by
    rw [Wk, Bool.or_eq_true, Bool.and_eq_true] at h
    rcases h with h | ⟨h1, h2⟩
    · exact Wk.needs h
    · obtain ⟨z, hz, hs⟩ := Wk.needs h1
      exact ⟨z, hz, hs.trans (Wk.needs h2).star⟩
theorem Wk.trans {g : List (List Nat)} : ∀ {k a i j : Nat}, a < k → Wk g k i a = true → Wk g k a j = true → Wk g k i j = true
  | 0, _, _, _, h, _, _ => absurd h (Nat.not_lt_zero _)
  | k + 1, a, i, j, h, h1, h2 => by
    by_cases e : a = k
    · subst e
      rw [Wk.col] at h1
      rw [Wk.row] at h2
      rw [Wk, h1, h2]
      simp
    · have hak : a < k := by omega
      rw [Wk, Bool.or_eq_true, Bool.and_eq_true] at h1 h2
      rw [Wk, Bool.or_eq_true, Bool.and_eq_true]
      rcases h1 with h1 | ⟨h1, h1'⟩
      · rcases h2 with h2 | ⟨h2, h2'⟩
        · exact .inl (Wk.trans hak h1 h2)
        · exact .inr ⟨Wk.trans hak h1 h2, h2'⟩
      · rcases h2 with h2 | ⟨h2, h2'⟩
        · exact .inr ⟨h1, Wk.trans hak h1' h2⟩
        · exact .inr ⟨h1, h2'⟩
theorem U_none {g : List (List Nat)} {i : Nat} (hi : g.length ≤ i) : U g i = [] := by
  simp [U, List.getD_eq_getElem?_getD, hi]
theorem Wk.of_star {g : List (List Nat)} {x z y : Nat} (h : Star g z y) (hx : Wk g g.length x z = true) : Wk g g.length x y = true := by
  induction h with
  | refl => exact hx
  | @more a b h1 h2 ih =>
    by_cases ha : a < g.length
    · exact Wk.trans ha ih (Wk.up (k := 0) (by simpa [Wk] using h2) (Nat.zero_le _))
    · rw [U_none (by omega)] at h2
      cases h2
theorem Wk.iff {g : List (List Nat)} {x y : Nat} : Wk g g.length x y = true ↔ Needs g x y := by
  refine ⟨Wk.needs, ?_⟩
  rintro ⟨z, hz, hs⟩
  exact Wk.of_star hs (Wk.up (k := 0) (by simpa [Wk] using hz) (Nat.zero_le _))
/-- the matrix amid round k, ahead of cell j of row i -/
def Wm (g : List (List Nat)) (k i j : Nat) : Nat → Nat → Bool := fun a b => if a < i ∨ (a = i ∧ b < j) then Wk g (k + 1) a b else Wk g k a b
theorem Wm.start (g : List (List Nat)) (k : Nat) : Wm g k 0 0 = Wk g k := by
  funext a b
  unfold Wm
  rw [if_neg (by omega)]
theorem Wm.row (g : List (List Nat)) (k i j b : Nat) : Wm g k i j k b = Wk g k k b := by
  unfold Wm
  split
  · exact Wk.row g k b
  · rfl
theorem Wm.col (g : List (List Nat)) (k i j a : Nat) : Wm g k i j a k = Wk g k a k := by
  unfold Wm
  split
  · exact Wk.col g k a
  · rfl
theorem Wm.at_ (g : List (List Nat)) (k i j : Nat) : Wm g k i j i j = Wk g k i j := by
  unfold Wm
  rw [if_neg (by omega)]
theorem Wm.step {g : List (List Nat)} {k i j : Nat} (h : Wk g k i k = true) : Wm g k i (j + 1) = fun a b => if a = i ∧ b = j then (Wm g k i j i j || Wm g k i j k j) else Wm g k i j a b := by
  funext a b
  rw [Wm.at_, Wm.row]
  unfold Wm
  by_cases e : a = i ∧ b = j
  · obtain ⟨rfl, rfl⟩ := e
    rw [if_pos (by omega), if_pos ⟨rfl, rfl⟩, Wk, h, Bool.true_and]
  · rw [if_neg e]
    by_cases e2 : a < i ∨ (a = i ∧ b < j)
    · rw [if_pos e2, if_pos (by omega)]
    · rw [if_neg e2, if_neg (by omega)]
theorem Wm.skip {g : List (List Nat)} {k i : Nat} (h : Wk g k i k = false) : Wm g k (i + 1) 0 = Wm g k i 0 := by
  funext a b
  unfold Wm
  by_cases e : a = i
  · subst e
    rw [if_pos (by omega), if_neg (by omega), Wk, h, Bool.false_and, Bool.or_false]
  · by_cases e2 : a < i
    · rw [if_pos (by omega), if_pos (by omega)]
    · rw [if_neg (by omega), if_neg (by omega)]
theorem Wm.rowEnd {g : List (List Nat)} {k i n a b : Nat} (hb : b < n) : Wm g k (i + 1) 0 a b = Wm g k i n a b := by
  unfold Wm
  by_cases e : a < i ∨ (a = i ∧ b < n)
  · rw [if_pos e, if_pos (by omega)]
  · rw [if_neg e, if_neg (by omega)]
theorem Wm.done {g : List (List Nat)} {k n a b : Nat} (ha : a < n) : Wm g k n 0 a b = Wk g (k + 1) a b := by
  unfold Wm
  rw [if_pos (.inl ha)]
/-! the document's groups, one after another -/
/-- the group of a thing -/
def cls (g : List (List Nat)) (k : Nat) : List Nat := (List.range g.length).filter fun i => decide (i = k) || (Wk g g.length i k && Wk g g.length k i)
theorem cls_rising (g : List (List Nat)) (k : Nat) : Rising (cls g k) := List.pairwise_lt_range.sublist List.filter_sublist
theorem cls_mem {g : List (List Nat)} {k x : Nat} (hx : x < g.length) : x ∈ cls g k ↔ Mut g k x := by
  unfold cls
  rw [List.mem_filter, List.mem_range, Bool.or_eq_true, Bool.and_eq_true, decide_eq_true_eq, Wk.iff, Wk.iff, mut_iff]
  constructor
  · rintro ⟨_, e | ⟨h1, h2⟩⟩
    · exact .inl e.symm
    · exact .inr ⟨h2, h1⟩
  · rintro (e | ⟨h1, h2⟩)
    · exact ⟨hx, .inl e.symm⟩
    · exact ⟨hx, .inr ⟨h2, h1⟩⟩
theorem cls_self {g : List (List Nat)} {k : Nat} (hk : k < g.length) : k ∈ cls g k := (cls_mem hk).2 (Mut.refl k)
theorem cls_lt {g : List (List Nat)} {k x : Nat} (h : x ∈ cls g k) : x < g.length := List.mem_range.1 (List.mem_filter.1 h).1
end Go.Proofs.Ytephmagficbdeaa.Gr
