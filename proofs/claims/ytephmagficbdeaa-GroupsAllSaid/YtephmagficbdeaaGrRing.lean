/-
  PLAIN MATHEMATICS of layer group: a ring of n things is one group; a row of n things is n groups, the last one first. No program in sight.
-/
import Derived.Test.YtephmagficbdeaaGrMem
namespace Go.Proofs.Ytephmagficbdeaa.Gr
set_option linter.unusedVariables false
def ringG (n m : Nat) : List (List Nat) := (List.range m).map fun i => [(i + 1) % n]
def rowG (n m : Nat) : List (List Nat) := (List.range m).map fun i => if i + 1 < n then [i + 1] else []
theorem ringG_length (n m : Nat) : (ringG n m).length = m := by simp [ringG]
theorem rowG_length (n m : Nat) : (rowG n m).length = m := by simp [rowG]
theorem ringG_succ (n m : Nat) : ringG n (m + 1) = ringG n m ++ [[(m + 1) % n]] := by simp [ringG, List.range_succ]
theorem rowG_succ (n m : Nat) : rowG n (m + 1) = rowG n m ++ [if m + 1 < n then [m + 1] else []] := by simp [rowG, List.range_succ]
theorem ringG_U {n m i : Nat} (hi : i < m) : U (ringG n m) i = [(i + 1) % n] := by
  simp [U, ringG, List.getD_eq_getElem?_getD, hi]
theorem rowG_U {n m i : Nat} (hi : i < m) : U (rowG n m) i = if i + 1 < n then [i + 1] else [] := by
  simp [U, rowG, List.getD_eq_getElem?_getD, hi]
theorem U_far {g : List (List Nat)} {i : Nat} (hi : g.length ≤ i) : U g i = [] := by
  simp [U, List.getD_eq_getElem?_getD, hi]
theorem ring_up {n : Nat} (x : Nat) : ∀ d, x + d < n → Star (ringG n n) x (x + d)
  | 0, _ => .refl x
  | d + 1, h => by
    refine .more (ring_up x d (by omega)) ?_
    rw [ringG_U (by omega), Nat.mod_eq_of_lt (by omega)]
    simp
    omega
theorem ring_star {n x y : Nat} (hx : x < n) (hy : y < n) : Star (ringG n n) x y := by
  have h1 : Star (ringG n n) x (n - 1) := by
    have := ring_up (n := n) x (n - 1 - x) (by omega)
    rwa [show x + (n - 1 - x) = n - 1 by omega] at this
  have h2 : Star (ringG n n) x 0 := by
    refine .more h1 ?_
    rw [ringG_U (by omega), show n - 1 + 1 = n by omega, Nat.mod_self]
    simp
  have h3 := ring_up (n := n) 0 y (by omega)
  rw [Nat.zero_add] at h3
  exact h2.trans h3
theorem ring_lt {n x y : Nat} (hx : x < n) (h : Star (ringG n n) x y) : y < n := by
  refine h.closed (P := fun a => a < n) (fun a ha b hb => ?_) hx
  rw [ringG_U ha] at hb
  simp at hb
  subst hb
  exact Nat.mod_lt _ (by omega)
theorem rising_range (n : Nat) : Rising (List.range n) := List.pairwise_lt_range
theorem ring_part {n : Nat} (hn : 1 ≤ n) {l : List (List Nat)} (h : Parted (ringG n n) l) : l = [List.range n] := by
  have hall : ∀ C ∈ l, C = List.range n := by
    intro C hC
    obtain ⟨h1, h2, h3⟩ := h.sc C hC
    have hz := hd_mem h2
    have hzn : hd C < n := by have := h.rng C hC _ hz; rwa [ringG_length] at this
    refine rising_ext h1 (rising_range n) fun y => ?_
    rw [h3 _ hz y, List.mem_range]
    exact ⟨fun hm => ring_lt hzn hm.1, fun hy => ⟨ring_star hzn hy, ring_star hy hzn⟩⟩
  obtain ⟨C, hC, _⟩ := h.cov 0 (by rw [ringG_length]; omega)
  have hnd := h.nd
  match l, hall, hC, hnd with
  | [D], hall, _, _ => rw [hall D (by simp)]
  | D :: E :: l, hall, _, hnd =>
    have e1 := hall D (by simp)
    have e2 := hall E (by simp)
    rw [List.nodup_cons] at hnd
    exact absurd (by rw [e1, ← e2]; simp) hnd.1
theorem row_star {n x y : Nat} (h : Star (rowG n n) x y) : x ≤ y := by
  refine h.closed (P := fun a => x ≤ a) (fun a ha b hb => ?_) (Nat.le_refl x)
  by_cases han : a < n
  · rw [rowG_U han] at hb
    split at hb
    · simp at hb; omega
    · cases hb
  · rw [U_far (by rw [rowG_length]; omega)] at hb
    cases hb
def backL (n : Nat) : List (List Nat) := (List.range n).map fun k => [n - 1 - k]
theorem backL_get {n i : Nat} {C : List Nat} (h : (backL n)[i]? = some C) : i < n ∧ C = [n - 1 - i] := by
  unfold backL at h
  rw [List.getElem?_map] at h
  by_cases hi : i < n
  · rw [List.getElem?_range hi] at h
    simp at h
    exact ⟨hi, h.symm⟩
  · rw [List.getElem?_eq_none (by simp; omega)] at h
    cases h
theorem backL_take {n i : Nat} {D : List Nat} (h : D ∈ (backL n).take i) : ∃ k, k < i ∧ k < n ∧ D = [n - 1 - k] := by
  obtain ⟨k, hk, e⟩ := List.mem_take_iff_getElem.1 h
  have hk' : k < (backL n).length := by omega
  have := backL_get (n := n) (i := k) (C := D) (by rw [List.getElem?_eq_getElem hk', ← e])
  exact ⟨k, by omega, this.1, this.2⟩
theorem backL_in {n i k : Nat} (h : k < i) (hk : k < n) : [n - 1 - k] ∈ (backL n).take i := by
  rw [List.mem_take_iff_getElem]
  exact ⟨k, by simp [backL]; omega, by simp [backL]⟩
theorem backL_length (n : Nat) : (backL n).length = n := by simp [backL]
theorem backL_U {n i : Nat} (hi : i < n) : U (backL n) i = [n - 1 - i] := by
  simp [U, backL, List.getD_eq_getElem?_getD, hi]
theorem row_canon (n : Nat) : Canon (rowG n n) (backL n) where
  part := by
    refine ⟨fun C hC => ?_, fun x hx => ?_, fun C hC x hx => ?_, ?_⟩
    · obtain ⟨i, hi⟩ := List.getElem?_of_mem hC
      obtain ⟨_, rfl⟩ := backL_get hi
      refine ⟨by simp [Rising], by simp, fun x hx y => ?_⟩
      simp only [List.mem_singleton] at hx ⊢
      subst hx
      constructor
      · rintro rfl; exact Mut.refl _
      · rintro ⟨h1, h2⟩
        have := row_star h1
        have := row_star h2
        omega
    · rw [rowG_length] at hx
      refine ⟨[n - 1 - (n - 1 - x)], List.mem_map.2 ⟨n - 1 - x, by simp; omega, rfl⟩, by simp; omega⟩
    · obtain ⟨i, hi⟩ := List.getElem?_of_mem hC
      obtain ⟨hi, rfl⟩ := backL_get hi
      simp at hx
      rw [rowG_length]
      omega
    · unfold backL List.Nodup
      rw [List.pairwise_map]
      refine (List.pairwise_lt_range (n := n)).imp_of_mem ?_
      intro a b ha hb hab e
      simp at ha hb e
      omega
  rdy := by
    intro i C hC x hx u hu
    obtain ⟨hi, rfl⟩ := backL_get hC
    simp at hx
    subst hx
    rw [rowG_U (by omega)] at hu
    split at hu
    · simp at hu
      refine .inr ⟨[n - 1 - (i - 1)], backL_in (by omega) (by omega), by simp; omega⟩
    · cases hu
  least := by
    intro i C hC j D hij hD hr
    obtain ⟨hi, rfl⟩ := backL_get hC
    obtain ⟨hj, rfl⟩ := backL_get hD
    exfalso
    have := hr (n - 1 - j) (by simp) (n - 1 - j + 1) (by rw [rowG_U (by omega), if_pos (by omega)]; simp)
    rcases this with e | ⟨D, h1, h2⟩
    · simp at e
    · obtain ⟨k, hk, hkn, rfl⟩ := backL_take h1
      simp at h2
      omega
theorem rowsOK_of {g : List (List Nat)} (h : ∀ x < g.length, ∀ y ∈ U g x, y < g.length) : RowsOK (gi g).length (gi g) := by
  intro l hl n hn
  obtain ⟨m, hm, rfl⟩ := List.mem_map.1 hl
  obtain ⟨y, hy, rfl⟩ := List.mem_map.1 hn
  obtain ⟨x, hx, e⟩ := List.getElem_of_mem hm
  have := h x hx y (by unfold U; rw [List.getD_eq_getElem?_getD, List.getElem?_eq_getElem hx]; simpa [e] using hy)
  rw [gi_length]
  exact ⟨by omega, by omega⟩
theorem ring_ok {n : Nat} (hn : 1 ≤ n) (hn2 : n ≤ 2048) : wrongC (gi (ringG n n)) = 0 := by
  refine wrongC_ok (by rw [gi_length, ringG_length]; omega) (rowsOK_of fun x hx y hy => ?_)
  rw [ringG_length] at hx ⊢
  rw [ringG_U hx] at hy
  simp at hy
  subst hy
  exact Nat.mod_lt _ (by omega)
theorem row_ok {n : Nat} (hn2 : n ≤ 2048) : wrongC (gi (rowG n n)) = 0 := by
  refine wrongC_ok (by rw [gi_length, rowG_length]; omega) (rowsOK_of fun x hx y hy => ?_)
  rw [rowG_length] at hx ⊢
  rw [rowG_U hx] at hy
  split at hy
  · simp at hy; omega
  · cases hy
end Go.Proofs.Ytephmagficbdeaa.Gr
