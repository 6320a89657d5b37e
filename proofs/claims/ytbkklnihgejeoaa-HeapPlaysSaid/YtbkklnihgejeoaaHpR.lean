/-
  HEAPS, PLAINLY: rows of addresses without doubles; what is reached, one after the other.
-/
import Derived.Test.YtbkklnihgejeoaaHpMath
namespace Go.Proofs.Ytbkklnihgejeoaa.Hp
set_option linter.unusedVariables false
theorem countP_lt_succ (n : Nat) : ∀ l : List Int, l.countP (fun x => decide (x < (n : Int) + 1)) = l.countP (fun x => decide (x < (n : Int))) + l.count (n : Int)
  | [] => rfl
  | x :: l => by
    have ih := countP_lt_succ n l
    rw [List.countP_cons, List.countP_cons, List.count_cons, ih]
    by_cases h1 : x < (n : Int)
    · have h2 : x < (n : Int) + 1 := by omega
      have h3 : ¬ (x = (n : Int)) := by omega
      rw [if_pos (decide_eq_true h2), if_pos (decide_eq_true h1), if_neg (by simpa using h3)]
      omega
    · by_cases h3 : x = (n : Int)
      · have h2 : x < (n : Int) + 1 := by omega
        rw [if_pos (decide_eq_true h2), if_neg (by simpa using h1), if_pos (by simpa using h3)]
        omega
      · have h2 : ¬ x < (n : Int) + 1 := by omega
        rw [if_neg (by simpa using h2), if_neg (by simpa using h1), if_neg (by simpa using h3)]
        omega
theorem count_nodup (n : Nat) (l : List Int) (hn : l.Nodup) : l.count (n : Int) = if (n : Int) ∈ l then 1 else 0 := by
  split
  · rename_i h
    exact Nat.le_antisymm (List.nodup_iff_count.1 hn _) (List.one_le_count_iff.2 h)
  · rename_i h
    exact List.count_eq_zero.2 h
/-- a row of addresses without doubles, and how many cells these are -/
theorem count_cells {f : Nat → Nat} {l : List Int} (hn : l.Nodup) (h0 : ∀ x ∈ l, 0 ≤ x) (hf : ∀ a : Nat, (a : Int) ∈ l ↔ f a ≠ 0) : ∀ n : Nat, l.countP (fun x => decide (x < (n : Int))) = cnt f n
  | 0 => by
    show _ = 0
    rw [List.countP_eq_zero]
    intro x hx
    have := h0 x hx
    simp
    exact this
  | n + 1 => by
    show l.countP (fun x => decide (x < (n : Int) + 1)) = _
    rw [countP_lt_succ, count_cells hn h0 hf n, count_nodup n l hn]
    show _ = cnt f n + _
    congr 1
    by_cases h : (n : Int) ∈ l
    · rw [if_pos h, if_pos ((hf n).1 h)]
    · rw [if_neg h, if_neg fun q => h ((hf n).2 q)]
theorem length_cells {f : Nat → Nat} {l : List Int} {n : Nat} (hn : l.Nodup) (h0 : ∀ x ∈ l, 0 ≤ x) (hl : ∀ x ∈ l, x < (n : Int)) (hf : ∀ a : Nat, (a : Int) ∈ l ↔ f a ≠ 0) : l.length = cnt f n := by
  rw [← count_cells hn h0 hf n]
  exact (List.countP_eq_length.2 fun x hx => decide_eq_true (hl x hx)).symm
/-- addresses without doubles are no more than the cells that are not free -/
theorem length_le_cells {f : Nat → Nat} {l : List Int} {n : Nat} (hn : l.Nodup) (hl : ∀ x ∈ l, 0 ≤ x ∧ x < (n : Int) ∧ f x.toNat ≠ 0) : l.length ≤ cnt f n := by
  have h1 := length_cells (f := fun a => if (a : Int) ∈ l then 1 else 0) (n := n) hn (fun x hx => (hl x hx).1) (fun x hx => (hl x hx).2.1) (fun a => by
    by_cases h : (a : Int) ∈ l
    · simp [h]
    · simp [h])
  rw [h1]
  clear h1
  have : ∀ m, m ≤ n → cnt (fun a => if (a : Int) ∈ l then 1 else 0) m ≤ cnt f m := by
    intro m
    induction m with
    | zero => intro _; exact Nat.le_refl _
    | succ m ih =>
      intro hm
      have := ih (by omega)
      unfold cnt
      by_cases h : (m : Int) ∈ l
      · have h3 : f m ≠ 0 := by have := (hl _ h).2.2; simpa using this
        rw [if_pos (by simp [h]), if_pos h3]
        omega
      · rw [if_neg (by simp [h])]
        omega
  exact this n (Nat.le_refl _)
/-- cells that were found, i of them looked into; of the next one, what its first k pointers lead to is there -/
structure RoI (S : Hs) (roots : List Int) (i : Nat) (out : List Int) : Prop where
  nodup : out.Nodup
  root : ∀ x ∈ roots, x ∈ out
  reach : ∀ x ∈ out, Rch S roots x
  done : ∀ j x, j < i → out[j]? = some x → ∀ y ∈ (S.nd x.toNat).l, y ∈ out
theorem RoI.push {S : Hs} {roots out : List Int} {i : Nat} {x y : Int} (h : RoI S roots i out) (hx : out[i]? = some x) (hy : y ∈ (S.nd x.toNat).l) (hn : y ∉ out) : RoI S roots i (out ++ [y]) := by
  have hi : i < out.length := (List.getElem?_eq_some_iff.1 hx).1
  refine ⟨?_, fun z hz => by simp [h.root z hz], fun z hz => ?_, fun j z hj hz w hw => ?_⟩
  · rw [List.nodup_append]
    exact ⟨h.nodup, by simp, fun a ha b hb e => hn (by rw [List.mem_singleton.1 hb] at e; rw [← e]; exact ha)⟩
  · rcases List.mem_append.1 hz with q | q
    · exact h.reach z q
    · rw [List.mem_singleton.1 q]
      exact .step (h.reach x (List.mem_of_getElem? hx)) hy
  · rw [List.getElem?_append_left (by omega)] at hz
    simp [h.done j z hj hz w hw]
theorem RoI.next {S : Hs} {roots out : List Int} {i : Nat} {x : Int} (h : RoI S roots i out) (hx : out[i]? = some x) (hd : ∀ y ∈ (S.nd x.toNat).l, y ∈ out) : RoI S roots (i + 1) out :=
  ⟨h.nodup, h.root, h.reach, fun j z hj hz => by
    by_cases e : j = i
    · subst e
      rw [hx] at hz
      injection hz with hz
      subst hz
      exact hd
    · exact h.done j z (by omega) hz⟩
theorem RoI.end_ {S : Hs} {roots out : List Int} (h : RoI S roots out.length out) (x : Int) : x ∈ out ↔ Rch S roots x := by
  refine ⟨h.reach x, fun q => ?_⟩
  induction q with
  | root q => exact h.root _ q
  | step _ hx ih =>
    obtain ⟨j, hj, rfl⟩ := List.getElem_of_mem ih
    exact h.done j _ hj (List.getElem?_eq_getElem hj) _ hx
theorem RoI.le {S : Hs} {roots out : List Int} {i : Nat} (g : Good S) (hr : ∀ x ∈ roots, S.held x = true) (h : RoI S roots i out) : out.length ≤ S.live := by
  rw [g.live]
  exact length_le_cells h.nodup fun x hx => Hs.held_iff.1 ((h.reach x hx).held g hr)
end Go.Proofs.Ytbkklnihgejeoaa.Hp
