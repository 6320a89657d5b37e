/-
  PLAIN MATHEMATICS for layer fix: roots, parts within parts, rows parted in two; what Resolve comes to. No program in sight.
-/
import Derived.Test.YtlhppkaehoppnaaFixMath
namespace Go.Proofs.Ytlhppkaehoppnaa.Fm
set_option linter.unusedVariables false

/-- the root of the operators from a on, ahead of b: the document's loop -/
def rootTo (A L : Nat → Int) (a : Nat) : Nat → Nat
  | 0 => a
  | d + 1 => if L (a + d) < L (rootTo A L a d) ∨ (L (a + d) = L (rootTo A L a d) ∧ A (a + d) = 1) then a + d else rootTo A L a d
structure IsRoot (A L : Nat → Int) (a b r : Nat) : Prop where
  ge : a ≤ r
  lt : r < b
  low : ∀ j, a ≤ j → j < b → L r ≤ L j
  left : ∀ j, a ≤ j → j < r → L j = L r → A r = 1
  right : ∀ j, r < j → j < b → L j = L r → A j ≠ 1
theorem root_is (A L : Nat → Int) (a d : Nat) : IsRoot A L a (a + d + 1) (rootTo A L a (d + 1)) := by
  induction d with
  | zero =>
    have e : rootTo A L a 1 = a := by unfold rootTo; split <;> rfl
    rw [e]
    exact ⟨by omega, by omega, fun j h1 h2 => by obtain rfl : j = a := by omega
                                                 omega, fun j h1 h2 => by omega, fun j h1 h2 => by omega⟩
  | succ d ih =>
    generalize hr : rootTo A L a (d + 1) = r at ih
    have e : rootTo A L a (d + 1 + 1) = if L (a + (d + 1)) < L r ∨ (L (a + (d + 1)) = L r ∧ A (a + (d + 1)) = 1) then a + (d + 1) else r := by
      rw [← hr]; rfl
    rw [e]
    by_cases hc : L (a + (d + 1)) < L r ∨ (L (a + (d + 1)) = L r ∧ A (a + (d + 1)) = 1)
    · rw [if_pos hc]
      have hle : L (a + (d + 1)) ≤ L r := by rcases hc with h | ⟨h, _⟩ <;> omega
      refine ⟨by omega, by omega, fun j h1 h2 => ?_, fun j h1 h2 h3 => ?_, fun j h1 h2 => by omega⟩
      · by_cases h0 : j = a + (d + 1)
        · rw [h0]; exact Int.le_refl _
        · have := ih.low j h1 (by omega); omega
      · have := ih.low j h1 (by omega)
        rcases hc with h | ⟨h, h'⟩
        · omega
        · exact h'
    · rw [if_neg hc]
      refine ⟨ih.ge, by have := ih.lt; omega, fun j h1 h2 => ?_, ih.left, fun j h1 h2 h3 => ?_⟩
      · by_cases h0 : j = a + (d + 1)
        · rw [h0]
          by_cases h5 : L (a + (d + 1)) < L r
          · exact absurd (.inl h5) hc
          · omega
        · exact ih.low j h1 (by omega)
      · by_cases h0 : j = a + (d + 1)
        · subst h0
          intro h4
          exact hc (.inr ⟨h3, h4⟩)
        · exact ih.right j h1 (by omega) h3
/-- nothing outside is taken by what is inside -/
def Cl (A L : Nat → Int) (n a b : Nat) : Prop := ∀ k, a ≤ k → k < b → (a = 0 ∨ ¬ absL A L k (a - 1)) ∧ (b = n ∨ ¬ absR A L k b)
def Good (A L : Nat → Int) (n : Nat) : Prop := (∀ j, j < n → Fine A L j) ∧ ∀ j, j < n → ¬ Clash A L j
theorem good_fit {A L : Nat → Int} {n p k : Nat} (h : Good A L n) (hp : p < k) (hk : k < n) (e : L p = L k) (hb : ∀ j, p < j → j < k → L k ≤ L j) : Fit A p k :=
  same_way k p hp (fun j hj => h.2 j (by omega)) e hb
theorem root_spans {A L : Nat → Int} {n a b r : Nat} (h : Good A L n) (hb : b ≤ n) (hc : Cl A L n a b) (hr : IsRoot A L a b r) :
    IsFrom A L r a ∧ IsTo A L n r b ∧ Cl A L n a r ∧ Cl A L n (r + 1) b := by
  have hge := hr.ge
  have hlt := hr.lt
  obtain ⟨c1, c2⟩ := hc r hge hlt
  refine ⟨⟨hge, fun j h1 h2 => ?_, c1⟩, ⟨hlt, hb, fun j h1 h2 => ?_, c2⟩, fun k h1 h2 => ⟨(hc k h1 (by omega)).1, .inr ?_⟩, fun k h1 h2 => ⟨.inr ?_, (hc k (by omega) h2).2⟩⟩
  · have g := hr.low j h1 (by omega)
    by_cases e : L j = L r
    · exact .inr ⟨e, hr.left j h1 h2 e⟩
    · exact .inl (by omega)
  · have g := hr.low j (by omega) h2
    by_cases e : L j = L r
    · have f := good_fit h h1 (by omega) e.symm (fun i h3 h4 => by rw [e]; exact hr.low i (by omega) (by omega))
      have g1 := hr.right j h1 h2 e
      have g2 := h.1 j (by omega)
      unfold Fine at g2
      unfold Fit at f
      exact .inr ⟨e, by omega⟩
    · exact .inl (by omega)
  · have g := hr.low k h1 (by omega)
    rintro (h3 | ⟨h3, h4⟩)
    · omega
    · have f := good_fit h h2 (by omega) h3.symm (fun i h5 h6 => hr.low i (by omega) (by omega))
      have := hr.left k h1 h2 h3.symm
      unfold Fit at f
      omega
  · rw [Nat.add_sub_cancel]
    have g := hr.low k (by omega) h2
    rintro (h3 | ⟨h3, h4⟩)
    · omega
    · exact hr.right k (by omega) h2 h3.symm h4
theorem cl_all (A L : Nat → Int) (n : Nat) : Cl A L n 0 n := fun k _ _ => ⟨.inl rfl, .inl rfl⟩
theorem cl_left {A L : Nat → Int} {n k f : Nat} (h : Good A L n) (hk : k < n) (hf : IsFrom A L k f) : Cl A L n f k := by
  have hge : ∀ j, f ≤ j → j < k → L k ≤ L j := fun j h1 h2 => by rcases hf.2.1 j h1 h2 with h3 | ⟨h3, _⟩ <;> omega
  intro j h1 h2
  have g := hf.2.1 j h1 h2
  refine ⟨?_, .inr ?_⟩
  · rcases hf.2.2 with h3 | h3
    · exact .inl h3
    refine .inr fun h4 => h3 ?_
    rcases h4 with h4 | ⟨h4, h5⟩
    · rcases g with h6 | ⟨h6, _⟩ <;> exact .inl (by omega)
    · rcases g with h6 | ⟨h6, h7⟩
      · exact .inl (by omega)
      · exact .inr ⟨by omega, h7⟩
  · rintro (h4 | ⟨h4, h5⟩)
    · have := hge j h1 h2; omega
    · have f1 := good_fit h h2 hk h4.symm (fun i h6 h7 => hge i (by omega) h7)
      rcases g with h6 | ⟨h6, h7⟩
      · omega
      · unfold Fit at f1; omega
theorem cl_right {A L : Nat → Int} {n k t : Nat} (h : Good A L n) (ht : IsTo A L n k t) : Cl A L n (k + 1) t := by
  have hge : ∀ j, k < j → j < t → L k ≤ L j := fun j h1 h2 => by rcases ht.2.2.1 j h1 h2 with h3 | ⟨h3, _⟩ <;> omega
  have htn := ht.2.1
  intro j h1 h2
  have g := ht.2.2.1 j (by omega) h2
  refine ⟨.inr ?_, ?_⟩
  · rw [Nat.add_sub_cancel]
    rintro (h4 | ⟨h4, h5⟩)
    · have := hge j (by omega) h2; omega
    · have f1 := good_fit h (show k < j by omega) (by omega) h4 (fun i h6 h7 => by rw [← h4]; exact hge i h6 (by omega))
      rcases g with h6 | ⟨h6, h7⟩
      · omega
      · unfold Fit at f1; omega
  · rcases ht.2.2.2 with h3 | h3
    · exact .inl h3
    refine .inr fun h4 => h3 ?_
    rcases h4 with h4 | ⟨h4, h5⟩
    · rcases g with h6 | ⟨h6, _⟩ <;> exact .inl (by omega)
    · rcases g with h6 | ⟨h6, h7⟩
      · exact .inl (by omega)
      · exact .inr ⟨by omega, h7⟩
/-- what is closed, and not a lone operand, is what some operator spans -/
theorem part_of {A L : Nat → Int} {n a b : Nat} (h : Good A L n) (hb : b ≤ n) (hc : Cl A L n a b) (hab : a < b) : ∃ r, r < n ∧ IsFrom A L r a ∧ IsTo A L n r b := by
  have hr := root_is A L a (b - a - 1)
  rw [show a + (b - a - 1) + 1 = b by omega] at hr
  obtain ⟨h1, h2, _, _⟩ := root_spans h hb hc hr
  exact ⟨_, by have := hr.lt; omega, h1, h2⟩
/-- what Resolve comes to: the spans, the number, the error -/
structure Res (A L : Nat → Int) (n : Nat) (F T : Nat → Nat) (i e : Nat) : Prop where
  out : (e = 2 ∧ i = 0 ∧ 1024 < n) ∨ (e = 1 ∧ n ≤ 1024 ∧ i < n ∧ ¬ Fine A L i ∧ ∀ j, j < i → Fine A L j) ∨
    (e = 50 ∧ n ≤ 1024 ∧ i < n ∧ (∀ j, j < n → Fine A L j) ∧ Clash A L i ∧ ∀ j, j < i → ¬ Clash A L j) ∨
    (e = 0 ∧ i = 0 ∧ n ≤ 1024 ∧ Good A L n ∧ ∀ k, k < n → IsFrom A L k (F k) ∧ IsTo A L n k (T k))
theorem res_same {A L : Nat → Int} {n : Nat} {F T G U : Nat → Nat} {i e j d : Nat} (h : Res A L n F T i e) (g : Res A L n G U j d) : i = j ∧ e = d ∧ (e = 0 → ∀ k, k < n → F k = G k ∧ T k = U k) := by
  have lt : ∀ {P : Nat → Prop} {a b : Nat}, (¬ P a) → (∀ x, x < b → P x) → b ≤ a := fun h1 h2 => Nat.le_of_not_lt fun h3 => h1 (h2 _ h3)
  rcases h.out with ⟨rfl, rfl, h1⟩ | ⟨rfl, h1, h2, h3, h4⟩ | ⟨rfl, h1, h2, h3, h4, h5⟩ | ⟨rfl, rfl, h1, h2, h3⟩ <;>
    rcases g.out with ⟨rfl, rfl, g1⟩ | ⟨rfl, g1, g2, g3, g4⟩ | ⟨rfl, g1, g2, g3, g4, g5⟩ | ⟨rfl, rfl, g1, g2, g3⟩
  · exact ⟨rfl, rfl, fun h => absurd h (by decide)⟩
  · exact absurd h1 (by omega)
  · exact absurd h1 (by omega)
  · exact absurd h1 (by omega)
  · exact absurd h1 (by omega)
  · exact ⟨Nat.le_antisymm (lt g3 h4) (lt h3 g4), rfl, fun h => absurd h (by decide)⟩
  · exact absurd (g3 i h2) h3
  · exact absurd (g2.1 i h2) h3
  · exact absurd h1 (by omega)
  · exact absurd (h3 j g2) g3
  · refine ⟨Nat.le_antisymm ?_ ?_, rfl, fun h => absurd h (by decide)⟩
    · exact Nat.le_of_not_lt fun h6 => h5 _ h6 g4
    · exact Nat.le_of_not_lt fun h6 => g5 _ h6 h4
  · exact absurd h4 (g2.2 i h2)
  · exact absurd h1 (by omega)
  · exact absurd (h2.1 j g2) g3
  · exact absurd g4 (h2.2 j g2)
  · exact ⟨rfl, rfl, fun _ k hk => ⟨from_one (h3 k hk).1 (g3 k hk).1, to_one (h3 k hk).2 (g3 k hk).2⟩⟩
/-- parts within parts -/
theorem shape_all {A L : Nat → Int} {n : Nat} {F T : Nat → Nat} (h : Good A L n) (hs : ∀ k, k < n → IsFrom A L k (F k) ∧ IsTo A L n k (T k)) (h0 : 0 < n) : ∃ r, r < n ∧ F r = 0 ∧ T r = n := by
  obtain ⟨r, h1, h2, h3⟩ := part_of h (Nat.le_refl _) (cl_all A L n) h0
  exact ⟨r, h1, from_one (hs r h1).1 h2, to_one (hs r h1).2 h3⟩
theorem shape_left {A L : Nat → Int} {n k : Nat} {F T : Nat → Nat} (h : Good A L n) (hs : ∀ k, k < n → IsFrom A L k (F k) ∧ IsTo A L n k (T k)) (hk : k < n) (h0 : F k ≠ k) : ∃ r, r < n ∧ F r = F k ∧ T r = k := by
  have hf := (hs k hk).1
  obtain ⟨r, h1, h2, h3⟩ := part_of h (by omega) (cl_left h hk hf) (by have := hf.1; omega)
  exact ⟨r, h1, from_one (hs r h1).1 h2, to_one (hs r h1).2 h3⟩
theorem shape_right {A L : Nat → Int} {n k : Nat} {F T : Nat → Nat} (h : Good A L n) (hs : ∀ k, k < n → IsFrom A L k (F k) ∧ IsTo A L n k (T k)) (hk : k < n) (h0 : k + 1 ≠ T k) : ∃ r, r < n ∧ F r = k + 1 ∧ T r = T k := by
  have hf := (hs k hk).2
  obtain ⟨r, h1, h2, h3⟩ := part_of h hf.2.1 (cl_right h hf) (by have := hf.1; omega)
  exact ⟨r, h1, from_one (hs r h1).1 h2, to_one (hs r h1).2 h3⟩
/-- what lies within binds more tightly, or as tightly on its side -/
theorem tight {A L : Nat → Int} {n i k : Nat} {F T : Nat → Nat} (h : Good A L n) (hs : ∀ k, k < n → IsFrom A L k (F k) ∧ IsTo A L n k (T k)) (hi : i < n) (h1 : F i ≤ k) (h2 : k < T i) (hne : k ≠ i) :
    L i < L k ∨ (L k = L i ∧ A k = A i ∧ ((A i = 1 ∧ k ≤ i) ∨ (A i = 2 ∧ i ≤ k))) := by
  obtain ⟨hf, ht⟩ := hs i hi
  rcases Nat.lt_or_gt_of_ne hne with h3 | h3
  · rcases hf.2.1 k h1 h3 with h4 | ⟨h4, h5⟩
    · exact .inl h4
    · have f := good_fit h h3 hi h4 (fun j h6 h7 => by rcases hf.2.1 j (by omega) h7 with h8 | ⟨h8, _⟩ <;> omega)
      exact .inr ⟨h4, f.1, .inl ⟨h5, by omega⟩⟩
  · rcases ht.2.2.1 k h3 h2 with h4 | ⟨h4, h5⟩
    · exact .inl h4
    · have hkn : k < n := by have := ht.2.1; omega
      have f := good_fit h h3 hkn h4.symm (fun j h6 h7 => by rcases ht.2.2.1 j h6 (by omega) with h8 | ⟨h8, _⟩ <;> omega)
      exact .inr ⟨h4, f.1.symm, .inr ⟨h5, by omega⟩⟩
/-- one level, one way -/
theorem sides {A L : Nat → Int} {n : Nat} {a v : Int} (hA : ∀ j, j < n → A j = a) (hL : ∀ j, j < n → L j = v) (h0 : a = 1 ∨ a = 2) : (∀ j, j < n → ¬ Clash A L j) ∧
    ∀ i, i < n → (a = 1 → IsFrom A L i 0 ∧ IsTo A L n i (i + 1)) ∧ (a = 2 → IsFrom A L i i ∧ IsTo A L n i n) := by
  refine ⟨fun j hj => ?_, fun i hi => ⟨fun e => ⟨⟨by omega, fun j h1 h2 => .inr ⟨by rw [hL j (by omega), hL i hi], by rw [hA i hi, e]⟩, .inl rfl⟩, by omega, by omega, fun j h1 h2 => by omega, ?_⟩, fun e => ⟨⟨by omega, fun j h1 h2 => by omega, ?_⟩, by omega, by omega, fun j h1 h2 => .inr ⟨by rw [hL j h2, hL i hi], by rw [hA i hi, e]⟩, .inl rfl⟩⟩⟩
  · rintro ⟨p, hp, hm, hf⟩
    exact hf ⟨by rw [hA p (by omega), hA j hj], by rw [hA p (by omega)]; omega⟩
  · by_cases h1 : i + 1 = n
    · exact .inl h1
    · refine .inr ?_
      rintro (h2 | ⟨_, h2⟩)
      · rw [hL i hi, hL (i + 1) (by omega)] at h2; omega
      · rw [hA i hi] at h2; omega
  · by_cases h1 : i = 0
    · exact .inl h1
    · refine .inr ?_
      rintro (h2 | ⟨_, h2⟩)
      · rw [hL i hi, hL (i - 1) (by omega)] at h2; omega
      · rw [hA i hi] at h2; omega
/-! ### a row parted in two -/
section
variable {A L A1 L1 A2 L2 : Nat → Int} {a b : Nat}
variable (e1 : ∀ j, j < a → A j = A1 j ∧ L j = L1 j) (e2 : ∀ j, j < b → A (a + 1 + j) = A2 j ∧ L (a + 1 + j) = L2 j)
variable (l1 : ∀ j, j < a → L a < L1 j) (l2 : ∀ j, j < b → L a < L2 j)
include e1 in
theorem absL1 {k j : Nat} (hk : k < a) (hj : j < a) : absL A L k j ↔ absL A1 L1 k j := by
  unfold absL; rw [(e1 k hk).1, (e1 k hk).2, (e1 j hj).2]
include e1 in
theorem absR1 {k j : Nat} (hk : k < a) (hj : j < a) : absR A L k j ↔ absR A1 L1 k j := by
  unfold absR; rw [(e1 k hk).1, (e1 k hk).2, (e1 j hj).2]
include e2 in
theorem absL2 {k j : Nat} (hk : k < b) (hj : j < b) : absL A L (a + 1 + k) (a + 1 + j) ↔ absL A2 L2 k j := by
  unfold absL; rw [(e2 k hk).1, (e2 k hk).2, (e2 j hj).2]
include e2 in
theorem absR2 {k j : Nat} (hk : k < b) (hj : j < b) : absR A L (a + 1 + k) (a + 1 + j) ↔ absR A2 L2 k j := by
  unfold absR; rw [(e2 k hk).1, (e2 k hk).2, (e2 j hj).2]
include e1 in
theorem clash1 {k : Nat} (hk : k < a) : Clash A L k ↔ Clash A1 L1 k := by
  have hm : ∀ p, p < k → (Meets L p k ↔ Meets L1 p k) := fun p hp => by
    unfold Meets
    rw [(e1 k hk).2, (e1 p (by omega)).2]
    constructor
    · rintro ⟨h1, h2⟩; exact ⟨h1, fun j h3 h4 => by rw [← (e1 j (by omega)).2]; exact h2 j h3 h4⟩
    · rintro ⟨h1, h2⟩; exact ⟨h1, fun j h3 h4 => by rw [(e1 j (by omega)).2]; exact h2 j h3 h4⟩
  have hf : ∀ p, p < k → (Fit A p k ↔ Fit A1 p k) := fun p hp => by unfold Fit; rw [(e1 k hk).1, (e1 p (by omega)).1]
  constructor
  · rintro ⟨p, h1, h2, h3⟩; exact ⟨p, h1, (hm p h1).1 h2, fun h => h3 ((hf p h1).2 h)⟩
  · rintro ⟨p, h1, h2, h3⟩; exact ⟨p, h1, (hm p h1).2 h2, fun h => h3 ((hf p h1).1 h)⟩
include e1 l1 in
theorem clash0 : ¬ Clash A L a := by
  rintro ⟨p, h1, h2, _⟩
  have := l1 p h1
  have := (e1 p h1).2
  have := h2.1
  omega
include e2 l2 in
theorem clash2 {k : Nat} (hk : k < b) : Clash A L (a + 1 + k) ↔ Clash A2 L2 k := by
  have lk := l2 k hk
  have ek := (e2 k hk).2
  constructor
  · rintro ⟨p, h1, h2, h3⟩
    have hp : a < p := by
      apply Classical.byContradiction
      intro h
      by_cases h0 : p = a
      · have := h2.1; rw [h0] at this; omega
      · have := h2.2 a (by omega) (by omega); omega
    obtain ⟨q, rfl⟩ : ∃ q, p = a + 1 + q := ⟨p - a - 1, by omega⟩
    have hq : q < b := by omega
    refine ⟨q, by omega, ⟨by rw [← (e2 q hq).2, ← ek]; exact h2.1, fun j h4 h5 => ?_⟩, fun h => h3 ?_⟩
    · rw [← (e2 j (by omega)).2, ← ek]; exact h2.2 _ (by omega) (by omega)
    · unfold Fit at h ⊢; rw [(e2 q hq).1, (e2 k hk).1]; exact h
  · rintro ⟨q, h1, h2, h3⟩
    have hq : q < b := by omega
    refine ⟨a + 1 + q, by omega, ⟨by rw [(e2 q hq).2, ek]; exact h2.1, fun j h4 h5 => ?_⟩, fun h => h3 ?_⟩
    · obtain ⟨i, rfl⟩ : ∃ i, j = a + 1 + i := ⟨j - a - 1, by omega⟩
      rw [(e2 i (by omega)).2, ek]; exact h2.2 _ (by omega) (by omega)
    · unfold Fit at h ⊢; rw [(e2 q hq).1, (e2 k hk).1] at h; exact h
include e1 in
theorem from1 {k f : Nat} (hk : k < a) (h : IsFrom A1 L1 k f) : IsFrom A L k f := by
  refine ⟨h.1, fun j h1 h2 => (absL1 e1 hk (by omega)).2 (h.2.1 j h1 h2), ?_⟩
  rcases h.2.2 with h3 | h3
  · exact .inl h3
  · exact .inr fun h4 => h3 ((absL1 e1 hk (by have := h.1; omega)).1 h4)
include e1 l1 in
theorem to1 {n k t : Nat} (hn : a < n) (hk : k < a) (h : IsTo A1 L1 a k t) : IsTo A L n k t := by
  have hta := h.2.1
  refine ⟨h.1, by omega, fun j h1 h2 => (absR1 e1 hk (by omega)).2 (h.2.2.1 j h1 h2), .inr ?_⟩
  rcases h.2.2.2 with h3 | h3
  · subst h3
    have := l1 k hk
    have := (e1 k hk).2
    rintro (h4 | ⟨h4, _⟩) <;> omega
  · by_cases h5 : t = a
    · subst h5
      have := l1 k hk
      have := (e1 k hk).2
      rintro (h4 | ⟨h4, _⟩) <;> omega
    · exact fun h4 => h3 ((absR1 e1 hk (by omega)).1 h4)
include e2 l2 in
theorem from2 {k f : Nat} (hk : k < b) (h : IsFrom A2 L2 k f) : IsFrom A L (a + 1 + k) (a + 1 + f) := by
  have hfk := h.1
  refine ⟨by omega, fun j h1 h2 => ?_, .inr ?_⟩
  · obtain ⟨i, rfl⟩ : ∃ i, j = a + 1 + i := ⟨j - a - 1, by omega⟩
    exact (absL2 e2 hk (by omega)).2 (h.2.1 i (by omega) (by omega))
  · by_cases h0 : f = 0
    · subst h0
      have := l2 k hk
      have := (e2 k hk).2
      rw [show a + 1 + 0 - 1 = a by omega]
      rintro (h4 | ⟨h4, _⟩) <;> omega
    · rcases h.2.2 with h3 | h3
      · exact absurd h3 h0
      · rw [show a + 1 + f - 1 = a + 1 + (f - 1) by omega]
        exact fun h4 => h3 ((absL2 e2 hk (by omega)).1 h4)
include e2 in
theorem to2 {k t : Nat} (hk : k < b) (h : IsTo A2 L2 b k t) : IsTo A L (a + 1 + b) (a + 1 + k) (a + 1 + t) := by
  have htb := h.2.1
  have hkt := h.1
  refine ⟨by omega, by omega, fun j h1 h2 => ?_, ?_⟩
  · obtain ⟨i, rfl⟩ : ∃ i, j = a + 1 + i := ⟨j - a - 1, by omega⟩
    exact (absR2 e2 hk (by omega)).2 (h.2.2.1 i (by omega) (by omega))
  · rcases h.2.2.2 with h3 | h3
    · exact .inl (by omega)
    · by_cases h5 : t = b
      · exact .inl (by omega)
      · exact .inr fun h4 => h3 ((absR2 e2 hk (by omega)).1 h4)
include e1 e2 l1 l2 in
theorem mid_spans : IsFrom A L a 0 ∧ IsTo A L (a + 1 + b) a (a + 1 + b) := by
  refine ⟨⟨by omega, fun j h1 h2 => .inl (by rw [(e1 j h2).2]; exact l1 j h2), .inl rfl⟩, by omega, by omega, fun j h1 h2 => ?_, .inl rfl⟩
  obtain ⟨i, rfl⟩ : ∃ i, j = a + 1 + i := ⟨j - a - 1, by omega⟩
  exact .inl (by rw [(e2 i (by omega)).2]; exact l2 i (by omega))
end
end Go.Proofs.Ytlhppkaehoppnaa.Fm
