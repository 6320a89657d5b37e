/-
  PLAIN MATHEMATICS for layer fix: which operands an operator spans, by its levels alone; the stack of those that wait. No program in sight.
-/
import Derived.WalkKit
import Derived.ProofKit
namespace Go.Proofs.Ytlhppkaehoppnaa.Fm
set_option linter.unusedVariables false

/-- j is taken by k, if it stands ahead of it · behind it -/
def absL (A L : Nat → Int) (k j : Nat) : Prop := L k < L j ∨ (L j = L k ∧ A k = 1)
def absR (A L : Nat → Int) (k j : Nat) : Prop := L k < L j ∨ (L j = L k ∧ A k = 2)
def IsFrom (A L : Nat → Int) (k f : Nat) : Prop := f ≤ k ∧ (∀ j, f ≤ j → j < k → absL A L k j) ∧ (f = 0 ∨ ¬ absL A L k (f - 1))
def IsTo (A L : Nat → Int) (n k t : Nat) : Prop := k < t ∧ t ≤ n ∧ (∀ j, k < j → j < t → absR A L k j) ∧ (t = n ∨ ¬ absR A L k t)
def Meets (L : Nat → Int) (p k : Nat) : Prop := L p = L k ∧ ∀ j, p < j → j < k → L k < L j
def Fit (A : Nat → Int) (p k : Nat) : Prop := A p = A k ∧ A p ≠ 0
def Clash (A L : Nat → Int) (k : Nat) : Prop := ∃ p, p < k ∧ Meets L p k ∧ ¬ Fit A p k
def Fine (A L : Nat → Int) (k : Nat) : Prop := 0 ≤ A k ∧ A k ≤ 2 ∧ 0 ≤ L k ∧ L k ≤ 9

theorem from_one {A L : Nat → Int} {k f g : Nat} (h1 : IsFrom A L k f) (h2 : IsFrom A L k g) : f = g := by
  rcases Nat.lt_trichotomy f g with h | h | h
  · rcases h2.2.2 with h0 | h0
    · omega
    · exact absurd (h1.2.1 (g - 1) (by omega) (by have := h2.1; omega)) h0
  · exact h
  · rcases h1.2.2 with h0 | h0
    · omega
    · exact absurd (h2.2.1 (f - 1) (by omega) (by have := h1.1; omega)) h0
theorem to_one {A L : Nat → Int} {n k f g : Nat} (h1 : IsTo A L n k f) (h2 : IsTo A L n k g) : f = g := by
  rcases Nat.lt_trichotomy f g with h | h | h
  · rcases h1.2.2.2 with h0 | h0
    · have := h2.2.1; omega
    · exact absurd (h2.2.2.1 f h1.1 h) h0
  · exact h
  · rcases h2.2.2.2 with h0 | h0
    · have := h1.2.1; omega
    · exact absurd (h1.2.2.1 g h2.1 h) h0

/-- the nearest of one's level, where none between is lower -/
theorem nearest {L : Nat → Int} {p k : Nat} (h : p < k) (e : L p = L k) (hb : ∀ j, p < j → j < k → L k ≤ L j) : ∃ q, p ≤ q ∧ q < k ∧ Meets L q k := by
  have : ∀ d p, k - p ≤ d → p < k → L p = L k → (∀ j, p < j → j < k → L k ≤ L j) → ∃ q, p ≤ q ∧ q < k ∧ Meets L q k := by
    intro d
    induction d with
    | zero => intro p h1 h2; omega
    | succ d ih =>
      intro p h1 h2 e hb
      by_cases hx : ∀ j, p < j → j < k → L k < L j
      · exact ⟨p, Nat.le_refl _, h2, e, hx⟩
      · have : ∃ j, p < j ∧ j < k ∧ ¬ L k < L j := by
          apply Classical.byContradiction
          intro hn
          exact hx fun j hj hk => Classical.byContradiction fun hc => hn ⟨j, hj, hk, hc⟩
        obtain ⟨j, hj1, hj2, hj3⟩ := this
        have hje : L j = L k := by have := hb j hj1 hj2; omega
        obtain ⟨q, hq1, hq2, hq3⟩ := ih j (by omega) hj2 hje (fun i h3 h4 => hb i (by omega) h4)
        exact ⟨q, by omega, hq2, hq3⟩
  exact this (k - p) p (Nat.le_refl _) h e hb
/-- without a clash, all of one level that no lower one parts group alike -/
theorem same_way {A L : Nat → Int} (k : Nat) : ∀ p, p < k → (∀ j, j ≤ k → ¬ Clash A L j) → L p = L k → (∀ j, p < j → j < k → L k ≤ L j) → Fit A p k := by
  induction k using Nat.strongRecOn with
  | _ k ih =>
    intro p h hc e hb
    obtain ⟨q, hq1, hq2, hq3⟩ := nearest h e hb
    have hf : Fit A q k := Classical.byContradiction fun hn => hc k (Nat.le_refl _) ⟨q, hq2, hq3, hn⟩
    by_cases hpq : p = q
    · rw [hpq]; exact hf
    · have g := ih q hq2 p (by omega) (fun j hj => hc j (by omega)) (by rw [e, hq3.1]) (fun j h1 h2 => by rw [hq3.1]; exact hb j h1 (by omega))
      exact ⟨g.1.trans hf.1, g.2⟩

/-- what waits, the last one first, and the operand behind it -/
inductive Stk (A L : Nat → Int) : List Nat → Nat → Prop where
  | nil : Stk A L [] 0
  | cons {r : List Nat} {b s : Nat} : Stk A L r b → IsFrom A L s b → Stk A L (s :: r) (s + 1)
/-- where the round of operator i stands: f is the first operand that it groups as far as is known, st waits -/
structure Inv (A L : Nat → Int) (n i f : Nat) (st : List Nat) (F T : Nat → Nat) : Prop where
  le : f ≤ i
  stk : Stk A L st f
  wait : ∀ s, s ∈ st → s < i ∧ ∀ k, s < k → k < i → absR A L s k
  done : ∀ j, j < i → j ∉ st → IsTo A L n j (T j)
  frm : ∀ j, j < i → IsFrom A L j (F j)
  none : ∀ j, j < i → ¬ Clash A L j
  run : ∀ j, f ≤ j → j < i → absL A L i j
  met : ∀ p, f ≤ p → p < i → Meets L p i → Fit A p i
def upd (F : Nat → Nat) (i v : Nat) : Nat → Nat := fun j => if j = i then v else F j
theorem upd_same (F : Nat → Nat) (i v : Nat) : upd F i v i = v := by simp [upd]
theorem upd_other (F : Nat → Nat) {i j : Nat} (v : Nat) (h : j ≠ i) : upd F i v j = F j := by simp [upd, h]
theorem upd_id (F : Nat → Nat) {i v : Nat} (h : F i = v) : upd F i v = F := by
  funext j; unfold upd; split
  · rename_i e; rw [e, h]
  · rfl

theorem inv_start (A L : Nat → Int) (n : Nat) (F T : Nat → Nat) : Inv A L n 0 0 [] F T :=
  ⟨Nat.le_refl _, .nil, (fun s h => absurd h (by simp)), (fun j h => absurd h (by omega)), (fun j h => absurd h (by omega)), (fun j h => absurd h (by omega)), (fun j h1 h2 => absurd h2 (by omega)), (fun p h1 h2 => absurd h2 (by omega))⟩
theorem stk_top {A L : Nat → Int} {s f : Nat} {r : List Nat} (h : Stk A L (s :: r) f) : f = s + 1 ∧ ∃ b, Stk A L r b ∧ IsFrom A L s b := by
  cases h with
  | cons h1 h2 => exact ⟨rfl, _, h1, h2⟩
/-- the last one that waits binds less, or groups to the right as this one does: it waits on, and so does this one -/
theorem inv_push {A L : Nat → Int} {n i f : Nat} {st : List Nat} {F T : Nat → Nat} (h : Inv A L n i f st F T) (hF : F i = f)
    (hb : ∀ s r, st = s :: r → L s < L i ∨ (L s = L i ∧ Fit A s i ∧ A i = 2)) : Inv A L n (i + 1) (i + 1) (i :: st) F T := by
  have hfrom : IsFrom A L i f := by
    refine ⟨h.le, h.run, ?_⟩
    cases st with
    | nil => cases h.stk; exact .inl rfl
    | cons s r =>
      obtain ⟨rfl, _⟩ := stk_top h.stk
      refine .inr ?_
      rw [Nat.add_sub_cancel]
      rintro (h1 | ⟨h1, h2⟩)
      · rcases hb s r rfl with h3 | ⟨h3, _⟩ <;> omega
      · rcases hb s r rfl with h3 | ⟨h3, _, h4⟩ <;> omega
  refine ⟨Nat.le_refl _, .cons h.stk hfrom, ?_, ?_, ?_, ?_, fun j h1 h2 => by omega, fun p h1 h2 => by omega⟩
  · intro s hs
    rcases List.mem_cons.1 hs with rfl | hs2
    · exact ⟨by omega, fun k h1 h2 => by omega⟩
    · obtain ⟨hl, hw⟩ := h.wait s hs2
      refine ⟨by omega, fun k h1 h2 => ?_⟩
      by_cases hk : k < i
      · exact hw k h1 hk
      obtain rfl : k = i := by omega
      cases st with
      | nil => exact absurd hs2 (by simp)
      | cons t r =>
        rcases List.mem_cons.1 hs2 with rfl | hr
        · rcases hb s r rfl with h3 | ⟨h3, h4, h5⟩
          · exact .inl h3
          · exact .inr ⟨h3.symm, by rw [h4.1, h5]⟩
        · have hst : s < t := by
            obtain ⟨_, b, hsb, hfb⟩ := stk_top h.stk
            have : ∀ (r : List Nat) (b : Nat), Stk A L r b → ∀ x, x ∈ r → x < b := by
              intro r
              induction r with
              | nil => intro b _ x hx; cases hx
              | cons y r ih =>
                intro b hb' x hx
                obtain ⟨rfl, b', h1, h2⟩ := stk_top hb'
                rcases List.mem_cons.1 hx with rfl | hx
                · omega
                · have := ih b' h1 x hx
                  have := h2.1
                  omega
            have := this r b hsb s hr
            have := hfb.1
            omega
          have htk : t < k := (h.wait t (by simp)).1
          have g := hw t hst htk
          rcases hb t r rfl with h3 | ⟨h3, h4, h5⟩
          · rcases g with g | ⟨g1, g2⟩
            · exact .inl (by omega)
            · exact .inl (by omega)
          · rcases g with g | ⟨g1, g2⟩
            · exact .inl (by omega)
            · exact .inr ⟨by omega, g2⟩
  · intro j hj hn
    have h0 : j ≠ i := fun e => hn (by rw [e]; simp)
    exact h.done j (by omega) (fun hm => hn (by simp [hm]))
  · intro j hj
    by_cases h0 : j = i
    · rw [h0, hF]; exact hfrom
    · exact h.frm j (by omega)
  · intro j hj
    by_cases h0 : j = i
    · rw [h0]
      rintro ⟨p, hp, hm, hx⟩
      by_cases hfp : f ≤ p
      · exact hx (h.met p hfp hp hm)
      · cases st with
        | nil => cases h.stk; omega
        | cons s r =>
          obtain ⟨rfl, _⟩ := stk_top h.stk
          have hsi := (h.wait s (by simp)).1
          by_cases hps : p = s
          · subst hps
            rcases hb p r rfl with h3 | ⟨h3, h4, h5⟩
            · have := hm.1; omega
            · exact hx h4
          · have := hm.2 s (by omega) hsi
            rcases hb s r rfl with h3 | ⟨h3, _⟩ <;> omega
    · exact h.none j (by omega)
/-- it binds more, or groups to the left as this one does: it is done, and this one groups what it did -/
theorem inv_pop {A L : Nat → Int} {n i f s : Nat} {r : List Nat} {F T : Nat → Nat} (h : Inv A L n i f (s :: r) F T) (hn : i < n)
    (hb : L i < L s ∨ (L s = L i ∧ Fit A s i ∧ A i = 1)) : Inv A L n i (F s) r (upd F i (F s)) (upd T s i) := by
  obtain ⟨rfl, b, hs, hfb⟩ := stk_top h.stk
  obtain ⟨hsi, hw⟩ := h.wait s (by simp)
  obtain rfl : F s = b := from_one (h.frm s hsi) hfb
  refine ⟨by have := hfb.1; omega, hs, fun t ht => h.wait t (by simp [ht]), ?_, ?_, h.none, ?_, ?_⟩
  · intro j hj hm
    by_cases h0 : j = s
    · rw [h0, upd_same]
      refine ⟨hsi, by omega, hw, .inr ?_⟩
      rintro (h1 | ⟨h1, h2⟩)
      · rcases hb with h3 | ⟨h3, _⟩ <;> omega
      · rcases hb with h3 | ⟨h3, h4, h5⟩
        · omega
        · have := h4.1; omega
    · rw [upd_other _ _ h0]
      exact h.done j hj (by simp [h0, hm])
  · intro j hj
    rw [upd_other _ _ (by omega)]
    exact h.frm j hj
  · intro j h1 h2
    by_cases h3 : s < j
    · exact h.run j (by omega) h2
    by_cases h4 : j = s
    · subst h4
      rcases hb with h5 | ⟨h5, _, h6⟩
      · exact .inl h5
      · exact .inr ⟨h5, h6⟩
    · rcases hfb.2.1 j h1 (by omega) with h5 | ⟨h5, h6⟩
      · rcases hb with h7 | ⟨h7, _, h8⟩ <;> exact .inl (by omega)
      · rcases hb with h7 | ⟨h7, _, h8⟩
        · exact .inl (by omega)
        · exact .inr ⟨by omega, h8⟩
  · intro p h1 h2 hm
    by_cases h3 : s < p
    · exact h.met p (by omega) h2 hm
    by_cases h4 : p = s
    · subst h4
      rcases hb with h5 | ⟨h5, h6, _⟩
      · have := hm.1; omega
      · exact h6
    · have g := hm.2 s (by omega) hsi
      have g1 := hm.1
      rcases hfb.2.1 p h1 (by omega) with h5 | ⟨h5, h6⟩ <;> (rcases hb with h7 | ⟨h7, _⟩ <;> omega)
/-- it clashes -/
theorem inv_clash {A L : Nat → Int} {n i f s : Nat} {r : List Nat} {F T : Nat → Nat} (h : Inv A L n i f (s :: r) F T) (e : L s = L i) (hx : ¬ Fit A s i) : Clash A L i := by
  obtain ⟨rfl, b, hs, hfb⟩ := stk_top h.stk
  obtain ⟨hsi, hw⟩ := h.wait s (by simp)
  have hge : ∀ j, s < j → j < i → L i ≤ L j := fun j h1 h2 => by rcases h.run j (by omega) h2 with h3 | ⟨h3, _⟩ <;> omega
  obtain ⟨q, hq1, hq2, hq3⟩ := nearest hsi e hge
  refine ⟨q, hq2, hq3, fun hf => ?_⟩
  by_cases h0 : q = s
  · exact hx (by rw [← h0]; exact hf)
  · have g := same_way q s (by omega) (fun j hj => h.none j (by omega)) (by rw [e, hq3.1]) (fun j h1 h2 => by rw [hq3.1]; exact hge j h1 (by omega))
    exact hx ⟨g.1.trans hf.1, g.2⟩
/-- what still waits in the end reaches to the last operand -/
theorem inv_end {A L : Nat → Int} {n f : Nat} {st : List Nat} {F T : Nat → Nat} (h : Inv A L n n f st F T) {s : Nat} (hs : s ∈ st) : IsTo A L n s n := by
  obtain ⟨h1, h2⟩ := h.wait s hs
  exact ⟨h1, Nat.le_refl _, h2, .inl rfl⟩
end Go.Proofs.Ytlhppkaehoppnaa.Fm
