/-
  PLAIN MATHEMATICS of layer group: things parted into groups; the order of groups; that there is one such order alone. No program in sight.
-/
import Derived.Test.YtephmagficbdeaaGrMath
namespace Go.Proofs.Ytephmagficbdeaa.Gr
set_option linter.unusedVariables false
/-- things parted into the groups of those that need one another -/
structure Parted (g : List (List Nat)) (gs : List (List Nat)) : Prop where
  sc : ∀ C ∈ gs, Rising C ∧ C ≠ [] ∧ ∀ x ∈ C, ∀ y, y ∈ C ↔ Mut g x y
  cov : ∀ x < g.length, ∃ C ∈ gs, x ∈ C
  rng : ∀ C ∈ gs, ∀ x ∈ C, x < g.length
  nd : gs.Nodup
/-- all that a group uses stands in it, or in those that are done -/
def Ready (g done : List (List Nat)) (C : List Nat) : Prop := ∀ x ∈ C, ∀ u ∈ U g x, u ∈ C ∨ ∃ D ∈ done, u ∈ D
/-- the first number of a group -/
def hd (C : List Nat) : Nat := C.headD 0
/-- the document's order of groups -/
structure Canon (g l : List (List Nat)) : Prop where
  part : Parted g l
  rdy : ∀ (i : Nat) C, l[i]? = some C → Ready g (l.take i) C
  least : ∀ (i : Nat) C, l[i]? = some C → ∀ (j : Nat) D, i < j → l[j]? = some D → Ready g (l.take i) D → hd C < hd D
theorem hd_mem {C : List Nat} (h : C ≠ []) : hd C ∈ C := by
  cases C with
  | nil => exact absurd rfl h
  | cons a l => simp [hd]
theorem hd_le {C : List Nat} (h : Rising C) {x : Nat} (hx : x ∈ C) : hd C ≤ x := by
  cases C with
  | nil => cases hx
  | cons a l =>
    rcases List.mem_cons.1 hx with rfl | e
    · exact Nat.le_refl _
    · exact Nat.le_of_lt ((List.pairwise_cons.1 h).1 x e)
section
variable {g gs l m : List (List Nat)}
/-- two groups that share a thing are one -/
theorem class_eq {C D : List Nat} (hC : Rising C ∧ C ≠ [] ∧ ∀ x ∈ C, ∀ y, y ∈ C ↔ Mut g x y) (hD : Rising D ∧ D ≠ [] ∧ ∀ x ∈ D, ∀ y, y ∈ D ↔ Mut g x y) {x : Nat} (h1 : x ∈ C) (h2 : x ∈ D) : C = D :=
  rising_ext hC.1 hD.1 fun y => by rw [hC.2.2 x h1, hD.2.2 x h2]
theorem Parted.eq (h : Parted g gs) {C D : List Nat} (hC : C ∈ gs) (hD : D ∈ gs) {x : Nat} (h1 : x ∈ C) (h2 : x ∈ D) : C = D := class_eq (h.sc C hC) (h.sc D hD) h1 h2
theorem Parted.mem (h : Parted g l) (k : Parted g m) {C : List Nat} (hC : C ∈ l) : C ∈ m := by
  have h1 := h.sc C hC
  obtain ⟨D, hD, hx⟩ := k.cov _ (h.rng C hC _ (hd_mem h1.2.1))
  rwa [class_eq h1 (k.sc D hD) (hd_mem h1.2.1) hx]
theorem Parted.perm (h : Parted g l) (hp : l.Perm m) : Parted g m :=
  ⟨fun C hC => h.sc C (hp.mem_iff.2 hC), fun x hx => by obtain ⟨C, hC, hx⟩ := h.cov x hx; exact ⟨C, hp.mem_iff.1 hC, hx⟩, fun C hC => h.rng C (hp.mem_iff.2 hC), hp.nodup_iff.1 h.nd⟩
theorem Parted.hd_inj (h : Parted g gs) {C D : List Nat} (hC : C ∈ gs) (hD : D ∈ gs) (e : hd C = hd D) : C = D :=
  h.eq hC hD (hd_mem (h.sc C hC).2.1) (e ▸ hd_mem (h.sc D hD).2.1)
/-- groups with unlike first numbers, the least first -/
theorem Parted.of_inv {s : TS} (h : Inv g s) (ho : s.opn = []) (hv : ∀ x < g.length, s.at_ x ≠ 0) : Parted g s.groups where
  sc := h.gsc
  cov := fun x hx => by
    have : s.whole x = true := by
      cases e : s.whole x with
      | true => rfl
      | false =>
        have := (h.opn x).2 ⟨hv x hx, e⟩
        rw [ho] at this
        cases this
    exact (h.grp x).1 this
  rng := fun C hC x hx => h.vis x (h.wat x ((h.grp x).2 ⟨C, hC, hx⟩))
  nd := by
    refine (List.Pairwise.and_mem.1 h.gdj).imp fun {C D} hcd e => ?_
    obtain ⟨hC, hD, hcd⟩ := hcd
    subst e
    exact hcd _ (hd_mem (h.gsc C hC).2.1) (hd_mem (h.gsc C hC).2.1)
/-- one order alone -/
theorem Canon.unique_aux (h : Canon g l) (k : Canon g m) : ∀ i, i ≤ l.length → l.take i = m.take i
  | 0, _ => by simp
  | i + 1, hi => by
    have ih := unique_aux h k i (by omega)
    have hl : i < l.length := by omega
    have e1 : l[i]? = some l[i] := List.getElem?_eq_getElem hl
    -- m is as long
    have hm : i < m.length := by
      by_cases hm : i < m.length
      · exact hm
      · exfalso
        have : l[i] ∈ m := h.part.mem k.part (List.getElem_mem hl)
        have h2 : l[i] ∈ l.take i := by rw [ih, List.take_of_length_le (by omega)]; exact this
        obtain ⟨j, hj, ej⟩ := List.mem_take_iff_getElem.1 h2
        have hji : j < i := by omega
        exact (List.pairwise_iff_getElem.1 h.part.nd) j i (by omega) hl hji ej
    have e2 : m[i]? = some m[i] := List.getElem?_eq_getElem hm
    rw [List.take_add_one, List.take_add_one, ih, e1, e2]
    congr 2
    -- where the one's next group stands in the other
    have find : ∀ {a b : List (List Nat)} (ha : Canon g a) (hb : Canon g b) (hi : i < a.length), a.take i = b.take i → ∃ j, ∃ hj : j < b.length, i ≤ j ∧ b[j] = a[i] := by
      intro a b ha hb hi e
      obtain ⟨j, hj, ej⟩ := List.mem_iff_getElem.1 (ha.part.mem hb.part (List.getElem_mem hi))
      refine ⟨j, hj, ?_, ej⟩
      by_cases hji : i ≤ j
      · exact hji
      · exfalso
        have h2 : b[j] ∈ b.take i := List.mem_take_iff_getElem.2 ⟨j, by omega, rfl⟩
        rw [← e] at h2
        obtain ⟨q, hq, eq⟩ := List.mem_take_iff_getElem.1 h2
        exact (List.pairwise_iff_getElem.1 ha.part.nd) q i (by omega) hi (by omega) (eq.trans ej)
    have le : ∀ {a b : List (List Nat)} (ha : Canon g a) (hb : Canon g b) (hi : i < a.length) (hi' : i < b.length), a.take i = b.take i → hd b[i] ≤ hd a[i] := by
      intro a b ha hb hi hi' e
      obtain ⟨j, hj, hij, ej⟩ := find ha hb hi e
      rcases Nat.lt_or_ge i j with hlt | hge
      · have := hb.least i b[i] (List.getElem?_eq_getElem hi') j b[j] hlt (List.getElem?_eq_getElem hj) (by rw [ej, ← e]; exact ha.rdy i _ (List.getElem?_eq_getElem hi))
        rw [ej] at this
        omega
      · obtain rfl : i = j := by omega
        rw [ej]; exact Nat.le_refl _
    exact congrArg some (h.part.hd_inj (List.getElem_mem hl) (k.part.mem h.part (List.getElem_mem hm)) (Nat.le_antisymm (le k h hm hl ih.symm) (le h k hl hm ih)))
theorem Canon.unique (h : Canon g l) (k : Canon g m) : l = m := by
  have h1 := Canon.unique_aux h k l.length (Nat.le_refl _)
  have h2 := Canon.unique_aux k h m.length (Nat.le_refl _)
  rw [List.take_length] at h1 h2
  by_cases e : l.length ≤ m.length
  · rw [h2, List.take_of_length_le]
    have := congrArg List.length h2
    rw [List.length_take] at this
    omega
  · rw [h1, List.take_of_length_le (by omega)]
/-! a group that is ready: there is one as long as there are groups -/
open Classical in
/-- of how many things a thing leads to -/
noncomputable def rank (g : List (List Nat)) (x : Nat) : Nat := ((List.range g.length).filter fun y => decide (Star g x y)).length
theorem filter_lt {α : Type} (p q : α → Bool) : ∀ (l : List α), (∀ x ∈ l, p x = true → q x = true) → (∃ x ∈ l, q x = true ∧ p x = false) → (l.filter p).length < (l.filter q).length
  | [], _, h => by obtain ⟨x, hx, _⟩ := h; cases hx
  | a :: l, h1, h2 => by
    have hle : ∀ (l : List α), (∀ x ∈ l, p x = true → q x = true) → (l.filter p).length ≤ (l.filter q).length := by
      intro l
      induction l with
      | nil => intro _; simp
      | cons b l ih =>
        intro h
        have := ih (fun x hx => h x (List.mem_cons_of_mem _ hx))
        have hb := h b (by simp)
        simp only [List.filter_cons]
        cases e : p b with
        | true => rw [hb e]; simp; exact this
        | false =>
          cases q b with
          | true => simp; omega
          | false => simpa using this
    have hl := hle l (fun x hx => h1 x (List.mem_cons_of_mem _ hx))
    simp only [List.filter_cons]
    obtain ⟨x, hx, hq, hp⟩ := h2
    rcases List.mem_cons.1 hx with rfl | hx
    · rw [hq, hp]; simp; omega
    · have := filter_lt p q l (fun x hx => h1 x (List.mem_cons_of_mem _ hx)) ⟨x, hx, hq, hp⟩
      have ha := h1 a (by simp)
      cases e : p a with
      | true => rw [ha e]; simp; exact this
      | false =>
        cases q a with
        | true => simp; omega
        | false => simpa using this
theorem rank_lt {x y : Nat} (hx : x < g.length) (h : Star g x y) (hn : ¬ Star g y x) : rank g y < rank g x := by
  refine filter_lt _ _ _ (fun z _ hz => ?_) ⟨x, by simpa using hx, by simpa using Star.refl x, by simpa using hn⟩
  simp only [decide_eq_true_eq] at hz ⊢
  exact h.trans hz
theorem exists_least {α : Type} (f : α → Nat) (p : α → Prop) (h : ∃ x, p x) : ∃ x, p x ∧ ∀ y, p y → f x ≤ f y := by
  obtain ⟨x, hx⟩ := h
  suffices H : ∀ n x, p x → f x = n → ∃ x, p x ∧ ∀ y, p y → f x ≤ f y from H _ x hx rfl
  intro n
  induction n using Nat.strongRecOn with
  | ind n ih =>
    intro x hx e
    by_cases hall : ∀ y, p y → f x ≤ f y
    · exact ⟨x, hx, hall⟩
    · obtain ⟨y, hy⟩ := Classical.not_forall.1 hall
      obtain ⟨hy, hlt⟩ := Classical.not_imp.1 hy
      exact ih (f y) (by omega) y hy rfl
theorem Parted.ready (hg : ∀ x < g.length, ∀ y ∈ U g x, y < g.length) (h : Parted g gs) (done : List (List Nat)) (hne : ∃ C ∈ gs, C ∉ done) : ∃ C ∈ gs, C ∉ done ∧ Ready g done C := by
  obtain ⟨C, ⟨hC, hnd⟩, hmin⟩ := exists_least (fun C => rank g (hd C)) (fun C => C ∈ gs ∧ C ∉ done) (by obtain ⟨C, h1, h2⟩ := hne; exact ⟨C, h1, h2⟩)
  refine ⟨C, hC, hnd, fun x hx u hu => ?_⟩
  have hCs := h.sc C hC
  have hxl := h.rng C hC x hx
  by_cases huC : u ∈ C
  · exact .inl huC
  · right
    have hul : u < g.length := hg x hxl u hu
    obtain ⟨D, hD, huD⟩ := h.cov u hul
    refine ⟨D, ?_, huD⟩
    refine Classical.byContradiction fun hDn => ?_
    have hDs := h.sc D hD
    have h1 := hmin D ⟨hD, hDn⟩
    have hhC := hd_mem hCs.2.1
    have hhD := hd_mem hDs.2.1
    have hCD : Star g (hd C) (hd D) := (((hCs.2.2 _ hhC x).1 hx).1.more hu).trans ((hDs.2.2 u huD _).1 hhD).1
    have hnDC : ¬ Star g (hd D) (hd C) := fun e => huC (by
      have hm : Mut g (hd C) (hd D) := ⟨hCD, e⟩
      have hDC : hd D ∈ C := (hCs.2.2 _ hhC _).2 hm
      exact (hCs.2.2 _ hDC u).2 ((hDs.2.2 _ hhD u).1 huD))
    have := rank_lt (h.rng C hC _ hhC) hCD hnDC
    omega
end
end Go.Proofs.Ytephmagficbdeaa.Gr
