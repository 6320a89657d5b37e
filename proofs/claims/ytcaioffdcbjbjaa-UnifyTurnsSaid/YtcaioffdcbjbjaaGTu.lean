/-
  TWO STORES IN STEP, plainly: whichever side leads on, the classes are the same, and what is known at their ends. No memory in sight.
-/
import Derived.Test.YtcaioffdcbjbjaaGSmA
import Derived.Test.YtcaioffdcbjbjaaGSmC
import Derived.Test.YtcaioffdcbjbjaaGSmD

namespace Go.Proofs.Ytcaioffdcbjbjaa.Un
open Go.RowKit Mm Tm
set_option linter.unusedVariables false
/-- the end of a way, without fuel -/
def E (K : PS) (n r : Int) (f : PF) : Prop := Leads K n r ∧ (K r = some f ∨ (K r = none ∧ f = .opn r 0 false)) ∧ ∀ x, f ≠ .link x
theorem E.of_end {K : PS} {q : Nat} {n r : Int} {f : PF} (h : endP K q n = some (r, f)) : E K n r f := by
  obtain ⟨h1, _, h3, h4⟩ := end_leads q n h
  exact ⟨h1, h3, h4⟩
theorem E.nolink {K : PS} {n r : Int} {f : PF} (h : E K n r f) : ∀ x, K r ≠ some (.link x) := fun x e => by
  rcases h.2.1 with q | ⟨q, _⟩
  · rw [e] at q; injection q with q; exact h.2.2 x q.symm
  · rw [e] at q; cases q
theorem E.self {K : PS} {n r : Int} {f : PF} (h : E K n r f) : E K r r f := ⟨.refl r, h.2⟩
theorem E.step {K : PS} {n m r : Int} {f : PF} (e : K n = some (.link m)) (h : E K m r f) : E K n r f := ⟨.step e h.1, h.2⟩
theorem E.fact {K : PS} {n n' r : Int} {f f' : PF} (h : E K n r f) (k : E K n' r f') : f = f' := by
  rcases h.2.1 with q | ⟨q, q'⟩ <;> rcases k.2.1 with p | ⟨p, p'⟩
  · rw [q] at p; injection p
  · rw [q] at p; cases p
  · rw [q] at p; cases p
  · rw [q', p']
theorem Leads.uniq {K : PS} {n r : Int} (h : Leads K n r) : ∀ {r' : Int}, Leads K n r' → (∀ x, K r ≠ some (.link x)) → (∀ x, K r' ≠ some (.link x)) → r = r' := by
  induction h with
  | refl n =>
    intro r' k h1 h2
    cases k with
    | refl _ => rfl
    | step e _ => exact absurd e (h1 _)
  | step e _ ih =>
    intro r' k h1 h2
    cases k with
    | refl _ => exact absurd e (h2 _)
    | step e' k' =>
      rw [e] at e'
      injection e' with e'
      injection e' with e'
      subst e'
      exact ih k' h1 h2
theorem E.uniq {K : PS} {n r r' : Int} {f f' : PF} (h : E K n r f) (k : E K n r' f') : r = r' ∧ f = f' := by
  obtain rfl := h.1.uniq k.1 h.nolink k.nolink
  exact ⟨rfl, h.fact k⟩
theorem E.unk {K : PS} (hl : ∀ n r, K n = some (.link r) → K r ≠ none) {n r : Int} {f : PF} (h : E K n r f) (hr : K r = none) : n = r := by
  obtain ⟨h1, -⟩ := h
  induction h1 with
  | refl n => rfl
  | step e k ih =>
    have := ih hr
    subst this
    exact absurd hr (hl _ _ e)
/-- two classes become one, whose end is u, of which f0 is known -/
def Mg (K K' : PS) (r t u : Int) (f0 : PF) : Prop := ∀ m s g, E K' m s g → ∃ s0 g0, E K m s0 g0 ∧ (((s0 = r ∨ s0 = t) ∧ s = u ∧ g = f0) ∨ ((s0 ≠ r ∧ s0 ≠ t) ∧ s = s0 ∧ g = g0))
/-- what is known of an end changes -/
theorem E.upd {K : PS} {r m s : Int} {f0 g : PF} (hr : ∀ x, K r ≠ some (.link x)) (h0 : ∀ x, f0 ≠ .link x) (h : E (updP K r (some f0)) m s g) : ∃ g0, E K m s g0 ∧ (s = r → g = f0) ∧ (s ≠ r → g = g0) := by
  obtain ⟨h1, h2, h3⟩ := h
  have hl : Leads K m s := by
    clear h2
    induction h1 with
    | refl n => exact .refl n
    | step e _ ih =>
      rename_i n m' r' k
      by_cases hn : n = r
      · subst hn
        rw [updP_same] at e
        injection e with e
        exact absurd e (h0 _)
      · rw [updP_other _ _ hn] at e
        exact .step e ih
  by_cases hs : s = r
  · subst hs
    rw [updP_same] at h2
    have hg : g = f0 := by
      rcases h2 with h2 | ⟨h2, _⟩
      · injection h2 with h2; exact h2.symm
      · cases h2
    cases hk : K s with
    | none => exact ⟨.opn s 0 false, ⟨hl, .inr ⟨hk, rfl⟩, fun x e => by cases e⟩, fun _ => hg, fun q => absurd rfl q⟩
    | some f => exact ⟨f, ⟨hl, .inl hk, fun x e => hr x (by rw [hk, e])⟩, fun _ => hg, fun q => absurd rfl q⟩
  · rw [updP_other _ _ hs] at h2
    exact ⟨g, ⟨hl, h2, h3⟩, fun q => absurd q hs, fun _ => rfl⟩
theorem Mg.upd {K : PS} {r : Int} {f0 : PF} (hr : ∀ x, K r ≠ some (.link x)) (h0 : ∀ x, f0 ≠ .link x) : Mg K (updP K r (some f0)) r r r f0 := fun m s g h => by
  obtain ⟨g0, h1, h2, h3⟩ := h.upd hr h0
  refine ⟨s, g0, h1, ?_⟩
  by_cases hs : s = r
  · exact .inl ⟨.inl hs, hs, h2 hs⟩
  · exact .inr ⟨⟨hs, hs⟩, rfl, h3 hs⟩
/-- an end is made to lead to another -/
theorem E.link {K : PS} {r t m s : Int} {g : PF} (hr : ∀ x, K r ≠ some (.link x)) (ht : ∀ x, K t ≠ some (.link x)) (hne : t ≠ r) (h : E (updP K r (some (.link t))) m s g) : (E K m s g ∧ s ≠ r) ∨ (∃ g0, E K m r g0) ∧ s = t ∧ E K t t g := by
  obtain ⟨h1, h2, h3⟩ := h
  have hsr : s ≠ r := fun e => by
    subst e
    rw [updP_same] at h2
    rcases h2 with h2 | ⟨h2, _⟩
    · injection h2 with h2; exact h3 _ h2.symm
    · cases h2
  rw [updP_other _ _ hsr] at h2
  have go : ∀ m, Leads (updP K r (some (.link t))) m s → Leads K m s ∨ (Leads K m r ∧ s = t) := by
    intro m hm
    clear h1
    induction hm with
    | refl n => exact .inl (.refl n)
    | step e k ih =>
      rename_i n m' r'
      by_cases hn : n = r
      · subst hn
        rw [updP_same] at e
        injection e with e
        injection e with e
        subst e
        right
        refine ⟨.refl _, ?_⟩
        rcases ih h2 hsr with q | ⟨_, q⟩
        · cases q with
          | refl _ => rfl
          | step e' _ => exact absurd e' (ht _)
        · exact q
      · rw [updP_other _ _ hn] at e
        rcases ih h2 hsr with q | ⟨q, q'⟩
        · exact .inl (.step e q)
        · exact .inr ⟨.step e q, q'⟩
  rcases go m h1 with q | ⟨q, rfl⟩
  · exact .inl ⟨⟨q, h2, h3⟩, hsr⟩
  · refine .inr ⟨?_, rfl, ⟨.refl _, h2, h3⟩⟩
    cases hk : K r with
    | none => exact ⟨_, q, .inr ⟨hk, rfl⟩, fun x e => by cases e⟩
    | some f => exact ⟨f, q, .inl hk, fun x e => hr x (by rw [hk, e])⟩
theorem Mg.link {K : PS} {r t : Int} {f0 : PF} (hr : ∀ x, K r ≠ some (.link x)) (ht : E K t t f0) (hne : t ≠ r) : Mg K (updP K r (some (.link t))) r t t f0 := fun m s g h => by
  rcases h.link hr ht.nolink hne with ⟨h1, h2⟩ | ⟨⟨g0, h1⟩, rfl, h3⟩
  · refine ⟨s, g, h1, ?_⟩
    by_cases hs : s = t
    · subst hs
      exact .inl ⟨.inr rfl, rfl, h1.fact ht⟩
    · exact .inr ⟨⟨h2, hs⟩, rfl, rfl⟩
  · exact ⟨r, g0, h1, .inl ⟨.inl rfl, rfl, h3.fact ht⟩⟩
/-- an end leads to another, of which f0 is known then -/
theorem Mg.join {K : PS} {r t : Int} {f0 : PF} (hr : ∀ x, K r ≠ some (.link x)) (ht : ∀ x, K t ≠ some (.link x)) (hne : t ≠ r) (h0 : ∀ x, f0 ≠ .link x) : Mg K (updP (updP K r (some (.link t))) t (some f0)) r t t f0 := fun m s g h => by
  obtain ⟨g0, h1, h2, h3⟩ := h.upd (fun x e => by rw [updP_other _ _ hne] at e; exact ht x e) h0
  rcases h1.link hr ht hne with ⟨k1, k2⟩ | ⟨⟨g1, k1⟩, rfl, k3⟩
  · refine ⟨s, g0, k1, ?_⟩
    by_cases hs : s = t
    · exact .inl ⟨.inr hs, hs, h2 hs⟩
    · exact .inr ⟨⟨k2, hs⟩, rfl, h3 hs⟩
  · exact ⟨r, g1, k1, .inl ⟨.inl rfl, rfl, h2 rfl⟩⟩
/-- two stores whose classes are the same, and what is known at their ends -/
structure Rl (K1 K2 : PS) : Prop where
  kn : ∀ n, K1 n = none ↔ K2 n = none
  lk1 : ∀ n r, K1 n = some (.link r) → K1 r ≠ none
  lk2 : ∀ n r, K2 n = some (.link r) → K2 r ≠ none
  same : ∀ {n r f r' f'}, E K1 n r f → E K2 n r' f' → f = f'
  cls : ∀ {n m r f s g r' f' s' g'}, E K1 n r f → E K1 m s g → E K2 n r' f' → E K2 m s' g' → (r = s ↔ r' = s')
theorem Rl.empty : Rl (fun _ => none) (fun _ => none) := by
  have h0 : ∀ {n r f}, E (fun _ => none) n r f → n = r ∧ f = .opn r 0 false := fun h => ⟨h.unk (fun n r e => by cases e) rfl, by
    rcases h.2.1 with q | ⟨_, q⟩
    · cases q
    · exact q⟩
  refine ⟨fun n => Iff.rfl, fun n r e => (by cases e), fun n r e => (by cases e), fun h k => ?_, fun h1 h2 k1 k2 => ?_⟩
  · obtain ⟨rfl, rfl⟩ := h0 h
    obtain ⟨rfl, rfl⟩ := h0 k
    rfl
  · obtain ⟨rfl, rfl⟩ := h0 h1
    obtain ⟨rfl, rfl⟩ := h0 h2
    obtain ⟨rfl, rfl⟩ := h0 k1
    obtain ⟨rfl, rfl⟩ := h0 k2
    exact Iff.rfl
/-- ends of one class: of both nothing is known, or of both something -/
theorem Rl.unk {K1 K2 : PS} (h : Rl K1 K2) {n r r' : Int} {f f' : PF} (h1 : E K1 n r f) (h2 : E K2 n r' f') (hr : K1 r = none) : r' = r ∧ K2 r' = none := by
  obtain rfl := h1.unk h.lk1 hr
  have h3 : K2 n = none := (h.kn n).1 hr
  have h4 : E K2 n n (.opn n 0 false) := ⟨.refl _, .inr ⟨h3, rfl⟩, fun x e => by cases e⟩
  obtain ⟨rfl, _⟩ := h2.uniq h4
  exact ⟨rfl, h3⟩
theorem Rl.symm {K1 K2 : PS} (h : Rl K1 K2) : Rl K2 K1 := ⟨fun n => (h.kn n).symm, h.lk2, h.lk1, fun a b => (h.same b a).symm, fun a b c d => (h.cls c d a b).symm⟩
theorem Rl.isSome {K1 K2 : PS} (h : Rl K1 K2) {n r r' : Int} {f f' : PF} (h1 : E K1 n r f) (h2 : E K2 n r' f') : (K1 r).isSome = (K2 r').isSome := by
  cases k1 : K1 r with
  | none => rw [(h.unk h1 h2 k1).2]
  | some g =>
    cases k2 : K2 r' with
    | none =>
      have := (h.symm.unk h2 h1 k2).2
      rw [k1] at this; cases this
    | some g' => rfl
/-- both stores are told of one class -/
theorem Rl.kn_upd {K1 K2 : PS} {r r' : Int} {f f' : PF} (kn : ∀ n, K1 n = none ↔ K2 n = none) (h1 : K1 r = none → r' = r) (h2 : K2 r' = none → r = r') : ∀ n, updP K1 r (some f) n = none ↔ updP K2 r' (some f') n = none := by
  intro n
  by_cases e1 : n = r
  · subst e1
    rw [updP_same]
    refine ⟨fun q => (by cases q), fun q => ?_⟩
    by_cases e2 : n = r'
    · subst e2; rw [updP_same] at q; cases q
    · rw [updP_other _ _ e2] at q
      exact absurd (h1 ((kn n).2 q)).symm e2
  · rw [updP_other _ _ e1]
    by_cases e2 : n = r'
    · subst e2
      rw [updP_same]
      refine ⟨fun q => absurd (h2 ((kn n).1 q)).symm e1, fun q => (by cases q)⟩
    · rw [updP_other _ _ e2]
      exact kn n
theorem Rl.mg {K1 K2 K1' K2' : PS} (h : Rl K1 K2) {a b r t r' t' u u' : Int} {fr fr' ft ft' f0 : PF} (c1 : E K1 a r fr) (c2 : E K2 a r' fr') (d1 : E K1 b t ft) (d2 : E K2 b t' ft') (m1 : Mg K1 K1' r t u f0) (m2 : Mg K2 K2' r' t' u' f0) (hu : u = r ∨ u = t) (hu' : u' = r' ∨ u' = t')
    (kn : ∀ n, K1' n = none ↔ K2' n = none) (l1 : ∀ n r, K1' n = some (.link r) → K1' r ≠ none) (l2 : ∀ n r, K2' n = some (.link r) → K2' r ≠ none) : Rl K1' K2' := by
  have hin : ∀ {n s g s' g'}, E K1 n s g → E K2 n s' g' → ((s = r ∨ s = t) ↔ (s' = r' ∨ s' = t')) := fun e1 e2 => by
    rw [h.cls e1 c1 e2 c2, h.cls e1 d1 e2 d2]
  refine ⟨kn, l1, l2, fun e1 e2 => ?_, fun e1 e2 k1 k2 => ?_⟩
  · obtain ⟨s0, g0, p1, p2⟩ := m1 _ _ _ e1
    obtain ⟨s0', g0', p1', p2'⟩ := m2 _ _ _ e2
    have hi := hin p1 p1'
    rcases p2 with ⟨q, _, rfl⟩ | ⟨q, _, rfl⟩ <;> rcases p2' with ⟨q', _, rfl⟩ | ⟨q', _, rfl⟩
    · rfl
    · have := hi.1 q; exact (this.elim q'.1 q'.2).elim
    · have := hi.2 q'; exact (this.elim q.1 q.2).elim
    · exact h.same p1 p1'
  · obtain ⟨s0, g0, p1, p2⟩ := m1 _ _ _ e1
    obtain ⟨s1, g1, p3, p4⟩ := m1 _ _ _ e2
    obtain ⟨s0', g0', p1', p2'⟩ := m2 _ _ _ k1
    obtain ⟨s1', g1', p3', p4'⟩ := m2 _ _ _ k2
    have hi := hin p1 p1'
    have hj := hin p3 p3'
    have hc := h.cls p1 p3 p1' p3'
    rcases p2 with ⟨q, rfl, _⟩ | ⟨q, rfl, _⟩ <;> rcases p2' with ⟨q', rfl, _⟩ | ⟨q', rfl, _⟩ <;> rcases p4 with ⟨z, rfl, _⟩ | ⟨z, rfl, _⟩ <;> rcases p4' with ⟨z', rfl, _⟩ | ⟨z', rfl, _⟩
    · exact ⟨fun _ => rfl, fun _ => rfl⟩
    · exact ((hj.1 z).elim z'.1 z'.2).elim
    · exact ((hj.2 z').elim z.1 z.2).elim
    · refine ⟨fun e => ?_, fun e => ?_⟩
      · rcases hu with rfl | rfl
        · exact absurd e.symm z.1
        · exact absurd e.symm z.2
      · rcases hu' with rfl | rfl
        · exact absurd e.symm z'.1
        · exact absurd e.symm z'.2
    · exact ((hi.1 q).elim q'.1 q'.2).elim
    · exact ((hi.1 q).elim q'.1 q'.2).elim
    · exact ((hi.1 q).elim q'.1 q'.2).elim
    · exact ((hi.1 q).elim q'.1 q'.2).elim
    · exact ((hi.2 q').elim q.1 q.2).elim
    · exact ((hi.2 q').elim q.1 q.2).elim
    · exact ((hi.2 q').elim q.1 q.2).elim
    · exact ((hi.2 q').elim q.1 q.2).elim
    · refine ⟨fun e => ?_, fun e => ?_⟩
      · rcases hu with rfl | rfl
        · exact absurd e q.1
        · exact absurd e q.2
      · rcases hu' with rfl | rfl
        · exact absurd e q'.1
        · exact absurd e q'.2
    · exact ((hj.1 z).elim z'.1 z'.2).elim
    · exact ((hj.2 z').elim z.1 z.2).elim
    · exact hc
end Go.Proofs.Ytcaioffdcbjbjaa.Un
/-
  TWO STORES IN STEP, plainly: what is told of ends; types laid flat; the look for open variables; binding. No memory in sight.
-/
namespace Go.Proofs.Ytcaioffdcbjbjaa.Un
open Go.RowKit Mm Tm
set_option linter.unusedVariables false
/-- pairs of ends were met as often -/
def RM (K1 K2 : PS) (M1 M2 : PM) : Prop := ∀ a b r f t g r' f' t' g', E K1 a r f → E K1 b t g → E K2 a r' f' → E K2 b t' g' → M1 (min r t) (max r t) = M2 (min r' t') (max r' t')
/-- only types were met -/
def MK (K : PS) (M : PM) : Prop := ∀ x y, M x y ≠ 0 → (∃ kd nm xs, K x = some (.typ kd nm xs)) ∧ ∃ kd nm xs, K y = some (.typ kd nm xs)
theorem MK.ext {K K' : PS} {M : PM} (h : MK K M) (he : Ext K K') : MK K' M := fun x y q => by
  obtain ⟨⟨k1, n1, x1, e1⟩, k2, n2, x2, e2⟩ := h x y q
  exact ⟨⟨k1, n1, x1, he.kn _ _ e1 rfl⟩, k2, n2, x2, he.kn _ _ e2 rfl⟩
theorem MK.zero {K : PS} {M : PM} (h : MK K M) {u : Int} (ho : OpenAt K u) (x : Int) : M (min u x) (max u x) = 0 := by
  apply Classical.byContradiction
  intro q
  obtain ⟨⟨k1, n1, x1, e1⟩, k2, n2, x2, e2⟩ := h _ _ q
  have hor : min u x = u ∨ max u x = u := by omega
  rcases hor with e | e
  · rw [e] at e1; have := ho _ e1; cases this
  · rw [e] at e2; have := ho _ e2; cases this
theorem E.openAt {K : PS} {a r : Int} {f : PF} (h : E K a r f) (ho : f.isOpn = true) : OpenAt K r := fun g hg => by
  rcases h.2.1 with q | ⟨q, _⟩
  · rw [q] at hg; injection hg with hg; rw [← hg]; exact ho
  · rw [q] at hg; cases hg
theorem RM.mg {K1 K2 K1' K2' : PS} {M1 M2 : PM} (h : Rl K1 K2) {a b r t r' t' u u' : Int} {fr fr' ft ft' f0 : PF} (c1 : E K1 a r fr) (c2 : E K2 a r' fr') (d1 : E K1 b t ft) (d2 : E K2 b t' ft') (m1 : Mg K1 K1' r t u f0) (m2 : Mg K2 K2' r' t' u' f0)
    (hm : RM K1 K2 M1 M2) (hz : (u = r ∧ u' = r') ∨ (u = t ∧ u' = t') ∨ (∀ x, M1 (min u x) (max u x) = 0) ∧ ∀ x, M2 (min u' x) (max u' x) = 0) : RM K1' K2' M1 M2 := by
  have hin : ∀ {n s g s' g'}, E K1 n s g → E K2 n s' g' → ((s = r ∨ s = t) ↔ (s' = r' ∨ s' = t')) := fun e1 e2 => by
    rw [h.cls e1 c1 e2 c2, h.cls e1 d1 e2 d2]
  have co : ∀ n s g s' g', E K1' n s g → E K2' n s' g' → (∃ m f f', E K1 m s f ∧ E K2 m s' f') ∨ ((∀ x, M1 (min s x) (max s x) = 0) ∧ ∀ x, M2 (min s' x) (max s' x) = 0) := fun n s g s' g' e1 e2 => by
    obtain ⟨s0, g0, p1, p2⟩ := m1 _ _ _ e1
    obtain ⟨s0', g0', p1', p2'⟩ := m2 _ _ _ e2
    have hi := hin p1 p1'
    rcases p2 with ⟨q, rfl, _⟩ | ⟨q, rfl, _⟩ <;> rcases p2' with ⟨q', rfl, _⟩ | ⟨q', rfl, _⟩
    · rcases hz with ⟨rfl, rfl⟩ | ⟨rfl, rfl⟩ | hz
      · exact .inl ⟨_, _, _, c1, c2⟩
      · exact .inl ⟨_, _, _, d1, d2⟩
      · exact .inr hz
    · exact ((hi.1 q).elim q'.1 q'.2).elim
    · exact ((hi.2 q').elim q.1 q.2).elim
    · exact .inl ⟨_, _, _, p1, p1'⟩
  intro n m s f z g s' f' z' g' e1 e2 k1 k2
  rcases co _ _ _ _ _ e1 k1 with ⟨n0, f1, f2, p1, p2⟩ | ⟨p1, p2⟩
  · rcases co _ _ _ _ _ e2 k2 with ⟨n1, f3, f4, p3, p4⟩ | ⟨p3, p4⟩
    · exact hm _ _ _ _ _ _ _ _ _ _ p1 p3 p2 p4
    · rw [Int.min_comm s z, Int.max_comm s z, Int.min_comm s' z', Int.max_comm s' z', p3, p4]
  · rw [p1, p2]
/-- two stores in step, and the pairs that were met -/
structure RS (M1 M2 : PM) (s1 s2 : St) : Prop where
  rl : Rl s1.K s2.K
  cnt : s1.cnt = s2.cnt
  rm : RM s1.K s2.K M1 M2
  mk1 : MK s1.K M1
  mk2 : MK s2.K M2
variable {M1 M2 : PM}
theorem up_known {K : PS} {r : Int} {f : PF} {m : Int} (h : K m ≠ none) : updP K r (some f) m ≠ none := by
  by_cases e : m = r
  · subst e; rw [updP_same]; exact fun q => by cases q
  · rw [updP_other _ _ e]; exact h
theorem lk_upd {K : PS} {r : Int} {f0 : PF} (hl : ∀ n r, K n = some (.link r) → K r ≠ none) (h0 : ∀ x, f0 = .link x → K x ≠ none) : ∀ n m, updP K r (some f0) n = some (.link m) → updP K r (some f0) m ≠ none := by
  intro n m e
  by_cases hn : n = r
  · subst hn
    rw [updP_same] at e
    injection e with e
    exact up_known (h0 _ e)
  · rw [updP_other _ _ hn] at e
    exact up_known (hl _ _ e)
theorem RS.set {s1 s2 s1' s2' : St} {a r r' : Int} {f0 fr fr' : PF} (h : RS M1 M2 s1 s2) (c1 : E s1.K a r fr) (c2 : E s2.K a r' fr') (ho : fr.isOpn = true) (h0 : ∀ x, f0 ≠ .link x) (e1 : setP s1 r f0 = some s1') (e2 : setP s2 r' f0 = some s2') : RS M1 M2 s1' s2' := by
  have ho' : fr'.isOpn = true := by rw [← h.rl.same c1 c2]; exact ho
  have x1 := set_ext e1 (c1.openAt ho)
  have x2 := set_ext e2 (c2.openAt ho')
  obtain ⟨k1, n1⟩ := set_is e1
  obtain ⟨k2, n2⟩ := set_is e2
  refine ⟨?_, by rw [n1, n2, h.cnt, h.rl.isSome c1 c2], ?_, h.mk1.ext x1, h.mk2.ext x2⟩
  · rw [k1, k2]
    exact h.rl.mg c1 c2 c1 c2 (Mg.upd c1.nolink h0) (Mg.upd c2.nolink h0) (.inl rfl) (.inl rfl) (Rl.kn_upd h.rl.kn (fun q => (h.rl.unk c1 c2 q).1) (fun q => (h.rl.symm.unk c2 c1 q).1)) (lk_upd h.rl.lk1 fun x e => absurd e (h0 x)) (lk_upd h.rl.lk2 fun x e => absurd e (h0 x))
  · rw [k1, k2]
    exact RM.mg h.rl c1 c2 c1 c2 (Mg.upd c1.nolink h0) (Mg.upd c2.nolink h0) h.rm (.inl ⟨rfl, rfl⟩)
theorem RS.hold {q : Nat} {s1 s2 s1' s2' : St} {n : Int} (h : RS M1 M2 s1 s2) (e1 : holdP q s1 n = some s1') (e2 : holdP q s2 n = some s2') : RS M1 M2 s1' s2' := by
  unfold holdP at e1 e2
  cases z1 : endP s1.K q n with
  | none => rw [z1] at e1; cases e1
  | some p1 =>
    cases z2 : endP s2.K q n with
    | none => rw [z2] at e2; cases e2
    | some p2 =>
      obtain ⟨r, f⟩ := p1
      obtain ⟨r', f'⟩ := p2
      have c1 := E.of_end z1
      have c2 := E.of_end z2
      obtain rfl := h.rl.same c1 c2
      rw [z1] at e1
      rw [z2] at e2
      cases f with
      | link x => exact absurd rfl (c1.2.2 x)
      | typ kd nm xs =>
        injection e1 with e1
        injection e2 with e2
        subst e1 e2
        exact h
      | opn l d b =>
        cases b with
        | true =>
          injection e1 with e1
          injection e2 with e2
          subst e1 e2
          exact h
        | false => exact h.set c1 c2 rfl (fun x e => by cases e) e1 e2
theorem E.free {K : PS} {n : Int} (h : K n = none) : E K n n (.opn n 0 false) := ⟨.refl n, .inr ⟨h, rfl⟩, fun x e => by cases e⟩
theorem RS.flat {q : Nat} : ∀ (t : Tys) (s1 s2 s1' s2' : St) (xs xs' : List Int), RS M1 M2 s1 s2 → Fr s1 → negT s1.K t → flatL q s1 t = some (s1', xs) → flatL q s2 t = some (s2', xs') → xs = xs' ∧ RS M1 M2 s1' s2'
  | .nil, s1, s2, s1', s2', xs, xs', h, hf, hn, e1, e2 => by
    simp only [flatL, Option.some.injEq, Prod.mk.injEq] at e1 e2
    obtain ⟨rfl, rfl⟩ := e1
    obtain ⟨rfl, rfl⟩ := e2
    exact ⟨rfl, h⟩
  | .cons kd n nm args rest, s1, s2, s1', s2', xs, xs', h, hf, hn, e1, e2 => by
    unfold flatL at e1 e2
    by_cases hk : kd = 1
    · rw [if_pos hk] at e1 e2
      by_cases hc : (decide (nm = (⟨#[]⟩ : ByteArray)) && decide (args.len = 0)) = true
      · rw [if_pos hc] at e1 e2
        obtain ⟨u1, h1, h2⟩ := Option.bind_eq_some_iff.1 e1
        obtain ⟨⟨v1, x1⟩, h3, h4⟩ := Option.map_eq_some_iff.1 h2
        simp only [Prod.mk.injEq] at h4
        obtain ⟨rfl, rfl⟩ := h4
        obtain ⟨u2, k1, k2⟩ := Option.bind_eq_some_iff.1 e2
        obtain ⟨⟨v2, x2⟩, k3, k4⟩ := Option.map_eq_some_iff.1 k2
        simp only [Prod.mk.injEq] at k4
        obtain ⟨rfl, rfl⟩ := k4
        obtain ⟨f1, f2, f3⟩ := hold_ext hf (hn.1 hk) h1
        obtain ⟨g1, g2⟩ := RS.flat rest _ _ _ _ _ _ (h.hold h1 k1) f2 (negT.ext f1 _ hn.2.2) h3 k3
        exact ⟨by rw [g1], g2⟩
      · rw [if_neg hc] at e1; cases e1
    · rw [if_neg hk] at e1 e2
      by_cases h0 : kd = 0
      · rw [if_pos h0] at e1; cases e1
      rw [if_neg h0] at e1 e2
      obtain ⟨⟨u1, x1⟩, h1, h2⟩ := Option.bind_eq_some_iff.1 e1
      obtain ⟨⟨v1, i1⟩, h3, h4⟩ := Option.bind_eq_some_iff.1 h2
      obtain ⟨⟨w1, y1⟩, h5, h6⟩ := Option.map_eq_some_iff.1 h4
      simp only [Prod.mk.injEq] at h6
      obtain ⟨rfl, rfl⟩ := h6
      unfold innerP at h3
      obtain ⟨t1, h7, h8⟩ := Option.map_eq_some_iff.1 h3
      simp only [Prod.mk.injEq] at h8
      obtain ⟨rfl, rfl⟩ := h8
      obtain ⟨⟨u2, x2⟩, k1, k2⟩ := Option.bind_eq_some_iff.1 e2
      obtain ⟨⟨v2, i2⟩, k3, k4⟩ := Option.bind_eq_some_iff.1 k2
      obtain ⟨⟨w2, y2⟩, k5, k6⟩ := Option.map_eq_some_iff.1 k4
      simp only [Prod.mk.injEq] at k6
      obtain ⟨rfl, rfl⟩ := k6
      unfold innerP at k3
      obtain ⟨t2, k7, k8⟩ := Option.map_eq_some_iff.1 k3
      simp only [Prod.mk.injEq] at k8
      obtain ⟨rfl, rfl⟩ := k8
      dsimp only at h7 h5 k7 k5
      obtain ⟨a1, a2, a3, a4, a5⟩ := flat_ext args _ _ _ hf hn.2.1 h1
      obtain ⟨rfl, b2⟩ := RS.flat args _ _ _ _ _ _ h hf hn.2.1 h1 k1
      have hno : u1.K (-1 - u1.cnt) = none := by
        cases hs : u1.K (-1 - u1.cnt) with
        | none => rfl
        | some g => have := a2.neg (-1 - u1.cnt) (by omega) (by rw [hs]; exact fun e => by cases e); omega
      have hno2 : u2.K (-1 - u1.cnt) = none := (b2.rl.kn _).1 hno
      rw [← b2.cnt] at k7
      have hop : OpenAt u1.K (-1 - u1.cnt) := fun g hg => by rw [hno] at hg; cases hg
      have f2 := set_fr h7 hop a2 (fun _ _ => rfl) ⟨fun r e => (by cases e), fun kd nm xs e => by injection e with _ _ e; rw [← e]; exact a4⟩
      have hr := b2.set (E.free hno) (E.free hno2) rfl (fun x e => by cases e) h7 k7
      obtain ⟨g1, g2⟩ := RS.flat rest _ _ _ _ _ _ hr f2 (negT.ext (a1.trans (set_ext h7 hop)) _ hn.2.2) h5 k5
      exact ⟨by rw [g1, b2.cnt], g2⟩
/-- sides of one class -/
inductive Sr (K1 K2 : PS) : Sd → Sd → Prop
  | typ (x : Ty) : Sr K1 K2 (.typ x) (.typ x)
  | var {n r r' : Int} {f : PF} : E K1 n r f → E K2 n r' f → Sr K1 K2 (.var r f) (.var r' f)
theorem Sr.symm {K1 K2 : PS} {a b : Sd} (h : Sr K1 K2 a b) : Sr K2 K1 b a := by
  cases h with
  | typ x => exact .typ x
  | var h k => exact .var k h
theorem Rl.taken {q : Nat} {K1 K2 : PS} (h : Rl K1 K2) {x : Ty} {a b : Sd} (e1 : takenP q K1 x = some a) (e2 : takenP q K2 x = some b) : Sr K1 K2 a b := by
  cases a with
  | typ y =>
    obtain ⟨h1, h0, rfl⟩ := typ_taken e1
    rw [taken_lit h1 h0] at e2
    injection e2 with e2
    subst e2
    exact .typ _
  | var r f =>
    obtain ⟨hk, hz⟩ := var_taken e1
    cases b with
    | typ y => exact absurd hk (typ_taken e2).1
    | var r' f' =>
      obtain ⟨_, hz'⟩ := var_taken e2
      have c1 := E.of_end hz
      have c2 := E.of_end hz'
      obtain rfl := h.same c1 c2
      exact .var c1 c2
/-- the look for open variables, in step: one step -/
theorem openL_step {q : Nat} {K1 K2 : PS} (h : Rl K1 K2) {deep : Bool} {d : Nat} (IH : ∀ (N1 N2 : SN) (td : List Ty) (L1 L2 : List (Int × PF)), (∀ {a r f r' f'}, E K1 a r f → E K2 a r' f' → N1 r = N2 r') → Un.openL q K1 deep d N1 td = some L1 → Un.openL q K2 deep d N2 td = some L2 → ∀ (a r : Int) (f : PF) (r' : Int) (f' : PF), E K1 a r f → E K2 a r' f' → hasV r L1 = hasV r' L2)
    (N1 N2 : SN) (x1 x2 : Ty) (td : List Ty) (L1 L2 : List (Int × PF)) (hx : ∀ a b, takenP q K1 x1 = some a → takenP q K2 x2 = some b → Sr K1 K2 a b) (hM : ∀ {a r f r' f'}, E K1 a r f → E K2 a r' f' → N1 r = N2 r') (e1 : Un.openL q K1 deep (d + 1) N1 (x1 :: td) = some L1) (e2 : Un.openL q K2 deep (d + 1) N2 (x2 :: td) = some L2) : ∀ (a r : Int) (f : PF) (r' : Int) (f' : PF), E K1 a r f → E K2 a r' f' → hasV r L1 = hasV r' L2 := by
  unfold Un.openL at e1 e2
  cases t1 : takenP q K1 x1 with
  | none => rw [t1] at e1; cases e1
  | some a1 =>
    cases t2 : takenP q K2 x2 with
    | none => rw [t2] at e2; cases e2
    | some a2 =>
      rw [t1] at e1
      rw [t2] at e2
      have hs := hx _ _ t1 t2
      cases hs with
      | typ y =>
        dsimp only at e1 e2
        split at e1
        · rename_i hc
          rw [if_pos hc] at e2
          exact IH N1 N2 _ _ _ hM e1 e2
        · cases e1
      | @var n r r' f c1 c2 =>
        dsimp only at e1 e2
        have hm := hM c1 c2
        have hM' : ∀ {a s g s' g'}, E K1 a s g → E K2 a s' g' → updN N1 r (wrap64 (N1 r + 1)) s = updN N2 r' (wrap64 (N2 r' + 1)) s' := by
          intro a s g s' g' k1 k2
          have hc := h.cls k1 c1 k2 c2
          unfold updN
          by_cases e : s = r
          · rw [if_pos e, if_pos (hc.1 e), hm]
          · rw [if_neg e, if_neg (fun q => e (hc.2 q))]
            exact hM k1 k2
        rw [← hm] at e2
        rw [← hm] at hM'
        split at e1
        · rename_i hc
          rw [if_pos hc] at e2
          exact IH _ _ _ _ _ hM' e1 e2
        · rename_i hc
          rw [if_neg hc] at e2
          split at e1
          · rename_i ho
            rw [if_pos ho] at e2
            obtain ⟨l1, g1, rfl⟩ := Option.map_eq_some_iff.1 e1
            obtain ⟨l2, g2, rfl⟩ := Option.map_eq_some_iff.1 e2
            have ih := IH _ _ _ _ _ hM' g1 g2
            intro aa s g s' g' k1 k2
            have hcl := h.cls c1 k1 c2 k2
            show (decide (r = s) || hasV s l1) = (decide (r' = s') || hasV s' l2)
            rw [ih _ _ _ _ _ k1 k2]
            by_cases e : r = s
            · rw [decide_eq_true e, decide_eq_true (hcl.1 e)]
            · rw [decide_eq_false e, decide_eq_false (fun q => e (hcl.2 q))]
          · rename_i ho
            rw [if_neg ho] at e2
            split at e1
            · rename_i hl
              rw [if_pos hl] at e2
              exact IH _ _ _ _ _ hM' e1 e2
            · cases e1
/-- the look for open variables, in step -/
theorem Rl.openL {q : Nat} {K1 K2 : PS} (h : Rl K1 K2) {deep : Bool} : ∀ (d : Nat) (N1 N2 : SN) (td : List Ty) (L1 L2 : List (Int × PF)), (∀ {a r f r' f'}, E K1 a r f → E K2 a r' f' → N1 r = N2 r') → Un.openL q K1 deep d N1 td = some L1 → Un.openL q K2 deep d N2 td = some L2 → ∀ (a r : Int) (f : PF) (r' : Int) (f' : PF), E K1 a r f → E K2 a r' f' → hasV r L1 = hasV r' L2
  | d, N1, N2, [], L1, L2, hM, e1, e2 => by
    unfold Un.openL at e1 e2
    injection e1 with e1
    injection e2 with e2
    subst e1 e2
    intro a r f r' f' _ _
    rfl
  | 0, N1, N2, x :: td, L1, L2, hM, e1, e2 => by unfold Un.openL at e1; cases e1
  | d + 1, N1, N2, x :: td, L1, L2, hM, e1, e2 => openL_step h (h.openL d) N1 N2 x x td L1 L2 (fun _ _ t1 t2 => h.taken t1 t2) hM e1 e2
theorem taken_self {q : Nat} {K : PS} {m r : Int} {f : PF} (h : E K m r f) {a : Sd} (e : takenP q K (vrT r) = some a) : a = .var r f := by
  cases a with
  | typ y => exact absurd rfl (typ_taken e).1
  | var n g =>
    obtain ⟨_, hz⟩ := var_taken e
    obtain ⟨rfl, rfl⟩ := h.self.uniq (E.of_end hz)
    rfl
theorem Sr.openL {K1 K2 : PS} (h : Rl K1 K2) {q d : Nat} {deep : Bool} {is is' : Sd} (hs : Sr K1 K2 is is') {L1 L2 : List (Int × PF)} (e1 : Un.openL q K1 deep d (fun _ => 0) [is.asTy] = some L1) (e2 : Un.openL q K2 deep d (fun _ => 0) [is'.asTy] = some L2) {a n n' : Int} {f f' : PF} (c1 : E K1 a n f) (c2 : E K2 a n' f') : hasV n L1 = hasV n' L2 := by
  cases hs with
  | typ x => exact h.openL d _ _ _ _ _ (fun _ _ => rfl) e1 e2 _ _ _ _ _ c1 c2
  | @var m r r' g k1 k2 =>
    cases d with
    | zero => unfold Un.openL at e1; cases e1
    | succ d =>
      refine openL_step h (h.openL d) _ _ (vrT r) (vrT r') [] L1 L2 (fun a b t1 t2 => ?_) (fun _ _ => rfl) e1 e2 _ _ _ _ _ c1 c2
      rw [taken_self k1 t1, taken_self k2 t2]
      exact .var k1 k2
end Go.Proofs.Ytcaioffdcbjbjaa.Un
/-
  TWO STORES IN STEP, plainly: a join, a binding, a pair, all that waits; a type that is told. No memory in sight.
-/
namespace Go.Proofs.Ytcaioffdcbjbjaa.Un
open Go.RowKit Mm Tm
set_option linter.unusedVariables false
variable {M1 M2 : PM}
theorem Mg.swap {K K' : PS} {r t u : Int} {f0 : PF} (h : Mg K K' r t u f0) : Mg K K' t r u f0 := fun m s g e => by
  obtain ⟨s0, g0, h1, h2⟩ := h m s g e
  refine ⟨s0, g0, h1, ?_⟩
  rcases h2 with ⟨q, h3⟩ | ⟨q, h3⟩
  · exact .inl ⟨q.symm, h3⟩
  · exact .inr ⟨⟨q.2, q.1⟩, h3⟩
/-- one of two open ends leads to the other: what is known then -/
theorem join_is {s s' : St} {n r la da lb db : Int} {ha hb : Bool} (hne : n ≠ r) (h : joinP s n la da ha r lb db hb = some s') :
    ∃ x y, ((x = r ∧ y = n) ∨ (x = n ∧ y = r)) ∧ s'.K = updP (updP s.K x (some (.link y))) y (some (.opn (min la lb) (if da > db then max (wr (db + 1)) da else max (wr (da + 1)) db) (ha || hb))) ∧
      s'.cnt = (if (s.K n).isSome then 0 else 1) + (if (s.K r).isSome then 0 else 1) + s.cnt := by
  unfold joinP at h
  split at h
  · rename_i hd
    obtain ⟨s1, h1, h2⟩ := Option.bind_eq_some_iff.1 h
    obtain ⟨k1, c1⟩ := set_is h1
    obtain ⟨k2, c2⟩ := set_is h2
    refine ⟨r, n, .inl ⟨rfl, rfl⟩, ?_, ?_⟩
    · rw [if_pos hd, k2, k1, Int.min_comm, Bool.or_comm]
    · rw [c2, c1, k1, updP_other _ _ hne]
      cases s.K n <;> cases s.K r <;> simp <;> omega
  · rename_i hd
    obtain ⟨s1, h1, h2⟩ := Option.bind_eq_some_iff.1 h
    obtain ⟨k1, c1⟩ := set_is h1
    obtain ⟨k2, c2⟩ := set_is h2
    refine ⟨n, r, .inr ⟨rfl, rfl⟩, ?_, ?_⟩
    · rw [if_neg hd, k2, k1]
    · rw [c2, c1, k1, updP_other _ _ (Ne.symm hne)]
      cases s.K n <;> cases s.K r <;> simp <;> omega
theorem upd2_kn {K1 K2 : PS} {x y x' y' : Int} {f g f' g' : PF} (kn : ∀ n, K1 n = none ↔ K2 n = none) (h : ∀ n, K1 n = none → ((n = x ∨ n = y) ↔ (n = x' ∨ n = y'))) : ∀ n, updP (updP K1 x (some f)) y (some g) n = none ↔ updP (updP K2 x' (some f')) y' (some g') n = none := by
  have go : ∀ (K : PS) (x y : Int) (f g : PF) n, updP (updP K x (some f)) y (some g) n = none ↔ K n = none ∧ ¬ (n = x ∨ n = y) := fun K x y f g n => by
    by_cases e1 : n = y
    · subst e1; rw [updP_same]; simp
    · rw [updP_other _ _ e1]
      by_cases e2 : n = x
      · subst e2; rw [updP_same]; simp
      · rw [updP_other _ _ e2]; simp [e1, e2]
  intro n
  rw [go, go]
  constructor
  · rintro ⟨h1, h2⟩; exact ⟨(kn n).1 h1, fun q => h2 ((h n h1).2 q)⟩
  · rintro ⟨h1, h2⟩; exact ⟨(kn n).2 h1, fun q => h2 ((h n ((kn n).2 h1)).1 q)⟩
theorem lk_upd2 {K : PS} {x y : Int} {g : PF} (hl : ∀ n r, K n = some (.link r) → K r ≠ none) (hg : ∀ z, g ≠ .link z) : ∀ n m, updP (updP K x (some (.link y))) y (some g) n = some (.link m) → updP (updP K x (some (.link y))) y (some g) m ≠ none := by
  intro n m e
  by_cases h1 : n = y
  · subst h1; rw [updP_same] at e; injection e with e; exact absurd e (hg _)
  · rw [updP_other _ _ h1] at e
    by_cases h2 : n = x
    · subst h2
      rw [updP_same] at e
      injection e with e
      injection e with e
      subst e
      rw [updP_same]; exact fun q => by cases q
    · rw [updP_other _ _ h2] at e
      exact up_known (up_known (hl _ _ e))
theorem RS.join {s1 s2 s1' s2' : St} {a b n r n' r' la da lb db : Int} {ha hb : Bool} (h : RS M1 M2 s1 s2) (c1 : E s1.K a n (.opn la da ha)) (c2 : E s2.K a n' (.opn la da ha)) (d1 : E s1.K b r (.opn lb db hb)) (d2 : E s2.K b r' (.opn lb db hb)) (hne : n ≠ r)
    (e1 : joinP s1 n la da ha r lb db hb = some s1') (e2 : joinP s2 r' lb db hb n' la da ha = some s2') (x1 : Ext s1.K s1'.K) (x2 : Ext s2.K s2'.K) : RS M1 M2 s1' s2' := by
  have hne' : n' ≠ r' := fun e => hne ((h.rl.cls c1 d1 c2 d2).2 e)
  obtain ⟨x, y, hxy, k1, n1⟩ := join_is hne e1
  obtain ⟨x', y', hxy', k2, n2⟩ := join_is (Ne.symm hne') e2
  have hF : (PF.opn (min lb la) (if db > da then max (wr (da + 1)) db else max (wr (db + 1)) da) (hb || ha)) = .opn (min la lb) (if da > db then max (wr (db + 1)) da else max (wr (da + 1)) db) (ha || hb) := by
    rw [Int.min_comm lb la, Bool.or_comm hb ha]
    congr 1
    by_cases h1 : da > db
    · rw [if_pos h1, if_neg (by omega)]
    · by_cases h2 : db > da
      · rw [if_neg h1, if_pos h2]
      · obtain rfl : da = db := by omega
        rfl
  rw [hF] at k2
  generalize hf0 : (PF.opn (min la lb) (if da > db then max (wr (db + 1)) da else max (wr (da + 1)) db) (ha || hb)) = f0 at *
  have h0 : ∀ x, f0 ≠ .link x := fun x e => by rw [← hf0] at e; cases e
  have m1 : Mg s1.K s1'.K n r y f0 := by
    rw [k1]
    rcases hxy with ⟨rfl, rfl⟩ | ⟨rfl, rfl⟩
    · exact (Mg.join d1.nolink c1.nolink hne h0).swap
    · exact Mg.join c1.nolink d1.nolink (Ne.symm hne) h0
  have m2 : Mg s2.K s2'.K n' r' y' f0 := by
    rw [k2]
    rcases hxy' with ⟨rfl, rfl⟩ | ⟨rfl, rfl⟩
    · exact Mg.join c2.nolink d2.nolink (Ne.symm hne') h0
    · exact (Mg.join d2.nolink c2.nolink hne' h0).swap
  have hy : y = n ∨ y = r := by rcases hxy with ⟨_, q⟩ | ⟨_, q⟩ <;> simp [q]
  have hy' : y' = n' ∨ y' = r' := by rcases hxy' with ⟨_, q⟩ | ⟨_, q⟩ <;> simp [q]
  have kn : ∀ m, s1'.K m = none ↔ s2'.K m = none := by
    rw [k1, k2]
    refine upd2_kn h.rl.kn fun m hm => ?_
    have hmx : (m = x ∨ m = y) ↔ (m = n ∨ m = r) := by rcases hxy with ⟨rfl, rfl⟩ | ⟨rfl, rfl⟩ <;> simp [or_comm]
    have hmx' : (m = x' ∨ m = y') ↔ (m = n' ∨ m = r') := by rcases hxy' with ⟨rfl, rfl⟩ | ⟨rfl, rfl⟩ <;> simp [or_comm]
    rw [hmx, hmx']
    have hm2 := (h.rl.kn m).1 hm
    constructor
    · rintro (rfl | rfl)
      · exact .inl (h.rl.unk c1 c2 hm).1.symm
      · exact .inr (h.rl.unk d1 d2 hm).1.symm
    · rintro (rfl | rfl)
      · exact .inl (h.rl.symm.unk c2 c1 hm2).1.symm
      · exact .inr (h.rl.symm.unk d2 d1 hm2).1.symm
  refine ⟨?_, ?_, ?_, h.mk1.ext x1, h.mk2.ext x2⟩
  · refine h.rl.mg c1 c2 d1 d2 m1 m2 hy hy' kn ?_ ?_
    · rw [k1]; exact lk_upd2 h.rl.lk1 h0
    · rw [k2]; exact lk_upd2 h.rl.lk2 h0
  · rw [n1, n2, h.cnt, h.rl.isSome c1 c2, h.rl.isSome d1 d2]
    omega
  · refine RM.mg h.rl c1 c2 d1 d2 m1 m2 h.rm (.inr (.inr ⟨fun z => h.mk1.zero ?_ z, fun z => h.mk2.zero ?_ z⟩))
    · rcases hy with rfl | rfl
      · exact c1.openAt rfl
      · exact d1.openAt rfl
    · rcases hy' with rfl | rfl
      · exact c2.openAt rfl
      · exact d2.openAt rfl
end Go.Proofs.Ytcaioffdcbjbjaa.Un
/-
  TWO STORES IN STEP, plainly: a binding, a pair, all that waits; a type that is told. No memory in sight.
-/
namespace Go.Proofs.Ytcaioffdcbjbjaa.Un
open Go.RowKit Mm Tm
set_option linter.unusedVariables false
variable {M1 M2 : PM}
theorem E.known {K : PS} {a r : Int} {f : PF} (h : E K a r f) (ho : f.isOpn = false) : K r = some f := by
  rcases h.2.1 with q | ⟨_, q⟩
  · exact q
  · rw [q] at ho; cases ho
theorem E.of_open {K : PS} {a n : Int} (hl : Leads K a n) (ho : OpenAt K n) : ∃ g, E K a n g ∧ g.isOpn = true := by
  cases hk : K n with
  | none => exact ⟨.opn n 0 false, ⟨hl, .inr ⟨hk, rfl⟩, fun x e => by cases e⟩, rfl⟩
  | some g => exact ⟨g, ⟨hl, .inl hk, fun x e => by have := ho g hk; rw [e] at this; cases this⟩, ho g hk⟩
theorem RS.bind {q d : Nat} {s1 s2 s1' s2' : St} {a n n' e e' : Int} {fn : PF} {held : Bool} {is is' : Sd} (h : RS M1 M2 s1 s2) (hf1 : Fr s1) (hf2 : Fr s2) (c1 : E s1.K a n fn) (c2 : E s2.K a n' fn) (ho : fn.isOpn = true) (hn1 : NegK s1.K n) (hn2 : NegK s2.K n') (hs : Sr s1.K s2.K is is') (hno : is.isOpn = false) (ng : ∀ x, is = .typ x → negT s1.K x.args ∧ negT s2.K x.args)
    (e1 : bindP q d s1 n held is = some (e, s1')) (e2 : bindP q d s2 n' held is' = some (e', s2')) : e = e' ∧ RS M1 M2 s1' s2' := by
  unfold bindP at e1 e2
  obtain ⟨L1, o1, e1⟩ := Option.bind_eq_some_iff.1 e1
  obtain ⟨L2, o2, e2⟩ := Option.bind_eq_some_iff.1 e2
  have hv := hs.openL h.rl o1 o2 c1 c2
  by_cases hc : hasV n L1 = true
  · rw [if_pos hc] at e1
    rw [if_pos (hv ▸ hc)] at e2
    simp only [Option.some.injEq, Prod.mk.injEq] at e1 e2
    obtain ⟨rfl, rfl⟩ := e1
    obtain ⟨rfl, rfl⟩ := e2
    exact ⟨rfl, h⟩
  · rw [if_neg hc] at e1
    rw [if_neg (hv ▸ hc)] at e2
    cases hs with
    | @var m r r' f k1 k2 =>
      obtain ⟨t1, g1, g2⟩ := Option.map_eq_some_iff.1 e1
      obtain ⟨t2, g3, g4⟩ := Option.map_eq_some_iff.1 e2
      simp only [Prod.mk.injEq] at g2 g4
      obtain ⟨rfl, rfl⟩ := g2
      obtain ⟨rfl, rfl⟩ := g4
      have hf : f.isOpn = false := hno
      have hne : r ≠ n := fun e => by
        subst e
        have := k1.fact c1
        rw [this, ho] at hf; cases hf
      have hne' : r' ≠ n' := fun e => by
        subst e
        have := k2.fact c2
        rw [this, ho] at hf; cases hf
      obtain ⟨z1, w1⟩ := set_is g1
      obtain ⟨z2, w2⟩ := set_is g3
      refine ⟨rfl, ?_, by rw [w1, w2, h.cnt, h.rl.isSome c1 c2], ?_, h.mk1.ext (set_ext g1 (c1.openAt ho)), h.mk2.ext (set_ext g3 (c2.openAt ho))⟩
      · rw [z1, z2]
        refine h.rl.mg c1 c2 k1 k2 (Mg.link c1.nolink k1.self hne) (Mg.link c2.nolink k2.self hne') (.inr rfl) (.inr rfl) (Rl.kn_upd h.rl.kn (fun q => (h.rl.unk c1 c2 q).1) (fun q => (h.rl.symm.unk c2 c1 q).1)) (lk_upd h.rl.lk1 fun x e => ?_) (lk_upd h.rl.lk2 fun x e => ?_)
        · injection e with e; rw [← e, k1.known hf]; exact fun q => by cases q
        · injection e with e; rw [← e, k2.known hf]; exact fun q => by cases q
      · rw [z1, z2]
        exact RM.mg h.rl c1 c2 k1 k2 (Mg.link c1.nolink k1.self hne) (Mg.link c2.nolink k2.self hne') h.rm (.inr (.inl ⟨rfl, rfl⟩))
    | typ x =>
      obtain ⟨⟨t1, xs1⟩, g1, g2⟩ := Option.bind_eq_some_iff.1 e1
      obtain ⟨u1, g3, g4⟩ := Option.map_eq_some_iff.1 g2
      obtain ⟨⟨t2, xs2⟩, g5, g6⟩ := Option.bind_eq_some_iff.1 e2
      obtain ⟨u2, g7, g8⟩ := Option.map_eq_some_iff.1 g6
      simp only [Prod.mk.injEq] at g4 g8
      obtain ⟨rfl, rfl⟩ := g4
      obtain ⟨rfl, rfl⟩ := g8
      obtain ⟨n1, n2⟩ := ng x rfl
      obtain ⟨a1, a2, a3, a4, a5⟩ := flat_ext _ _ _ _ hf1 n1 g1
      obtain ⟨b1, b2, b3, b4, b5⟩ := flat_ext _ _ _ _ hf2 n2 g5
      obtain ⟨rfl, hr⟩ := RS.flat _ _ _ _ _ _ _ h hf1 n1 g1 g5
      obtain ⟨y1, p1, p2⟩ := E.of_open (c1.1.ext a1) (a5 n hn1 (c1.openAt ho))
      obtain ⟨y2, p3, p4⟩ := E.of_open (c2.1.ext b1) (b5 n' hn2 (c2.openAt ho))
      exact ⟨rfl, hr.set p1 p3 p2 (fun x e => by cases e) g3 g7⟩
theorem zip_swap {α β : Type} : ∀ (l : List α) (m : List β), (l.zip m).map (fun p => (p.2, p.1)) = m.zip l
  | [], [] => rfl
  | [], _ :: _ => rfl
  | _ :: _, [] => rfl
  | x :: l, y :: m => by rw [List.zip_cons_cons, List.zip_cons_cons, List.map_cons, zip_swap l m]
theorem Sr.kd {K1 K2 : PS} {a b : Sd} (h : Sr K1 K2 a b) : a.kd = b.kd := by cases h <;> rfl
theorem Sr.nm {K1 K2 : PS} {a b : Sd} (h : Sr K1 K2 a b) : a.nm = b.nm := by cases h <;> rfl
theorem Sr.parts {K1 K2 : PS} {a b : Sd} (h : Sr K1 K2 a b) : a.parts = b.parts := by cases h <;> rfl
theorem Sr.isOpn {K1 K2 : PS} {a b : Sd} (h : Sr K1 K2 a b) : a.isOpn = b.isOpn := by cases h <;> rfl
abbrev sw (p : Ty × Ty) : Ty × Ty := (p.2, p.1)
/-- what comes of a pair, in step -/
def PStep (r1 r2 : PR) : Prop := r1.err = r2.err ∧ (r1.err = 0 → RS r1.M r2.M r1.st r2.st ∧ r2.more = r1.more.map sw)
theorem meet_ends {n r s t : Int} : (min s t = min n r ∧ max s t = max n r) ↔ ((s = n ∧ t = r) ∨ (s = r ∧ t = n)) := by omega
theorem RS.ahead {s1 s2 : St} {a b n r n' r' : Int} {f g : PF} {c : Int} (h : RS M1 M2 s1 s2) (c1 : E s1.K a n f) (c2 : E s2.K a n' f) (d1 : E s1.K b r g) (d2 : E s2.K b r' g) (hf : f.isOpn = false) (hg : g.isOpn = false) : RS (updM M1 (min n r) (max n r) c) (updM M2 (min r' n') (max r' n') c) s1 s2 := by
  have hty : ∀ {K : PS} {x y : Int} {u v : PF}, K x = some u → K y = some v → (∀ z, u ≠ .link z) → (∀ z, v ≠ .link z) → u.isOpn = false → v.isOpn = false → (∃ kd nm xs, K (min x y) = some (.typ kd nm xs)) ∧ ∃ kd nm xs, K (max x y) = some (.typ kd nm xs) := by
    intro K x y u v e1 e2 l1 l2 o1 o2
    have t1 : ∃ kd nm xs, K x = some (.typ kd nm xs) := by
      cases u with
      | link z => exact absurd rfl (l1 z)
      | opn _ _ _ => cases o1
      | typ kd nm xs => exact ⟨_, _, _, e1⟩
    have t2 : ∃ kd nm xs, K y = some (.typ kd nm xs) := by
      cases v with
      | link z => exact absurd rfl (l2 z)
      | opn _ _ _ => cases o2
      | typ kd nm xs => exact ⟨_, _, _, e2⟩
    have h1 : min x y = x ∨ min x y = y := by omega
    have h2 : max x y = x ∨ max x y = y := by omega
    exact ⟨by rcases h1 with e | e <;> rw [e] <;> assumption, by rcases h2 with e | e <;> rw [e] <;> assumption⟩
  refine ⟨h.rl, h.cnt, ?_, ?_, ?_⟩
  · intro a' b' s f' t g' s' f'' t' g'' p1 p2 p3 p4
    have hc : (min s t = min n r ∧ max s t = max n r) ↔ (min s' t' = min r' n' ∧ max s' t' = max r' n') := by
      rw [meet_ends, meet_ends, h.rl.cls p1 c1 p3 c2, h.rl.cls p2 d1 p4 d2, h.rl.cls p1 d1 p3 d2, h.rl.cls p2 c1 p4 c2]
      constructor
      · rintro (q | q)
        · exact .inr q
        · exact .inl q
      · rintro (q | q)
        · exact .inr q
        · exact .inl q
    unfold updM
    by_cases q : min s t = min n r ∧ max s t = max n r
    · rw [if_pos q, if_pos (hc.1 q)]
    · rw [if_neg q, if_neg (fun e => q (hc.2 e))]
      exact h.rm _ _ _ _ _ _ _ _ _ _ p1 p2 p3 p4
  · intro x y q
    unfold updM at q
    split at q
    · rename_i e
      rw [e.1, e.2]
      exact hty (c1.known hf) (d1.known hg) c1.2.2 d1.2.2 hf hg
    · exact h.mk1 x y q
  · intro x y q
    unfold updM at q
    split at q
    · rename_i e
      rw [e.1, e.2]
      exact hty (d2.known hg) (c2.known hf) d2.2.2 c2.2.2 hg hf
    · exact h.mk2 x y q
theorem RS.match_ {s1 s2 : St} {a a' b b' : Sd} (h : RS M1 M2 s1 s2) (ha : Sr s1.K s2.K a a') (hb : Sr s1.K s2.K b b') (oa : a.isOpn = false) (ob : b.isOpn = false) : PStep (matchP s1 M1 a b) (matchP s2 M2 b' a') := by
  have hc : (a.kd ≠ b.kd ∨ a.nm ≠ b.nm ∨ a.parts.length ≠ b.parts.length) ↔ (b'.kd ≠ a'.kd ∨ b'.nm ≠ a'.nm ∨ b'.parts.length ≠ a'.parts.length) := by
    rw [ha.kd, ha.nm, ha.parts, hb.kd, hb.nm, hb.parts]
    constructor <;> (rintro (q | q | q); exact .inl fun e => q e.symm; exact .inr (.inl fun e => q e.symm); exact .inr (.inr fun e => q e.symm))
  unfold matchP
  by_cases q : a.kd ≠ b.kd ∨ a.nm ≠ b.nm ∨ a.parts.length ≠ b.parts.length
  · rw [if_pos q, if_pos (hc.1 q)]
    exact ⟨rfl, fun e => absurd e (show ¬ (100 : Int) = 0 by decide)⟩
  · rw [if_neg q, if_neg (fun e => q (hc.2 e))]
    have hzip : b'.parts.zip a'.parts = (a.parts.zip b.parts).map sw := by rw [ha.parts, hb.parts]; exact (zip_swap _ _).symm
    have hp : PStep ⟨0, s1, M1, a.parts.zip b.parts⟩ ⟨0, s2, M2, b'.parts.zip a'.parts⟩ := ⟨rfl, fun _ => ⟨h, hzip⟩⟩
    cases ha with
    | typ x =>
      cases hb with
      | typ y => exact hp
      | var k1 k2 => exact hp
    | @var m n n' f c1 c2 =>
      cases hb with
      | typ y => exact hp
      | @var m2 r r' g d1 d2 =>
        have hm := h.rm _ _ _ _ _ _ _ _ _ _ c1 d1 c2 d2
        have hm' : M2 (min r' n') (max r' n') = M1 (min n r) (max n r) := by rw [hm, Int.min_comm, Int.max_comm]
        dsimp only
        unfold aheadP
        rw [hm']
        dsimp only
        have hr := h.ahead (c := wr (M1 (min n r) (max n r) + 1)) c1 c2 d1 d2 oa ob
        split
        · exact ⟨rfl, fun _ => ⟨hr, rfl⟩⟩
        · exact ⟨rfl, fun _ => ⟨hr, hzip⟩⟩
end Go.Proofs.Ytcaioffdcbjbjaa.Un
/-
  TWO STORES IN STEP, plainly: a pair, all that waits, a call; a type that is told. No memory in sight.
-/
namespace Go.Proofs.Ytcaioffdcbjbjaa.Un
open Go.RowKit Mm Tm
set_option linter.unusedVariables false
variable {M1 M2 : PM}
theorem side_argT {q : Nat} {K : PS} {x y : Ty} (hn : negY K x) (h : takenP q K x = some (.typ y)) : negT K y.args := by
  obtain ⟨_, _, rfl⟩ := typ_taken h
  exact hn.2
theorem var_neg {q : Nat} {s : St} {x : Ty} {n : Int} {f : PF} (hf : Fr s) (hn : negY s.K x) (h : takenP q s.K x = some (.var n f)) : NegK s.K n := by
  obtain ⟨hk, hz⟩ := var_taken h
  exact (end_leads q x.n hz).1.neg hf (hn.1 hk)
theorem RS.pair {q d : Nat} {s1 s2 : St} {x y : Ty} {a a' b b' : Sd} {r1 r2 : PR} (h : RS M1 M2 s1 s2) (hf1 : Fr s1) (hf2 : Fr s2) (nx1 : negY s1.K x) (ny1 : negY s1.K y) (nx2 : negY s2.K x) (ny2 : negY s2.K y) (t1 : takenP q s1.K x = some a) (t2 : takenP q s1.K y = some b) (t3 : takenP q s2.K x = some a') (t4 : takenP q s2.K y = some b')
    (e1 : pairP q d s1 M1 a b = some r1) (e2 : pairP q d s2 M2 b' a' = some r2) : PStep r1 r2 := by
  have ha := h.rl.taken t1 t3
  have hb := h.rl.taken t2 t4
  have key : ∀ (fa : a.isOpn = false) (fb : b.isOpn = false), r1 = matchP s1 M1 a b → r2 = matchP s2 M2 b' a' → PStep r1 r2 := fun fa fb g1 g2 => by rw [g1, g2]; exact h.match_ ha hb fa fb
  have zero : ∀ {p1 p2 : Option (Int × St)}, p1.map (fun e => (⟨e.1, e.2, M1, []⟩ : PR)) = some r1 → p2.map (fun e => (⟨e.1, e.2, M2, []⟩ : PR)) = some r2 → (∀ e u e' u', p1 = some (e, u) → p2 = some (e', u') → e = e' ∧ RS M1 M2 u u') → PStep r1 r2 := by
    intro p1 p2 g1 g2 g
    obtain ⟨⟨e, u⟩, q1, rfl⟩ := Option.map_eq_some_iff.1 g1
    obtain ⟨⟨e', u'⟩, q2, rfl⟩ := Option.map_eq_some_iff.1 g2
    obtain ⟨k1, k2⟩ := g e u e' u' q1 q2
    exact ⟨k1, fun _ => ⟨k2, rfl⟩⟩
  cases ha with
  | typ x' =>
    cases hb with
    | typ y' =>
      unfold pairP at e1 e2
      simp only [sameVar, Bool.false_eq_true, if_false, Option.some.injEq] at e1 e2
      exact key rfl rfl e1.symm e2.symm
    | @var m r r' g d1 d2 =>
      unfold pairP at e1 e2
      simp only [sameVar, Bool.false_eq_true, if_false] at e1 e2
      cases g with
      | link z => exact absurd rfl (d1.2.2 z)
      | typ kd nm xs =>
        simp only [Option.some.injEq] at e1 e2
        exact key rfl rfl e1.symm e2.symm
      | opn lb db hb =>
        dsimp only at e1 e2
        refine zero e1 e2 fun e u e' u' q1 q2 => ?_
        exact h.bind hf1 hf2 d1 d2 rfl (var_neg hf1 ny1 t2) (var_neg hf2 ny2 t4) (.typ x') rfl (fun z ez => by injection ez with ez; subst ez; exact ⟨side_argT nx1 t1, side_argT nx2 t3⟩) q1 q2
  | @var m n n' f c1 c2 =>
    cases hb with
    | typ y' =>
      unfold pairP at e1 e2
      simp only [sameVar, Bool.false_eq_true, if_false] at e1 e2
      cases f with
      | link z => exact absurd rfl (c1.2.2 z)
      | typ kd nm xs =>
        simp only [Option.some.injEq] at e1 e2
        exact key rfl rfl e1.symm e2.symm
      | opn la da ha =>
        dsimp only at e1 e2
        refine zero e1 e2 fun e u e' u' q1 q2 => ?_
        exact h.bind hf1 hf2 c1 c2 rfl (var_neg hf1 nx1 t1) (var_neg hf2 nx2 t3) (.typ y') rfl (fun z ez => by injection ez with ez; subst ez; exact ⟨side_argT ny1 t2, side_argT ny2 t4⟩) q1 q2
    | @var m2 r r' g d1 d2 =>
      have hcl := h.rl.cls c1 d1 c2 d2
      by_cases hnr : n = r
      · have hnr' := hcl.1 hnr
        unfold pairP at e1 e2
        rw [if_pos (show sameVar (.var n f) (.var r g) = true from decide_eq_true hnr)] at e1
        rw [if_pos (show sameVar (.var r' g) (.var n' f) = true from decide_eq_true hnr'.symm)] at e2
        injection e1 with e1
        injection e2 with e2
        subst e1 e2
        exact ⟨rfl, fun _ => ⟨h, rfl⟩⟩
      · have hnr' : ¬ n' = r' := fun e => hnr (hcl.2 e)
        have p1 := e1
        have p2 := e2
        unfold pairP at e1 e2
        rw [if_neg (show ¬ sameVar (.var n f) (.var r g) = true from fun e => hnr (of_decide_eq_true e))] at e1
        rw [if_neg (show ¬ sameVar (.var r' g) (.var n' f) = true from fun e => hnr' (of_decide_eq_true e).symm)] at e2
        cases f with
        | link z => exact absurd rfl (c1.2.2 z)
        | opn la da ha =>
          cases g with
          | link z => exact absurd rfl (d1.2.2 z)
          | opn lb db hb =>
            dsimp only at e1 e2
            obtain ⟨u, q1, rfl⟩ := Option.map_eq_some_iff.1 e1
            obtain ⟨u', q2, rfl⟩ := Option.map_eq_some_iff.1 e2
            obtain ⟨x1, _, _⟩ := pair_good (q := q) (d := d) hf1 nx1 ny1 t1 t2 p1 rfl
            obtain ⟨x2, _, _⟩ := pair_good (q := q) (d := d) hf2 ny2 nx2 t4 t3 p2 rfl
            exact ⟨rfl, fun _ => ⟨h.join c1 c2 d1 d2 hnr q1 q2 x1 x2, rfl⟩⟩
          | typ kd nm xs =>
            dsimp only at e1 e2
            refine zero e1 e2 fun e u e' u' q1 q2 => ?_
            exact h.bind hf1 hf2 c1 c2 rfl (var_neg hf1 nx1 t1) (var_neg hf2 nx2 t3) (.var d1 d2) rfl (fun z ez => by cases ez) q1 q2
        | typ kd nm xs =>
          cases g with
          | link z => exact absurd rfl (d1.2.2 z)
          | opn lb db hb =>
            dsimp only at e1 e2
            refine zero e1 e2 fun e u e' u' q1 q2 => ?_
            exact h.bind hf1 hf2 d1 d2 rfl (var_neg hf1 ny1 t2) (var_neg hf2 ny2 t4) (.var c1 c2) rfl (fun z ez => by cases ez) q1 q2
          | typ kd' nm' xs' =>
            simp only [Option.some.injEq] at e1 e2
            exact key rfl rfl e1.symm e2.symm
theorem RS.same {q d : Nat} : ∀ (k : Nat) (s1 s2 : St) (M1 M2 : PM) (td : List (Ty × Ty)) (e e' : Int) (s1' s2' : St), RS M1 M2 s1 s2 → Fr s1 → Fr s2 → (∀ p ∈ td, negY s1.K p.1 ∧ negY s1.K p.2) → (∀ p ∈ td, negY s2.K p.1 ∧ negY s2.K p.2) → sameP q d k s1 M1 td = some (e, s1') → sameP q d k s2 M2 (td.map sw) = some (e', s2') → e = e' ∧ (e = 0 → Rl s1'.K s2'.K ∧ s1'.cnt = s2'.cnt ∧ Fr s1' ∧ Fr s2')
  | k, s1, s2, M1, M2, [], e, e', s1', s2', h, hf1, hf2, n1, n2, e1, e2 => by
    rw [List.map_nil] at e2
    unfold sameP at e1 e2
    simp only [Option.some.injEq, Prod.mk.injEq] at e1 e2
    obtain ⟨rfl, rfl⟩ := e1
    obtain ⟨rfl, rfl⟩ := e2
    exact ⟨rfl, fun _ => ⟨h.rl, h.cnt, hf1, hf2⟩⟩
  | 0, s1, s2, M1, M2, p :: td, e, e', s1', s2', h, hf1, hf2, n1, n2, e1, e2 => by unfold sameP at e1; cases e1
  | k + 1, s1, s2, M1, M2, (x, y) :: td, e, e', s1', s2', h, hf1, hf2, n1, n2, e1, e2 => by
    rw [List.map_cons] at e2
    unfold sameP at e1 e2
    obtain ⟨nx1, ny1⟩ := n1 (x, y) (by simp)
    obtain ⟨nx2, ny2⟩ := n2 (x, y) (by simp)
    cases t1 : takenP q s1.K x with
    | none => rw [t1] at e1; cases e1
    | some a =>
      cases t2 : takenP q s1.K y with
      | none => rw [t1, t2] at e1; cases e1
      | some b =>
        cases t4 : takenP q s2.K y with
        | none => simp only [t4] at e2; cases e2
        | some b' =>
          cases t3 : takenP q s2.K x with
          | none => simp only [t4, t3] at e2; cases e2
          | some a' =>
            simp only [t1, t2] at e1
            simp only [t4, t3] at e2
            cases p1 : pairP q d s1 M1 a b with
            | none => rw [p1] at e1; cases e1
            | some r1 =>
              cases p2 : pairP q d s2 M2 b' a' with
              | none => rw [p2] at e2; cases e2
              | some r2 =>
                rw [p1] at e1
                rw [p2] at e2
                dsimp only at e1 e2
                obtain ⟨g1, g2⟩ := h.pair hf1 hf2 nx1 ny1 nx2 ny2 t1 t2 t3 t4 p1 p2
                by_cases he : r1.err = 0
                · have he2 : r2.err = 0 := by rw [← g1]; exact he
                  obtain ⟨hr, hm⟩ := g2 he
                  obtain ⟨x1, f1, m1, _⟩ := pair_good hf1 nx1 ny1 t1 t2 p1 he
                  obtain ⟨x2, f2, m2, _⟩ := pair_good hf2 ny2 nx2 t4 t3 p2 he2
                  rw [if_neg (by simpa using he)] at e1
                  rw [if_neg (by simpa using he2)] at e2
                  split at e1
                  · split at e2
                    · rw [hm, ← List.map_append] at e2
                      refine RS.same k r1.st r2.st r1.M r2.M (r1.more ++ td) e e' s1' s2' hr f1 f2 (fun p hp => ?_) (fun p hp => ?_) e1 e2
                      · rcases List.mem_append.1 hp with hp | hp
                        · exact m1 p hp
                        · have := n1 p (List.mem_cons_of_mem _ hp)
                          exact ⟨this.1.ext x1, this.2.ext x1⟩
                      · rcases List.mem_append.1 hp with hp | hp
                        · have := m2 (sw p) (by rw [hm]; exact List.mem_map.2 ⟨p, hp, rfl⟩)
                          exact ⟨this.2, this.1⟩
                        · have := n2 p (List.mem_cons_of_mem _ hp)
                          exact ⟨this.1.ext x2, this.2.ext x2⟩
                    · cases e2
                  · cases e1
                · have he2 : ¬ r2.err = 0 := by rw [← g1]; exact he
                  rw [if_pos he] at e1
                  rw [if_pos he2] at e2
                  simp only [Option.some.injEq, Prod.mk.injEq] at e1 e2
                  obtain ⟨rfl, rfl⟩ := e1
                  obtain ⟨rfl, rfl⟩ := e2
                  exact ⟨g1, fun e => absurd e he⟩
/-- A CALL, IN STEP -/
theorem turn_unify {q d k : Nat} {K1 K2 : PS} {c : Nat} {x y : Ty} {e e' : Int} {K1' K2' : PS} {c1' c2' : Nat} (h : Rl K1 K2) (hf1 : Fr ⟨K1, c, []⟩) (hf2 : Fr ⟨K2, c, []⟩) (nx1 : negY K1 x) (ny1 : negY K1 y) (nx2 : negY K2 x) (ny2 : negY K2 y) (e1 : unifyQ q d k K1 c x y = some (e, K1', c1')) (e2 : unifyQ q d k K2 c y x = some (e', K2', c2')) :
    e = e' ∧ c1' = c2' ∧ Rl K1' K2' ∧ Fr ⟨K1', c1', []⟩ ∧ Fr ⟨K2', c2', []⟩ := by
  obtain ⟨⟨u, s1⟩, g1, g2⟩ := Option.map_eq_some_iff.1 e1
  obtain ⟨⟨u', s2⟩, g3, g4⟩ := Option.map_eq_some_iff.1 e2
  have h0 : RS (fun _ _ => 0) (fun _ _ => 0) ⟨K1, c, []⟩ ⟨K2, c, []⟩ := ⟨h, rfl, fun _ _ _ _ _ _ _ _ _ _ _ _ _ _ => rfl, fun x y e => absurd rfl e, fun x y e => absurd rfl e⟩
  obtain ⟨rfl, hz⟩ := RS.same k _ _ _ _ [(x, y)] u u' s1 s2 h0 hf1 hf2 (fun p hp => by rw [List.mem_singleton.1 hp]; exact ⟨nx1, ny1⟩) (fun p hp => by rw [List.mem_singleton.1 hp]; exact ⟨nx2, ny2⟩) g1 g3
  dsimp only at g2 g4
  by_cases hu : u = 0
  · rw [if_pos hu] at g2 g4
    simp only [Prod.mk.injEq] at g2 g4
    obtain ⟨rfl, rfl, rfl⟩ := g2
    obtain ⟨rfl, rfl, rfl⟩ := g4
    obtain ⟨z1, z2, z3, z4⟩ := hz hu
    exact ⟨rfl, z2, z1, ⟨z3.neg, z3.lnk, z3.prt⟩, ⟨z4.neg, z4.lnk, z4.prt⟩⟩
  · rw [if_neg hu] at g2 g4
    simp only [Prod.mk.injEq] at g2 g4
    obtain ⟨rfl, rfl, rfl⟩ := g2
    obtain ⟨rfl, rfl, rfl⟩ := g4
    exact ⟨rfl, rfl, h, hf1, hf2⟩
theorem taken_or {q : Nat} {K1 K2 : PS} (h : Rl K1 K2) (h1 : Ends q K1) (h2 : Ends q K2) (x : Ty) : (takenP q K1 x = none ∧ takenP q K2 x = none) ∨ ∃ a b, takenP q K1 x = some a ∧ takenP q K2 x = some b ∧ Sr K1 K2 a b := by
  by_cases hk : x.kd = 1
  · by_cases hi : inI x.n = true
    · obtain ⟨z1, e1⟩ := h1 x.n hi
      obtain ⟨z2, e2⟩ := h2 x.n hi
      have t1 : takenP q K1 x = some (.var z1.1 z1.2) := by unfold takenP; rw [if_pos hk, e1]; rfl
      have t2 : takenP q K2 x = some (.var z2.1 z2.2) := by unfold takenP; rw [if_pos hk, e2]; rfl
      exact .inr ⟨_, _, t1, t2, h.taken t1 t2⟩
    · have go : ∀ K : PS, endP K q x.n = none := fun K => by
        cases q with
        | zero => rfl
        | succ q => unfold endP; rw [if_neg hi]
      left
      unfold takenP
      rw [if_pos hk, if_pos hk, go, go]
      exact ⟨rfl, rfl⟩
  · by_cases h0 : x.kd = 0
    · left
      unfold takenP
      rw [if_neg hk, if_pos h0, if_neg hk]
      exact ⟨rfl, rfl⟩
    · exact .inr ⟨_, _, taken_lit hk h0, taken_lit hk h0, .typ x⟩
/-- A TYPE IS TOLD ALIKE -/
theorem turn_whole {q : Nat} {K1 K2 : PS} (h : Rl K1 K2) (h1 : Ends q K1) (h2 : Ends q K2) : ∀ (k room : Nat) (x : Ty), wholeP q K1 k room x = wholeP q K2 k room x
  | 0, room, x => by unfold wholeP; rfl
  | k + 1, room, x => by
    rcases taken_or h h1 h2 x with ⟨t1, t2⟩ | ⟨a, b, t1, t2, hs⟩
    · rw [wholeP, wholeP, t1, t2]
    · have ih : (∀ n u, wholeP q K1 k n u = wholeP q K2 k n u) := fun n u => turn_whole h h1 h2 k n u
      have known : a.isOpn = false → wholeP q K1 (k + 1) room x = wholeP q K2 (k + 1) room x := fun ho => by
        have hfun : wholeP q K1 k = wholeP q K2 k := by funext n u; exact ih n u
        rw [whole_known t1 ho, whole_known t2 (by rw [← hs.isOpn]; exact ho), hs.kd, hs.nm, hs.parts, hfun]
      cases hs with
      | typ y => exact known rfl
      | @var m r r' f c1 c2 =>
        cases f with
        | link z => exact absurd rfl (c1.2.2 z)
        | typ kd nm xs => exact known rfl
        | opn l d b =>
          rw [wholeP, wholeP, t1, t2]
end Go.Proofs.Ytcaioffdcbjbjaa.Un
