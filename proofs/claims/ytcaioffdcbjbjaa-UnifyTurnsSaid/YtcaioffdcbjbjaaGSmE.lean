/-
  WHAT WAS MADE THE SAME RESOLVES TO THE SAME. No memory in sight.
-/
import Derived.Test.YtcaioffdcbjbjaaGPrD
import Derived.Test.YtcaioffdcbjbjaaGSmD

namespace Go.Proofs.Ytcaioffdcbjbjaa.Un
open Go.RowKit Mm Tm Ua
set_option linter.unusedVariables false
theorem neg_okT {K : PS} : ∀ t : Tys, okT t = true → negT K t
  | .nil, _ => trivial
  | .cons kd n nm args rest, h => by
    rw [okT, Bool.and_eq_true] at h
    by_cases hk : kd = 1
    · rw [if_pos hk] at h
      have h1 := h.1
      unfold headV at h1
      simp only [Bool.and_eq_true, decide_eq_true_eq] at h1
      obtain ⟨h2, h3, h4, h5⟩ := h1
      refine ⟨fun _ q => by omega, ?_, neg_okT rest h.2⟩
      cases args with
      | nil => trivial
      | cons _ _ _ _ _ => rw [Tys.len] at h5; omega
    · rw [if_neg hk, Bool.and_eq_true] at h
      exact ⟨fun e => absurd e hk, neg_okT args h.1.2, neg_okT rest h.2⟩
theorem neg_ok {K : PS} {x : Ty} (h : okTy x = true) : negY K x := by
  have := neg_okT (K := K) (.cons x.kd x.n x.nm x.args .nil) (by rw [okT]; unfold okTy at h; rw [h]; rfl)
  exact ⟨this.1, this.2.1⟩
/-- a call of Unify that went well -/
theorem unify_good {q d k : Nat} {K : PS} {c : Nat} {x y : Ty} {K' : PS} {c' : Nat} (h : unifyQ q d k K c x y = some (0, K', c')) (hf : Fr ⟨K, c, []⟩) (hx : okTy x = true) (hy : okTy y = true) :
    Ext K K' ∧ Fr ⟨K', c', []⟩ ∧ ∀ K'', Ext K' K'' → Ends q K'' → PartsIn K'' → ∃ P : Ty → Ty → Prop, P x y ∧ Bis q K'' (Bs q K'' P) := by
  obtain ⟨⟨e, s'⟩, h1, h2⟩ := Option.map_eq_some_iff.1 h
  dsimp only at h2
  split at h2
  · rename_i he
    simp only [Prod.mk.injEq, true_and] at h2
    obtain ⟨rfl, rfl⟩ := h2
    subst he
    obtain ⟨e1, f1, g1⟩ := run_good k _ _ _ s' h1 hf (fun p hp => by rw [List.mem_singleton.1 hp]; exact ⟨neg_ok hx, neg_ok hy⟩)
    refine ⟨e1, ⟨f1.neg, f1.lnk, f1.prt⟩, fun K'' he hT hP => ?_⟩
    obtain ⟨P, p1, p2⟩ := g1 K'' he hT hP
    have hj : ∀ u v, P u v → Good q K'' (Bs q K'' P) u v := fun u v h => (p2 u v h).elim id fun ⟨n, r, _, _, e⟩ => absurd rfl e
    have hq : 0 < q := by
      rcases Nat.eq_zero_or_pos q with e | e
      · subst e
        obtain ⟨z, hz⟩ := hT 0 (by decide)
        cases hz
      · exact e
    refine ⟨P, p1 (x, y) (by simp), fun u v h => ?_⟩
    rcases h with h | h | h | h | h
    · exact hj u v h
    · exact (hj v u h).symm
    · exact h.good hq hP
    · exact (h.good hq hP).symm
    · exact .inl h
  · rename_i he
    simp only [Prod.mk.injEq] at h2
    exact absurd h2.1 he
theorem fr_empty : Fr ⟨fun _ => none, 0, []⟩ := ⟨fun n _ h => absurd rfl h, fun n r h => (by cases h), fun n kd nm xs h => (by cases h)⟩
/-- pairs that were made the same are told alike -/
theorem JoinR.good {q d k : Nat} {l : List Pr} {K : PS} {c : Nat} (h : JoinR q d k l K c) : Fr ⟨K, c, []⟩ ∧ ∀ K', Ext K K' → Ends q K' → PartsIn K' → ∀ p ∈ l, ∃ P : Ty → Ty → Prop, P p.1 p.2 ∧ Bis q K' (Bs q K' P) := by
  induction h with
  | nil => exact ⟨fr_empty, fun K' _ _ _ p hp => by cases hp⟩
  | snoc h ox oy hu ih =>
    obtain ⟨e1, f1, g1⟩ := unify_good hu ih.1 ox oy
    refine ⟨f1, fun K' he hT hP p hp => ?_⟩
    rcases List.mem_append.1 hp with hp | hp
    · exact ih.2 K' (e1.trans he) hT hP p hp
    · rw [List.mem_singleton.1 hp]; exact g1 K' he hT hP
theorem KBi.ends {q d k : Nat} (hN : Nums q d k) {i c : Nat} {K : PS} (h : KBi i c K) (hi : i ≤ 41) : Ends q K ∧ PartsIn K := by
  refine ⟨fun n hn => ?_, fun n kd nm xs e => (h.1.ok.parts n kd nm xs e).2.2⟩
  obtain ⟨r, f, he, _⟩ := h.1.ok.end_ (q := q) (by have := hN.q; omega) hn
  exact ⟨_, he⟩
/-- WHAT WAS MADE THE SAME RESOLVES TO THE SAME -/
theorem JoinR.whole {q d k : Nat} (hN : Nums q d k) {l : List Pr} {K : PS} {c : Nat} (h : JoinR q d k l K c) (hl : l.length ≤ 41) (hs : ∀ p ∈ l, smallP p) : ∀ p ∈ l, ∀ k room, wholeP q K k room p.1 = wholeP q K k room p.2 := by
  intro p hp k room
  obtain ⟨e1, e2⟩ := (h.kb hN hl hs).ends hN hl
  obtain ⟨P, p1, p2⟩ := h.good.2 K (Ext.refl _) e1 e2 p hp
  exact p2.whole k room p.1 p.2 (.inl p1)
end Go.Proofs.Ytcaioffdcbjbjaa.Un
