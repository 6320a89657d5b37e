/-
  HEAPS, PLAINLY: the document's heap, a row of cells, beside the program's.
-/
import Derived.Test.YtbkklnihgejeoaaHpR
namespace Go.Proofs.Ytbkklnihgejeoaa.Hp
set_option linter.unusedVariables false
structure Rc where
  at_ : Int
  x : Nd
def findFrom : List Rc → Int → Nat → Int
  | [], _, _ => -1
  | r :: l, a, k => if r.at_ = a then k else findFrom l a (k + 1)
def findV (l : List Rc) (a : Int) : Int := findFrom l a 0
def hasAt (l : List Rc) (a : Int) : Bool := l.any fun r => decide (r.at_ = a)
theorem hasAt_iff {l : List Rc} {a : Int} : hasAt l a = true ↔ ∃ r ∈ l, r.at_ = a := by
  unfold hasAt
  rw [List.any_eq_true]
  simp
theorem findFrom_none : ∀ {l : List Rc} {a : Int} {k : Nat}, (∀ r ∈ l, r.at_ ≠ a) → findFrom l a k = -1
  | [], a, k, _ => rfl
  | r :: l, a, k, h => by
    unfold findFrom
    rw [if_neg (h r (by simp))]
    exact findFrom_none fun s hs => h s (by simp [hs])
theorem findFrom_some : ∀ {l : List Rc} {a : Int} {i : Nat} {r : Rc} (k : Nat), l[i]? = some r → r.at_ = a → (∀ j s, j < i → l[j]? = some s → s.at_ ≠ a) → findFrom l a k = ((k + i : Nat) : Int)
  | [], a, i, r, k, h, _, _ => by simp at h
  | s :: l, a, 0, r, k, h, ha, _ => by
    simp at h
    subst h
    unfold findFrom
    rw [if_pos ha, Nat.add_zero]
  | s :: l, a, i + 1, r, k, h, ha, hn => by
    unfold findFrom
    rw [if_neg (hn 0 s (by omega) rfl), findFrom_some (k + 1) (i := i) (by simpa using h) ha (fun j t hj ht => hn (j + 1) t (by omega) (by simpa using ht))]
    congr 1
    omega
theorem findV_none {l : List Rc} {a : Int} (h : ∀ r ∈ l, r.at_ ≠ a) : findV l a = -1 := findFrom_none h
theorem findV_some {l : List Rc} {a : Int} {i : Nat} {r : Rc} (h : l[i]? = some r) (ha : r.at_ = a) (hn : ∀ j s, j < i → l[j]? = some s → s.at_ ≠ a) : findV l a = i := by
  have := findFrom_some 0 h ha hn
  rwa [Nat.zero_add] at this
/-- where an address is found first -/
theorem first_at : ∀ {l : List Rc} {a : Int}, hasAt l a = true → ∃ (i : Nat) (r : Rc), l[i]? = some r ∧ r.at_ = a ∧ ∀ (j : Nat) (s : Rc), j < i → l[j]? = some s → s.at_ ≠ a
  | [], a, h => by simp [hasAt] at h
  | r :: l, a, h => by
    by_cases e : r.at_ = a
    · exact ⟨0, r, rfl, e, fun j s hj => by omega⟩
    · have : hasAt l a = true := by
        unfold hasAt at h ⊢
        rw [List.any_cons, decide_eq_false e, Bool.false_or] at h
        exact h
      obtain ⟨i, s, h1, h2, h3⟩ := first_at this
      refine ⟨i + 1, s, by simpa using h1, h2, fun j t hj ht => ?_⟩
      match j, hj, ht with
      | 0, _, ht =>
        simp at ht
        rw [← ht]
        exact e
      | j + 1, hj, ht => exact h3 j t (by omega) (by simpa using ht)
theorem findV_has {l : List Rc} {a : Int} (h : hasAt l a = true) : ∃ (i : Nat) (r : Rc), findV l a = i ∧ l[i]? = some r ∧ r.at_ = a := by
  obtain ⟨i, r, h1, h2, h3⟩ := first_at h
  exact ⟨i, r, findV_some h1 h2 h3, h1, h2⟩
theorem findV_not {l : List Rc} {a : Int} (h : hasAt l a = false) : findV l a = -1 := findV_none fun r hr e => by
  have := hasAt_iff.2 ⟨r, hr, e⟩
  rw [h] at this
  cases this
/-- the document's heap says what the program's does -/
structure Sim (S : Hs) (l : List Rc) : Prop where
  at_ : ∀ a : Int, hasAt l a = S.held a
  nd : ∀ r ∈ l, S.nd r.at_.toNat = r.x
  nodup : (l.map (·.at_)).Nodup
theorem sim_start (c : Nat) : Sim (start c) [] := ⟨fun a => by
  show false = (start c).held a
  unfold Hs.held start
  by_cases h : 0 ≤ a
  · have : ¬ a < 0 := by omega
    simp [this]
  · simp [h], fun r hr => by simp at hr, by simp⟩
theorem Sim.mem {S : Hs} {l : List Rc} (h : Sim S l) {a : Int} : a ∈ l.map (·.at_) ↔ S.held a = true := by
  rw [← h.at_ a, hasAt_iff, List.mem_map]
theorem Sim.length {S : Hs} {l : List Rc} (h : Sim S l) (g : Good S) : l.length = S.live := by
  have h1 : (l.map (·.at_)).length = cnt S.is S.used := length_cells h.nodup (fun x hx => (Hs.held_iff.1 (h.mem.1 hx)).1) (fun x hx => (Hs.held_iff.1 (h.mem.1 hx)).2.1) (fun a => by
    rw [h.mem, Hs.held_iff]
    constructor
    · intro q; exact q.2.2
    · intro q
      refine ⟨by omega, ?_, q⟩
      apply Classical.byContradiction
      intro e
      exact q (g.above a (by omega)))
  rw [List.length_map] at h1
  rw [h1, g.live]
theorem Sim.holds {S : Hs} {l : List Rc} (h : Sim S l) (row : List Int) : row.all (hasAt l) = row.all S.held := by
  congr 1
  funext a
  exact h.at_ a
theorem held_put {S : Hs} {k : Nat} {x : Nd} (hv : IsVac S k) (a : Int) : (S.put k x).held a = (decide (a = (k : Int)) || S.held a) := by
  rw [Bool.eq_iff_iff, Bool.or_eq_true, decide_eq_true_eq, Hs.held_iff, Hs.held_iff]
  have hle := hv.le
  constructor
  · rintro ⟨h0, h1, h2⟩
    have h1 : a < ((max S.used (k + 1) : Nat) : Int) := h1
    have h2 : upd S.is k 1 a.toNat ≠ 0 := h2
    by_cases e : a = (k : Int)
    · exact .inl e
    · rw [upd_other _ _ (by omega)] at h2
      refine .inr ⟨h0, ?_, h2⟩
      by_cases q : k < S.used
      · omega
      · omega
  · rintro (rfl | ⟨h0, h1, h2⟩)
    · refine ⟨by omega, ?_, ?_⟩
      · show (k : Int) < ((max S.used (k + 1) : Nat) : Int); omega
      · show upd S.is k 1 (k : Int).toNat ≠ 0
        rw [show (k : Int).toNat = k from rfl, upd_same]
        decide
    · refine ⟨h0, ?_, ?_⟩
      · show a < ((max S.used (k + 1) : Nat) : Int); omega
      · show upd S.is k 1 a.toNat ≠ 0
        unfold upd
        split
        · decide
        · exact h2
theorem Sim.put {S : Hs} {l : List Rc} {k : Nat} {x : Nd} (h : Sim S l) (hv : IsVac S k) : Sim (S.put k x) (l ++ [⟨k, x⟩]) := by
  have hnk : ∀ r ∈ l, r.at_ ≠ (k : Int) := fun r hr e => by
    have := h.mem.1 (List.mem_map.2 ⟨r, hr, e⟩)
    have h2 := (Hs.held_iff.1 this).2.2
    exact h2 hv.free
  refine ⟨fun a => ?_, fun r hr => ?_, ?_⟩
  · rw [held_put hv, ← h.at_ a]
    unfold hasAt
    rw [List.any_append, Bool.or_comm]
    congr 1
    rw [List.any_cons, List.any_nil, Bool.or_false, Bool.eq_iff_iff, decide_eq_true_eq, decide_eq_true_eq]
    exact eq_comm
  · show upd S.nd k x r.at_.toNat = r.x
    rcases List.mem_append.1 hr with q | q
    · have h0 := (Hs.held_iff.1 (h.mem.1 (List.mem_map.2 ⟨r, q, rfl⟩))).1
      have := hnk r q
      rw [upd_other _ _ (by omega)]
      exact h.nd r q
    · rw [List.mem_singleton.1 q]
      exact upd_same _ _ _
  · rw [List.map_append, List.nodup_append]
    refine ⟨h.nodup, by simp, fun a ha b hb e => ?_⟩
    obtain ⟨r, hr, rfl⟩ := List.mem_map.1 ha
    simp at hb
    exact hnk r hr (e.trans hb)
theorem Sim.set {S : Hs} {l : List Rc} {m i : Nat} {r : Rc} {x : Nd} (h : Sim S l) (hi : l[i]? = some r) (hr : r.at_ = (m : Int)) : Sim (S.set m x) (l.set i ⟨m, x⟩) := by
  have hil : i < l.length := (List.getElem?_eq_some_iff.1 hi).1
  have hmap : (l.set i ⟨m, x⟩).map (·.at_) = l.map (·.at_) := by
    apply List.ext_getElem?
    intro j
    rw [List.getElem?_map, List.getElem?_map, List.getElem?_set]
    by_cases e : i = j
    · subst e
      rw [if_pos rfl, if_pos hil, hi]
      show some (m : Int) = some r.at_
      rw [hr]
    · rw [if_neg e]
  refine ⟨fun a => ?_, fun s hs => ?_, by rw [hmap]; exact h.nodup⟩
  · rw [show (S.set m x).held a = S.held a from rfl, ← h.at_ a, Bool.eq_iff_iff, hasAt_iff, hasAt_iff]
    have h1 : (∃ s ∈ l.set i ⟨m, x⟩, s.at_ = a) ↔ a ∈ (l.set i ⟨m, x⟩).map (·.at_) := by rw [List.mem_map]
    have h2 : (∃ s ∈ l, s.at_ = a) ↔ a ∈ l.map (·.at_) := by rw [List.mem_map]
    rw [h1, h2, hmap]
  · show upd S.nd m x s.at_.toNat = s.x
    obtain ⟨j, hj, e⟩ := List.getElem_of_mem hs
    have hjs : (l.set i ⟨m, x⟩)[j]? = some s := by rw [List.getElem?_eq_getElem hj, e]
    rw [List.getElem?_set] at hjs
    by_cases eq : i = j
    · subst eq
      rw [if_pos rfl, if_pos hil] at hjs
      injection hjs with hjs
      subst hjs
      exact upd_same _ _ _
    · rw [if_neg eq] at hjs
      have hmem := List.mem_of_getElem? hjs
      have h0 := (Hs.held_iff.1 (h.mem.1 (List.mem_map.2 ⟨s, hmem, rfl⟩))).1
      have hne : s.at_ ≠ (m : Int) := fun q => by
        have hj1 : (l.map (·.at_))[j]? = some (m : Int) := by rw [List.getElem?_map, hjs]; exact congrArg some q
        have hi1 : (l.map (·.at_))[i]? = some (m : Int) := by rw [List.getElem?_map, hi]; exact congrArg some hr
        obtain ⟨a1, b1⟩ := List.getElem?_eq_some_iff.1 hj1
        obtain ⟨a2, b2⟩ := List.getElem?_eq_some_iff.1 hi1
        rcases Nat.lt_or_gt_of_ne eq with q1 | q1
        · exact List.pairwise_iff_getElem.1 h.nodup i j a2 a1 q1 (b2.trans b1.symm)
        · exact List.pairwise_iff_getElem.1 h.nodup j i a1 a2 q1 (b1.trans b2.symm)
      rw [upd_other _ _ (by omega)]
      exact h.nd s hmem
theorem Sim.coll {S S' : Hs} {l : List Rc} {roots : List Int} (g : Good S) (h : Sim S l) (hr : ∀ x ∈ roots, S.held x = true) (hc : Coll S roots S') (keep : List Int) (hk : ∀ x, x ∈ keep ↔ Rch S roots x) : Sim S' (l.filter fun r => decide (r.at_ ∈ keep)) := by
  refine ⟨fun a => ?_, fun r hm => ?_, ?_⟩
  · rw [Bool.eq_iff_iff, hasAt_iff, Hs.held_iff]
    constructor
    · rintro ⟨r, hm, rfl⟩
      rw [List.mem_filter, decide_eq_true_eq, hk] at hm
      have h0 := (Hs.held_iff.1 (h.mem.1 (List.mem_map.2 ⟨r, hm.1, rfl⟩))).1
      have h1 := hc.yes r.at_.toNat (by rw [show ((r.at_.toNat : Nat) : Int) = r.at_ by omega]; exact hm.2)
      refine ⟨h0, ?_, by omega⟩
      apply Classical.byContradiction
      intro q
      have := hc.good.above r.at_.toNat (by omega)
      omega
    · rintro ⟨h0, h1, h2⟩
      have hR : Rch S roots a := Classical.byContradiction fun q => h2 (hc.no a.toNat (by rw [show ((a.toNat : Nat) : Int) = a by omega]; exact q))
      have hh := hR.held g hr
      obtain ⟨r, hrm, he⟩ := List.mem_map.1 (h.mem.2 hh)
      exact ⟨r, by rw [List.mem_filter, decide_eq_true_eq, hk, he]; exact ⟨hrm, hR⟩, he⟩
  · rw [hc.nd]
    exact h.nd r (List.mem_filter.1 hm).1
  · exact List.Nodup.sublist ((List.filter_sublist).map _) h.nodup
end Go.Proofs.Ytbkklnihgejeoaa.Hp
