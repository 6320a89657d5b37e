/-
  PLAIN MATHEMATICS of layer group: groups put in order: what each one waits for. No program in sight.
-/
import Derived.Test.YtephmagficbdeaaGrMath2
namespace Go.Proofs.Ytephmagficbdeaa.Gr
set_option linter.unusedVariables false
/-- the place of a thing's group -/
def ofG (gs : List (List Nat)) (u : Nat) : Nat := gs.findIdx fun C => decide (u ∈ C)
/-- the places of the groups that a group's things use, one by one -/
def tg (g gs : List (List Nat)) (i : Nat) : List Nat := ((gs.getD i []).flatMap (U g)).map (ofG gs)
/-- one group uses another one -/
def E (g gs : List (List Nat)) (i h : Nat) : Bool := decide (h ∈ tg g gs i) && decide (h ≠ i)
/-- how many others a group waits for; -1, if it stands -/
def mis (g gs : List (List Nat)) (D : List Nat) (i : Nat) : Int :=
  if i ∈ D then -1 else (((List.range gs.length).filter fun h => E g gs i h && decide (h ∉ D)).length : Int)
def users (g gs : List (List Nat)) (h : Nat) : List Nat := (List.range gs.length).filter fun i => E g gs i h
section
variable {g gs : List (List Nat)}
theorem Parted.ofG_lt (h : Parted g gs) {u : Nat} (hu : u < g.length) : ofG gs u < gs.length := by
  obtain ⟨C, hC, hx⟩ := h.cov u hu
  exact List.findIdx_lt_length_of_exists ⟨C, hC, by simpa using hx⟩
theorem getD_mem {i : Nat} (hi : i < gs.length) : gs.getD i [] ∈ gs := by
  rw [List.getD_eq_getElem?_getD, List.getElem?_eq_getElem hi]
  exact List.getElem_mem hi
theorem Parted.ofG_mem (h : Parted g gs) {u : Nat} (hu : u < g.length) : u ∈ gs.getD (ofG gs u) [] := by
  have hl := h.ofG_lt hu
  rw [List.getD_eq_getElem?_getD, List.getElem?_eq_getElem hl]
  have := List.findIdx_getElem (p := fun C => decide (u ∈ C)) (xs := gs) (w := hl)
  exact of_decide_eq_true this
theorem Parted.getD_inj (h : Parted g gs) {i j : Nat} (hi : i < gs.length) (hj : j < gs.length) (e : gs.getD i [] = gs.getD j []) : i = j := by
  rw [List.getD_eq_getElem?_getD, List.getD_eq_getElem?_getD, List.getElem?_eq_getElem hi, List.getElem?_eq_getElem hj] at e
  rcases Nat.lt_trichotomy i j with hlt | rfl | hlt
  · exact absurd e ((List.pairwise_iff_getElem.1 h.nd) i j hi hj hlt)
  · rfl
  · exact absurd e.symm ((List.pairwise_iff_getElem.1 h.nd) j i hj hi hlt)
theorem Parted.ofG_eq (h : Parted g gs) {u i : Nat} (hi : i < gs.length) (hu : u ∈ gs.getD i []) : ofG gs u = i := by
  have hul := h.rng _ (getD_mem hi) u hu
  exact h.getD_inj (h.ofG_lt hul) hi (h.eq (getD_mem (h.ofG_lt hul)) (getD_mem hi) (h.ofG_mem hul) hu)
theorem Parted.tg_lt (hg : ∀ x < g.length, ∀ y ∈ U g x, y < g.length) (h : Parted g gs) {i j : Nat} (hi : i < gs.length) (hj : j ∈ tg g gs i) : j < gs.length := by
  obtain ⟨u, hu, rfl⟩ := List.mem_map.1 hj
  obtain ⟨x, hx, hu⟩ := List.mem_flatMap.1 hu
  exact h.ofG_lt (hg x (h.rng _ (getD_mem hi) x hx) u hu)
/-- a group is ready just if it waits for none -/
theorem Parted.ready_iff (hg : ∀ x < g.length, ∀ y ∈ U g x, y < g.length) (h : Parted g gs) {D : List Nat} (hD : ∀ i ∈ D, i < gs.length) {i : Nat} (hi : i < gs.length) (hn : i ∉ D) :
    mis g gs D i = 0 ↔ Ready g (D.map fun j => gs.getD j []) (gs.getD i []) := by
  unfold mis
  rw [if_neg hn]
  constructor
  · intro h0 x hx u hu
    have hul := hg x (h.rng _ (getD_mem hi) x hx) u hu
    have hmem : ofG gs u ∈ tg g gs i := List.mem_map.2 ⟨u, List.mem_flatMap.2 ⟨x, hx, hu⟩, rfl⟩
    by_cases e : ofG gs u = i
    · left; rw [← e]; exact h.ofG_mem hul
    · right
      refine ⟨_, List.mem_map.2 ⟨ofG gs u, ?_, rfl⟩, h.ofG_mem hul⟩
      refine Classical.byContradiction fun hnd => ?_
      have : ofG gs u ∈ (List.range gs.length).filter fun h => E g gs i h && decide (h ∉ D) :=
        List.mem_filter.2 ⟨List.mem_range.2 (h.ofG_lt hul), by simp [E, hmem, e, hnd]⟩
      have := List.length_pos_of_mem this
      omega
  · intro hr
    have : (List.range gs.length).filter (fun h => E g gs i h && decide (h ∉ D)) = [] := by
      rw [List.filter_eq_nil_iff]
      intro j hj hx
      simp only [E, Bool.and_eq_true, decide_eq_true_eq] at hx
      obtain ⟨⟨h1, h2⟩, h3⟩ := hx
      obtain ⟨u, hu, rfl⟩ := List.mem_map.1 h1
      obtain ⟨x, hx, hu⟩ := List.mem_flatMap.1 hu
      rcases hr x hx u hu with e | ⟨C, hC, e⟩
      · exact h2 (h.ofG_eq hi e)
      · obtain ⟨q, hq, rfl⟩ := List.mem_map.1 hC
        exact h3 (by rw [h.ofG_eq (hD q hq) e]; exact hq)
    rw [this]
    rfl
/-- what stands: groups all of whose needs stand, each when it was put there -/
structure Stand (g gs : List (List Nat)) (D : List Nat) : Prop where
  lt : ∀ i ∈ D, i < gs.length
  nd : D.Nodup
  cl : ∀ i ∈ D, ∀ h, E g gs i h = true → h ∈ D
  rdy : ∀ (n i : Nat), D[n]? = some i → mis g gs (D.take n) i = 0
  least : ∀ (n i : Nat), D[n]? = some i → ∀ j, j < i → mis g gs (D.take n) j ≠ 0
theorem Stand.nil : Stand g gs [] := ⟨by simp, by simp, by simp, by simp, by simp⟩
theorem Stand.more (hg : ∀ x < g.length, ∀ y ∈ U g x, y < g.length) (hp : Parted g gs) {D : List Nat} (h : Stand g gs D) {x : Nat} (hx : x < gs.length) (h0 : mis g gs D x = 0) (hl : ∀ j, j < x → mis g gs D j ≠ 0) : Stand g gs (D ++ [x]) := by
  have hxn : x ∉ D := fun e => by simp [mis, e] at h0
  have key : ∀ n i, (D ++ [x])[n]? = some i → (D[n]? = some i ∧ (D ++ [x]).take n = D.take n) ∨ (n = D.length ∧ i = x ∧ (D ++ [x]).take n = D) := fun n i hi => by
    rcases Nat.lt_or_ge n D.length with e | e
    · left
      rw [List.getElem?_append_left e] at hi
      exact ⟨hi, List.take_append_of_le_length (by omega)⟩
    · right
      have hn : n = D.length := by
        have := (List.getElem?_eq_some_iff.1 hi).1
        simp at this; omega
      subst hn
      rw [List.getElem?_append_right (Nat.le_refl _)] at hi
      simp only [Nat.sub_self, List.getElem?_cons_zero, Option.some.injEq] at hi
      exact ⟨rfl, hi.symm, List.take_left' rfl⟩
  refine ⟨fun i hi => ?_, ?_, fun i hi j hj => ?_, fun n i hi => ?_, fun n i hi => ?_⟩
  · rcases List.mem_append.1 hi with e | e
    · exact h.lt i e
    · simp only [List.mem_singleton] at e; subst e; exact hx
  · rw [List.nodup_append]
    exact ⟨h.nd, by simp, fun a ha b hb => by simp only [List.mem_singleton] at hb; subst hb; intro e; subst e; exact hxn ha⟩
  · rcases List.mem_append.1 hi with e | e
    · exact List.mem_append.2 (.inl (h.cl i e j hj))
    · simp only [List.mem_singleton] at e
      subst e
      refine List.mem_append.2 (.inl (Classical.byContradiction fun hn => ?_))
      have hjl : j < gs.length := by
        simp only [E, Bool.and_eq_true, decide_eq_true_eq] at hj
        exact hp.tg_lt hg hx hj.1
      have : j ∈ (List.range gs.length).filter fun h => E g gs i h && decide (h ∉ D) := List.mem_filter.2 ⟨List.mem_range.2 hjl, by simp [hj, hn]⟩
      have := List.length_pos_of_mem this
      unfold mis at h0
      rw [if_neg hxn] at h0
      omega
  · rcases key n i hi with ⟨e1, e2⟩ | ⟨rfl, rfl, e2⟩
    · rw [e2]; exact h.rdy n i e1
    · rw [e2]; exact h0
  · rcases key n i hi with ⟨e1, e2⟩ | ⟨rfl, rfl, e2⟩
    · rw [e2]; exact h.least n i e1
    · rw [e2]; exact hl
theorem nodup_le2 : ∀ {D : List Nat}, D.Nodup → ∀ {R : List Nat}, (∀ i ∈ D, i ∈ R) → D.length ≤ R.length
  | [], _, _, _ => by simp
  | a :: D, hd, R, hR => by
    have := nodup_le2 (List.nodup_cons.1 hd).2 (R := R.erase a) (fun i hi => (List.mem_erase_of_ne (by intro e; subst e; exact (List.nodup_cons.1 hd).1 hi)).2 (hR i (List.mem_cons_of_mem _ hi)))
    rw [List.length_erase_of_mem (hR a (by simp))] at this
    have := List.length_pos_of_mem (hR a (by simp))
    simp; omega
theorem nodup_full {k : Nat} {D : List Nat} (h1 : D.Nodup) (h2 : ∀ i ∈ D, i < k) (h3 : D.length = k) : ∀ i < k, i ∈ D := by
  intro i hi
  refine Classical.byContradiction fun hn => ?_
  have := nodup_le2 (List.nodup_cons.2 ⟨hn, h1⟩) (R := List.range k) (fun j hj => by
    rcases List.mem_cons.1 hj with rfl | e
    · simpa using hi
    · simpa using h2 j e)
  simp at this
  omega
theorem nodup_le {k : Nat} {D : List Nat} (h1 : D.Nodup) (h2 : ∀ i ∈ D, i < k) : D.length ≤ k := by
  refine Classical.byContradiction fun hn => ?_
  have h3 := nodup_full (k := k) (D := D.take k) (h1.sublist (List.take_sublist _ _)) (fun i hi => h2 i (List.mem_of_mem_take hi)) (by rw [List.length_take]; omega)
  have hl : k < D.length := by omega
  have := h2 D[k] (List.getElem_mem hl)
  obtain ⟨j, hj, e⟩ := List.mem_take_iff_getElem.1 (h3 _ this)
  exact (List.pairwise_iff_getElem.1 h1) j k (by omega) hl (by omega) e
/-- the groups with the least first numbers first: which of two has the lesser one -/
def ByHead (gs : List (List Nat)) : Prop := ∀ i j, i < j → j < gs.length → hd (gs.getD i []) < hd (gs.getD j [])
/-- one that is ready is there, as long as not all stand -/
theorem Stand.some (hg : ∀ x < g.length, ∀ y ∈ U g x, y < g.length) (hp : Parted g gs) {D : List Nat} (h : Stand g gs D) (hl : D.length < gs.length) : ∃ x, x < gs.length ∧ mis g gs D x = 0 ∧ ∀ j, j < x → mis g gs D j ≠ 0 := by
  have hex : ∃ i, i < gs.length ∧ i ∉ D := by
    refine Classical.byContradiction fun hn => ?_
    have hall : ∀ i < gs.length, i ∈ D := fun i hi => Classical.byContradiction fun e => hn ⟨i, hi, e⟩
    have hsz := nodup_le2 (List.nodup_range (n := gs.length)) (fun i hi => hall i (by simpa using hi))
    rw [List.length_range] at hsz
    omega
  obtain ⟨i, hi, hin⟩ := hex
  obtain ⟨C, hC, hCn, hr⟩ := hp.ready hg (D.map fun j => gs.getD j []) ⟨gs.getD i [], getD_mem hi, fun e => by
    obtain ⟨q, hq, e⟩ := List.mem_map.1 e
    exact hin (hp.getD_inj (h.lt q hq) hi e ▸ hq)⟩
  obtain ⟨q, hq, e⟩ := List.mem_iff_getElem.1 hC
  have eq : gs.getD q [] = C := by rw [List.getD_eq_getElem?_getD, List.getElem?_eq_getElem hq]; exact e
  have hqD : q ∉ D := fun e' => hCn (List.mem_map.2 ⟨q, e', eq⟩)
  have hq0 : mis g gs D q = 0 := (hp.ready_iff hg h.lt hq hqD).2 (by rw [eq]; exact hr)
  obtain ⟨x, ⟨hx1, hx2⟩, hm⟩ := exists_least id (fun x => x < gs.length ∧ mis g gs D x = 0) ⟨q, hq, hq0⟩
  refine ⟨x, hx1, hx2, fun j hj e => ?_⟩
  have := hm j ⟨by omega, e⟩
  simp only [id] at this
  omega
theorem Stand.canon (hg : ∀ x < g.length, ∀ y ∈ U g x, y < g.length) (hp : Parted g gs) (hb : ByHead gs) {D : List Nat} (h : Stand g gs D) (hl : D.length = gs.length) : Canon g (D.map fun j => gs.getD j []) := by
  have hall := nodup_full h.nd h.lt hl
  have hmem : ∀ C, C ∈ (D.map fun j => gs.getD j []) ↔ C ∈ gs := fun C => by
    constructor
    · intro hC
      obtain ⟨i, hi, rfl⟩ := List.mem_map.1 hC
      exact getD_mem (h.lt i hi)
    · intro hC
      obtain ⟨q, hq, e⟩ := List.mem_iff_getElem.1 hC
      exact List.mem_map.2 ⟨q, hall q hq, by rw [List.getD_eq_getElem?_getD, List.getElem?_eq_getElem hq]; exact e⟩
  have hget : ∀ (n : Nat) C, (D.map fun j => gs.getD j [])[n]? = .some C → ∃ i, D[n]? = .some i ∧ C = gs.getD i [] := fun n C e => by
    rw [List.getElem?_map] at e
    cases hd : D[n]? with
    | none => rw [hd] at e; cases e
    | some i => rw [hd] at e; exact ⟨i, rfl, by simpa using e.symm⟩
  have hnt : ∀ (n i : Nat), D[n]? = .some i → i ∉ D.take n := fun n i e hm => by
    obtain ⟨hn, e⟩ := List.getElem?_eq_some_iff.1 e
    obtain ⟨j, hj, ej⟩ := List.mem_take_iff_getElem.1 hm
    exact (List.pairwise_iff_getElem.1 h.nd) j n (by omega) hn (by omega) (ej.trans e.symm)
  refine ⟨⟨fun C hC => hp.sc C ((hmem C).1 hC), fun x hx => ?_, fun C hC => hp.rng C ((hmem C).1 hC), ?_⟩, fun n C hC => ?_, fun n C hC m C' hnm hC' hr => ?_⟩
  · obtain ⟨C, hC, hx⟩ := hp.cov x hx
    exact ⟨C, (hmem C).2 hC, hx⟩
  · refine List.pairwise_map.2 ((List.Pairwise.and_mem.1 h.nd).imp fun {i j} hij e => ?_)
    exact hij.2.2 (hp.getD_inj (h.lt i hij.1) (h.lt j hij.2.1) e)
  · obtain ⟨i, hi, rfl⟩ := hget n C hC
    rw [← List.map_take]
    exact (hp.ready_iff hg (fun j hj => h.lt j (List.mem_of_mem_take hj)) (h.lt i (List.mem_of_getElem? hi)) (hnt n i hi)).1 (h.rdy n i hi)
  · obtain ⟨i, hi, rfl⟩ := hget n C hC
    obtain ⟨j, hj, rfl⟩ := hget m C' hC'
    have hjn : j ∉ D.take n := fun e => by
      obtain ⟨hm, e2⟩ := List.getElem?_eq_some_iff.1 hj
      obtain ⟨q, hq, eq⟩ := List.mem_take_iff_getElem.1 e
      exact (List.pairwise_iff_getElem.1 h.nd) q m (by omega) hm (by omega) (eq.trans e2.symm)
    rw [← List.map_take] at hr
    have h0 := (hp.ready_iff hg (fun j hj => h.lt j (List.mem_of_mem_take hj)) (h.lt j (List.mem_of_getElem? hj)) hjn).2 hr
    have hij : i ≠ j := fun e => by
      subst e
      obtain ⟨a1, a2⟩ := List.getElem?_eq_some_iff.1 hi
      obtain ⟨b1, b2⟩ := List.getElem?_eq_some_iff.1 hj
      exact (List.pairwise_iff_getElem.1 h.nd) n m a1 b1 hnm (a2.trans b2.symm)
    rcases Nat.lt_or_ge j i with e | e
    · exact absurd h0 (h.least n i hi j e)
    · exact hb i j (by omega) (h.lt j (List.mem_of_getElem? hj))
/-- what is counted once one more stands -/
theorem filter_drop_one (p : Nat → Bool) (D : List Nat) (x : Nat) (hx : x ∉ D) : ∀ (l : List Nat), l.Nodup →
    ((l.filter fun h => p h && decide (h ∉ D ++ [x])).length : Int) = (l.filter fun h => p h && decide (h ∉ D)).length - (if x ∈ l ∧ p x = true then 1 else 0)
  | [], _ => by simp
  | a :: l, hn => by
    have ih := filter_drop_one p D x hx l (List.nodup_cons.1 hn).2
    have hal := (List.nodup_cons.1 hn).1
    simp only [List.filter_cons]
    by_cases hax : a = x
    · subst hax
      have e1 : (if a ∈ l ∧ p a = true then (1 : Int) else 0) = 0 := if_neg fun e => hal e.1
      rw [e1] at ih
      have e2 : (p a && decide (a ∉ D ++ [a])) = false := by simp
      rw [e2]
      cases hp : p a with
      | true => simp [hx] at ih ⊢; omega
      | false => simp at ih ⊢; omega
    · have e2 : (p a && decide (a ∉ D ++ [x])) = (p a && decide (a ∉ D)) := by simp [hax]
      rw [e2]
      have e3 : (if x ∈ a :: l ∧ p x = true then (1 : Int) else 0) = if x ∈ l ∧ p x = true then 1 else 0 := by
        simp [show x ≠ a from fun e => hax e.symm]
      rw [e3]
      cases (p a && decide (a ∉ D)) with
      | true => simp at ih ⊢; omega
      | false => simpa using ih
theorem Stand.mis_more {D : List Nat} (h : Stand g gs D) {x : Nat} (hx : x < gs.length) (h0 : mis g gs D x = 0) (i : Nat) : mis g gs (D ++ [x]) i = if i = x then -1 else mis g gs D i - (if E g gs i x = true then 1 else 0) := by
  have hxn : x ∉ D := fun e => by simp [mis, e] at h0
  by_cases e : i = x
  · subst e; simp [mis]
  · rw [if_neg e]
    by_cases hi : i ∈ D
    · have : E g gs i x = false := by
        cases he : E g gs i x with
        | false => rfl
        | true => exact absurd (h.cl i hi x he) hxn
      simp [mis, hi, this]
    · unfold mis
      rw [if_neg (by simp [hi, e]), if_neg hi, filter_drop_one (fun h => E g gs i h) D x hxn _ List.nodup_range]
      simp [hx]
theorem mis_nil (i : Nat) : mis g gs [] i = (((List.range gs.length).filter fun h => E g gs i h).length : Int) := by
  simp [mis]
end
/-! one group's uses are gone through -/
/-- which groups were met, how many, and of each group those that use it -/
structure Sc where
  seen : Nat → Bool
  m : Nat
  us : Nat → List Nat
def Sc.step (s : Sc) (i h : Nat) : Sc := if s.seen h = true then s else ⟨upd s.seen h true, s.m + 1, upd s.us h (s.us h ++ [i])⟩
def Sc.start (i : Nat) (us : Nat → List Nat) : Sc := ⟨fun h => decide (h = i), 0, us⟩
structure ScInv (k i : Nat) (us : Nat → List Nat) (L : List Nat) (s : Sc) : Prop where
  seen : ∀ h, s.seen h = true ↔ h = i ∨ h ∈ L
  m : s.m = ((List.range k).filter fun h => decide (h ∈ L) && decide (h ≠ i)).length
  us : ∀ h, s.us h = us h ++ if h ∈ L ∧ h ≠ i then [i] else []
theorem ScInv.start (k i : Nat) (us : Nat → List Nat) : ScInv k i us [] (.start i us) := ⟨by simp [Sc.start], by rw [List.filter_eq_nil_iff.2 (by simp)]; rfl, by simp [Sc.start]⟩
theorem filter_add_one (p q : Nat → Bool) (x : Nat) (hp : p x = false) (hq : q x = true) (hpq : ∀ y, y ≠ x → q y = p y) : ∀ (l : List Nat), l.Nodup → x ∈ l → (l.filter q).length = (l.filter p).length + 1
  | [], _, h => by cases h
  | a :: l, hn, hx => by
    have hal := (List.nodup_cons.1 hn).1
    simp only [List.filter_cons]
    by_cases hax : a = x
    · subst hax
      have : l.filter q = l.filter p := List.filter_congr fun y hy => hpq y fun e => hal (e ▸ hy)
      rw [hp, hq, this]
      simp
    · have ih := filter_add_one p q x hp hq hpq l (List.nodup_cons.1 hn).2 ((List.mem_cons.1 hx).resolve_left fun e => hax e.symm)
      rw [hpq a hax]
      cases p a with
      | true => simp; exact ih
      | false => simpa using ih
theorem ScInv.step {k i : Nat} {us : Nat → List Nat} {L : List Nat} {s : Sc} (h : ScInv k i us L s) {x : Nat} (hx : x < k) : ScInv k i us (L ++ [x]) (s.step i x) := by
  unfold Sc.step
  cases hs : s.seen x with
  | true =>
    rw [if_pos rfl]
    have hx' := (h.seen x).1 hs
    have hiff : ∀ y, (y ∈ L ++ [x] ∧ y ≠ i) ↔ (y ∈ L ∧ y ≠ i) := fun y => by
      simp only [List.mem_append, List.mem_singleton]
      constructor
      · rintro ⟨h1 | rfl, h2⟩
        · exact ⟨h1, h2⟩
        · exact ⟨hx'.resolve_left h2, h2⟩
      · rintro ⟨h1, h2⟩; exact ⟨.inl h1, h2⟩
    refine ⟨fun y => ?_, ?_, fun y => ?_⟩
    · rw [h.seen]
      simp only [List.mem_append, List.mem_singleton]
      constructor
      · rintro (e | e)
        · exact .inl e
        · exact .inr (.inl e)
      · rintro (e | e | rfl)
        · exact .inl e
        · exact .inr e
        · exact hx'
    · rw [h.m]
      congr 1
      refine List.filter_congr fun y _ => ?_
      rw [← Bool.decide_and, ← Bool.decide_and]
      exact decide_eq_decide.2 (hiff y).symm
    · rw [h.us]
      congr 1
      exact ite_congr (propext (hiff y).symm) (fun _ => rfl) (fun _ => rfl)
  | false =>
    rw [if_neg (by simp)]
    have hx' : ¬ (x = i ∨ x ∈ L) := fun e => by rw [(h.seen x).2 e] at hs; cases hs
    have hxi : x ≠ i := fun e => hx' (.inl e)
    have hxL : x ∉ L := fun e => hx' (.inr e)
    refine ⟨fun y => ?_, ?_, fun y => ?_⟩
    · show upd s.seen x true y = true ↔ _
      by_cases e : y = x
      · subst e; rw [upd_same]; simp
      · rw [upd_ne _ _ e, h.seen]; simp [e]
    · show s.m + 1 = _
      rw [h.m]
      refine (filter_add_one _ _ x ?_ ?_ ?_ _ List.nodup_range (by simpa using hx)).symm
      · simp [hxL]
      · simp [hxi]
      · intro y e; simp [e]
    · show upd s.us x (s.us x ++ [i]) y = _
      by_cases e : y = x
      · subst e; rw [upd_same, h.us]; simp [hxL, hxi]
      · rw [upd_ne _ _ e, h.us]; simp [e]
theorem ScInv.done {g gs : List (List Nat)} {i : Nat} {us : Nat → List Nat} {s : Sc} (h : ScInv gs.length i us (tg g gs i) s) :
    (s.m : Int) = mis g gs [] i ∧ ∀ x, s.us x = us x ++ if E g gs i x = true then [i] else [] := by
  refine ⟨?_, fun x => ?_⟩
  · rw [h.m, mis_nil]
    rfl
  · rw [h.us]
    congr 1
    exact ite_congr (by simp [E]) (fun _ => rfl) (fun _ => rfl)
end Go.Proofs.Ytephmagficbdeaa.Gr
