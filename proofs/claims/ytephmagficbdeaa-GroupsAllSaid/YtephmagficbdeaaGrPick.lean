/-
  PLAIN MATHEMATICS for the document's Groups of layer group: the least ready group is picked, again and again, till all are picked. No program in sight.
-/
import Derived.Test.YtephmagficbdeaaGrRef
namespace Go.Proofs.Ytephmagficbdeaa.Gr
set_option linter.unusedVariables false
/-- a thing is done -/
def Dn (l : List (List Nat)) (y : Nat) : Prop := ∃ C ∈ l, y ∈ C
/-- groups picked so far; no thing ahead of k can be picked -/
structure Pick (g l : List (List Nat)) (k : Nat) : Prop where
  cl : ∀ C ∈ l, ∃ x, x < g.length ∧ C = cls g x
  nd : l.Nodup
  rdy : ∀ (i : Nat) C, l[i]? = some C → Ready g (l.take i) C
  least : ∀ (i : Nat) C, l[i]? = some C → ∀ y, y < hd C → Dn (l.take i) y ∨ ¬ Ready g (l.take i) (cls g y)
  cur : ∀ y, y < k → Dn l y ∨ ¬ Ready g l (cls g y)
theorem cls_class {g : List (List Nat)} (hg : ∀ x < g.length, ∀ y ∈ U g x, y < g.length) {x : Nat} (hx : x < g.length) : Rising (cls g x) ∧ cls g x ≠ [] ∧ ∀ a ∈ cls g x, ∀ y, y ∈ cls g x ↔ Mut g a y := by
  have hlt : ∀ {a y : Nat}, a < g.length → Mut g a y → y < g.length := fun {a y} ha hm => hm.1.closed (P := fun z => z < g.length) (fun z hz b hb => hg z hz b hb) ha
  refine ⟨cls_rising g x, (fun e => by have := cls_self hx; rw [e] at this; simp at this), fun a ha y => ?_⟩
  have hal := cls_lt ha
  have h1 := (cls_mem hal).1 ha
  constructor
  · intro hy
    exact h1.symm.trans ((cls_mem (cls_lt hy)).1 hy)
  · intro hm
    exact (cls_mem (hlt hal hm)).2 (h1.trans hm)
section
variable {g l : List (List Nat)} {k : Nat}
theorem Pick.sc (hg : ∀ x < g.length, ∀ y ∈ U g x, y < g.length) (h : Pick g l k) {C : List Nat} (hC : C ∈ l) : Rising C ∧ C ≠ [] ∧ ∀ a ∈ C, ∀ y, y ∈ C ↔ Mut g a y := by
  obtain ⟨x, hx, rfl⟩ := h.cl C hC
  exact cls_class hg hx
theorem Pick.start (g : List (List Nat)) : Pick g [] 0 := ⟨by simp, by simp, by simp, by simp, by simp⟩
theorem Pick.skip (h : Pick g l k) (hk : Dn l k ∨ ¬ Ready g l (cls g k)) : Pick g l (k + 1) :=
  ⟨h.cl, h.nd, h.rdy, h.least, fun y hy => by
    by_cases e : y = k
    · rw [e]; exact hk
    · exact h.cur y (by omega)⟩
theorem Pick.pick (h : Pick g l k) (hk : k < g.length) (h1 : ¬ Dn l k) (h2 : Ready g l (cls g k)) : Pick g (l ++ [cls g k]) 0 := by
  have hmem := cls_self hk
  have hcase : ∀ (i : Nat) C, (l ++ [cls g k])[i]? = some C → (l[i]? = some C ∧ (l ++ [cls g k]).take i = l.take i) ∨ (C = cls g k ∧ (l ++ [cls g k]).take i = l) := by
    intro i C hC
    by_cases hi : i < l.length
    · rw [List.getElem?_append_left hi] at hC
      exact .inl ⟨hC, List.take_append_of_le_length (by omega)⟩
    · have hi0 : i - l.length = 0 := by
        rcases Nat.eq_zero_or_pos (i - l.length) with e | e
        · exact e
        · rw [List.getElem?_append_right (by omega), List.getElem?_eq_none (by simp; omega)] at hC; cases hC
      rw [List.getElem?_append_right (by omega), hi0] at hC
      simp at hC
      have : i = l.length := by omega
      subst this
      exact .inr ⟨hC.symm, List.take_left⟩
  refine ⟨fun C hC => ?_, ?_, fun i C hC => ?_, fun i C hC y hy => ?_, fun y hy => absurd hy (Nat.not_lt_zero y)⟩
  · rcases List.mem_append.1 hC with e | e
    · exact h.cl C e
    · simp at e; exact ⟨k, hk, e⟩
  · rw [List.nodup_append]
    refine ⟨h.nd, by simp, fun a ha b hb e => ?_⟩
    simp at hb
    subst hb e
    exact h1 ⟨_, ha, hmem⟩
  · rcases hcase i C hC with ⟨e1, e2⟩ | ⟨rfl, e2⟩
    · rw [e2]; exact h.rdy i C e1
    · rw [e2]; exact h2
  · rcases hcase i C hC with ⟨e1, e2⟩ | ⟨rfl, e2⟩
    · rw [e2]; exact h.least i C e1 y hy
    · rw [e2]
      exact h.cur y (Nat.lt_of_lt_of_le hy (hd_le (cls_rising g k) hmem))
theorem Pick.len (hg : ∀ x < g.length, ∀ y ∈ U g x, y < g.length) (h : Pick g l k) : l.length ≤ g.length := by
  have h1 : (l.map hd).Nodup := by
    refine List.pairwise_map.2 ((List.Pairwise.and_mem.1 h.nd).imp fun {C D} hcd e => ?_)
    have hC := h.sc hg hcd.1
    have hD := h.sc hg hcd.2.1
    exact hcd.2.2 (class_eq hC hD (hd_mem hC.2.1) (e ▸ hd_mem hD.2.1))
  have := nodup_le (k := g.length) h1 (fun i hi => by
    obtain ⟨C, hC, rfl⟩ := List.mem_map.1 hi
    obtain ⟨x, hx, rfl⟩ := h.cl C hC
    exact cls_lt (hd_mem (cls_class hg hx).2.1))
  simpa using this
/-- what the done ones need is done -/
theorem Pick.closed (h : Pick g l k) {y u : Nat} (hy : Dn l y) (hu : u ∈ U g y) : Dn l u := by
  obtain ⟨C, hC, hyC⟩ := hy
  obtain ⟨i, hi⟩ := List.getElem?_of_mem hC
  rcases h.rdy i C hi y hyC u hu with e | ⟨D, hD, e⟩
  · exact ⟨C, hC, e⟩
  · exact ⟨D, List.mem_of_mem_take hD, e⟩
/-- the document's test -/
theorem Pick.ready_iff (hg : ∀ x < g.length, ∀ y ∈ U g x, y < g.length) (h : Pick g l k) {c x : Nat} (hc : c < g.length) (hx : x ∈ cls g c) :
    Ready g l (cls g c) ↔ ∀ i, i < g.length → Wk g g.length x i = true → Dn l i ∨ Wk g g.length i x = true := by
  have hcl := (cls_class hg hc).2.2 x hx
  have hxl := cls_lt hx
  constructor
  · intro hr i hi hw
    have hs : i ∈ cls g c ∨ Dn l i := by
      refine (Wk.needs hw).star.closed (P := fun a => a ∈ cls g c ∨ Dn l a) (fun a ha b hb => ?_) (.inl hx)
      rcases ha with e | e
      · exact hr a e b hb
      · exact .inr (h.closed e hb)
    rcases hs with e | e
    · rcases mut_iff.1 ((hcl i).1 e) with e2 | ⟨_, e2⟩
      · subst e2; exact .inr hw
      · exact .inr (Wk.iff.2 e2)
    · exact .inl e
  · intro hall a ha u hu
    have hxa := ((hcl a).1 ha).1
    have hn : Needs g x u := by
      rcases hxa.cases' with e | ⟨z, hz, hs⟩
      · subst e; exact ⟨u, hu, .refl u⟩
      · exact ⟨z, hz, .more hs hu⟩
    have hul := hg a (cls_lt ha) u hu
    rcases hall u hul (Wk.iff.2 hn) with e | e
    · exact .inr e
    · exact .inl ((hcl u).2 ⟨hn.star, (Wk.needs e).star⟩)
/-- when none is left to be picked, all are -/
theorem Pick.canon (hg : ∀ x < g.length, ∀ y ∈ U g x, y < g.length) {gs : List (List Nat)} (hp : Parted g gs) (h : Pick g l k) (hk : g.length ≤ k) : Canon g l := by
  have hall : ∀ x, x < g.length → Dn l x := by
    intro x hx
    refine Classical.byContradiction fun hn => ?_
    obtain ⟨C0, hC0, hx0⟩ := hp.cov x hx
    obtain ⟨C, hC, hCl, hr⟩ := hp.ready hg l ⟨C0, hC0, fun e => hn ⟨C0, e, hx0⟩⟩
    have hsC := hp.sc C hC
    have hy := hd_mem hsC.2.1
    have hyl := hp.rng C hC _ hy
    have e : C = cls g (hd C) := class_eq hsC (cls_class hg hyl) hy (cls_self hyl)
    rcases h.cur (hd C) (by omega) with ⟨D, hD, hyD⟩ | e2
    · exact hCl (class_eq (h.sc hg hD) hsC hyD hy ▸ hD)
    · exact e2 (e ▸ hr)
  have hidx : ∀ (i j : Nat) C, l[i]? = some C → l[j]? = some C → i = j := by
    intro i j C h1 h2
    obtain ⟨hi, e1⟩ := List.getElem?_eq_some_iff.1 h1
    obtain ⟨hj, e2⟩ := List.getElem?_eq_some_iff.1 h2
    rcases Nat.lt_trichotomy i j with q | q | q
    · exact absurd (e1.trans e2.symm) ((List.pairwise_iff_getElem.1 h.nd) i j hi hj q)
    · exact q
    · exact absurd (e2.trans e1.symm) ((List.pairwise_iff_getElem.1 h.nd) j i hj hi q)
  refine ⟨⟨fun C hC => h.sc hg hC, fun x hx => hall x hx, fun C hC x hx => ?_, h.nd⟩, h.rdy, fun i C hC j D hij hD hr => ?_⟩
  · obtain ⟨y, hy, rfl⟩ := h.cl C hC
    exact cls_lt hx
  · have hCl := List.mem_of_getElem? hC
    have hDl := List.mem_of_getElem? hD
    have hsC := h.sc hg hCl
    have hsD := h.sc hg hDl
    have hy := hd_mem hsD.2.1
    obtain ⟨z, hz, eD⟩ := h.cl D hDl
    have hyl : hd D < g.length := by rw [eD] at hy ⊢; exact cls_lt hy
    refine Nat.lt_of_not_le fun hle => ?_
    rcases Nat.lt_or_eq_of_le hle with hlt | heq
    · rcases h.least i C hC (hd D) hlt with ⟨D', hD', hyD'⟩ | e2
      · have hD'l := List.mem_of_mem_take hD'
        have e := class_eq (h.sc hg hD'l) hsD hyD' hy
        subst e
        obtain ⟨q, hq, e⟩ := List.mem_take_iff_getElem.1 hD'
        have := hidx q j D' (by rw [List.getElem?_eq_getElem (by omega), e]) hD
        omega
      · exact e2 (class_eq hsD (cls_class hg hyl) hy (cls_self hyl) ▸ hr)
    · have e := class_eq hsC hsD (hd_mem hsC.2.1) (heq ▸ hy)
      subst e
      have := hidx i j C hC hD
      omega
end
end Go.Proofs.Ytephmagficbdeaa.Gr
