/-
  WORDS on rows that a call has made: a value for each number; rows of numbers, one for each. Contract: what groups wait for.
-/
import Derived.Test.YtephmagficbdeaaGrH
namespace Go.Proofs.Ytephmagficbdeaa.Gr
open Go.RowKit Go.Shelf Go.Sort Mm Sp
set_option linter.unusedVariables false
set_option linter.unusedSimpArgs false
/-- the values F 0, F 1, .. -/
def fv (N : Nat) (F : Nat → Value) : List Value := (List.range N).map F
theorem fv_length (N : Nat) (F : Nat → Value) : (fv N F).length = N := by simp [fv]
theorem fv_get {N : Nat} {F : Nat → Value} {i : Nat} (h : i < N) : (fv N F)[i]? = some (F i) := by simp [fv, h]
theorem fv_set {N : Nat} {F : Nat → Value} {i : Nat} (u : Value) (h : i < N) : (fv N F).set i u = fv N (upd F i u) := by
  apply List.ext_getElem?
  intro j
  rw [List.getElem?_set]
  by_cases e : i = j
  · subst e; rw [if_pos rfl, if_pos (by rw [fv_length]; exact h), fv_get h, upd_same]
  · rw [if_neg e]
    by_cases hj : j < N
    · rw [fv_get hj, fv_get hj, upd_ne _ _ (fun e' => e e'.symm)]
    · rw [List.getElem?_eq_none (by rw [fv_length]; omega), List.getElem?_eq_none (by rw [fv_length]; omega)]
theorem fv_made (n : Nat) (z : Value) : (madeCells #[z] n).toList = fv n fun _ => z := by
  rw [toList_madeCells_one]
  apply List.ext_getElem?
  intro j
  by_cases hj : j < n
  · rw [fv_get hj]; simp [hj]
  · rw [List.getElem?_eq_none (by simp; omega), List.getElem?_eq_none (by rw [fv_length]; omega)]
theorem upd_map {α β : Type} (f : α → β) (F : Nat → α) (i : Nat) (x : α) : upd (fun j => f (F j)) i (f x) = fun j => f (upd F i x j) := by
  funext j
  unfold upd
  split <;> rfl
/-- rows of numbers of the call's own, one for each number below k; none shares a block with another one, nor with those of X -/
structure Lists (B : Nat) (w : World) (X : Nat → Prop) (k : Nat) (us : Nat → List Nat) (V : Nat → Value) : Prop where
  own : ∀ h, h < k → w.ownsRow B TI 1 (V h) (us h).length (nv (us h))
  ap : ∀ h h', h < k → h' < k → h ≠ h' → ∀ b, (V h).ownBlock = some b → (V h').ownBlock ≠ some b
  far : ∀ h, h < k → ∀ b, (V h).ownBlock = some b → ¬ X b
section
variable {B : Nat} {w w' : World} {X : Nat → Prop} {k : Nat} {us : Nat → List Nat} {V : Nat → Value}
theorem Lists.none (B : Nat) (w : World) (X : Nat → Prop) (k : Nat) : Lists B w X k (fun _ => []) (fun _ => .slice none 0 0) :=
  ⟨fun h _ => World.ownsRow_nil _ _ _ _, fun _ _ _ _ _ b hb => by simp [Value.ownBlock] at hb, fun _ _ b hb => by simp [Value.ownBlock] at hb⟩
theorem Lists.alloc (h : Lists B w X k us V) (o : Obj) : Lists B (w.alloc o) X k us V := ⟨fun j hj => (h.own j hj).alloc o, h.ap, h.far⟩
theorem Lists.grown {row : Option Nat} (h : Lists B w X k us V) (hg : w.grownBy w' row) (hX : ∀ b, row = some b → X b) : Lists B w' X k us V :=
  ⟨fun j hj => (h.own j hj).kept hg (by
    cases e : (V j).ownBlock with
    | none => exact .inl rfl
    | some b => exact .inr fun e2 => h.far j hj b e (hX b e2.symm)), h.ap, h.far⟩
theorem Lists.set (h : Lists B w X k us V) {a : Addr} (ha : X a.block) (u : Value) : Lists B (w.setCell a u) X k us V :=
  ⟨fun j hj => ownsRow_setCell_other (h.own j hj) (fun e => h.far j hj a.block e ha) u, h.ap, h.far⟩
theorem Lists.mono {Y : Nat → Prop} (h : Lists B w X k us V) (hY : ∀ b, b < w.heap.size → Y b → X b) : Lists B w Y k us V :=
  ⟨h.own, h.ap, fun j hj b hb hy => h.far j hj b hb (hY b ((h.own j hj).lt b hb).2 hy)⟩
/-- one of them is appended to -/
theorem Lists.app (h : Lists B w X k us V) {i n : Nat} (hi : i < k) {v' : Value} (hown : w'.ownsRow B TI 1 v' ((us i).length + 1) (nv (us i) ++ [.int .i64 n])) (hgrow : w.grownBy w' (V i).ownBlock) (hat : v'.ownBlock = (V i).ownBlock ∨ v'.ownBlock = some w.heap.size) (hX : ∀ b, X b → b < w.heap.size) :
    Lists B w' X k (upd us i (us i ++ [n])) (upd V i v') := by
  have hnew : ∀ b, v'.ownBlock = some b → (V i).ownBlock = some b ∨ b = w.heap.size := fun b hb => by
    rcases hat with e | e
    · exact .inl (e.symm.trans hb)
    · rw [e] at hb; simp at hb; exact .inr hb.symm
  refine ⟨fun j hj => ?_, fun j j' hj hj' hne b hb => ?_, fun j hj b hb => ?_⟩
  · by_cases e : j = i
    · subst e
      rw [upd_same, upd_same]
      simpa [nv] using hown
    · rw [upd_ne _ _ e, upd_ne _ _ e]
      refine (h.own j hj).kept hgrow ?_
      cases e2 : (V j).ownBlock with
      | none => exact .inl rfl
      | some b => exact .inr fun e3 => h.ap j i hj hi e b e2 e3.symm
  · by_cases e : j = i
    · subst e
      rw [upd_same] at hb
      rw [upd_ne _ _ (fun e => hne e.symm)]
      intro hb2
      rcases hnew b hb with e2 | e2
      · exact h.ap j j' hj hj' hne b e2 hb2
      · have := ((h.own j' hj').lt b hb2).2; omega
    · rw [upd_ne _ _ e] at hb
      by_cases e' : j' = i
      · subst e'
        rw [upd_same]
        intro hb2
        rcases hnew b hb2 with e2 | e2
        · exact h.ap j j' hj hj' hne b hb e2
        · have := ((h.own j hj).lt b hb).2; omega
      · rw [upd_ne _ _ e']; exact h.ap j j' hj hj' hne b hb
  · by_cases e : j = i
    · subst e
      rw [upd_same] at hb
      rcases hnew b hb with e2 | e2
      · exact h.far j hj b e2
      · intro hx; have := hX b hx; omega
    · rw [upd_ne _ _ e] at hb
      exact h.far j hj b hb
end
/-! reading groups that lie below -/
/-- rows of natural numbers that are the ones of an own row: read -/
theorem OwnGs.reads {B : Nat} {w : World} {a : Option Addr} {n c : Nat} {gs : List (List Nat)} (h : OwnGs B w (.slice a n c) gs) (hn : n = gs.length) : RRN w.heap.size w a gs := by
  obtain ⟨vs, ho, hr⟩ := h
  subst hn
  intro i hi
  obtain ⟨g, rfl, _, hg, _, hc⟩ := own_at ho (by omega)
  have e : gs[i]? = some (U gs i) := by unfold U; rw [List.getD_eq_getElem?_getD, List.getElem?_eq_getElem hi]; rfl
  obtain ⟨b, cb, k1, _, _, k4⟩ := hr i _ e
  have hlen : (U gs i).length ≤ 9223372036854775807 := by
    rcases k4.2 with ⟨h', _⟩ | ⟨_, cap, _, _, _, _, h1, h2, _⟩
    · simp at h'
    · unfold maxLen at h2; omega
  refine ⟨⟨g, 0, Option.none⟩, _, cb, rfl, hg, ?_, hlen, fun j hj => ⟨⟨b, 0, Option.none⟩, rfl, (k4.lt b rfl).2, ?_⟩⟩
  · have e2 : ((⟨g, 0, none⟩ : Addr).add i) = ⟨g, i, none⟩ := by
      simp [Addr.add]
      try (intro e; exact e.symm)
    rw [e2, hc i (by omega)]
    exact k1
  · have e2 : ((⟨b, 0, none⟩ : Addr).add j) = ⟨b, j, none⟩ := by
      simp [Addr.add]
      try (intro e; exact e.symm)
    rw [e2]
    exact (k4.cellAt j (by omega)).trans (nv_get hj)
end Go.Proofs.Ytephmagficbdeaa.Gr
