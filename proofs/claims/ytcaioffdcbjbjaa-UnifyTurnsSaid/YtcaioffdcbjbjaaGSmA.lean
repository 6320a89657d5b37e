/-
  WHAT IS KNOWN GROWS, plainly: what was told of a variable stays told, but for open ones; names below 0 are the store's own. No memory in sight.
-/
import Derived.Test.YtcaioffdcbjbjaaGT

namespace Go.Proofs.Ytcaioffdcbjbjaa.Un
open Go.RowKit Mm Tm
set_option linter.unusedVariables false
/-- what is known grows -/
structure Ext (K K' : PS) : Prop where
  kn : ∀ n f, K n = some f → f.isOpn = false → K' n = some f
  up : ∀ n, K n ≠ none → K' n ≠ none
theorem Ext.refl (K : PS) : Ext K K := ⟨fun n f h _ => h, fun n h => h⟩
theorem Ext.trans {K K' K'' : PS} (h : Ext K K') (k : Ext K' K'') : Ext K K'' := ⟨fun n f e o => k.kn n f (h.kn n f e o) o, fun n e => k.up n (h.up n e)⟩
/-- a name below 0 is known -/
def NegK (K : PS) (n : Int) : Prop := n < 0 → K n ≠ none
theorem NegK.ext {K K' : PS} {n : Int} (h : NegK K n) (he : Ext K K') : NegK K' n := fun q => he.up n (h q)
def negT (K : PS) : Tys → Prop
  | .nil => True
  | .cons kd n nm args rest => (kd = 1 → NegK K n) ∧ negT K args ∧ negT K rest
def negY (K : PS) (x : Ty) : Prop := (x.kd = 1 → NegK K x.n) ∧ negT K x.args
theorem negT.ext {K K' : PS} (he : Ext K K') : ∀ t : Tys, negT K t → negT K' t
  | .nil, _ => trivial
  | .cons kd n nm args rest, h => ⟨fun e => (h.1 e).ext he, negT.ext he args h.2.1, negT.ext he rest h.2.2⟩
theorem negY.ext {K K' : PS} (he : Ext K K') {x : Ty} (h : negY K x) : negY K' x := ⟨fun e => (h.1 e).ext he, negT.ext he _ h.2⟩
theorem negT_all {K : PS} : ∀ t : Tys, negT K t → ∀ y ∈ t.toL, negY K y
  | .nil, _, y, hy => by simp [Tys.toL] at hy
  | .cons kd n nm args rest, h, y, hy => by
    rw [Tys.toL] at hy
    rcases List.mem_cons.1 hy with rfl | q
    · exact ⟨h.1, h.2.1⟩
    · exact negT_all rest h.2.2 y q
/-- names below 0 are the store's own -/
structure Fr (s : St) : Prop where
  neg : ∀ n, n < 0 → s.K n ≠ none → -1 - n < s.cnt
  lnk : ∀ n r, s.K n = some (.link r) → NegK s.K r
  prt : ∀ n kd nm xs, s.K n = some (.typ kd nm xs) → ∀ x ∈ xs, NegK s.K x
/-- nothing but which ones are the same -/
def OpenAt (K : PS) (n : Int) : Prop := ∀ g, K n = some g → g.isOpn = true
/-- what is told may be told -/
def RefOK (K : PS) (f : PF) : Prop := (∀ r, f = .link r → NegK K r) ∧ ∀ kd nm xs, f = .typ kd nm xs → ∀ x ∈ xs, NegK K x
theorem set_is {s s' : St} {n : Int} {f : PF} (h : setP s n f = some s') : s'.K = updP s.K n (some f) ∧ s'.cnt = if (s.K n).isSome then s.cnt else s.cnt + 1 := by
  unfold setP at h
  split at h
  · injection h with h
    subst h
    exact ⟨rfl, rfl⟩
  · cases h
theorem set_ext {s s' : St} {n : Int} {f : PF} (h : setP s n f = some s') (ho : OpenAt s.K n) : Ext s.K s'.K := by
  obtain ⟨hk, _⟩ := set_is h
  rw [hk]
  refine ⟨fun m g e o => ?_, fun m e => ?_⟩
  · by_cases hm : m = n
    · subst hm
      rw [ho g e] at o
      cases o
    · rw [updP_other _ _ hm]; exact e
  · by_cases hm : m = n
    · subst hm; rw [updP_same]; exact fun e => by cases e
    · rw [updP_other _ _ hm]; exact e
theorem set_fr {s s' : St} {n : Int} {f : PF} (h : setP s n f = some s') (ho : OpenAt s.K n) (hf : Fr s) (hn : n < 0 → s.K n = none → n = -1 - s.cnt) (hr : RefOK s.K f) : Fr s' := by
  have he := set_ext h ho
  obtain ⟨hk, hc⟩ := set_is h
  refine ⟨fun m hm e => ?_, fun m r e => ?_, fun m kd nm xs e => ?_⟩
  · rw [hc]
    by_cases hmn : m = n
    · subst hmn
      cases hs : s.K m with
      | none => simp only [Option.isSome_none]; have := hn hm hs; simp; omega
      | some g => simp only [Option.isSome_some, if_true]; exact hf.neg m hm (by rw [hs]; exact fun e => by cases e)
    · rw [hk, updP_other _ _ hmn] at e
      have := hf.neg m hm e
      split <;> omega
  · rw [hk] at e
    by_cases hmn : m = n
    · subst hmn
      rw [updP_same] at e
      injection e with e
      exact (hr.1 r e).ext he
    · rw [updP_other _ _ hmn] at e
      exact (hf.lnk m r e).ext he
  · rw [hk] at e
    by_cases hmn : m = n
    · subst hmn
      rw [updP_same] at e
      injection e with e
      exact fun x hx => (hr.2 kd nm xs e x hx).ext he
    · rw [updP_other _ _ hmn] at e
      exact fun x hx => (hf.prt m kd nm xs e x hx).ext he
/-- one leads to another -/
inductive Leads (K : PS) : Int → Int → Prop
  | refl (n : Int) : Leads K n n
  | step {n m r : Int} : K n = some (.link m) → Leads K m r → Leads K n r
theorem Leads.ext {K K' : PS} (he : Ext K K') {n r : Int} (h : Leads K n r) : Leads K' n r := by
  induction h with
  | refl n => exact .refl n
  | step e _ ih => exact .step (he.kn _ _ e rfl) ih
theorem Leads.trans {K : PS} {n m r : Int} (h : Leads K n m) (k : Leads K m r) : Leads K n r := by
  induction h with
  | refl n => exact k
  | step e _ ih => exact .step e (ih k)
theorem endP_mono {K : PS} : ∀ (q : Nat) (n : Int) {z : Int × PF}, endP K q n = some z → endP K (q + 1) n = some z
  | 0, n, z, h => by cases h
  | q + 1, n, z, h => by
    unfold endP at h ⊢
    split
    · rename_i hi
      rw [if_pos hi] at h
      split at h
      · exact h
      · rename_i r _; exact endP_mono q r h
      · rename_i f _ _; exact h
    · rename_i hi; rw [if_neg hi] at h; cases h
theorem Leads.end_ {K : PS} {n r : Int} (h : Leads K n r) : ∀ {q : Nat} {z : Int × PF}, endP K q n = some z → endP K q r = some z := by
  induction h with
  | refl n => exact fun h => h
  | step e _ ih =>
    intro q z hz
    cases q with
    | zero => cases hz
    | succ q =>
      unfold endP at hz
      split at hz
      · rw [e] at hz
        exact ih (endP_mono q _ hz)
      · cases hz
theorem end_leads {K : PS} : ∀ (q : Nat) (n : Int) {r : Int} {f : PF}, endP K q n = some (r, f) → Leads K n r ∧ inI n = true ∧ (K r = some f ∨ (K r = none ∧ f = .opn r 0 false)) ∧ ∀ x, f ≠ .link x
  | 0, n, r, f, h => by cases h
  | q + 1, n, r, f, h => by
    unfold endP at h
    split at h
    · rename_i hi
      split at h
      · rename_i hk
        simp only [Option.some.injEq, Prod.mk.injEq] at h
        obtain ⟨rfl, rfl⟩ := h
        exact ⟨.refl _, hi, .inr ⟨hk, rfl⟩, fun x e => by cases e⟩
      · rename_i m hk
        obtain ⟨h1, _, h3⟩ := end_leads q m h
        exact ⟨.step hk h1, hi, h3⟩
      · rename_i g hg hk
        simp only [Option.some.injEq, Prod.mk.injEq] at h
        obtain ⟨rfl, rfl⟩ := h
        exact ⟨.refl _, hi, .inl hk, fun x e => hg x e⟩
    · cases h
theorem Leads.neg {s : St} (hf : Fr s) {n r : Int} (h : Leads s.K n r) : NegK s.K n → NegK s.K r := by
  induction h with
  | refl n => exact fun h => h
  | step e _ ih => exact fun _ => ih (hf.lnk _ _ e)
/-- an end of which nothing is known is open -/
theorem open_end {K : PS} {q : Nat} {n r : Int} {f : PF} (h : endP K q n = some (r, f)) (ho : f.isOpn = true) : OpenAt K r := by
  obtain ⟨_, _, h3, _⟩ := end_leads q n h
  intro g hg
  rcases h3 with h3 | ⟨h3, _⟩
  · rw [hg] at h3; injection h3 with h3; rw [h3]; exact ho
  · rw [hg] at h3; cases h3
theorem hold_ext {q : Nat} {s s' : St} {n : Int} (hf : Fr s) (hn : NegK s.K n) (h : holdP q s n = some s') : Ext s.K s'.K ∧ Fr s' ∧ ∀ m, OpenAt s.K m → OpenAt s'.K m := by
  unfold holdP at h
  split at h
  · cases h
  · rename_i r l d hz
    have ho := open_end hz rfl
    have hr : NegK s.K r := (end_leads q n hz).1.neg hf hn
    refine ⟨set_ext h ho, set_fr h ho hf (fun q e => absurd e (hr q)) ⟨fun r e => (by cases e), fun kd nm xs e => (by cases e)⟩, fun m hm g hg => ?_⟩
    rw [(set_is h).1] at hg
    by_cases e : m = r
    · subst e; rw [updP_same] at hg; injection hg with hg; rw [← hg]; rfl
    · rw [updP_other _ _ e] at hg; exact hm g hg
  · injection h with h
    subst h
    exact ⟨Ext.refl _, hf, fun m h => h⟩
/-- variables that stand for a type's parts -/
def FlatT (K : PS) : List Int → Tys → Prop
  | [], .nil => True
  | m :: ms, .cons kd n nm args rest => (kd = 1 → m = n) ∧ (kd ≠ 1 → kd ≠ 0 ∧ ∃ ys, K m = some (.typ kd nm ys) ∧ FlatT K ys args) ∧ FlatT K ms rest
  | _, _ => False
theorem FlatT.ext {K K' : PS} (he : Ext K K') : ∀ (t : Tys) (xs : List Int), FlatT K xs t → FlatT K' xs t
  | .nil, [], _ => trivial
  | .nil, _ :: _, h => h
  | .cons _ _ _ _ _, [], h => h
  | .cons kd n nm args rest, m :: ms, h => ⟨h.1, fun e => by
    obtain ⟨h0, ys, h1, h2⟩ := h.2.1 e
    exact ⟨h0, ys, he.kn _ _ h1 rfl, FlatT.ext he args ys h2⟩, FlatT.ext he rest ms h.2.2⟩
theorem flat_ext {q : Nat} : ∀ (t : Tys) (s s' : St) (xs : List Int), Fr s → negT s.K t → flatL q s t = some (s', xs) → Ext s.K s'.K ∧ Fr s' ∧ FlatT s'.K xs t ∧ (∀ x ∈ xs, NegK s'.K x) ∧ ∀ m, NegK s.K m → OpenAt s.K m → OpenAt s'.K m
  | .nil, s, s', xs, hf, _, h => by
    simp only [flatL, Option.some.injEq, Prod.mk.injEq] at h
    obtain ⟨rfl, rfl⟩ := h
    exact ⟨Ext.refl _, hf, trivial, fun x hx => by simp at hx, fun m _ h => h⟩
  | .cons kd n nm args rest, s, s', xs, hf, hn, h => by
    unfold flatL at h
    split at h
    · rename_i hk
      split at h
      · obtain ⟨s1, h1, h2⟩ := Option.bind_eq_some_iff.1 h
        obtain ⟨⟨s2, x2⟩, h3, h4⟩ := Option.map_eq_some_iff.1 h2
        simp only [Prod.mk.injEq] at h4
        obtain ⟨rfl, rfl⟩ := h4
        obtain ⟨e1, f1, o1⟩ := hold_ext hf (hn.1 hk) h1
        obtain ⟨e2, f2, t2, g2, o2⟩ := flat_ext rest s1 _ _ f1 (negT.ext e1 _ hn.2.2) h3
        refine ⟨e1.trans e2, f2, ⟨fun _ => rfl, fun e => absurd hk e, t2⟩, fun x hx => ?_, fun m hm ho => o2 m (hm.ext e1) (o1 m ho)⟩
        rcases List.mem_cons.1 hx with rfl | hx
        · exact (hn.1 hk).ext (e1.trans e2)
        · exact g2 x hx
      · cases h
    · rename_i hk
      split at h
      · cases h
      · rename_i h0
        obtain ⟨⟨s1, x1⟩, h1, h2⟩ := Option.bind_eq_some_iff.1 h
        obtain ⟨⟨s2, i2⟩, h3, h4⟩ := Option.bind_eq_some_iff.1 h2
        obtain ⟨⟨s3, x3⟩, h5, h6⟩ := Option.map_eq_some_iff.1 h4
        simp only [Prod.mk.injEq] at h6
        obtain ⟨rfl, rfl⟩ := h6
        unfold innerP at h3
        obtain ⟨s4, h7, h8⟩ := Option.map_eq_some_iff.1 h3
        simp only [Prod.mk.injEq] at h8
        obtain ⟨rfl, rfl⟩ := h8
        obtain ⟨e1, f1, t1, g1, o1⟩ := flat_ext args s s1 x1 hf hn.2.1 h1
        dsimp only at h7 h5
        have hno : s1.K (-1 - s1.cnt) = none := by
          cases hs : s1.K (-1 - s1.cnt) with
          | none => rfl
          | some g => have := f1.neg (-1 - s1.cnt) (by omega) (by rw [hs]; exact fun e => by cases e); omega
        have hop : OpenAt s1.K (-1 - s1.cnt) := fun g hg => by rw [hno] at hg; cases hg
        have e2 := set_ext h7 hop
        have f2 := set_fr h7 hop f1 (fun _ _ => rfl) ⟨fun r e => (by cases e), fun kd nm xs e => by injection e with _ _ e; rw [← e]; exact g1⟩
        have hk4 : s4.K (-1 - s1.cnt) = some (.typ kd nm x1) := by rw [(set_is h7).1]; exact updP_same _ _ _
        obtain ⟨e3, f3, t3, g3, o3⟩ := flat_ext rest s4 _ _ f2 (negT.ext (e1.trans e2) _ hn.2.2) h5
        refine ⟨(e1.trans e2).trans e3, f3, ⟨fun e => absurd e hk, fun _ => ⟨h0, x1, e3.kn _ _ hk4 rfl, FlatT.ext (e2.trans e3) _ _ t1⟩, t3⟩, fun x hx => ?_, fun m hm ho => o3 m ((hm.ext e1).ext e2) fun g hg => ?_⟩
        · rcases List.mem_cons.1 hx with rfl | hx
          · exact fun _ => e3.up _ (by rw [hk4]; exact fun e => by cases e)
          · exact g3 x hx
        · rw [(set_is h7).1] at hg
          by_cases e : m = -1 - s1.cnt
          · exact absurd hno (by rw [← e]; exact hm.ext e1 (by omega))
          · rw [updP_other _ _ e] at hg; exact o1 m hm ho g hg
end Go.Proofs.Ytcaioffdcbjbjaa.Un
