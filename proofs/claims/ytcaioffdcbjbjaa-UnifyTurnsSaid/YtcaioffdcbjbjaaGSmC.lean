/-
  A RUN OF UNIFY MAKES ITS PAIRS THE SAME, plainly. No memory in sight.
-/
import Derived.Test.YtcaioffdcbjbjaaGSmB

namespace Go.Proofs.Ytcaioffdcbjbjaa.Un
open Go.RowKit Mm Tm
set_option linter.unusedVariables false
theorem var_taken {q : Nat} {K : PS} {x : Ty} {n : Int} {f : PF} (h : takenP q K x = some (.var n f)) : x.kd = 1 ∧ endP K q x.n = some (n, f) := by
  unfold takenP at h
  split at h
  · rename_i hk
    obtain ⟨z, hz, e⟩ := Option.map_eq_some_iff.1 h
    injection e with e1 e2
    exact ⟨hk, by rw [hz]; obtain ⟨z1, z2⟩ := z; simp only at e1 e2; rw [e1, e2]⟩
  · split at h
    · cases h
    · cases h
theorem typ_taken {q : Nat} {K : PS} {x y : Ty} (h : takenP q K x = some (.typ y)) : x.kd ≠ 1 ∧ x.kd ≠ 0 ∧ y = x := by
  unfold takenP at h
  split at h
  · obtain ⟨z, hz, e⟩ := Option.map_eq_some_iff.1 h
    cases e
  · rename_i hk
    split at h
    · cases h
    · rename_i h0
      simp only [Option.some.injEq, Sd.typ.injEq] at h
      exact ⟨hk, h0, h.symm⟩
theorem taken_lit {q : Nat} {K : PS} {x : Ty} (h1 : x.kd ≠ 1) (h0 : x.kd ≠ 0) : takenP q K x = some (.typ x) := by
  unfold takenP
  rw [if_neg h1, if_neg h0]
/-- what is known is taken so from then on -/
theorem keep_taken {q : Nat} {K K' : PS} (he : Ext K K') (hT : Ends q K') {x : Ty} {a : Sd} (h : takenP q K x = some a) (ho : a.isOpn = false) : takenP q K' x = some a := by
  cases a with
  | typ y =>
    obtain ⟨h1, h0, rfl⟩ := typ_taken h
    exact taken_lit h1 h0
  | var n f =>
    obtain ⟨hk, hz⟩ := var_taken h
    obtain ⟨l1, i1, k1, n1⟩ := end_leads q x.n hz
    cases f with
    | link r => exact absurd rfl (n1 r)
    | opn l d hd => cases ho
    | typ kd nm xs =>
      rcases k1 with k1 | ⟨_, k1⟩
      · exact taken_at hT hk i1 (l1.ext he) (he.kn _ _ k1 rfl)
      · cases k1
/-- what was made so -/
def J (q : Nat) (K : PS) (P : Ty → Ty → Prop) (M : PM) (x y : Ty) : Prop := Good q K (Bs q K P) x y ∨ ∃ n r, takenP q K x = takenP q K (vrT n) ∧ takenP q K y = takenP q K (vrT r) ∧ M (min n r) (max n r) ≠ 0
theorem J.mono {q : Nat} {K : PS} {P P' : Ty → Ty → Prop} {M : PM} {x y : Ty} (h : J q K P M x y) (hp : ∀ x y, P x y → P' x y) : J q K P' M x y := h.imp (fun h => h.mono hp) fun h => h
theorem side_neg {q : Nat} {s : St} (hf : Fr s) {x : Ty} {a : Sd} (hx : negY s.K x) (h : takenP q s.K x = some a) : ∀ y ∈ a.parts, negY s.K y := by
  cases a with
  | typ y =>
    obtain ⟨_, _, rfl⟩ := typ_taken h
    exact negT_all _ hx.2
  | var n f =>
    intro y hy
    obtain ⟨hk, hz⟩ := var_taken h
    obtain ⟨_, _, k1, _⟩ := end_leads q x.n hz
    cases f with
    | link r => simp [Sd.parts, PF.parts] at hy
    | opn l d hd => simp [Sd.parts, PF.parts] at hy
    | typ kd nm xs =>
      simp only [Sd.parts, PF.parts, List.mem_map] at hy
      obtain ⟨m, hm, rfl⟩ := hy
      rcases k1 with k1 | ⟨_, k1⟩
      · exact ⟨fun _ => hf.prt n kd nm xs k1 m hm, trivial⟩
      · cases k1
theorem bind_good {q d : Nat} {s s' : St} {n : Int} {held : Bool} {is : Sd} {y : Ty} (hf : Fr s) (ho : OpenAt s.K n) (hn : NegK s.K n) (hy : negY s.K y) (ht : takenP q s.K y = some is) (hne : ∀ f, is ≠ .var n f) (h : bindP q d s n held is = some (0, s')) :
    Ext s.K s'.K ∧ Fr s' ∧ ∀ K' P (x : Ty), Ext s'.K K' → Ends q K' → PartsIn K' → x.kd = 1 → inI x.n = true → Leads s.K x.n n → Good q K' (Bs q K' P) x y := by
  unfold bindP at h
  obtain ⟨L, _, h⟩ := Option.bind_eq_some_iff.1 h
  split at h
  · simp only [Option.some.injEq, Prod.mk.injEq] at h
    exact absurd h.1 (by decide)
  · cases is with
    | var r f =>
      obtain ⟨s1, h1, h2⟩ := Option.map_eq_some_iff.1 h
      simp only [Prod.mk.injEq, true_and] at h2
      subst h2
      obtain ⟨hk, hz⟩ := var_taken ht
      obtain ⟨l1, i1, k1, _⟩ := end_leads q y.n hz
      have hr : NegK s.K r := l1.neg hf (hy.1 hk)
      have he := set_ext h1 ho
      have hsn : s1.K n = some (.link r) := by rw [(set_is h1).1]; exact updP_same _ _ _
      refine ⟨he, set_fr h1 ho hf (fun q' e => absurd e (hn q')) ⟨fun r' e => by injection e with e; rw [← e]; exact hr, fun kd nm xs e => (by cases e)⟩, fun K' P x he' hT hP hx ix lx => .inl ?_⟩
      exact taken_same hT hx hk ix i1 (((lx.ext he).ext he').trans (.step (he'.kn _ _ hsn rfl) (.refl r))) ((l1.ext he).ext he')
    | typ y' =>
      obtain ⟨h1, h0, rfl⟩ := typ_taken ht
      obtain ⟨⟨s1, xs⟩, h2, h3⟩ := Option.bind_eq_some_iff.1 h
      obtain ⟨s2, h4, h5⟩ := Option.map_eq_some_iff.1 h3
      simp only [Prod.mk.injEq, true_and] at h5
      subst h5
      obtain ⟨e1, f1, t1, g1, o1⟩ := flat_ext _ _ _ _ hf hy.2 h2
      have ho1 := o1 n hn ho
      have e2 := set_ext h4 ho1
      have hsn : s2.K n = some (.typ y'.kd y'.nm xs) := by rw [(set_is h4).1]; exact updP_same _ _ _
      refine ⟨e1.trans e2, set_fr h4 ho1 f1 (fun q' e => absurd e ((hn.ext e1) q')) ⟨fun r' e => (by cases e), fun kd nm ys e => by injection e with _ _ e; rw [← e]; exact g1⟩, fun K' P x he' hT hP hx ix lx => .inr ?_⟩
      have hkn := he'.kn _ _ hsn rfl
      refine ⟨.var n (.typ y'.kd y'.nm xs), .typ y', taken_at hT hx ix (lx.ext ((e1.trans e2).trans he')) hkn, taken_lit h1 h0, ⟨rfl, rfl, rfl, rfl, ?_⟩, fun i u v a1 a2 => .inr (.inr (.inl (FlatT.at_ _ _ (FlatT.ext (e2.trans he') _ _ t1) (hP _ _ _ _ hkn) i u v a1 a2)))⟩
      show (xs.map vrT).length = y'.args.toL.length
      rw [List.length_map, FlatT.len _ _ t1, Tys.toL_len]
theorem join_good {q : Nat} {s s' : St} {n r la da lb db : Int} {ha hb : Bool} (hf : Fr s) (on : OpenAt s.K n) (or' : OpenAt s.K r) (hn : NegK s.K n) (hr : NegK s.K r) (hne : n ≠ r) (h : joinP s n la da ha r lb db hb = some s') :
    Ext s.K s'.K ∧ Fr s' ∧ (s'.K n = some (.link r) ∨ s'.K r = some (.link n)) := by
  unfold joinP at h
  split at h
  · obtain ⟨s1, h1, h2⟩ := Option.bind_eq_some_iff.1 h
    have e1 := set_ext h1 or'
    have f1 := set_fr h1 or' hf (fun q' e => absurd e (hr q')) ⟨fun r' e => by injection e with e; rw [← e]; exact hn, fun kd nm xs e => (by cases e)⟩
    have o1 : OpenAt s1.K n := fun g hg => by rw [(set_is h1).1, updP_other _ _ hne] at hg; exact on g hg
    have e2 := set_ext h2 o1
    have f2 := set_fr h2 o1 f1 (fun q' e => absurd e ((hn.ext e1) q')) ⟨fun r' e => (by cases e), fun kd nm xs e => (by cases e)⟩
    refine ⟨e1.trans e2, f2, .inr ?_⟩
    rw [(set_is h2).1, updP_other _ _ (Ne.symm hne), (set_is h1).1]
    exact updP_same _ _ _
  · obtain ⟨s1, h1, h2⟩ := Option.bind_eq_some_iff.1 h
    have e1 := set_ext h1 on
    have f1 := set_fr h1 on hf (fun q' e => absurd e (hn q')) ⟨fun r' e => by injection e with e; rw [← e]; exact hr, fun kd nm xs e => (by cases e)⟩
    have o1 : OpenAt s1.K r := fun g hg => by rw [(set_is h1).1, updP_other _ _ (Ne.symm hne)] at hg; exact or' g hg
    have e2 := set_ext h2 o1
    have f2 := set_fr h2 o1 f1 (fun q' e => absurd e ((hr.ext e1) q')) ⟨fun r' e => (by cases e), fun kd nm xs e => (by cases e)⟩
    refine ⟨e1.trans e2, f2, .inl ?_⟩
    rw [(set_is h2).1, updP_other _ _ hne, (set_is h1).1]
    exact updP_same _ _ _
end Go.Proofs.Ytcaioffdcbjbjaa.Un
