/-
  UNIFY KEEPS VALUES THAT SOLVE, and does not fail where there are some, plainly. No memory in sight.
-/
import Derived.Test.YtgomafdhckfnbaaGGeA
import Derived.Test.YtgomafdhckfnbaaGSmD

namespace Go.Proofs.Ytgomafdhckfnbaa.Un
open Go.RowKit Mm Tm Rn
set_option linter.unusedVariables false
/-- values, one told anew -/
def updV (v : Int → Ty) (n : Int) (y : Ty) : Int → Ty := fun m => if m = n then y else v m
theorem updV_same (v : Int → Ty) (n : Int) (y : Ty) : updV v n y n = y := if_pos rfl
theorem updV_other (v : Int → Ty) {n m : Int} (y : Ty) (h : m ≠ n) : updV v n y m = v m := if_neg h
theorem updV_agree {s : St} {v : Int → Ty} {n : Int} (y : Ty) (h0 : n < 0) (hk : s.K n = none) : Agree s.K v (updV v n y) := fun m hm => updV_other v y fun e => hm (by omega) (by rw [e]; exact hk)
theorem Sol.agree {s : St} {v v' : Int → Ty} (h : Sol s.K v) (hf : Fr s) (ha : Agree s.K v v') : Sol s.K v' := by
  have known : ∀ n f, s.K n = some f → v' n = v n := fun n f e => ha n fun _ q => by rw [e] at q; cases q
  refine ⟨fun n r e => ?_, fun n l d hd e => ?_, fun n kd nm xs e => ?_⟩
  · rw [known n _ e, h.lnk _ _ e, ha r (hf.lnk _ _ e)]
  · obtain ⟨h1, h2⟩ := h.opn _ _ _ _ e
    rw [known n _ e, h1, ha l fun q => by omega]
    exact ⟨rfl, h2⟩
  · rw [known n _ e, h.typ _ _ _ _ e]
    congr 2
    exact List.map_congr_left fun x hx => (ha x (hf.prt _ _ _ _ e x hx)).symm
theorem hold_sol {q : Nat} {s s' : St} {n : Int} {v : Int → Ty} (h : Sol s.K v) (hf : Fr s) (hn : NegK s.K n) (hs : holdP q s n = some s') : Sol s'.K v := by
  unfold holdP at hs
  split at hs
  · cases hs
  · rename_i r l d hz
    have := open_val (q := q) (x := vrT n) h hf ⟨fun _ => hn, trivial⟩ (n := r) (l := l) (d := d) (hd := false) (by unfold takenP; rw [if_pos rfl, hz]; rfl)
    exact h.set hs ⟨this.2.1, this.2.2.1⟩
  · injection hs with hs
    subst hs
    exact h
theorem flat_sol {q : Nat} : ∀ (t : Tys) (s s' : St) (xs : List Int) (v : Int → Ty), Sol s.K v → Fr s → negT s.K t → zT t → flatL q s t = some (s', xs) → ∃ v', Agree s.K v v' ∧ Sol s'.K v' ∧ Tys.ofL (xs.map v') = subT (fun n => some (v n)) t
  | .nil, s, s', xs, v, h, hf, _, _, hl => by
    simp only [flatL, Option.some.injEq, Prod.mk.injEq] at hl
    obtain ⟨rfl, rfl⟩ := hl
    exact ⟨v, Agree.refl _ _, h, rfl⟩
  | .cons kd n nm args rest, s, s', xs, v, h, hf, hn, hz, hl => by
    unfold flatL at hl
    split at hl
    · rename_i hk
      split at hl
      · obtain ⟨s1, h1, h2⟩ := Option.bind_eq_some_iff.1 hl
        obtain ⟨⟨s2, x2⟩, h3, h4⟩ := Option.map_eq_some_iff.1 h2
        simp only [Prod.mk.injEq] at h4
        obtain ⟨rfl, rfl⟩ := h4
        obtain ⟨e1, f1, o1⟩ := hold_ext hf (hn.1 hk) h1
        obtain ⟨v', a1, a2, a3⟩ := flat_sol rest s1 _ _ v (hold_sol h hf (hn.1 hk) h1) f1 (negT.ext e1 _ hn.2.2) hz.2 h3
        refine ⟨v', fun m hm => a1 m (hm.ext e1), a2, ?_⟩
        rw [List.map_cons, subT, if_pos hk, Tys.ofL, a3, a1 n ((hn.1 hk).ext e1)]
      · cases hl
    · rename_i hk
      split at hl
      · cases hl
      · rename_i h0
        obtain ⟨⟨s1, x1⟩, h1, h2⟩ := Option.bind_eq_some_iff.1 hl
        obtain ⟨⟨s2, i2⟩, h3, h4⟩ := Option.bind_eq_some_iff.1 h2
        obtain ⟨⟨s3, x3⟩, h5, h6⟩ := Option.map_eq_some_iff.1 h4
        simp only [Prod.mk.injEq] at h6
        obtain ⟨rfl, rfl⟩ := h6
        unfold innerP at h3
        obtain ⟨s4, h7, h8⟩ := Option.map_eq_some_iff.1 h3
        simp only [Prod.mk.injEq] at h8
        obtain ⟨rfl, rfl⟩ := h8
        obtain ⟨e1, f1, t1, g1, o1⟩ := flat_ext args s s1 x1 hf hn.2.1 h1
        obtain ⟨v1, a1, a2, a3⟩ := flat_sol args s s1 x1 v h hf hn.2.1 (hz.1 hk).2 h1
        dsimp only at h7 h5
        have hno : s1.K (-1 - s1.cnt) = none := by
          cases hs : s1.K (-1 - s1.cnt) with
          | none => rfl
          | some g => have := f1.neg (-1 - s1.cnt) (by omega) (by rw [hs]; exact fun e => by cases e); omega
        have hop : OpenAt s1.K (-1 - s1.cnt) := fun g hg => by rw [hno] at hg; cases hg
        have e2 := set_ext h7 hop
        have f2 := set_fr h7 hop f1 (fun _ _ => rfl) ⟨fun r e => (by cases e), fun kd nm xs e => by injection e with _ _ e; rw [← e]; exact g1⟩
        -- the inner variable's value
        obtain ⟨y, hy⟩ : ∃ y : Ty, y = ⟨kd, 0, nm, Tys.ofL (x1.map v1)⟩ := ⟨_, rfl⟩
        have hyv : ∀ v2 : Int → Ty, (∀ x ∈ x1, v2 x = v1 x) → y = ⟨kd, 0, nm, Tys.ofL (x1.map v2)⟩ := fun v2 q => by rw [hy, List.map_congr_left q]
        have ag := updV_agree (s := s1) (v := v1) y (n := -1 - s1.cnt) (by omega) hno
        have s2' : Sol s4.K (updV v1 (-1 - s1.cnt) y) := by
          refine (a2.agree f1 ag).set h7 ?_
          show updV v1 (-1 - s1.cnt) y (-1 - s1.cnt) = _
          rw [updV_same]
          exact hyv _ fun x hx => ag x (g1 x hx)
        obtain ⟨v3, b1, b2, b3⟩ := flat_sol rest s4 _ _ _ s2' f2 (negT.ext (e1.trans e2) _ hn.2.2) hz.2 h5
        have a13 : Agree s.K v v3 := (a1.trans e1 ag).trans (e1.trans e2) b1
        refine ⟨v3, a13, b2, ?_⟩
        rw [List.map_cons, Tys.ofL, b3, subT, if_neg hk, ← a3]
        have hv : v3 (-1 - s1.cnt) = y := by
          rw [b1 _ fun _ => by rw [(set_is h7).1, updP_same]; exact fun e => by cases e]
          exact updV_same _ _ _
        have hrest := subT_agree (a1.trans e1 ag) rest hn.2.2
        rw [hv, hrest, hy, (hz.1 hk).1]
theorem bind_sol {q d : Nat} {s s' : St} {n : Int} {held : Bool} {is : Sd} {y : Ty} {e : Int} {v : Int → Ty} (h : Sol s.K v) (hf : Fr s) (hy : negY s.K y) (hz : zY y) (ht : takenP q s.K y = some is) (ho : is.isOpn = false) (hv : v n = Val v y) (hn : NegK s.K n) (hb : bindP q d s n held is = some (e, s')) : e = 0 ∧ ∃ v', Agree s.K v v' ∧ Sol s'.K v' := by
  unfold bindP at hb
  obtain ⟨L, hL, hb⟩ := Option.bind_eq_some_iff.1 hb
  -- no variable stands in its own value
  have hno : hasV n L = false := by
    cases hh : hasV n L with
    | false => rfl
    | true =>
      obtain ⟨p, hp, he⟩ := List.any_eq_true.1 hh
      have he := of_decide_eq_true he
      have hkv := known_val h hz ht ho
      cases d with
      | zero => cases hL
      | succ d =>
        unfold openL at hL
        cases is with
        | typ y' =>
          obtain ⟨k1, k0, rfl⟩ := typ_taken ht
          rw [show (Sd.typ y').asTy = y' from rfl, ht] at hL
          dsimp only at hL
          split at hL
          · obtain ⟨z, z1, z2⟩ := open_small h d _ _ L hL (fun z hz' => by rw [List.append_nil] at hz'; exact zT_all _ (hz k1).2 z hz') p hp
            rw [List.append_nil] at z1
            have := szP_part (x := Val v y') (by rw [hkv]; rfl) (List.mem_map_of_mem (f := Val v) z1)
            rw [he, hv] at z2
            omega
          · cases hL
        | var r f =>
          obtain ⟨k1, hzr⟩ := var_taken ht
          have htr : takenP q s.K (vrT r) = some (.var r f) := by
            unfold takenP
            rw [if_pos rfl]
            rw [(end_leads q y.n hzr).1.end_ hzr]
            rfl
          rw [show (Sd.var r f).asTy = vrT r from rfl, htr] at hL
          dsimp only at hL
          have ho' : f.isOpn = false := ho
          split at hL
          · cases d with
            | zero => unfold openL at hL; injection hL with hL; subst hL; cases hp
            | succ d => unfold openL at hL; injection hL with hL; subst hL; cases hp
          · split at hL
            · rename_i q1; rw [ho'] at q1; cases q1
            · split at hL
              · obtain ⟨z, z1, z2⟩ := open_small h d _ _ L hL (fun z hz' => by
                  rw [List.append_nil] at hz'
                  cases f with
                  | link r' => simp [PF.parts] at hz'
                  | opn l d hd => simp [PF.parts] at hz'
                  | typ kd nm xs =>
                    simp only [PF.parts, List.mem_map] at hz'
                    obtain ⟨m, _, rfl⟩ := hz'
                    exact fun e => absurd rfl e) p hp
                rw [List.append_nil] at z1
                have := szP_part (x := Val v y) (by rw [hkv]) (List.mem_map_of_mem (f := Val v) (show z ∈ (Sd.var r f).parts from z1))
                rw [he, hv] at z2
                omega
              · cases hL
  rw [hno] at hb
  rw [if_neg (by decide)] at hb
  cases is with
  | var r f =>
    obtain ⟨s1, h1, h2⟩ := Option.map_eq_some_iff.1 hb
    simp only [Prod.mk.injEq] at h2
    obtain ⟨rfl, rfl⟩ := h2
    obtain ⟨k1, hzr⟩ := var_taken ht
    exact ⟨rfl, v, Agree.refl _ _, h.set h1 (by show v n = v r; rw [hv, val_var v k1, h.lead (end_leads q y.n hzr).1])⟩
  | typ y' =>
    obtain ⟨k1, k0, rfl⟩ := typ_taken ht
    obtain ⟨⟨s1, xs⟩, h2, h3⟩ := Option.bind_eq_some_iff.1 hb
    obtain ⟨s2, h4, h5⟩ := Option.map_eq_some_iff.1 h3
    simp only [Prod.mk.injEq] at h5
    obtain ⟨rfl, rfl⟩ := h5
    obtain ⟨v', a1, a2, a3⟩ := flat_sol y'.args s s1 xs v h hf hy.2 (hz k1).2 h2
    refine ⟨rfl, v', a1, a2.set h4 ?_⟩
    show v' n = ⟨y'.kd, 0, y'.nm, Tys.ofL (xs.map v')⟩
    rw [a1 n hn, hv, a3]
    unfold Val sub1
    rw [if_neg k1, (hz k1).1]
end Go.Proofs.Ytgomafdhckfnbaa.Un
