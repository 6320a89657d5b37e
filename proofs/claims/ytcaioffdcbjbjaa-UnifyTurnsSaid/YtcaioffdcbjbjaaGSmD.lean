/-
  A RUN OF UNIFY MAKES ITS PAIRS THE SAME, plainly: all that waits. No memory in sight.
-/
import Derived.Test.YtcaioffdcbjbjaaGSmC

namespace Go.Proofs.Ytcaioffdcbjbjaa.Un
open Go.RowKit Mm Tm
set_option linter.unusedVariables false
/-- what comes of a pair that is made the same -/
def PairIs (q : Nat) (s : St) (M : PM) (x y : Ty) (r : PR) : Prop :=
  Ext s.K r.st.K ∧ Fr r.st ∧ (∀ p ∈ r.more, negY r.st.K p.1 ∧ negY r.st.K p.2) ∧ ∀ K', Ext r.st.K K' → Ends q K' → PartsIn K' → ∀ P : Ty → Ty → Prop, (∀ p ∈ r.more, P p.1 p.2) → J q K' P M x y ∧ ∀ u v, J q K' P r.M u v → J q K' P M u v
theorem zip_good {q : Nat} {s : St} {x y : Ty} {a b : Sd} (h1 : takenP q s.K x = some a) (h2 : takenP q s.K y = some b) (hm : Mt a b) {K' : PS} (he : Ext s.K K') (hT : Ends q K') {P : Ty → Ty → Prop} (hP : ∀ p ∈ a.parts.zip b.parts, P p.1 p.2) : Good q K' (Bs q K' P) x y := by
  refine .inr ⟨a, b, keep_taken he hT h1 hm.1, keep_taken he hT h2 hm.2.1, hm, fun i u v e1 e2 => .inl (hP (u, v) ?_)⟩
  exact List.mem_of_getElem? (List.getElem?_zip_eq_some.2 ⟨e1, e2⟩)
theorem match_good {q : Nat} {s : St} {M : PM} {x y : Ty} {a b : Sd} (hf : Fr s) (hx : negY s.K x) (hy : negY s.K y) (h1 : takenP q s.K x = some a) (h2 : takenP q s.K y = some b) (oa : a.isOpn = false) (ob : b.isOpn = false) (h0 : (matchP s M a b).err = 0) : PairIs q s M x y (matchP s M a b) := by
  unfold matchP at h0 ⊢
  split at h0
  · exact absurd h0 (show ¬ (100 : Int) = 0 by decide)
  · rename_i hc
    rw [if_neg hc]
    have hm : Mt a b := by
      refine ⟨oa, ob, ?_, ?_, ?_⟩
      · by_cases e : a.kd = b.kd
        · exact e
        · exact absurd (.inl e) hc
      · by_cases e : a.nm = b.nm
        · exact e
        · exact absurd (.inr (.inl e)) hc
      · by_cases e : a.parts.length = b.parts.length
        · exact e
        · exact absurd (.inr (.inr e)) hc
    have hneg : ∀ p ∈ a.parts.zip b.parts, negY s.K p.1 ∧ negY s.K p.2 := fun p hp => by
      obtain ⟨p1, p2⟩ := p
      have := List.of_mem_zip hp
      exact ⟨side_neg hf hx h1 _ this.1, side_neg hf hy h2 _ this.2⟩
    have hplain : PairIs q s M x y ⟨0, s, M, a.parts.zip b.parts⟩ := ⟨Ext.refl _, hf, hneg, fun K' he hT hp P hP => ⟨.inl (zip_good h1 h2 hm he hT hP), fun u v h => h⟩⟩
    clear h0
    cases a with
    | typ x' => exact hplain
    | var n f =>
      cases b with
      | typ y' => exact hplain
      | var r g =>
        have hz1 := var_taken h1
        have hz2 := var_taken h2
        -- both are taken as their ends
        have hv : ∀ K', Ext s.K K' → Ends q K' → takenP q K' x = takenP q K' (vrT n) ∧ takenP q K' y = takenP q K' (vrT r) := fun K' he hT => by
          obtain ⟨l1, i1, _, _⟩ := end_leads q x.n hz1.2
          obtain ⟨l2, i2, _, _⟩ := end_leads q y.n hz2.2
          constructor
          · obtain ⟨z, hz⟩ := hT x.n i1
            have := (l1.ext he).end_ hz
            unfold takenP
            rw [if_pos hz1.1, if_pos rfl, hz, this]
          · obtain ⟨z, hz⟩ := hT y.n i2
            have := (l2.ext he).end_ hz
            unfold takenP
            rw [if_pos hz2.1, if_pos rfl, hz, this]
        dsimp only
        split
        · rename_i ha
          have hM : M (min n r) (max n r) ≠ 0 := fun e => by
            unfold aheadP at ha
            rw [e] at ha
            have hw : wr (0 + 1) = 1 := by decide +kernel
            rw [hw] at ha
            have : (1 : Int) < 1 := of_decide_eq_true (show decide ((1 : Int) < 1) = true from ha)
            omega
          refine ⟨Ext.refl _, hf, fun p hp => by simp at hp, fun K' he hT hp P hP => ⟨.inr ⟨n, r, (hv K' he hT).1, (hv K' he hT).2, hM⟩, fun u v h => ?_⟩⟩
          rcases h with h | ⟨n', r', e1, e2, e3⟩
          · exact .inl h
          · refine .inr ⟨n', r', e1, e2, fun e => e3 ?_⟩
            unfold aheadP updM
            dsimp only
            rw [if_neg (fun hq => hM (by rw [← hq.1, ← hq.2]; exact e))]
            exact e
        · refine ⟨Ext.refl _, hf, hneg, fun K' he hT hp P hP => ?_⟩
          have hg := zip_good h1 h2 hm he hT hP
          refine ⟨.inl hg, fun u v h => ?_⟩
          rcases h with h | ⟨n', r', e1, e2, e3⟩
          · exact .inl h
          · unfold aheadP updM at e3
            dsimp only at e3
            split at e3
            · rename_i hq
              have hor : (n' = n ∧ r' = r) ∨ (n' = r ∧ r' = n) := by
                have h3 := hq.1
                have h4 := hq.2
                omega
              have htr : ∀ {u v u' v' : Ty}, takenP q K' u = takenP q K' u' → takenP q K' v = takenP q K' v' → Good q K' (Bs q K' P) u' v' → Good q K' (Bs q K' P) u v := by
                rintro u v u' v' g1 g2 (g | ⟨a, b, g3, g4, g5⟩)
                · exact .inl (g1.trans (g.trans g2.symm))
                · exact .inr ⟨a, b, g1.trans g3, g2.trans g4, g5⟩
              left
              rcases hor with ⟨rfl, rfl⟩ | ⟨rfl, rfl⟩
              · exact htr (e1.trans (hv K' he hT).1.symm) (e2.trans (hv K' he hT).2.symm) hg
              · exact htr (e1.trans (hv K' he hT).2.symm) (e2.trans (hv K' he hT).1.symm) hg.symm
            · exact .inr ⟨n', r', e1, e2, e3⟩
theorem pair_good {q d : Nat} {s : St} {M : PM} {x y : Ty} {a b : Sd} {r : PR} (hf : Fr s) (hx : negY s.K x) (hy : negY s.K y) (h1 : takenP q s.K x = some a) (h2 : takenP q s.K y = some b) (h : pairP q d s M a b = some r) (h0 : r.err = 0) : PairIs q s M x y r := by
  unfold pairP at h
  split at h
  · rename_i hsv
    injection h with h
    subst h
    refine ⟨Ext.refl _, hf, fun p hp => by simp at hp, fun K' he hT hp P hP => ⟨.inl (.inl ?_), fun u v h => h⟩⟩
    cases a with
    | typ x' => cases hsv
    | var n f =>
      cases b with
      | typ y' => cases hsv
      | var r g =>
        obtain rfl : n = r := of_decide_eq_true hsv
        obtain ⟨k1, z1⟩ := var_taken h1
        obtain ⟨k2, z2⟩ := var_taken h2
        obtain ⟨l1, i1, _, _⟩ := end_leads q x.n z1
        obtain ⟨l2, i2, _, _⟩ := end_leads q y.n z2
        exact taken_same hT k1 k2 i1 i2 (l1.ext he) (l2.ext he)
  · rename_i hsv
    split at h
    · rename_i n la da ha r lb db hb
      obtain ⟨s', hj, rfl⟩ := Option.map_eq_some_iff.1 h
      have hne : n ≠ r := fun e => hsv (by subst e; exact decide_eq_true rfl)
      obtain ⟨k1, z1⟩ := var_taken h1
      obtain ⟨k2, z2⟩ := var_taken h2
      obtain ⟨l1, i1, _, _⟩ := end_leads q x.n z1
      obtain ⟨l2, i2, _, _⟩ := end_leads q y.n z2
      obtain ⟨e1, f1, lk⟩ := join_good (q := q) hf (open_end z1 rfl) (open_end z2 rfl) (l1.neg hf (hx.1 k1)) (l2.neg hf (hy.1 k2)) hne hj
      refine ⟨e1, f1, fun p hp => by simp at hp, fun K' he hT hp P hP => ⟨.inl (.inl ?_), fun u v h => h⟩⟩
      rcases lk with lk | lk
      · exact taken_same hT k1 k2 i1 i2 (((l1.ext e1).ext he).trans (.step (he.kn _ _ lk rfl) (.refl r))) ((l2.ext e1).ext he)
      · exact taken_same hT k1 k2 i1 i2 ((l1.ext e1).ext he) (((l2.ext e1).ext he).trans (.step (he.kn _ _ lk rfl) (.refl n)))
    · rename_i n la da ha _
      obtain ⟨⟨e, s'⟩, hj, rfl⟩ := Option.map_eq_some_iff.1 h
      dsimp only at h0
      subst h0
      obtain ⟨k1, z1⟩ := var_taken h1
      obtain ⟨l1, i1, _, _⟩ := end_leads q x.n z1
      obtain ⟨e1, f1, g1⟩ := bind_good hf (open_end z1 rfl) (l1.neg hf (hx.1 k1)) hy h2 (fun f e => hsv (by rw [e]; exact decide_eq_true rfl)) hj
      exact ⟨e1, f1, fun p hp => by simp at hp, fun K' he hT hp P hP => ⟨.inl (g1 K' P x he hT hp k1 i1 l1), fun u v h => h⟩⟩
    · rename_i r lb db hb _
      obtain ⟨⟨e, s'⟩, hj, rfl⟩ := Option.map_eq_some_iff.1 h
      dsimp only at h0
      subst h0
      obtain ⟨k2, z2⟩ := var_taken h2
      obtain ⟨l2, i2, _, _⟩ := end_leads q y.n z2
      obtain ⟨e1, f1, g1⟩ := bind_good hf (open_end z2 rfl) (l2.neg hf (hy.1 k2)) hx h1 (fun f e => hsv (by rw [e]; exact decide_eq_true rfl)) hj
      exact ⟨e1, f1, fun p hp => by simp at hp, fun K' he hT hp P hP => ⟨.inl (g1 K' P y he hT hp k2 i2 l2).symm, fun u v h => h⟩⟩
    · rename_i n1 n2 n3
      injection h with h
      subst h
      refine match_good hf hx hy h1 h2 ?_ ?_ h0
      · cases a with
        | typ x' => rfl
        | var n f =>
          cases f with
          | link r => rfl
          | typ kd nm xs => rfl
          | opn l d hd => first | exact (n1 n l d hd rfl).elim | exact (n2 n l d hd rfl).elim | exact (n3 n l d hd rfl).elim
      · cases b with
        | typ x' => rfl
        | var n f =>
          cases f with
          | link r => rfl
          | typ kd nm xs => rfl
          | opn l d hd => first | exact (n1 n l d hd rfl).elim | exact (n2 n l d hd rfl).elim | exact (n3 n l d hd rfl).elim
/-- all that waits is made the same -/
theorem run_good {q d : Nat} : ∀ (k : Nat) (s : St) (M : PM) (td : List (Ty × Ty)) (s' : St), sameP q d k s M td = some (0, s') → Fr s → (∀ p ∈ td, negY s.K p.1 ∧ negY s.K p.2) →
    Ext s.K s'.K ∧ Fr s' ∧ ∀ K', Ext s'.K K' → Ends q K' → PartsIn K' → ∃ P : Ty → Ty → Prop, (∀ p ∈ td, P p.1 p.2) ∧ ∀ x y, P x y → J q K' P M x y
  | k, s, M, [], s', h, hf, _ => by
    unfold sameP at h
    simp only [Option.some.injEq, Prod.mk.injEq, true_and] at h
    subst h
    exact ⟨Ext.refl _, hf, fun K' he hT hp => ⟨fun _ _ => False, fun p hp => by simp at hp, fun x y h => h.elim⟩⟩
  | 0, s, M, p :: td, s', h, _, _ => by unfold sameP at h; cases h
  | k + 1, s, M, (x, y) :: td, s', h, hf, hn => by
    unfold sameP at h
    split at h
    · rename_i a b h1 h2
      split at h
      · cases h
      · rename_i r hp
        split at h
        · rename_i he
          simp only [Option.some.injEq, Prod.mk.injEq] at h
          exact absurd h.1 he
        · rename_i he
          have he0 : r.err = 0 := by simpa using he
          split at h
          · obtain ⟨hx, hy⟩ := hn (x, y) (by simp)
            obtain ⟨e1, f1, m1, g1⟩ := pair_good hf hx hy h1 h2 hp he0
            obtain ⟨e2, f2, g2⟩ := run_good k r.st r.M (r.more ++ td) s' h f1 (fun p hp => by
              rcases List.mem_append.1 hp with hp | hp
              · exact m1 p hp
              · have := hn p (List.mem_cons_of_mem _ hp)
                exact ⟨this.1.ext e1, this.2.ext e1⟩)
            refine ⟨e1.trans e2, f2, fun K' he hT hP => ?_⟩
            obtain ⟨P, p1, p2⟩ := g2 K' he hT hP
            obtain ⟨j1, j2⟩ := g1 K' (e2.trans he) hT hP P fun p hp => p1 p (List.mem_append_left _ hp)
            refine ⟨fun u v => P u v ∨ (u = x ∧ v = y), fun p hp => ?_, fun u v h => ?_⟩
            · rcases List.mem_cons.1 hp with rfl | hp
              · exact .inr ⟨rfl, rfl⟩
              · exact .inl (p1 p (List.mem_append_right _ hp))
            · rcases h with h | ⟨rfl, rfl⟩
              · exact (j2 u v (p2 u v h)).mono fun _ _ h => .inl h
              · exact j1.mono fun _ _ h => .inl h
          · cases h
    · cases h
end Go.Proofs.Ytcaioffdcbjbjaa.Un
