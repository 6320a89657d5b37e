/-
  UNIFY DOES NOT FAIL WHERE SOME VALUES SOLVE, plainly. No memory in sight.
-/
import Derived.Test.YtgomafdhckfnbaaGGeB
import Derived.Test.YtgomafdhckfnbaaGSmE

namespace Go.Proofs.Ytgomafdhckfnbaa.Un
open Go.RowKit Mm Tm Rn Ua
set_option linter.unusedVariables false
theorem side_z {q : Nat} {K : PS} {x : Ty} {a : Sd} (hx : zY x) (h : takenP q K x = some a) : ∀ y ∈ a.parts, zY y := by
  cases a with
  | typ y =>
    obtain ⟨h1, _, rfl⟩ := typ_taken h
    exact zT_all _ (hx h1).2
  | var n f =>
    intro y hy
    cases f with
    | link r => simp [Sd.parts, PF.parts] at hy
    | opn l d hd => simp [Sd.parts, PF.parts] at hy
    | typ kd nm xs =>
      simp only [Sd.parts, PF.parts, List.mem_map] at hy
      obtain ⟨m, _, rfl⟩ := hy
      exact fun e => absurd rfl e
theorem ofL_inj {l l' : List Ty} (h : Tys.ofL l = Tys.ofL l') : l = l' := by
  rw [← Tys.toL_ofL l, h, Tys.toL_ofL]
theorem join_sol {s s' : St} {v : Int → Ty} {n r la da lb db : Int} {ha hb : Bool} (h : Sol s.K v) (hnr : v n = v r) (hla : v n = v la) (hlb : v r = v lb) (h0 : 0 ≤ la) (h1 : 0 ≤ lb) (hj : joinP s n la da ha r lb db hb = some s') : Sol s'.K v := by
  have hmin : ∀ a b : Int, v n = v a → v n = v b → 0 ≤ a → 0 ≤ b → v n = v (min a b) ∧ 0 ≤ min a b := fun a b e1 e2 p1 p2 => by
    rcases Int.le_total a b with q | q
    · rw [Int.min_eq_left q]; exact ⟨e1, p1⟩
    · rw [Int.min_eq_right q]; exact ⟨e2, p2⟩
  unfold joinP at hj
  split at hj
  · obtain ⟨s1, e1, e2⟩ := Option.bind_eq_some_iff.1 hj
    exact (h.set e1 (f := .link n) hnr.symm).set e2 (hmin lb la (hnr.trans hlb) hla h1 h0)
  · obtain ⟨s1, e1, e2⟩ := Option.bind_eq_some_iff.1 hj
    have := hmin la lb hla (hnr.trans hlb) h0 h1
    exact (h.set e1 (f := .link r) hnr).set e2 ⟨hnr.symm.trans this.1, this.2⟩
theorem match_sol {q : Nat} {s : St} {M : PM} {x y : Ty} {a b : Sd} {v : Int → Ty} (h : Sol s.K v) (hx : zY x) (hy : zY y) (h1 : takenP q s.K x = some a) (h2 : takenP q s.K y = some b) (oa : a.isOpn = false) (ob : b.isOpn = false) (hv : Val v x = Val v y) : (matchP s M a b).err = 0 ∧ ∀ p ∈ (matchP s M a b).more, Val v p.1 = Val v p.2 ∧ zY p.1 ∧ zY p.2 := by
  have ka := known_val h hx h1 oa
  have kb := known_val h hy h2 ob
  rw [hv, kb] at ka
  injection ka with c1 _ c2 c3
  have hl := ofL_inj c3
  have hlen : a.parts.length = b.parts.length := by
    have := congrArg List.length hl
    simpa using this.symm
  have hz : ∀ p ∈ a.parts.zip b.parts, Val v p.1 = Val v p.2 ∧ zY p.1 ∧ zY p.2 := fun p hp => by
    obtain ⟨i, hi⟩ := List.getElem?_of_mem hp
    obtain ⟨g1, g2⟩ := List.getElem?_zip_eq_some.1 hi
    refine ⟨?_, side_z hx h1 _ (List.mem_of_getElem? g1), side_z hy h2 _ (List.mem_of_getElem? g2)⟩
    have e1 : (a.parts.map (Val v))[i]? = some (Val v p.1) := by rw [List.getElem?_map, g1]; rfl
    have e2 : (b.parts.map (Val v))[i]? = some (Val v p.2) := by rw [List.getElem?_map, g2]; rfl
    rw [hl, e1] at e2
    exact Option.some.inj e2
  unfold matchP
  rw [if_neg (by rintro (e | e | e); exact e c1.symm; exact e c2.symm; exact e hlen)]
  cases a with
  | typ x' => exact ⟨rfl, hz⟩
  | var n f =>
    cases b with
    | typ y' => exact ⟨rfl, hz⟩
    | var r g =>
      dsimp only
      split
      · exact ⟨rfl, fun p hp => by simp at hp⟩
      · exact ⟨rfl, hz⟩
theorem sd_known {a : Sd} (h : ∀ n l d hd, a = .var n (.opn l d hd) → False) : a.isOpn = false := by
  cases a with
  | typ x => rfl
  | var n f =>
    cases f with
    | link r => rfl
    | typ kd nm xs => rfl
    | opn l d hd => exact (h n l d hd rfl).elim
theorem pair_sol {q d : Nat} {s : St} {M : PM} {x y : Ty} {a b : Sd} {r : PR} {v : Int → Ty} (h : Sol s.K v) (hf : Fr s) (nx : negY s.K x) (ny : negY s.K y) (hx : zY x) (hy : zY y) (h1 : takenP q s.K x = some a) (h2 : takenP q s.K y = some b) (hv : Val v x = Val v y) (hp : pairP q d s M a b = some r) :
    r.err = 0 ∧ ∃ v', Agree s.K v v' ∧ Sol r.st.K v' ∧ ∀ p ∈ r.more, Val v' p.1 = Val v' p.2 ∧ zY p.1 ∧ zY p.2 := by
  unfold pairP at hp
  split at hp
  · injection hp with hp
    subst hp
    exact ⟨rfl, v, Agree.refl _ _, h, fun p hp => by simp at hp⟩
  · rename_i hsv
    split at hp
    · rename_i n la da ha r lb db hb
      obtain ⟨s', hj, rfl⟩ := Option.map_eq_some_iff.1 hp
      obtain ⟨a1, a2, a3, _, _⟩ := open_val h hf nx h1
      obtain ⟨b1, b2, b3, _, _⟩ := open_val h hf ny h2
      exact ⟨rfl, v, Agree.refl _ _, join_sol h (a1.symm.trans (hv.trans b1)) a2 b2 a3 b3 hj, fun p hp => by simp at hp⟩
    · rename_i n la da ha hnb
      obtain ⟨⟨e, s'⟩, hj, rfl⟩ := Option.map_eq_some_iff.1 hp
      obtain ⟨a1, a2, a3, a4, _⟩ := open_val h hf nx h1
      have ob : b.isOpn = false := sd_known fun n' l d hd e => by first | exact hnb n' l d hd e | exact hnb _ _ _ _ _ _ _ _ rfl e
      obtain ⟨e0, v', g1, g2⟩ := bind_sol h hf ny hy h2 ob (a1.symm.trans hv) a4 hj
      exact ⟨e0, v', g1, g2, fun p hp => by simp at hp⟩
    · rename_i r lb db hb hna
      obtain ⟨⟨e, s'⟩, hj, rfl⟩ := Option.map_eq_some_iff.1 hp
      obtain ⟨a1, a2, a3, a4, _⟩ := open_val h hf ny h2
      have oa : a.isOpn = false := sd_known fun n' l d hd e => by first | exact hna n' l d hd e | exact hna _ _ _ _ _ _ _ _ e rfl
      obtain ⟨e0, v', g1, g2⟩ := bind_sol h hf nx hx h1 oa (a1.symm.trans hv.symm) a4 hj
      exact ⟨e0, v', g1, g2, fun p hp => by simp at hp⟩
    · rename_i n1 n2 n3
      injection hp with hp
      subst hp
      have oa : a.isOpn = false := sd_known fun n l d hd e => by first | exact n1 n l d hd e | exact n2 n l d hd e | exact n3 n l d hd e
      have ob : b.isOpn = false := sd_known fun n l d hd e => by first | exact n1 n l d hd e | exact n2 n l d hd e | exact n3 n l d hd e
      obtain ⟨e0, g⟩ := match_sol (M := M) h hx hy h1 h2 oa ob hv
      exact ⟨e0, v, Agree.refl _ _, by rw [matchP_st]; exact h, g⟩
theorem run_sol {q d : Nat} : ∀ (k : Nat) (s : St) (M : PM) (td : List (Ty × Ty)) (e : Int) (s' : St) (v : Int → Ty), sameP q d k s M td = some (e, s') → Sol s.K v → Fr s → (∀ p ∈ td, negY s.K p.1 ∧ negY s.K p.2) → (∀ p ∈ td, Val v p.1 = Val v p.2 ∧ zY p.1 ∧ zY p.2) →
    e = 0 ∧ ∃ v', Agree s.K v v' ∧ Sol s'.K v'
  | k, s, M, [], e, s', v, h, hs, _, _, _ => by
    unfold sameP at h
    simp only [Option.some.injEq, Prod.mk.injEq] at h
    obtain ⟨rfl, rfl⟩ := h
    exact ⟨rfl, v, Agree.refl _ _, hs⟩
  | 0, s, M, p :: td, e, s', v, h, _, _, _, _ => by unfold sameP at h; cases h
  | k + 1, s, M, (x, y) :: td, e, s', v, h, hs, hf, hn, hv => by
    unfold sameP at h
    split at h
    · rename_i a b h1 h2
      split at h
      · cases h
      · rename_i r hp
        obtain ⟨nx, ny⟩ := hn (x, y) (by simp)
        obtain ⟨hxy, zx, zy⟩ := hv (x, y) (by simp)
        obtain ⟨e0, v1, a1, s1, m1⟩ := pair_sol hs hf nx ny zx zy h1 h2 hxy hp
        obtain ⟨x1, f1, n1, _⟩ := pair_good hf nx ny h1 h2 hp e0
        rw [if_neg (by simpa using e0)] at h
        split at h
        · obtain ⟨e1, v2, a2, s2⟩ := run_sol k r.st r.M (r.more ++ td) e s' v1 h s1 f1 (fun p hp => by
            rcases List.mem_append.1 hp with hp | hp
            · exact n1 p hp
            · have := hn p (List.mem_cons_of_mem _ hp)
              exact ⟨this.1.ext x1, this.2.ext x1⟩) (fun p hp => by
            rcases List.mem_append.1 hp with hp | hp
            · exact m1 p hp
            · have hm := List.mem_cons_of_mem (x, y) hp
              obtain ⟨g1, g2, g3⟩ := hv p hm
              rw [Val.agree a1 (hn p hm).1, Val.agree a1 (hn p hm).2]
              exact ⟨g1, g2, g3⟩)
          exact ⟨e1, v2, a1.trans x1 a2, s2⟩
        · cases h
    · cases h
theorem z_okT : ∀ t : Tys, okT t = true → zT t
  | .nil, _ => trivial
  | .cons kd n nm args rest, h => by
    rw [okT, Bool.and_eq_true] at h
    refine ⟨fun hk => ?_, z_okT rest h.2⟩
    rw [if_neg hk, Bool.and_eq_true] at h
    have h1 := h.1.1
    unfold headC at h1
    simp only [Bool.and_eq_true, Bool.or_eq_true, decide_eq_true_eq] at h1
    exact ⟨by omega, z_okT args h.1.2⟩
theorem z_ok {x : Ty} (h : okTy x = true) : zY x := (z_okT (.cons x.kd x.n x.nm x.args .nil) (by rw [okT]; unfold okTy at h; rw [h]; rfl)).1
abbrev K00 : PS := fun _ => none
theorem sol_empty (v : Int → Ty) : Sol K00 v := ⟨fun n r h => (by cases h), fun n l d hd h => (by cases h), fun n kd nm xs h => (by cases h)⟩
/-- Unify does not fail where values solve -/
theorem unify_sol {q d k : Nat} {K : PS} {c : Nat} {x y : Ty} {e : Int} {K' : PS} {c' : Nat} {v : Int → Ty} (h : unifyQ q d k K c x y = some (e, K', c')) (hs : Sol K v) (hf : Fr ⟨K, c, []⟩) (hx : okTy x = true) (hy : okTy y = true) (hv : Val v x = Val v y) : e = 0 ∧ ∃ v', Agree K v v' ∧ Sol K' v' := by
  obtain ⟨⟨e1, s'⟩, h1, h2⟩ := Option.map_eq_some_iff.1 h
  obtain ⟨e0, v', a1, s1⟩ := run_sol k _ _ _ e1 s' v h1 hs hf (fun p hp => by rw [List.mem_singleton.1 hp]; exact ⟨neg_ok hx, neg_ok hy⟩) (fun p hp => by rw [List.mem_singleton.1 hp]; exact ⟨hv, z_ok hx, z_ok hy⟩)
  dsimp only at h2
  rw [if_pos e0] at h2
  simp only [Prod.mk.injEq] at h2
  obtain ⟨rfl, rfl, _⟩ := h2
  exact ⟨rfl, v', a1, s1⟩
theorem JoinR.sol {q d k : Nat} {l : List Pr} {K : PS} {c : Nat} (h : JoinR q d k l K c) {g : Int → Ty} : (∀ p ∈ l, Val g p.1 = Val g p.2) → ∃ v, Agree K00 g v ∧ Sol K v := by
  induction h with
  | nil => exact fun _ => ⟨g, Agree.refl _ _, sol_empty g⟩
  | snoc h ox oy hu ih =>
    intro hv
    obtain ⟨v, a1, s1⟩ := ih fun p hp => hv p (List.mem_append_left _ hp)
    have hp := hv _ (List.mem_append_right _ (List.mem_singleton.2 rfl))
    obtain ⟨_, v', a2, s2⟩ := unify_sol hu s1 h.good.1 ox oy (by rw [Val.agree a1 (neg_ok ox), Val.agree a1 (neg_ok oy)]; exact hp)
    exact ⟨v', fun n hn => (a2 n fun q => absurd rfl (hn q)).trans (a1 n hn), s2⟩
/-- pairs that some values solve can be made the same -/
theorem join_no {q d k : Nat} {l : List Pr} {g : Int → Ty} (hfew : fewP l) (hok : ∀ p ∈ l, okTy p.1 = true ∧ okTy p.2 = true) (hv : ∀ p ∈ l, Val g p.1 = Val g p.2) : ¬ JoinNo q d k l := by
  rintro (h | ⟨i, p, K, c, hp, hj, h⟩)
  · exact h hfew
  · have hm := List.mem_of_getElem? hp
    rcases h with h | ⟨e, r, he, hu⟩
    · rw [(hok p hm).1, (hok p hm).2] at h
      cases h
    · obtain ⟨v, a1, s1⟩ := hj.sol fun p hp => hv p (List.mem_of_mem_take hp)
      obtain ⟨r1, r2⟩ := r
      have := unify_sol hu s1 hj.good.1 (hok p hm).1 (hok p hm).2 (by rw [Val.agree a1 (neg_ok (hok p hm).1), Val.agree a1 (neg_ok (hok p hm).2)]; exact hv p hm)
      exact he this.1
end Go.Proofs.Ytgomafdhckfnbaa.Un
