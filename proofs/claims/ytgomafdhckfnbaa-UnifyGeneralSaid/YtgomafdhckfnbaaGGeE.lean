/-
  THE LAW'S VALUES: types in the place of the first variables. No memory in sight.
-/
import Derived.Test.YtgomafdhckfnbaaGF
import Derived.Test.YtgomafdhckfnbaaGGeD
import Derived.Test.YtgomafdhckfnbaaGPrF

namespace Go.Proofs.Ytgomafdhckfnbaa.Un
open Go.RowKit Mm Tm Rn Ua
set_option linter.unusedVariables false
/-- the first variables -/
def upN (m : Nat) : List Int := (List.range m).map fun i => ((i : Nat) : Int)
theorem upN_len (m : Nat) : (upN m).length = m := by unfold upN; rw [List.length_map, List.length_range]
theorem upN_succ (m : Nat) : upN (m + 1) = upN m ++ [((m : Nat) : Int)] := by unfold upN; rw [List.range_succ, List.map_append]; rfl
theorem subF_ok {W : List Ty} (hW : ∀ y ∈ W, okTy y = true) {l : List Int} {n : Int} {y : Ty} (h : subF l W n = some y) : okTy y = true := by
  unfold subF at h
  obtain ⟨i, _, h2⟩ := Option.bind_eq_some_iff.1 h
  exact hW y (List.mem_of_getElem? h2)
theorem okT_sub {f : Int → Option Ty} (hf : ∀ n y, f n = some y → okTy y = true) : ∀ t : Tys, okT t = true → okT (subT f t) = true
  | .nil, _ => rfl
  | .cons kd n nm args rest, h => by
    rw [okT, Bool.and_eq_true] at h
    have h2 := okT_sub hf rest h.2
    rw [subT]
    by_cases hk : kd = 1
    · rw [if_pos hk] at h
      rw [if_pos hk]
      cases e : f n with
      | none =>
        rw [okT, h2, if_pos hk, h.1]
        rfl
      | some y =>
        rw [okT, h2, Bool.and_true]
        exact hf n y e
    · rw [if_neg hk, Bool.and_eq_true] at h
      rw [if_neg hk, okT, h2, if_neg hk, subT_len, h.1.1, okT_sub hf args h.1.2]
      rfl
theorem ok_sub1 {f : Int → Option Ty} (hf : ∀ n y, f n = some y → okTy y = true) {x : Ty} (h : okTy x = true) : okTy (sub1 f x) = true := by
  unfold sub1
  by_cases hk : x.kd = 1
  · rw [if_pos hk]
    cases e : f x.n with
    | none => exact h
    | some y => exact hf _ _ e
  · rw [if_neg hk]
    unfold okTy at h ⊢
    rw [if_neg hk, Bool.and_eq_true] at h
    simp only [if_neg hk]
    rw [subT_len, h.1, okT_sub hf _ h.2]
    rfl
/-- a value that may be is of a variable in its bounds -/
theorem getV_back {W : List Ty} (hl : W.length ≤ 12) {n : Int} (h0 : 0 ≤ n) (h : okTy (getV (subF (upN W.length) W) n) = true) : n ≤ 1073741824 := by
  unfold getV subF at h
  cases hi : idx n (upN W.length) with
  | none =>
    rw [hi] at h
    unfold okTy at h
    rw [show ((none : Option Nat).bind fun i => W[i]?).getD (vrT n) = vrT n from rfl] at h
    rw [if_pos rfl] at h
    unfold headV at h
    simp only [Bool.and_eq_true, decide_eq_true_eq] at h
    exact h.2.1
  | some i =>
    have h1 := idx_get hi
    unfold upN at h1
    rw [List.getElem?_map] at h1
    have h2 := (List.getElem?_eq_some_iff.1 (idx_get hi)).1
    rw [upN_len] at h2
    rw [List.getElem?_range h2] at h1
    injection h1 with h1
    have h3 : ((i : Nat) : Int) = n := h1
    omega
/-- RESOLVE, THEN SUBST, IS SUBST -/
theorem res_sub {q d kk : Nat} (hN : Nums q d kk) {l : List Pr} {K : PS} {c : Nat} {W : List Ty} (hj : JoinR q d kk l K c) (hfew : fewP l) (hl : W.length ≤ 12) (hW : ∀ y ∈ W, okTy y = true)
    (hv : ∀ p ∈ l, sub1 (subF (upN W.length) W) p.1 = sub1 (subF (upN W.length) W) p.2) {x : Ty} (hx : okTy x = true) (he : resE q K x = 0) :
    okTy (resP q K x) = true ∧ sub1 (subF (upN W.length) W) (resP q K x) = sub1 (subF (upN W.length) W) x := by
  have hkb := hj.kb hN (by have := hfew.1; omega) hfew.2
  have hok := hj.ok
  obtain ⟨v, a1, s1⟩ := hj.sol (g := getV (subF (upN W.length) W)) fun p hp => by rw [← sub_get (cl_ok (hok p hp).1), ← sub_get (cl_ok (hok p hp).2)]; exact hv p hp
  obtain ⟨r, hr⟩ := hkb.whole hN (by have := hfew.1; omega) hx
  obtain ⟨m, o⟩ := r
  have hy : ∃ y, o = some y ∧ resP q K x = y := by
    unfold resE at he
    unfold resP
    rw [hr] at he ⊢
    cases o with
    | none => exact absurd he (show ¬ (102 : Int) = 0 by decide)
    | some y => exact ⟨y, rfl, rfl⟩
  obtain ⟨y, rfl, hy⟩ := hy
  rw [hy]
  obtain ⟨w1, w2⟩ := whole_sol (s := ⟨K, c, []⟩) s1 hj.good.1 (fun n kd nm xs e => (hkb.1.ok.parts n kd nm xs e).2.1) 256 256 x m y (neg_ok hx) (z_ok hx) hr
  have n0 : ∀ z : Ty, clY z → negY K00 z := fun z hz => by
    have go : ∀ t : Tys, clT t → negT K00 t := by
      intro t
      induction t with
      | nil => exact fun _ => trivial
      | cons kd n nm args rest i1 i2 =>
        intro h
        refine ⟨fun e q => by have := (h.1 e).1; omega, ?_, i2 h.2.2⟩
        by_cases hk : kd = 1
        · rw [(h.1 hk).2.2]; trivial
        · exact i1 (h.2.1 hk)
    refine ⟨fun e q => by have := (hz.1 e).1; omega, ?_⟩
    by_cases hk : z.kd = 1
    · rw [(hz.1 hk).2.2]; trivial
    · exact go _ (hz.2 hk)
  have e1 : Val (getV (subF (upN W.length) W)) y = Val (getV (subF (upN W.length) W)) x := by
    rw [← Val.agree a1 (n0 y w2), ← Val.agree a1 (neg_ok hx)]
    exact w1
  rw [sub_get w2, sub_get (cl_ok hx)]
  refine ⟨ok_back (fun n h0 h => getV_back hl h0 h) w2 ?_, e1⟩
  rw [e1, ← sub_get (cl_ok hx)]
  exact ok_sub1 (fun n y h => subF_ok hW h) hx
/-- pairs that these values solve can be made the same -/
theorem sub_no {q d k : Nat} {l : List Pr} {W : List Ty} (hfew : fewP l) (hok : ∀ p ∈ l, okTy p.1 = true ∧ okTy p.2 = true) (hv : ∀ p ∈ l, sub1 (subF (upN W.length) W) p.1 = sub1 (subF (upN W.length) W) p.2) : ¬ JoinNo q d k l :=
  join_no (g := getV (subF (upN W.length) W)) hfew hok fun p hp => by rw [← sub_get (cl_ok (hok p hp).1), ← sub_get (cl_ok (hok p hp).2)]; exact hv p hp
end Go.Proofs.Ytgomafdhckfnbaa.Un
