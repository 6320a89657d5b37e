/-
  What Lay keeps: plain facts on the fold.
-/
import Derived.Test.YtidmclaaggoahaaLayZ
import Derived.Test.YtidmclaaggoahaaLayArg
namespace Go.Proofs.Ytidmclaaggoahaa.Ly
open Go.RowKit Pl Ar Mm Lx
set_option linter.unusedVariables false
set_option linter.unusedSimpArgs false
/-- those that were not made -/
def phi (T : List TokM) : List TokM := T.filter fun t => !t.made
theorem phi_app (A B : List TokM) : phi (A ++ B) = phi A ++ phi B := List.filter_append ..
theorem phi_made {t : TokM} (h : t.made = true) : phi [t] = [] := by simp [phi, h]
theorem phi_closedT (T : List TokM) (F : List Fr) (q : Nat) (ln col : Int) : phi (closedT T F q ln col) = phi T := by
  unfold closedT
  rw [phi_app]
  have : phi (List.replicate (laidN (F.drop q)) (endM ln col)) = [] := by
    unfold phi
    rw [List.filter_eq_nil_iff]
    intro a ha
    rw [List.eq_of_mem_replicate ha]
    simp [endM]
  rw [this, List.append_nil]
theorem phi_mk (s : List UInt8) (ln col : Int) : phi [mkM s ln col] = [] := phi_made rfl
theorem phi_ph1 (due first : Bool) (t : TokM) (T : List TokM) (F : List Fr) : phi (ph1 due first t T F).T = phi T := by
  unfold ph1
  split
  · split <;> simp [phi, mkM]
  · rfl
theorem phi_ph2 (t : TokM) (s : LS) : phi (ph2 t s).1 = phi s.T := by
  unfold ph2
  split
  · unfold lineT
    simp only [phi_app, phi_closedT]
    split <;> simp [phi, mkM]
  · rfl
theorem phi_ph3 (t : TokM) (s : List TokM × List Fr) : phi (ph3 t s).1 = phi s.1 := by
  unfold ph3
  split
  · rfl
  · exact phi_closedT _ _ _ _ _
theorem phi_ph4 (t : TokM) (s : List TokM × List Fr) : phi (ph4 t s).1 = phi s.1 ++ phi [t] := phi_app _ _
theorem phi_layS (t : TokM) (first : Bool) (s : St) : phi (layS t first s).T = phi s.T ++ phi [t] := by
  unfold layS
  split
  · exact phi_app _ _
  · show phi (ph4 t _).1 = _
    rw [phi_ph4, phi_ph3, phi_ph2, phi_ph1]
theorem take_tk {L : List TokM} {n : Nat} (h : n < L.length) : L.take (n + 1) = L.take n ++ [tk L n] := by
  rw [List.take_succ_eq_append_getElem h]
  unfold tk
  rw [List.getD_eq_getElem?_getD, List.getElem?_eq_getElem h]
  rfl
theorem phi_layF (L : List TokM) : ∀ n, n ≤ L.length → phi (layF L n).T = phi (L.take n)
  | 0, _ => by simp [layF, phi]
  | n + 1, h => by
    show phi (layS (tk L n) (fstAt L n) (layF L n)).T = _
    rw [phi_layS, phi_layF L n (by omega), take_tk (by omega), phi_app]
theorem phi_endT (T : List TokM) (F : List Fr) (due : Bool) (ln col : Int) : phi (endT T F due ln col) = phi T := by
  unfold endT
  rw [phi_closedT]
  split
  · simp [phi, mkM]
  · rfl
theorem phi_layAll (L : List TokM) : phi (layAll L) = phi L := by
  unfold layAll
  rw [phi_endT, phi_layF L _ (Nat.le_refl _), List.take_length]
theorem phi_real (L : List TokM) : phi (L.map realT) = L.map realT := by
  unfold phi
  rw [List.filter_eq_self]
  intro a ha
  obtain ⟨t, _, rfl⟩ := List.mem_map.1 ha
  rfl
theorem plainF_phi (L : List TokM) : ∀ k, k ≤ L.length → plainF L k = phi (L.take k)
  | 0, _ => by simp [plainF, phi]
  | k + 1, h => by
    unfold plainF
    rw [take_tk (by omega), phi_app, plainF_phi L k (by omega)]
    by_cases hm : (tk L k).made = true
    · rw [if_pos hm, phi_made hm, List.append_nil]
    · rw [if_neg hm]; simp [phi, hm]
theorem plain_lay (L : List TokM) : plainF (layAll (L.map realT)) (layAll (L.map realT)).length = L.map realT := by
  rw [plainF_phi _ _ (Nat.le_refl _), List.take_length, phi_layAll, phi_real]
theorem layAll_len (L : List TokM) : (layAll L).length ≤ 5 * L.length + 2 := by
  have h := layF_len L L.length
  unfold layAll endT
  refine Nat.le_trans (closedT_len _ _ _ _ _) ?_
  split <;> (try simp) <;> omega
end Go.Proofs.Ytidmclaaggoahaa.Ly
