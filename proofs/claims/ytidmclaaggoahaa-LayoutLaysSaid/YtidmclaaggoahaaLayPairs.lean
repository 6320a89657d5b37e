/-
  What Lay makes: braces in pairs; plain facts on the fold.
-/
import Derived.Test.YtidmclaaggoahaaLayPl
namespace Go.Proofs.Ytidmclaaggoahaa.Ly
open Go.RowKit Pl Ar Mm Lx
set_option linter.unusedVariables false
set_option linter.unusedSimpArgs false
def opT (t : TokM) : Int := if t.made = true then (if t.text = ⟨#[123]⟩ then 1 else if t.text = ⟨#[125]⟩ then -1 else 0) else 0
def okT (s : Int) (t : TokM) : Prop := t.made = true → t.kind = 5 ∧ (t.text = ⟨#[123]⟩ ∨ t.text = ⟨#[125]⟩ ∨ t.text = ⟨#[59]⟩) ∧ 0 ≤ s + opT t ∧ (t.text = ⟨#[59]⟩ → s + opT t ≠ 0)
inductive GoodL : List TokM → Int → Prop
  | nil : GoodL [] 0
  | snoc {T : List TokM} {s : Int} (t : TokM) : GoodL T s → okT s t → GoodL (T ++ [t]) (s + opT t)
theorem op_open (ln col : Int) : opT (mkM [123] ln col) = 1 := by simp [opT, mkM]
theorem op_shut (ln col : Int) : opT (endM ln col) = -1 := by simp [opT, endM]
theorem mk_end (ln col : Int) : mkM [125] ln col = endM ln col := rfl
theorem op_semi (ln col : Int) : opT (mkM [59] ln col) = 0 := by simp [opT, mkM]
theorem op_real {t : TokM} (h : t.made = false) : opT t = 0 := by simp [opT, h]
theorem ok_real {t : TokM} (s : Int) (h : t.made = false) : okT s t := fun h2 => by rw [h] at h2; cases h2
theorem GoodL.real {T : List TokM} {s : Int} (g : GoodL T s) {t : TokM} (h : t.made = false) : GoodL (T ++ [t]) s := by
  have := g.snoc t (ok_real s h)
  rwa [op_real h, Int.add_zero] at this
theorem GoodL.opens {T : List TokM} {s : Int} (g : GoodL T s) (h : 0 ≤ s) (ln col : Int) : GoodL (T ++ [mkM [123] ln col]) (s + 1) := by
  have := g.snoc (mkM [123] ln col) (fun _ => ⟨rfl, .inl rfl, by rw [op_open]; omega, fun e => by simp [mkM] at e⟩)
  rwa [op_open] at this
theorem GoodL.shuts {T : List TokM} {s : Int} (g : GoodL T s) (h : 1 ≤ s) (ln col : Int) : GoodL (T ++ [endM ln col]) (s - 1) := by
  have := g.snoc (endM ln col) (fun _ => ⟨rfl, .inr (.inl rfl), by rw [op_shut]; omega, fun e => by simp [endM] at e⟩)
  rwa [op_shut] at this
theorem GoodL.semi {T : List TokM} {s : Int} (g : GoodL T s) (h : 1 ≤ s) (ln col : Int) : GoodL (T ++ [mkM [59] ln col]) s := by
  have := g.snoc (mkM [59] ln col) (fun _ => ⟨rfl, .inr (.inr rfl), by rw [op_semi]; omega, fun _ => by rw [op_semi]; omega⟩)
  rwa [op_semi, Int.add_zero] at this
theorem GoodL.many {T : List TokM} {s : Int} (g : GoodL T s) (ln col : Int) : ∀ n : Nat, (n : Int) ≤ s → GoodL (T ++ List.replicate n (endM ln col)) (s - n)
  | 0, _ => by simpa using g
  | n + 1, h => by
    have h2 := (GoodL.many g ln col n (by omega)).shuts (by omega) ln col
    rw [List.replicate_succ', ← List.append_assoc]
    have e : s - ((n + 1 : Nat) : Int) = s - n - 1 := by omega
    rw [e]
    exact h2
theorem laidN_split (F : List Fr) (q : Nat) : laidN F = laidN (F.take q) + laidN (F.drop q) := by
  have : laidN (F.take q ++ F.drop q) = laidN (F.take q) + laidN (F.drop q) := by unfold laidN; rw [List.filter_append, List.length_append]
  rwa [List.take_append_drop] at this
theorem GoodL.closed {T : List TokM} {F : List Fr} (g : GoodL T (laidN F)) (q : Nat) (ln col : Int) : GoodL (closedT T F q ln col) (laidN (F.take q)) := by
  have h := laidN_split F q
  have := g.many ln col (laidN (F.drop q)) (by omega)
  have e : ((laidN F : Nat) : Int) - (laidN (F.drop q) : Nat) = (laidN (F.take q) : Nat) := by omega
  rw [e] at this
  exact this
/-- only laid out blocks have a column -/
def FI (F : List Fr) : Prop := ∀ f ∈ F, f.kind ≠ 1 → f.col = 0
theorem FI.take {F : List Fr} (h : FI F) (q : Nat) : FI (F.take q) := fun f hf => h f (List.mem_of_mem_take hf)
theorem FI.push {F : List Fr} (h : FI F) {f : Fr} (hf : f.kind ≠ 1 → f.col = 0) : FI (F ++ [f]) := by
  intro x hx
  rcases List.mem_append.1 hx with hx | hx
  · exact h x hx
  · obtain rfl := List.mem_singleton.1 hx
    exact hf
theorem frK_get {F : List Fr} {i : Nat} (h : i < F.length) : frK F i = F[i].kind := by simp [frK, List.getD_eq_getElem?_getD, h]
theorem frC_get {F : List Fr} {i : Nat} (h : i < F.length) : frC F i = F[i].col := by simp [frC, List.getD_eq_getElem?_getD, h]
theorem inner_laid {F : List Fr} (hF : FI F) : ∀ q, q ≤ F.length → 0 < (innerF F q).2 → 1 ≤ laidN (F.take q)
  | 0, _, h => by simp [innerF] at h
  | q + 1, hq, h => by
    have e : F.take (q + 1) = F.take q ++ [F[q]] := List.take_succ_eq_append_getElem (by omega)
    have e2 : laidN (F.take (q + 1)) = laidN (F.take q) + laidN [F[q]] := by rw [e]; unfold laidN; rw [List.filter_append, List.length_append]
    unfold innerF at h
    split at h
    · have h : 0 < frC F q := h
      rw [frC_get (by omega)] at h
      have hk : F[q].kind = 1 := by
        by_cases hk : F[q].kind = 1
        · exact hk
        · have := hF _ (List.getElem_mem (show q < F.length by omega)) hk; omega
      have : laidN [F[q]] = 1 := by simp [laidN, hk]
      omega
    · have := inner_laid hF q (by omega) h
      omega
theorem laidN_push (F : List Fr) (k c : Int) : laidN (F ++ [⟨k, c⟩]) = laidN F + (if k = 1 then 1 else 0) := by
  unfold laidN
  rw [List.filter_append, List.length_append]
  by_cases h : k = 1 <;> simp [h]
theorem opened_ne1 (k : Int) (t : List UInt8) : openedK k t ≠ 1 := by
  unfold openedK
  repeat' split
  all_goals decide
def GS (s : St) : Prop := GoodL s.T (laidN s.F) ∧ FI s.F
theorem GS_layS {t : TokM} (ht : t.made = false) (first : Bool) {s : St} (h : GS s) : GS (layS t first s) := by
  unfold layS
  split
  · exact ⟨by rw [show laidN (s.F ++ [⟨7, 0⟩]) = laidN s.F from by rw [laidN_push]; simp]; exact h.1.real ht, h.2.push fun _ => rfl⟩
  · have h1 : GoodL (ph1 s.due first t s.T s.F).T (laidN (ph1 s.due first t s.T s.F).F) ∧ FI (ph1 s.due first t s.T s.F).F := by
      unfold ph1
      split
      · split
        · refine ⟨?_, h.2.push fun e => absurd rfl e⟩
          rw [laidN_push]
          exact h.1.opens (by omega) _ _
        · refine ⟨?_, h.2⟩
          have := (h.1.opens (by omega) t.line t.col).shuts (by omega) t.line t.col
          rw [Int.add_sub_cancel] at this
          exact this
      · exact h
    generalize ph1 s.due first t s.T s.F = r at h1 ⊢
    have h2 : GoodL (ph2 t r).1 (laidN (ph2 t r).2) ∧ FI (ph2 t r).2 := by
      unfold ph2
      split
      · refine ⟨?_, h1.2.take _⟩
        have hc := h1.1.closed (lineQ r.F t.col r.F.length r.F.length) t.line t.col
        unfold lineT
        split
        · rename_i hh
          have := inner_laid h1.2 _ (lineQ_le r.F t.col r.F.length r.F.length) hh.1
          exact hc.semi (by omega) _ _
        · rw [List.append_nil]; exact hc
      · exact h1
    generalize ph2 t r = r2 at h2 ⊢
    have h3 : GoodL (ph3 t r2).1 (laidN (ph3 t r2).2) ∧ FI (ph3 t r2).2 := by
      unfold ph3
      split
      · exact h2
      · exact ⟨h2.1.closed _ _ _, h2.2.take _⟩
    generalize ph3 t r2 = r3 at h3 ⊢
    unfold ph4
    split
    · exact ⟨h3.1.real ht, h3.2⟩
    · refine ⟨?_, h3.2.push fun _ => rfl⟩
      show GoodL (r3.1 ++ [t]) (laidN (r3.2 ++ [_]))
      rw [laidN_push, if_neg (opened_ne1 _ _)]
      exact h3.1.real ht
theorem GS_layF {L : List TokM} (hL : ∀ k, k < L.length → (tk L k).made = false) : ∀ n, n ≤ L.length → GS (layF L n)
  | 0, _ => ⟨GoodL.nil, fun f hf => by cases hf⟩
  | n + 1, h => GS_layS (hL n (by omega)) _ (GS_layF hL n (by omega))
theorem good_layAll {L : List TokM} (hL : ∀ k, k < L.length → (tk L k).made = false) : GoodL (layAll L) 0 := by
  have h := GS_layF hL L.length (Nat.le_refl _)
  unfold layAll endT
  have h2 : GoodL (if (layF L L.length).due = true then (layF L L.length).T ++ [mkM [123] (lnAt L L.length) (colAt L L.length)] ++ [mkM [125] (lnAt L L.length) (colAt L L.length)] else (layF L L.length).T) (laidN (layF L L.length).F) := by
    split
    · have := (h.1.opens (by omega) (lnAt L L.length) (colAt L L.length)).shuts (by omega) (lnAt L L.length) (colAt L L.length)
      rw [Int.add_sub_cancel] at this
      exact this
    · exact h.1
  exact h2.closed 0 _ _
/-- the braces that are open behind the first k tokens -/
def sumK (M : List TokM) : Nat → Int
  | 0 => 0
  | k + 1 => sumK M k + opT (tk M k)
theorem tk_app {T : List TokM} {t : TokM} {k : Nat} (h : k < T.length) : tk (T ++ [t]) k = tk T k := by
  unfold tk
  rw [List.getD_eq_getElem?_getD, List.getD_eq_getElem?_getD, List.getElem?_append_left h]
theorem tk_end (T : List TokM) (t : TokM) : tk (T ++ [t]) T.length = t := by
  unfold tk
  rw [List.getD_eq_getElem?_getD, List.getElem?_append_right (Nat.le_refl _)]
  simp
theorem sumK_app {T : List TokM} {t : TokM} : ∀ k, k ≤ T.length → sumK (T ++ [t]) k = sumK T k
  | 0, _ => rfl
  | k + 1, h => by
    unfold sumK
    rw [sumK_app k (by omega), tk_app (by omega)]
theorem GoodL.at {M : List TokM} {s : Int} (g : GoodL M s) : sumK M M.length = s ∧ ∀ k, k < M.length → okT (sumK M k) (tk M k) := by
  induction g with
  | nil => exact ⟨rfl, fun k hk => by simp at hk⟩
  | @snoc T s t g ok ih =>
    obtain ⟨h1, h2⟩ := ih
    have e : sumK (T ++ [t]) T.length = s := by rw [sumK_app _ (Nat.le_refl _), h1]
    refine ⟨?_, fun k hk => ?_⟩
    · rw [List.length_append]
      show sumK (T ++ [t]) T.length + opT (tk (T ++ [t]) T.length) = _
      rw [e, tk_end]
    · rw [List.length_append] at hk
      rcases Nat.lt_or_ge k T.length with h | h
      · rw [tk_app h, sumK_app k (by omega)]; exact h2 k h
      · obtain rfl : k = T.length := by simp at hk; omega
        rw [e, tk_end]; exact ok
theorem tk_real (L : List TokM) (k : Nat) : (tk (L.map realT) k).made = false := by
  unfold tk
  rw [List.getD_eq_getElem?_getD, List.getElem?_map]
  cases L[k]? <;> rfl
theorem op_le (t : TokM) : -1 ≤ opT t ∧ opT t ≤ 1 := by
  unfold opT
  repeat' split
  all_goals omega
theorem sumK_le (M : List TokM) : ∀ k : Nat, -(k : Int) ≤ sumK M k ∧ sumK M k ≤ k
  | 0 => by simp [sumK]
  | k + 1 => by
    have h1 := sumK_le M k
    have h2 := op_le (tk M k)
    unfold sumK
    omega
end Go.Proofs.Ytidmclaaggoahaa.Ly
