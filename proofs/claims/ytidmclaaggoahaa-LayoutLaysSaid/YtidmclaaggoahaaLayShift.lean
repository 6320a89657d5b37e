/-
  Lines moved to the right: what Lay tells moves alike; plain facts.
-/
import Derived.Test.YtidmclaaggoahaaLayPairs
namespace Go.Proofs.Ytidmclaaggoahaa.Ly
open Go.RowKit Pl Ar Mm Lx
set_option linter.unusedVariables false
set_option linter.unusedSimpArgs false
theorem lexG_cols (K : Int) (f : Nat) : ∀ (l : List UInt8) (ln col : Int) (acc : List Tok), 1 ≤ col → col + l.length ≤ K → (∀ t ∈ acc, 1 ≤ t.col ∧ t.col ≤ K) → ∀ t ∈ (lexG f l ln col acc).toks, 1 ≤ t.col ∧ t.col ≤ K := by
  induction f with
  | zero => intro l ln col acc _ _ ha; exact ha
  | succ f ih =>
    intro l ln col acc h1 h2 ha
    unfold lexG
    split
    · exact ha
    split
    · have hg := gapLen_le l
      have hd : ((l.drop (gapLen l)).length : Int) = l.length - gapLen l := by simp; omega
      have ht : ((l.take (gapLen l)).length : Int) = gapLen l := by simp; omega
      refine ih _ _ _ _ ?_ ?_ ha
      · unfold behindC; split <;> omega
      · rw [hd]; unfold behindC; split <;> omega
    split
    · intro t ht; cases ht
    split
    · intro t ht; cases ht
    · rename_i hne _ _ _
      have hf := fText_len (l := l) (by cases l with | nil => exact absurd rfl hne | cons a l => simp)
      have hd : ((l.drop (fText l).length).length : Int) = l.length - (fText l).length := by simp; omega
      refine ih _ _ _ _ (by omega) (by rw [hd]; omega) ?_
      intro t ht
      rcases List.mem_append.1 ht with ht | ht
      · exact ha t ht
      · obtain rfl := List.mem_singleton.1 ht
        exact ⟨h1, by show col ≤ K; omega⟩
theorem lexed_cols (l : List UInt8) : ∀ t ∈ (lexed l).toks, 1 ≤ t.col ∧ t.col ≤ 8193 := by
  unfold lexed
  split
  · intro t ht; cases ht
  · exact lexG_cols 8193 _ _ _ _ _ (by omega) (by omega) (fun t ht => by cases ht)
theorem lexG_count (f : Nat) : ∀ (l : List UInt8) (ln col : Int) (acc : List Tok), acc.length ≤ 2048 → (lexG f l ln col acc).toks.length ≤ 2048 := by
  induction f with
  | zero => intro l ln col acc ha; exact ha
  | succ f ih =>
    intro l ln col acc ha
    unfold lexG
    split
    · exact ha
    split
    · exact ih _ _ _ _ ha
    split
    · exact Nat.zero_le _
    split
    · exact Nat.zero_le _
    · rename_i hne
      exact ih _ _ _ _ (by rw [List.length_append]; simp; omega)
theorem lexed_count (l : List UInt8) : (lexed l).toks.length ≤ 2048 := by
  unfold lexed
  split
  · exact Nat.zero_le _
  · exact lexG_count _ _ _ _ _ (Nat.zero_le _)
def shT (d : Int) (t : TokM) : TokM := ⟨t.kind, t.text, t.num, t.line, t.col + d, t.made⟩
def shF (d : Int) (f : Fr) : Fr := if f.kind = 1 then ⟨1, f.col + d⟩ else f
/-- laid out blocks have columns from 1 on, others none -/
def FC (F : List Fr) : Prop := ∀ f ∈ F, (f.kind = 1 → 1 ≤ f.col) ∧ (f.kind ≠ 1 → f.col = 0)
theorem FC.take {F : List Fr} (h : FC F) (q : Nat) : FC (F.take q) := fun f hf => h f (List.mem_of_mem_take hf)
theorem FC.push {F : List Fr} (h : FC F) {f : Fr} (h1 : f.kind = 1 → 1 ≤ f.col) (h2 : f.kind ≠ 1 → f.col = 0) : FC (F ++ [f]) := by
  intro x hx
  rcases List.mem_append.1 hx with hx | hx
  · exact h x hx
  · obtain rfl := List.mem_singleton.1 hx
    exact ⟨h1, h2⟩
section
variable {d : Int} (hd : 0 ≤ d)
theorem sh_kind (f : Fr) : (shF d f).kind = f.kind := by
  unfold shF
  split
  · rename_i h; rw [h]
  · rfl
theorem frK_sh (F : List Fr) (i : Nat) : frK (F.map (shF d)) i = frK F i := by
  simp only [frK, List.map_map]
  congr 1
  apply List.map_congr_left
  intro f _
  exact sh_kind f
theorem frC_sh {F : List Fr} (i : Nat) (hi : i < F.length) : frC (F.map (shF d)) i = (shF d F[i]).col := by
  rw [frC_get (by rw [List.length_map]; exact hi)]
  simp
theorem findF_sh (F : List Fr) (kind : Int) : ∀ i, findF (F.map (shF d)) kind i = findF F kind i
  | 0 => by simp [findF]
  | i + 1 => by simp only [findF, frK_sh, List.length_map, findF_sh F kind i]
theorem laidN_sh (F : List Fr) : laidN (F.map (shF d)) = laidN F := by
  induction F with
  | nil => rfl
  | cons f F ih =>
    unfold laidN at ih ⊢
    rw [List.map_cons, List.filter_cons, List.filter_cons, sh_kind]
    split <;> simp [ih]
/-- a block's column, moved -/
def shC (d c : Int) : Int := if 0 < c then c + d else c
theorem inner_sh {F : List Fr} (h : FC F) : ∀ q, q ≤ F.length → innerF (F.map (shF d)) q = ((innerF F q).1, shC d (innerF F q).2) ∧ 0 ≤ (innerF F q).2
  | 0, _ => ⟨rfl, Int.le_refl 0⟩
  | q + 1, hq => by
    unfold innerF
    simp only [frK_sh]
    have hf := h _ (List.getElem_mem (show q < F.length by omega))
    split
    · rw [frC_sh q (by omega), frC_get (by omega)]
      by_cases hk : F[q].kind = 1
      · have := hf.1 hk
        have e : (shF d F[q]).col = F[q].col + d := by unfold shF; rw [if_pos hk]
        refine ⟨?_, by simp only; omega⟩
        simp only [e, shC]
        rw [if_pos (by omega)]
      · have := hf.2 hk
        have e : (shF d F[q]).col = F[q].col := by unfold shF; rw [if_neg hk]
        refine ⟨?_, by simp only; omega⟩
        simp only [e, shC]
        rw [if_neg (by omega)]
    · exact inner_sh h q (by omega)
theorem closedT_sh (T : List TokM) (F : List Fr) (q : Nat) (ln col : Int) : closedT (T.map (shT d)) (F.map (shF d)) q ln (col + d) = (closedT T F q ln col).map (shT d) := by
  unfold closedT
  rw [← List.map_drop, laidN_sh, List.map_append, List.map_replicate]
  rfl
theorem mk_sh (s : List UInt8) (ln col : Int) : shT d (mkM s ln col) = mkM s ln (col + d) := rfl
theorem shF_push (F : List Fr) (k : Int) (hk : k ≠ 1) : (F ++ [(⟨k, 0⟩ : Fr)]).map (shF d) = F.map (shF d) ++ [⟨k, 0⟩] := by
  rw [List.map_append]
  simp [shF, hk]
theorem tk_sh {L : List TokM} {k : Nat} (h : k < L.length) : tk (L.map (shT d)) k = shT d (tk L k) := by
  unfold tk
  rw [List.getD_eq_getElem?_getD, List.getD_eq_getElem?_getD, List.getElem?_map, List.getElem?_eq_getElem h]
  rfl
theorem ph3_sh (t : TokM) (s : List TokM × List Fr) (h : FC s.2) : ph3 (shT d t) (s.1.map (shT d), s.2.map (shF d)) = ((ph3 t s).1.map (shT d), (ph3 t s).2.map (shF d)) ∧ FC (ph3 t s).2 := by
  unfold ph3
  have e1 : closedK (shT d t).kind (shT d t).text.data.toList = closedK t.kind t.text.data.toList := rfl
  rw [e1]
  split
  · exact ⟨rfl, h⟩
  · simp only
    rw [List.length_map, findF_sh]
    refine ⟨?_, h.take _⟩
    have e2 : (shT d t).col = t.col + d := rfl
    have e3 : (shT d t).line = t.line := rfl
    rw [e2, e3, closedT_sh, ← List.map_take]
include hd
theorem lineQ_sh {F : List Fr} (h : FC F) (c : Int) (hc : 1 ≤ c) : ∀ n q, q ≤ F.length → lineQ (F.map (shF d)) (c + d) n q = lineQ F c n q
  | 0, _, _ => rfl
  | n + 1, q, hq => by
    obtain ⟨e, h0⟩ := inner_sh (d := d) h q hq
    have hlt := (innerF_lt F q).1
    unfold lineQ
    rw [e]
    simp only
    have : (max (c + d) 0 < shC d (innerF F q).2) ↔ (max c 0 < (innerF F q).2) := by
      unfold shC
      split <;> omega
    by_cases hh : max c 0 < (innerF F q).2
    · rw [if_pos hh, if_pos (this.2 hh)]
      exact lineQ_sh h c hc n _ (by omega)
    · rw [if_neg hh, if_neg (fun x => hh (this.1 x))]
def shS (d : Int) (s : St) : St := ⟨s.T.map (shT d), s.F.map (shF d), s.due⟩
theorem ph1_sh {F : List Fr} (h : FC F) (due first : Bool) (t : TokM) (hc : 1 ≤ t.col) (T : List TokM) :
    ph1 due first (shT d t) (T.map (shT d)) (F.map (shF d)) = ⟨(ph1 due first t T F).T.map (shT d), (ph1 due first t T F).F.map (shF d), (ph1 due first t T F).fst⟩ ∧ FC (ph1 due first t T F).F := by
  unfold ph1
  split
  · obtain ⟨e, h0⟩ := inner_sh (d := d) h F.length (Nat.le_refl _)
    rw [List.length_map, e]
    have : (shC d (innerF F F.length).2 < (shT d t).col) ↔ ((innerF F F.length).2 < t.col) := by
      show shC d _ < t.col + d ↔ _
      unfold shC
      split <;> omega
    by_cases hh : (innerF F F.length).2 < t.col
    · rw [if_pos hh, if_pos (this.2 hh)]
      refine ⟨?_, h.push (fun _ => hc) (fun e => absurd rfl e)⟩
      simp [shF, mk_sh, shT]
      rfl
    · rw [if_neg hh, if_neg (fun x => hh (this.1 x))]
      refine ⟨?_, h⟩
      simp only [List.map_append, List.map_cons, List.map_nil, mk_sh]
      rfl
  · exact ⟨rfl, h⟩
theorem ph2_sh (t : TokM) (hc : 1 ≤ t.col) (s : LS) (h : FC s.F) :
    ph2 (shT d t) ⟨s.T.map (shT d), s.F.map (shF d), s.fst⟩ = ((ph2 t s).1.map (shT d), (ph2 t s).2.map (shF d)) ∧ FC (ph2 t s).2 := by
  unfold ph2
  simp only
  split
  · have hq := lineQ_sh hd h t.col hc s.F.length s.F.length (Nat.le_refl _)
    have hle := lineQ_le s.F t.col s.F.length s.F.length
    have e1 : (shT d t).col = t.col + d := rfl
    have e2 : (shT d t).line = t.line := rfl
    rw [List.length_map, e1, e2, hq]
    refine ⟨?_, h.take _⟩
    simp only
    rw [← List.map_take]
    congr 1
    unfold lineT
    obtain ⟨e, h0⟩ := inner_sh (d := d) h (lineQ s.F t.col s.F.length s.F.length) hle
    rw [e, closedT_sh, List.map_append]
    congr 1
    have : (0 < shC d (innerF s.F (lineQ s.F t.col s.F.length s.F.length)).2 ∧ shC d (innerF s.F (lineQ s.F t.col s.F.length s.F.length)).2 = t.col + d) ↔ (0 < (innerF s.F (lineQ s.F t.col s.F.length s.F.length)).2 ∧ (innerF s.F (lineQ s.F t.col s.F.length s.F.length)).2 = t.col) := by
      unfold shC
      split <;> omega
    by_cases hh : 0 < (innerF s.F (lineQ s.F t.col s.F.length s.F.length)).2 ∧ (innerF s.F (lineQ s.F t.col s.F.length s.F.length)).2 = t.col
    · rw [if_pos hh, if_pos (this.2 hh)]; rfl
    · rw [if_neg hh, if_neg (fun x => hh (this.1 x))]; rfl
  · exact ⟨rfl, h⟩
theorem layS_sh (t : TokM) (hc : 1 ≤ t.col) (first : Bool) (s : St) (h : FC s.F) : layS (shT d t) first (shS d s) = shS d (layS t first s) ∧ FC (layS t first s).F := by
  unfold layS
  have e0 : (shS d s).due = s.due := rfl
  have e1 : openedK (shT d t).kind (shT d t).text.data.toList = openedK t.kind t.text.data.toList := rfl
  rw [e0, e1]
  split
  · refine ⟨?_, h.push (fun e => absurd e (by decide)) (fun _ => rfl)⟩
    unfold shS
    simp only
    rw [shF_push _ _ (by decide), List.map_append]
    rfl
  · obtain ⟨p1, f1⟩ := ph1_sh hd h s.due first t hc s.T
    have p1 : ph1 s.due first (shT d t) (shS d s).T (shS d s).F = _ := p1
    rw [p1]
    generalize ph1 s.due first t s.T s.F = r at f1 ⊢
    obtain ⟨p2, f2⟩ := ph2_sh hd t hc r f1
    rw [p2]
    generalize ph2 t r = r2 at f2 ⊢
    obtain ⟨p3, f3⟩ := ph3_sh t r2 f2
    rw [p3]
    generalize ph3 t r2 = r3 at f3 ⊢
    have hn := opened_ne1 t.kind t.text.data.toList
    unfold ph4
    rw [e1]
    refine ⟨?_, ?_⟩
    · unfold shS
      simp only
      rw [List.map_append]
      split
      · rfl
      · rw [shF_push _ _ hn]; rfl
    · simp only
      split
      · exact f3
      · exact f3.push (fun e => absurd e hn) (fun _ => rfl)
theorem layF_sh {L : List TokM} (hL : ∀ k, k < L.length → 1 ≤ (tk L k).col) : ∀ n, n ≤ L.length → layF (L.map (shT d)) n = shS d (layF L n) ∧ FC (layF L n).F
  | 0, _ => ⟨rfl, fun f hf => by cases hf⟩
  | n + 1, h => by
    obtain ⟨e, f⟩ := layF_sh hL n (by omega)
    have ef : fstAt (L.map (shT d)) n = fstAt L n := by
      cases n with
      | zero => rfl
      | succ n =>
        show decide (¬ (tk (L.map (shT d)) n).line = (tk (L.map (shT d)) (n + 1)).line) = decide (¬ (tk L n).line = (tk L (n + 1)).line)
        rw [tk_sh (by omega), tk_sh (by omega)]
        rfl
    show layS (tk (L.map (shT d)) n) (fstAt (L.map (shT d)) n) (layF (L.map (shT d)) n) = shS d (layS (tk L n) (fstAt L n) (layF L n)) ∧ FC (layS (tk L n) (fstAt L n) (layF L n)).F
    rw [e, ef, tk_sh (by omega)]
    exact layS_sh hd _ (hL n (by omega)) _ _ f
theorem layAll_sh {L : List TokM} (hL : ∀ k, k < L.length → 1 ≤ (tk L k).col) (h0 : 0 < L.length) : layAll (L.map (shT d)) = (layAll L).map (shT d) := by
  unfold layAll
  rw [List.length_map, (layF_sh hd hL L.length (Nat.le_refl _)).1]
  obtain ⟨m, hm⟩ : ∃ m, L.length = m + 1 := ⟨L.length - 1, by omega⟩
  have e1 : lnAt (L.map (shT d)) L.length = lnAt L L.length := by
    rw [hm]
    show (tk (L.map (shT d)) m).line = (tk L m).line
    rw [tk_sh (by omega)]; rfl
  have e2 : colAt (L.map (shT d)) L.length = colAt L L.length + d := by
    rw [hm]
    show (tk (L.map (shT d)) m).col = (tk L m).col + d
    rw [tk_sh (by omega)]; rfl
  rw [e1, e2]
  unfold endT shS
  simp only
  rw [← closedT_sh]
  congr 1
  split
  · rw [List.map_append, List.map_append]; rfl
  · rfl
end
end Go.Proofs.Ytidmclaaggoahaa.Ly
