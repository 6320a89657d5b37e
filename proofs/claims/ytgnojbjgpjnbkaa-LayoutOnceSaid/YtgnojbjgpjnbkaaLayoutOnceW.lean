/-
  The walk of 'changelinglaw04.LayoutOnce': what was laid is braced wherever a block is due.
-/
import Derived.Test.YtgnojbjgpjnbkaaLayoutBracesW
namespace Go.Proofs.Ytgnojbjgpjnbkaa.Ly
open Go.RowKit Pl Ar Mm Lx
set_option linter.unusedVariables false
set_option linter.unusedSimpArgs false
def dueT (t : TokM) : Bool := wordB t ⟨#[108, 101, 116]⟩ || wordB t ⟨#[111, 102]⟩
/-- each block that is due in the tokens is braced; is one due behind them? -/
inductive BrT : List TokM → Bool → Prop
  | nil : BrT [] true
  | snoc {T : List TokM} {d : Bool} (t : TokM) : BrT T d → (d = true → markB t ⟨#[123]⟩ = true) → BrT (T ++ [t]) (dueT t)
theorem dueT_mark {t : TokM} (h : t.kind = 5) : dueT t = false := by
  unfold dueT wordB
  rw [h]
  simp
theorem BrT.open {T : List TokM} {d : Bool} (h : BrT T d) (ln col : Int) : BrT (T ++ [mkM [123] ln col]) false := h.snoc _ fun _ => by unfold markB; exact decide_eq_true ⟨rfl, rfl⟩
theorem BrT.more {T : List TokM} (h : BrT T false) (t : TokM) : BrT (T ++ [t]) (dueT t) := h.snoc t fun e => by cases e
theorem BrT.mark {T : List TokM} (h : BrT T false) {t : TokM} (hk : t.kind = 5) : BrT (T ++ [t]) false := by
  have := h.more t
  rwa [dueT_mark hk] at this
theorem BrT.many {T : List TokM} (h : BrT T false) (ln col : Int) : ∀ n : Nat, BrT (T ++ List.replicate n (endM ln col)) false
  | 0 => by simpa using h
  | n + 1 => by
    rw [List.replicate_succ', ← List.append_assoc]
    exact (BrT.many h ln col n).mark rfl
theorem BrT.closed {T : List TokM} (h : BrT T false) (F : List Fr) (q : Nat) (ln col : Int) : BrT (closedT T F q ln col) false := h.many ln col _
theorem once_step (t : TokM) (first : Bool) (s : St) (h : BrT s.T s.due) : BrT (layS t first s).T (layS t first s).due := by
  unfold layS
  split
  · rename_i hh
    have hm : t.kind = 5 ∧ t.text = ⟨#[123]⟩ := by
      have ho := hh.2
      unfold openedK at ho
      split at ho
      · rename_i h5
        split at ho
        · exact absurd ho (by decide)
        · split at ho
          · rename_i h6
            exact ⟨h5, (bytes_eq _ _).1 h6⟩
          · exact absurd ho (by decide)
      · repeat' split at ho
        all_goals exact absurd ho (by decide)
    have := h.snoc t (fun _ => by unfold markB; exact decide_eq_true hm)
    rw [dueT_mark hm.1] at this
    exact this
  · have h1 : BrT (ph1 s.due first t s.T s.F).T false := by
      unfold ph1
      split
      · split
        · exact h.open _ _
        · exact (h.open _ _).mark rfl
      · rename_i hd
        have hd : s.due = false := by simpa using hd
        rw [hd] at h
        exact h
    generalize ph1 s.due first t s.T s.F = r at h1 ⊢
    have h2 : BrT (ph2 t r).1 false := by
      unfold ph2
      split
      · unfold lineT
        split
        · exact (h1.closed _ _ _ _).mark rfl
        · rw [List.append_nil]; exact h1.closed _ _ _ _
      · exact h1
    generalize ph2 t r = r2 at h2 ⊢
    have h3 : BrT (ph3 t r2).1 false := by
      unfold ph3
      split
      · exact h2
      · exact h2.closed _ _ _ _
    generalize ph3 t r2 = r3 at h3 ⊢
    show BrT (r3.1 ++ [t]) (dueK t.kind t.text.data.toList)
    rw [← due_word]
    exact h3.more t
theorem once_layF (L : List TokM) : ∀ n, BrT (layF L n).T (layF L n).due
  | 0 => BrT.nil
  | n + 1 => once_step _ _ _ (once_layF L n)
theorem once_layAll (L : List TokM) : BrT (layAll L) false := by
  have h := once_layF L L.length
  unfold layAll endT
  refine BrT.closed ?_ _ _ _ _
  split
  · exact (h.open _ _).mark rfl
  · rename_i hd
    have hd : (layF L L.length).due = false := by simpa using hd
    rw [hd] at h
    exact h
theorem dueAt_app {T : List TokM} {t : TokM} : ∀ k, k ≤ T.length → dueAt (T ++ [t]) k = dueAt T k
  | 0, _ => rfl
  | k + 1, h => by
    show (wordB (tk (T ++ [t]) k) _ || wordB (tk (T ++ [t]) k) _) = (wordB (tk T k) _ || wordB (tk T k) _)
    rw [tk_app (by omega)]
theorem BrT.at {T : List TokM} {d : Bool} (h : BrT T d) : dueAt T T.length = d ∧ BracedL T T.length := by
  induction h with
  | nil => exact ⟨rfl, fun k hk => absurd hk (by simp)⟩
  | @snoc T d t h hm ih =>
    obtain ⟨h1, h2⟩ := ih
    refine ⟨?_, fun k hk hd => ?_⟩
    · rw [List.length_append]
      show (wordB (tk (T ++ [t]) T.length) _ || wordB (tk (T ++ [t]) T.length) _) = _
      rw [tk_end]; rfl
    · rw [List.length_append] at hk
      rcases Nat.lt_or_ge k T.length with hl | hl
      · rw [tk_app hl]; rw [dueAt_app k (by omega)] at hd; exact h2 k hl hd
      · obtain rfl : k = T.length := by simp at hk; omega
        rw [dueAt_app _ (Nat.le_refl _), h1] at hd
        rw [tk_end]; exact hm hd
theorem tk_map (L : List TokM) (k : Nat) : tk (L.map realT) k = realT (tk L k) := by
  unfold tk
  rw [List.getD_eq_getElem?_getD, List.getD_eq_getElem?_getD, List.getElem?_map]
  cases L[k]? <;> rfl
theorem dueAt_real (L : List TokM) : ∀ k, dueAt (L.map realT) k = dueAt L k
  | 0 => rfl
  | k + 1 => by
    show (wordB (tk (L.map realT) k) _ || wordB (tk (L.map realT) k) _) = (wordB (tk L k) _ || wordB (tk L k) _)
    rw [tk_map]; rfl
theorem once_lay (L : List TokM) : layAll ((layAll L).map realT) = (layAll L).map realT := by
  obtain ⟨h1, h2⟩ := (once_layAll L).at
  refine braced_lay (fun k hk hd => ?_) ?_
  · rw [dueAt_real] at hd
    rw [tk_map]
    rw [List.length_map] at hk
    exact h2 k hk hd
  · rw [List.length_map, dueAt_real, h1]
set_option maxRecDepth 100000 in
set_option maxHeartbeats 2000000 in
theorem once_law (b : Option Addr) (n c : Nat) (hn : n ≤ 9223372036854775807) (L : List TokM) (w : World) (hr : RowM w w.heap.size b n L) :
    Calls Try.prog 7 #[.slice b n c] w fun e w' => e = .returned (.bool true) ∧ Below w.heap.size w w' := by
  have HR := Lib.hid hr.2
  have HL := Lib.hid hr.1
  clear hr
  go_enter Try.func7, Try.ntmps7
  by_cases hbig : 3000 < n
  · have d1 : (3000 : Int) < n := by omega
    go_wp2_with fail
    refine (known_any _).mono ?_
    rintro e w1 ⟨rfl, hb1⟩
    go_wp2
    go_returns
    exact ⟨rfl, hb1⟩
  · have d1 : ¬ (3000 : Int) < n := by omega
    have hlen : L.length ≤ 3000 := by rw [HL.out]; omega
    have hlen2 := layAll_len L
    go_wp2_with fail
    refine (Lay_is (by omega) rfl _ (HR.out c)).mono ?_
    rintro e w1 ⟨v1, rfl, o1, hb1⟩
    have S1 := Lib.hid (shows_own o1)
    have B1 := Lib.hid hb1
    have s1 := hb1.size
    clear o1 hb1
    go_wp2_with fail
    refine (real_any _ S1.out (by omega)).mono ?_
    rintro e w2 ⟨v2, rfl, o2, hb2⟩
    have S2 := Lib.hid (shows_own o2)
    have B2 := Lib.hid (B1.out.trans (hb2.mono s1))
    have s2 := hb2.size
    have hlen3 : ((layAll L).map realT).length ≤ 20000 := by rw [List.length_map]; omega
    clear o2 hb2
    go_wp2_with fail
    refine (Lay_is (by omega) (once_lay L) _ S2.out).mono ?_
    rintro e w3 ⟨v3, rfl, o3, hb3⟩
    have S3 := Lib.hid (shows_own o3)
    have s3 := hb3.size
    have S2b := Lib.hid ((S2.out.below hb3 (Nat.le_refl _)).mono s3)
    have B3 := Lib.hid (B2.out.trans (hb3.mono (by omega)))
    clear o3 hb3
    go_wp2_with fail
    refine (same_yes (by omega) _ S3.out S2b.out).mono ?_
    rintro e w4 ⟨rfl, hb4⟩
    have B4 := Lib.hid (B3.out.trans (hb4.mono (by omega)))
    have s4 := hb4.size
    clear hb4
    go_wp2_with fail
    refine (known_any _).mono ?_
    rintro e w5 ⟨rfl, hb5⟩
    have B5 := Lib.hid (B4.out.trans (hb5.mono (by omega)))
    clear hb5
    go_wp2
    go_returns
    exact ⟨rfl, B5.out⟩
end Go.Proofs.Ytgnojbjgpjnbkaa.Ly
namespace Go.Proofs.Ytgnojbjgpjnbkaa.LayoutOnce
open Go.RowKit Ly
theorem law (b : Option Addr) (n c : Nat) (hn : n ≤ 9223372036854775807) (L : List TokM) (w : World) (hr : RowM w w.heap.size b n L) :
    Calls Try.prog 7 #[.slice b n c] w fun e w' => e = .returned (.bool true) ∧ Below w.heap.size w w' := once_law b n c hn L w hr
end Go.Proofs.Ytgnojbjgpjnbkaa.LayoutOnce
