/-
  The walk of 'changelinglaw04.LayoutBraces'.
-/
import Derived.Test.YtgnojbjgpjnbkaaLayMk
namespace Go.Proofs.Ytgnojbjgpjnbkaa.Ly
open Go.RowKit Pl Ar Mm Lx
set_option linter.unusedVariables false
set_option linter.unusedSimpArgs false
/-- no block is laid out -/
def NL (F : List Fr) : Prop := ∀ f ∈ F, f.kind ≠ 1 ∧ f.col = 0
theorem NL.laid {F : List Fr} (h : NL F) (q : Nat) : laidN (F.drop q) = 0 := by
  unfold laidN
  rw [List.length_eq_zero_iff, List.filter_eq_nil_iff]
  intro f hf
  have := (h f (List.mem_of_mem_drop hf)).1
  simpa using this
theorem NL.closed {F : List Fr} (h : NL F) (T : List TokM) (q : Nat) (ln col : Int) : closedT T F q ln col = T := by
  unfold closedT
  rw [h.laid q]
  simp
theorem NL.take {F : List Fr} (h : NL F) (q : Nat) : NL (F.take q) := fun f hf => h f (List.mem_of_mem_take hf)
theorem NL.push {F : List Fr} (h : NL F) {k : Int} (hk : k ≠ 1) : NL (F ++ [⟨k, 0⟩]) := by
  intro x hx
  rcases List.mem_append.1 hx with hx | hx
  · exact h x hx
  · obtain rfl := List.mem_singleton.1 hx
    exact ⟨hk, rfl⟩
theorem NL.inner {F : List Fr} (h : NL F) : ∀ q, q ≤ F.length → (innerF F q).2 = 0
  | 0, _ => rfl
  | q + 1, hq => by
    unfold innerF
    split
    · show frC F q = 0
      rw [frC_get (by omega)]
      exact (h _ (List.getElem_mem _)).2
    · exact NL.inner h q (by omega)
theorem NL.lineQ {F : List Fr} (h : NL F) (c : Int) : ∀ n q, q ≤ F.length → lineQ F c n q = q
  | 0, _, _ => rfl
  | n + 1, q, hq => by
    unfold Ly.lineQ
    rw [h.inner q hq, if_neg (by omega)]
theorem braced_step (t : TokM) (first : Bool) (s : St) (h : NL s.F) (hd : s.due = true → openedK t.kind t.text.data.toList = 7) :
    (layS t first s).T = s.T ++ [t] ∧ NL (layS t first s).F ∧ (layS t first s).due = dueK t.kind t.text.data.toList := by
  unfold layS
  split
  · rename_i hh
    refine ⟨rfl, h.push (by decide), ?_⟩
    have ho := hh.2
    unfold openedK at ho
    show false = dueK t.kind t.text.data.toList
    unfold dueK
    symm
    rw [decide_eq_false_iff_not]
    rintro ⟨h6, ht⟩
    rw [h6] at ho
    rcases ht with ht | ht <;> rw [ht] at ho <;> revert ho <;> decide
  · rename_i hh
    have hdue : s.due = false := by
      cases hs : s.due with
      | false => rfl
      | true => exact absurd ⟨hs, hd hs⟩ hh
    have e1 : ph1 s.due first t s.T s.F = ⟨s.T, s.F, first⟩ := by unfold ph1; rw [hdue]; rfl
    have e2 : ph2 t ⟨s.T, s.F, first⟩ = (s.T, s.F) := by
      unfold ph2
      split
      · simp only
        rw [h.lineQ _ _ _ (Nat.le_refl _), List.take_length]
        unfold lineT
        rw [h.closed, h.inner _ (Nat.le_refl _), if_neg (by omega), List.append_nil]
      · rfl
    rw [e1, e2]
    have e3 : (ph3 t (s.T, s.F)).1 = s.T ∧ NL (ph3 t (s.T, s.F)).2 := by
      unfold ph3
      split
      · exact ⟨rfl, h⟩
      · exact ⟨h.closed _ _ _ _, h.take _⟩
    generalize ph3 t (s.T, s.F) = r at e3 ⊢
    obtain ⟨e3, e4⟩ := e3
    refine ⟨?_, ?_, rfl⟩
    · show r.1 ++ [t] = _
      rw [e3]
    · show NL (if openedK t.kind t.text.data.toList = 0 then r.2 else r.2 ++ [⟨openedK t.kind t.text.data.toList, 0⟩])
      split
      · exact e4
      · exact e4.push (opened_ne1 _ _)
theorem braced_layF {L : List TokM} (h : BracedL L L.length) : ∀ n, n ≤ L.length → (layF L n).T = L.take n ∧ NL (layF L n).F ∧ (layF L n).due = dueAt L n
  | 0, _ => ⟨by simp [layF], (fun f hf => by cases hf), rfl⟩
  | n + 1, hn => by
    obtain ⟨h1, h2, h3⟩ := braced_layF h n (by omega)
    obtain ⟨q1, q2, q3⟩ := braced_step (tk L n) (fstAt L n) (layF L n) h2 (fun hd => open_mark (h n (by omega) (by rw [← h3]; exact hd)))
    refine ⟨?_, q2, ?_⟩
    · show (layS (tk L n) (fstAt L n) (layF L n)).T = _
      rw [q1, h1, take_tk (by omega)]
    · show (layS (tk L n) (fstAt L n) (layF L n)).due = dueAt L (n + 1)
      rw [q3]
      exact (due_word _).symm
theorem braced_lay {L : List TokM} (h : BracedL L L.length) (hd : dueAt L L.length = false) : layAll L = L := by
  obtain ⟨h1, h2, h3⟩ := braced_layF h L.length (Nat.le_refl _)
  unfold layAll endT
  rw [h2.closed, h3, hd, h1, List.take_length]
  rfl
set_option maxRecDepth 100000 in
set_option maxHeartbeats 2000000 in
theorem braces_law (b : Option Addr) (n c : Nat) (hn : n ≤ 9223372036854775807) (L : List TokM) (w : World) (hr : RowM w w.heap.size b n L) :
    Calls Try.prog 8 #[.slice b n c] w fun e w' => e = .returned (.bool true) ∧ Below w.heap.size w w' := by
  have HR := Lib.hid hr.2
  have HL := Lib.hid hr.1
  clear hr
  go_enter Try.func8, Try.ntmps8
  by_cases hbig : 3000 < n
  · have d1 : (3000 : Int) < n := by omega
    go_wp2_with fail
    refine (known_any _).mono ?_
    rintro e w1 ⟨rfl, hb1⟩
    go_wp2
    go_returns
    exact ⟨rfl, hb1⟩
  · have d1 : ¬ (3000 : Int) < n := by omega
    go_wp2_with fail
    refine (braced_any _ (HR.out c) (by rw [HL.out]; omega)).mono ?_
    rintro e w1 ⟨r, rfl, hbr, hb1⟩
    have B1 := Lib.hid hb1
    have s1 := hb1.size
    have HBR := Lib.hid hbr
    clear hb1 hbr
    cases r with
    | false =>
      go_wp2_with fail
      refine (known_any _).mono ?_
      rintro e w2 ⟨rfl, hb2⟩
      have B2 := Lib.hid (B1.out.trans (hb2.mono s1))
      clear hb2
      go_wp2
      go_returns
      exact ⟨rfl, B2.out⟩
    | true =>
      have hlay := braced_lay (HBR.out rfl).1 (HBR.out rfl).2
      have S1 := Lib.hid (((HR.out c).below B1.out (Nat.le_refl _)).mono s1)
      have hlen : L.length ≤ 3000 := by rw [HL.out]; omega
      have HLAY := Lib.hid hlay
      clear hlay
      go_wp2_with fail
      refine (Lay_is (by omega) HLAY.out _ S1.out).mono ?_
      rintro e w2 ⟨v2, rfl, o2, hb2⟩
      have S2 := Lib.hid (shows_own o2)
      have s2 := hb2.size
      have B2 := Lib.hid (B1.out.trans (hb2.mono s1))
      have S1b := Lib.hid ((S1.out.below hb2 (Nat.le_refl _)).mono s2)
      clear o2 hb2
      go_wp2_with fail
      refine (same_yes (by omega) _ S2.out S1b.out).mono ?_
      rintro e w4 ⟨rfl, hb4⟩
      have B4 := Lib.hid (B2.out.trans (hb4.mono (by omega)))
      have s4 := hb4.size
      clear hb4
      go_wp2_with fail
      refine (known_any _).mono ?_
      rintro e w5 ⟨rfl, hb5⟩
      have B5 := Lib.hid (B4.out.trans (hb5.mono (by omega)))
      clear hb5
      go_wp2
      go_returns
      exact ⟨rfl, B5.out⟩
end Go.Proofs.Ytgnojbjgpjnbkaa.Ly
namespace Go.Proofs.Ytgnojbjgpjnbkaa.LayoutBraces
open Go.RowKit Ly
theorem law (b : Option Addr) (n c : Nat) (hn : n ≤ 9223372036854775807) (L : List TokM) (w : World) (hr : RowM w w.heap.size b n L) :
    Calls Try.prog 8 #[.slice b n c] w fun e w' => e = .returned (.bool true) ∧ Below w.heap.size w w' := braces_law b n c hn L w hr
end Go.Proofs.Ytgnojbjgpjnbkaa.LayoutBraces
