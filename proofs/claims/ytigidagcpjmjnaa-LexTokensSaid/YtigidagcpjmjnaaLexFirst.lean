/-
  PLAIN MATHEMATICS for layer lex: what stands ahead of an error's place has none. No walk.
-/
import Derived.Test.YtigidagcpjmjnaaLexPlain2
namespace Go.Proofs.Ytigidagcpjmjnaa.Lx
open Go.RowKit Pl Ar Dg Pa
set_option linter.unusedVariables false

theorem gapR_take (rm : Bool) (l : List UInt8) : ∀ m, gapR rm l ≤ m → gapR rm (l.take m) = gapR rm l := by
  induction l with
  | nil => intro m _; simp [gapR]
  | cons c r ih =>
    intro m hm
    cases m with
    | zero =>
      have h0 : gapR rm (c :: r) = 0 := by omega
      rw [h0]; rfl
    | succ m =>
      rw [List.take_succ_cons]
      unfold gapR at hm ⊢
      split
      · rfl
      · rename_i h1
        rw [if_neg h1] at hm
        split
        · rfl
        · rename_i h2
          rw [if_neg h2] at hm
          rw [ih m (by omega)]
theorem isRem_iff (l : List UInt8) : isRem l = true ↔ ∃ r, l = 45 :: 45 :: r := by
  unfold isRem Lib.hasPrefix
  constructor
  · intro h
    match l with
    | [] => simp at h
    | [a] => simp at h
    | a :: b :: r => simp at h; exact ⟨r, by rw [← h.1, ← h.2]⟩
  · rintro ⟨r, rfl⟩
    simp
theorem isRem_take {l : List UInt8} {m : Nat} (h : gapLen l ≤ m) : isRem (l.take m) = isRem l := by
  by_cases hr : isRem l = true
  · obtain ⟨r, rfl⟩ := (isRem_iff l).1 hr
    have h2 : 2 ≤ m := by
      unfold gapLen at h
      rw [hr, gapR_rem _ (by decide), gapR_rem _ (by decide)] at h
      omega
    rw [hr]
    exact (isRem_iff _).2 ⟨r.take (m - 2), by obtain ⟨q, rfl⟩ : ∃ q, m = q + 2 := ⟨m - 2, by omega⟩; simp⟩
  · have hr' : isRem l = false := by simpa using hr
    rw [hr']
    rw [Bool.eq_false_iff]
    intro h3
    obtain ⟨r, h4⟩ := (isRem_iff _).1 h3
    refine hr ((isRem_iff l).2 ⟨r ++ l.drop m, ?_⟩)
    have h5 := (List.take_append_drop m l).symm
    rw [h4] at h5
    exact h5
theorem gapLen_take {l : List UInt8} {m : Nat} (h : gapLen l ≤ m) : gapLen (l.take m) = gapLen l := by
  unfold gapLen
  rw [isRem_take h]
  exact gapR_take _ _ _ h
theorem runR_take (c : Int) (l : List UInt8) : ∀ m, runR c l ≤ m → runR c (l.take m) = runR c l := by
  induction l with
  | nil => intro m _; simp [runR]
  | cons x r ih =>
    intro m hm
    cases m with
    | zero =>
      have h0 : runR c (x :: r) = 0 := by omega
      rw [h0]; rfl
    | succ m =>
      rw [List.take_succ_cons]
      unfold runR at hm ⊢
      split
      · rename_i h1
        rw [if_pos h1] at hm
        rw [ih m (by omega)]
      · rfl
theorem first_take {l : List UInt8} {m : Nat} (h0 : 0 < l.length) (h : (fText l).length ≤ m) : hcls (l.take m) = hcls l ∧ fText (l.take m) = fText l ∧ fErr (l.take m) = fErr l ∧ fKind (l.take m) = fKind l ∧ fNum (l.take m) = fNum l := by
  have hp := fText_len h0
  have hc : hcls (l.take m) = hcls l := by
    cases l with
    | nil => cases h0
    | cons c r =>
      obtain ⟨q, rfl⟩ : ∃ q, m = q + 1 := ⟨m - 1, by omega⟩
      rfl
  have he := endLen_le (hcls l) h0
  have hm : endLen l (hcls l) ≤ m := by
    unfold fText at h
    rw [List.length_take] at h
    omega
  have hr : endLen (l.take m) (hcls l) = endLen l (hcls l) := by
    unfold endLen at hm ⊢
    rw [List.drop_take, runR_take _ _ _ (by omega)]
  have ht : fText (l.take m) = fText l := by
    unfold fText
    rw [hc, hr, List.take_take, Nat.min_eq_left hm]
  refine ⟨hc, ht, ?_, ?_, ?_⟩
  · unfold fErr; rw [hc, ht]
  · unfold fKind; rw [hc, ht]
  · unfold fNum; rw [hc, ht]
theorem lexG_nil (f : Nat) (ln col : Int) (acc : List Tok) : lexG f [] ln col acc = ⟨acc, 0, 0, 0⟩ := by
  cases f with
  | zero => rfl
  | succ f => unfold lexG; rw [if_pos rfl]
theorem lexG_first (f : Nat) : ∀ (l : List UInt8) (ln col : Int) (acc : List Tok), (lexG f l ln col acc).err ≠ 0 →
    ∃ k, k < l.length ∧ plF (ln, col) (l.take k) = ((lexG f l ln col acc).line, (lexG f l ln col acc).col) ∧ ∀ g, k < g → (lexG g (l.take k) ln col acc).err = 0 ∧ (lexG g (l.take k) ln col acc).line = 0 ∧ (lexG g (l.take k) ln col acc).col = 0 := by
  induction f with
  | zero => intro l ln col acc h; exact absurd rfl h
  | succ f ih =>
    intro l ln col acc h
    by_cases hl : l = []
    · rw [hl, lexG_nil] at h; exact absurd rfl h
    have hl0 : 0 < l.length := List.length_pos_iff.2 hl
    by_cases hg : 0 < gapLen l
    · have e : lexG (f + 1) l ln col acc = lexG f (l.drop (gapLen l)) (behindL (l.take (gapLen l)) ln) (behindC (l.take (gapLen l)) col) acc := by
        conv => lhs; unfold lexG
        rw [if_neg hl, if_pos hg]
      rw [e] at h ⊢
      obtain ⟨k, h1, h2, h3⟩ := ih _ _ _ _ h
      have hle := gapLen_le l
      rw [List.length_drop] at h1
      have hdt : (l.take (gapLen l + k)).drop (gapLen l) = (l.drop (gapLen l)).take k := by rw [List.drop_take, Nat.add_sub_cancel_left]
      refine ⟨gapLen l + k, by omega, ?_, fun g hgk => ?_⟩
      · rw [List.take_add, plF_append]
        have hp := gap_pl (isRem l) l ln col
        rw [show plF (ln, col) (l.take (gapLen l)) = _ from hp]
        exact h2
      · obtain ⟨q, rfl⟩ : ∃ q, g = q + 1 := ⟨g - 1, by omega⟩
        have e2 : lexG (q + 1) (l.take (gapLen l + k)) ln col acc = lexG q ((l.drop (gapLen l)).take k) (behindL (l.take (gapLen l)) ln) (behindC (l.take (gapLen l)) col) acc := by
          conv => lhs; unfold lexG
          rw [if_neg (by intro e; have := congrArg List.length e; rw [List.length_take, List.length_nil] at this; omega), gapLen_take (by omega), if_pos hg, hdt, List.take_take, Nat.min_eq_left (by omega)]
        rw [e2]
        exact h3 q (by omega)
    by_cases he : fErr l ≠ 0
    · have e : lexG (f + 1) l ln col acc = ⟨[], fErr l, ln, col⟩ := by
        conv => lhs; unfold lexG
        rw [if_neg hl, if_neg hg, if_pos he]
      rw [e]
      exact ⟨0, hl0, by rw [List.take_zero]; rfl, fun g _ => by rw [List.take_zero, lexG_nil]; exact ⟨rfl, rfl, rfl⟩⟩
    by_cases ha : acc.length = 2048
    · have e : lexG (f + 1) l ln col acc = ⟨[], 2, ln, col⟩ := by
        conv => lhs; unfold lexG
        rw [if_neg hl, if_neg hg, if_neg he, if_pos ha]
      rw [e]
      exact ⟨0, hl0, by rw [List.take_zero]; rfl, fun g _ => by rw [List.take_zero, lexG_nil]; exact ⟨rfl, rfl, rfl⟩⟩
    · have e : lexG (f + 1) l ln col acc = lexG f (l.drop (fText l).length) ln (col + (fText l).length) (acc ++ [⟨fKind l, fText l, fNum l, ln, col⟩]) := by
        conv => lhs; unfold lexG
        rw [if_neg hl, if_neg hg, if_neg he, if_neg ha]
      rw [e] at h ⊢
      obtain ⟨k, h1, h2, h3⟩ := ih _ _ _ _ h
      have hp := fText_len hl0
      have hc := hcls_line (by omega) hl
      rw [List.length_drop] at h1
      have hdt : (l.take ((fText l).length + k)).drop (fText l).length = (l.drop (fText l).length).take k := by rw [List.drop_take, Nat.add_sub_cancel_left]
      refine ⟨(fText l).length + k, by omega, ?_, fun g hgk => ?_⟩
      · rw [List.take_add, plF_append, ← text_take l, text_pl hc]
        exact h2
      · obtain ⟨q, rfl⟩ : ∃ q, g = q + 1 := ⟨g - 1, by omega⟩
        obtain ⟨t1, t2, t3, t4, t5⟩ := first_take (m := (fText l).length + k) hl0 (by omega)
        have e2 : lexG (q + 1) (l.take ((fText l).length + k)) ln col acc = lexG q ((l.drop (fText l).length).take k) ln (col + (fText l).length) (acc ++ [⟨fKind l, fText l, fNum l, ln, col⟩]) := by
          conv => lhs; unfold lexG
          rw [if_neg (by intro e; have := congrArg List.length e; rw [List.length_take, List.length_nil] at this; omega), gapLen_take (by omega), if_neg hg, t2, t3, t4, t5, if_neg he, if_neg ha, hdt]
        rw [e2]
        exact h3 q (by omega)
theorem lexed_first {src : List UInt8} (h : (lexed src).err ≠ 0) (hs : src.length ≤ 8192) :
    ∃ k, k < src.length ∧ offF ((lexed src).line, (lexed src).col) (1, 1) src = k ∧ (lexed (src.take k)).err = 0 ∧ (lexed (src.take k)).line = 0 ∧ (lexed (src.take k)).col = 0 := by
  have e : lexed src = lexG (src.length + 1) src 1 1 [] := by unfold lexed; rw [if_neg (by omega)]
  rw [e] at h ⊢
  obtain ⟨k, h1, h2, h3⟩ := lexG_first _ _ _ _ _ h
  refine ⟨k, h1, ?_, ?_⟩
  · rw [← h2]
    have := offF_is (src.take k) (src.drop k) (by intro e; have := congrArg List.length e; rw [List.length_drop] at this; simp at this; omega) (1, 1)
    rw [List.take_append_drop, List.length_take, Nat.min_eq_left (by omega)] at this
    exact this
  · have e2 : lexed (src.take k) = lexG ((src.take k).length + 1) (src.take k) 1 1 [] := by unfold lexed; rw [if_neg (by rw [List.length_take]; omega)]
    rw [e2]
    exact h3 _ (by rw [List.length_take]; omega)
end Go.Proofs.Ytigidagcpjmjnaa.Lx
