/-
  PLAIN LAWS: all the blanks at once, and the places that go with them.
-/
import Derived.Test.YtigidagcpjmjnaaLexRefF
namespace Go.Proofs.Ytigidagcpjmjnaa.Lx
open Go.RowKit Pl Ar Dg Pa
set_option linter.unusedVariables false
set_option linter.unusedSimpArgs false
theorem bl_rem (l : List UInt8) : bl true l = gapR true l + bl false (l.drop (gapR true l)) := by
  induction l with
  | nil => rfl
  | cons c r ih =>
    conv => lhs; unfold bl
    rw [if_pos rfl]
    by_cases h : c = 10
    · subst h
      rw [gapR_line, if_pos rfl]; rfl
    · rw [if_neg h, gapR_rem r h, List.drop_succ_cons, ih]; omega
theorem bl_plain (l : List UInt8) : bl false l = gapR false l + bl false (l.drop (gapR false l)) := by
  induction l with
  | nil => rfl
  | cons c r ih =>
    by_cases h : c = 10
    · subst h
      rw [gapR_line, bl_space (.inr rfl)]; rfl
    · by_cases h2 : c = 32
      · subst h2
        rw [gapR_blank, List.drop_succ_cons, bl_space (.inl rfl)]; omega
      · rw [gapR_stop r h h2, List.drop_zero]; omega
theorem rem_split {l : List UInt8} (h : isRem l = true) : ∃ r, l = 45 :: 45 :: r := by
  unfold isRem Lib.hasPrefix at h
  match l, h with
  | [], h => simp at h
  | [a], h => simp at h
  | a :: b :: r, h =>
    simp at h
    exact ⟨r, by rw [← h.1, ← h.2]⟩
theorem bl_gap (l : List UInt8) : bl false l = gapLen l + bl false (l.drop (gapLen l)) := by
  unfold gapLen
  cases h : isRem l
  · exact bl_plain l
  · obtain ⟨r, rfl⟩ := rem_split h
    have e : bl false (45 :: 45 :: r) = bl true (45 :: 45 :: r) := by
      conv => lhs; unfold bl
      conv => rhs; unfold bl
      rw [if_neg (by decide), if_neg (by decide), if_pos ⟨rfl, rfl⟩, if_pos rfl, if_neg (by decide)]
    rw [e]
    exact bl_rem _
theorem bl_zero {l : List UInt8} (h : gapLen l = 0) : bl false l = 0 := by
  cases l with
  | nil => rfl
  | cons c r =>
    have hr := gapR_stop0 h
    unfold gapLen at h
    rw [hr] at h
    by_cases h1 : c = 10
    · subst h1; rw [gapR_line] at h; omega
    · by_cases h2 : c = 32
      · subst h2; rw [gapR_blank] at h; omega
      · unfold bl
        rw [if_neg (by decide), if_neg (by rintro (h | h) <;> contradiction), if_neg]
        rintro ⟨rfl, h3⟩
        cases r with
        | nil => simp at h3
        | cons d r =>
          obtain rfl : d = 45 := by simpa using h3
          exact absurd hr (by unfold isRem Lib.hasPrefix; simp)
theorem gap_zero {l : List UInt8} (h : bl false l = 0) : gapLen l = 0 := by
  have := bl_gap l
  omega
/-- where the document's walk stands: behind all blanks -/
structure At2 (l : List UInt8) (k : Nat) (ln col : Int) (acc : List Tok) : Prop where
  le : k ≤ l.length
  at_ : At l k ln col acc
  pl : plF (1, 1) (l.take k) = (ln, col)
  no : gapLen (l.drop k) = 0
theorem at_skip (m : Nat) : ∀ {l : List UInt8} {k : Nat} {ln col : Int} {acc : List Tok}, l.length - k ≤ m → k ≤ l.length → At l k ln col acc → plF (1, 1) (l.take k) = (ln, col) →
    ∃ ln2 col2, At2 l (k + bl false (l.drop k)) ln2 col2 acc := by
  induction m with
  | zero =>
    intro l k ln col acc hm hle hat hp
    have hd : l.drop k = [] := List.drop_of_length_le (by omega)
    have hz : bl false (l.drop k) = 0 := by rw [hd]; rfl
    rw [hz]
    exact ⟨ln, col, hle, hat, hp, gap_zero hz⟩
  | succ m ih =>
    intro l k ln col acc hm hle hat hp
    by_cases hg : gapLen (l.drop k) = 0
    · rw [bl_zero hg]
      exact ⟨ln, col, hle, hat, hp, hg⟩
    · have hgl := gapLen_le (l.drop k)
      rw [List.length_drop] at hgl
      have hk : k < l.length := by omega
      have hat2 := at_gap hat (n := k + 1) (by omega) hk rfl (by omega) rfl rfl
      have hp2 : plF (1, 1) (l.take (k + gapLen (l.drop k))) = (behindL ((l.drop k).take (gapLen (l.drop k))) ln, behindC ((l.drop k).take (gapLen (l.drop k))) col) := by
        rw [List.take_add, plF_append, hp]
        exact gap_pl _ _ _ _
      have := ih (k := k + gapLen (l.drop k)) (by omega) (by omega) hat2 hp2
      rw [bl_gap (l.drop k), List.drop_drop]
      rw [← Nat.add_assoc]
      exact this
theorem at2_start {l : List UInt8} (h : l.length ≤ 8192) : ∃ ln col, At2 l (bl false l) ln col [] := by
  have := at_skip l.length (k := 0) (by omega) (by omega) (at_start h) rfl
  rw [List.drop_zero, Nat.zero_add] at this
  exact this
theorem at2_tok {l : List UInt8} {k n : Nat} {ln col : Int} {acc : List Tok} (h : At2 l k ln col acc) (hn : k < l.length) (he : fErr (l.drop k) = 0) (hf : ¬ acc.length = 2048) (hl : (fText (l.drop k)).length = n) :
    ∃ ln2 col2, At2 l (k + n + bl false (l.drop (k + n))) ln2 col2 (acc ++ [⟨fKind (l.drop k), fText (l.drop k), fNum (l.drop k), ln, col⟩]) := by
  have hat := at_tok h.at_ hn h.no he hf
  have hlen := (fText_len (l := l.drop k) (by rw [List.length_drop]; omega)).2
  rw [List.length_drop] at hlen
  rw [hl] at hat hlen
  refine at_skip l.length (by omega) (by omega) hat ?_
  rw [List.take_add, plF_append, h.pl, ← hl, ← text_take]
  exact text_pl (hcls_line h.no (drop_ne hn)) _ _
end Go.Proofs.Ytigidagcpjmjnaa.Lx
