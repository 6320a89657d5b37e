/-
  CONTRACTS of the document's own layer lex: a token's kind, and what is wrong with it.
-/
import Derived.Test.YtigidagcpjmjnaaLexRefD
namespace Go.Proofs.Ytigidagcpjmjnaa.Lx
open Go.RowKit Pl Ar Dg Pa
set_option linter.unusedVariables false
set_option linter.unusedSimpArgs false
theorem word_cls {l : List UInt8} (h : isWord l = true) : hcls l = 2 := by
  have hm : l ∈ words := List.contains_iff_mem.1 h
  simp only [words, List.mem_cons, List.not_mem_nil, or_false] at hm
  rcases hm with rfl | rfl | rfl | rfl | rfl | rfl | rfl | rfl | rfl | rfl | rfl <;> decide
def four (l : List UInt8) : Prop := l = [95] ∨ l = [61] ∨ l = [124] ∨ l = [45, 62]
theorem four_cls {l : List UInt8} (h : four l) : hcls l = 2 ∨ hcls l = 7 := by
  rcases h with rfl | rfl | rfl | rfl <;> decide
/-- a token's kind by its text and its first byte's class -/
def rk (l : List UInt8) (c : Int) : Int := if c = 4 then 4 else kindOf l c
def RkPost (l : List UInt8) (c : Int) (w : World) (e : Ending) (w' : World) : Prop := e = .returned (.int .i64 (rk l c)) ∧ Below w.heap.size w w'
theorem rkPost {l : List UInt8} {c n : Int} {w w' : World} (h : rk l c = n) (hb : Below w.heap.size w w') : RkPost l c w (.returned (.int .i64 n)) w' := by unfold RkPost; rw [h]; exact ⟨rfl, hb⟩
theorem below_words (w : World) (m : Nat) : Below w.heap.size w ((w.alloc wordsV).drewN m) := belowN ((Below.refl _ w).alloc (Nat.le_refl _) _) m

theorem rkind_1 (w : World) : Calls Try.prog 26 #[.string ⟨#[95]⟩] w (RkPost [95] 2 w) := by
  go_enter Try.func26, Try.ntmps26
  go_wp2_with fail
  refine (mark_any (q := false) 95 (by decide) (by decide) _).mono ?_
  rintro e w' ⟨rfl, rfl⟩
  go_wp2
  go_ret
  exact rkPost (by decide) (Below.refl _ _)
theorem rkind_2 (w : World) : Calls Try.prog 26 #[.string ⟨#[61]⟩] w (RkPost [61] 7 w) := by
  go_enter Try.func26, Try.ntmps26
  go_wp2_with fail
  refine (mark_any (q := false) 61 (by decide) (by decide) _).mono ?_
  rintro e w' ⟨rfl, rfl⟩
  go_wp2
  go_ret
  exact rkPost (by decide) (Below.refl _ _)
theorem rkind_3 (w : World) : Calls Try.prog 26 #[.string ⟨#[124]⟩] w (RkPost [124] 7 w) := by
  go_enter Try.func26, Try.ntmps26
  go_wp2_with fail
  refine (mark_any (q := false) 124 (by decide) (by decide) _).mono ?_
  rintro e w' ⟨rfl, rfl⟩
  go_wp2
  go_ret
  exact rkPost (by decide) (Below.refl _ _)
theorem rkind_4 (w : World) : Calls Try.prog 26 #[.string ⟨#[45, 62]⟩] w (RkPost [45, 62] 7 w) := by
  go_enter Try.func26, Try.ntmps26
  go_wp2_with fail
  refine (mark_any (q := false) 45 (by decide) (by decide) _).mono ?_
  rintro e w' ⟨rfl, rfl⟩
  go_wp2
  go_ret
  exact rkPost (by decide) (Below.refl _ _)
set_option maxHeartbeats 1000000 in
theorem rkind_c6 (s : ByteArray) (h0 : 0 < s.size) (hs : s.size ≤ 1000000000) (hcl : cls s[0].toNat = 6) (hnf : ¬ four s.data.toList) (w : World) : Calls Try.prog 26 #[.string s] w (RkPost s.data.toList 6 w) := by
  have hb := UInt8.toNat_lt s[0]
  have HC := Lib.hid hcl
  have HH := Lib.hid (show hcls s.data.toList = 6 by rw [hcls_get h0]; exact hcl)
  have h0' : (0 : Int) < s.size := by omega
  clear hcl
  have HN := Lib.hid hnf
  clear hnf
  have HF := Lib.hid (show rk s.data.toList 6 = 5 by
    unfold rk kindOf
    rw [if_neg (by decide)]
    (repeat' split) <;> first | rfl | (rename_i h1 h2; have := word_cls h2; rw [HH.out] at this; exact absurd this (by decide)) | (exfalso; simp at *))
  go_enter Try.func26, Try.ntmps26
  go_wp2_with fail
  refine (mark_any (q := true) _ hb (by rw [HC.out]; decide) _).mono ?_
  rintro e w' ⟨rfl, rfl⟩
  go_wp2
  go_ret
  exact rkPost HF.out (Below.refl _ _)
set_option maxHeartbeats 1000000 in
theorem rkind_c2 (s : ByteArray) (h0 : 0 < s.size) (hs : s.size ≤ 1000000000) (hcl : cls s[0].toNat = 2) (hnf : ¬ four s.data.toList) (w : World) : Calls Try.prog 26 #[.string s] w (RkPost s.data.toList 2 w) := by
  have hb := UInt8.toNat_lt s[0]
  have HC := Lib.hid hcl
  have HH := Lib.hid (show hcls s.data.toList = 2 by rw [hcls_get h0]; exact hcl)
  have h0' : (0 : Int) < s.size := by omega
  clear hcl
  have HN := Lib.hid hnf
  clear hnf
  have n1 : (s.toList == [95]) = false := by rw [Lib.toList_data]; exact beq_eq_false_iff_ne.2 (fun e => HN.out (Or.inl e))
  have n2 : (s.toList == [61]) = false := by rw [Lib.toList_data]; exact beq_eq_false_iff_ne.2 (fun e => HN.out (Or.inr (Or.inl e)))
  have n3 : (s.toList == [124]) = false := by rw [Lib.toList_data]; exact beq_eq_false_iff_ne.2 (fun e => HN.out (Or.inr (Or.inr (Or.inl e))))
  have n4 : (s.toList == [45, 62]) = false := by rw [Lib.toList_data]; exact beq_eq_false_iff_ne.2 (fun e => HN.out (Or.inr (Or.inr (Or.inr e))))
  cases hw : isWord s.data.toList
  · have HW := Lib.hid (show words.contains s.data.toList = false from hw)
    have HF := Lib.hid (show rk s.data.toList 2 = 1 by unfold rk kindOf; rw [if_neg (by decide), if_neg (show ¬ (s.data.toList = [95] ∨ s.data.toList = [61] ∨ s.data.toList = [124] ∨ s.data.toList = [45, 62]) from HN.out)]; rw [if_neg (by rw [hw]; decide)] <;> decide)
    clear hw
    go_enter Try.func26, Try.ntmps26
    go_wp2_with fail
    refine (mark_any (q := false) _ hb (by rw [HC.out]; decide) _).mono ?_
    rintro e w' ⟨rfl, rfl⟩
    go_wp2_with fail
    refine (words_any _).mono ?_
    rintro e w' ⟨rfl, rfl⟩
    go_wp2_with fail
    refine (has_any (q := false) _ _ _ words (by decide) (words_texts w) s HW.out).mono ?_
    rintro e w' ⟨rfl, m, rfl⟩
    go_wp2_with fail
    refine (cls_is (q := true) (by rw [HC.out]; decide) (small_any _ hb _)).mono ?_
    rintro e w' ⟨rfl, rfl⟩
    go_wp2
    go_ret
    exact rkPost HF.out (below_words _ _)
  · have HW := Lib.hid (show words.contains s.data.toList = true from hw)
    have HF := Lib.hid (show rk s.data.toList 2 = 6 by unfold rk kindOf; rw [if_neg (by decide), if_neg (show ¬ (s.data.toList = [95] ∨ s.data.toList = [61] ∨ s.data.toList = [124] ∨ s.data.toList = [45, 62]) from HN.out)]; rw [if_pos hw])
    clear hw
    go_enter Try.func26, Try.ntmps26
    go_wp2_with fail
    refine (mark_any (q := false) _ hb (by rw [HC.out]; decide) _).mono ?_
    rintro e w' ⟨rfl, rfl⟩
    go_wp2_with fail
    refine (words_any _).mono ?_
    rintro e w' ⟨rfl, rfl⟩
    go_wp2_with fail
    refine (has_any (q := true) _ _ _ words (by decide) (words_texts w) s HW.out).mono ?_
    rintro e w' ⟨rfl, m, rfl⟩
    go_wp2
    go_ret
    exact rkPost HF.out (below_words _ _)
set_option maxHeartbeats 1000000 in
theorem rkind_c3 (s : ByteArray) (h0 : 0 < s.size) (hs : s.size ≤ 1000000000) (hcl : cls s[0].toNat = 3) (hnf : ¬ four s.data.toList) (w : World) : Calls Try.prog 26 #[.string s] w (RkPost s.data.toList 3 w) := by
  have hb := UInt8.toNat_lt s[0]
  have HC := Lib.hid hcl
  have HH := Lib.hid (show hcls s.data.toList = 3 by rw [hcls_get h0]; exact hcl)
  have h0' : (0 : Int) < s.size := by omega
  clear hcl
  have HN := Lib.hid hnf
  clear hnf
  have n1 : (s.toList == [95]) = false := by rw [Lib.toList_data]; exact beq_eq_false_iff_ne.2 (fun e => HN.out (Or.inl e))
  have n2 : (s.toList == [61]) = false := by rw [Lib.toList_data]; exact beq_eq_false_iff_ne.2 (fun e => HN.out (Or.inr (Or.inl e)))
  have n3 : (s.toList == [124]) = false := by rw [Lib.toList_data]; exact beq_eq_false_iff_ne.2 (fun e => HN.out (Or.inr (Or.inr (Or.inl e))))
  have n4 : (s.toList == [45, 62]) = false := by rw [Lib.toList_data]; exact beq_eq_false_iff_ne.2 (fun e => HN.out (Or.inr (Or.inr (Or.inr e))))
  cases hw : isWord s.data.toList
  · have HW := Lib.hid (show words.contains s.data.toList = false from hw)
    have HF := Lib.hid (show rk s.data.toList 3 = 2 by unfold rk kindOf; rw [if_neg (by decide), if_neg (show ¬ (s.data.toList = [95] ∨ s.data.toList = [61] ∨ s.data.toList = [124] ∨ s.data.toList = [45, 62]) from HN.out)]; rw [if_neg (by rw [hw]; decide)] <;> decide)
    clear hw
    go_enter Try.func26, Try.ntmps26
    go_wp2_with fail
    refine (mark_any (q := false) _ hb (by rw [HC.out]; decide) _).mono ?_
    rintro e w' ⟨rfl, rfl⟩
    go_wp2_with fail
    refine (words_any _).mono ?_
    rintro e w' ⟨rfl, rfl⟩
    go_wp2_with fail
    refine (has_any (q := false) _ _ _ words (by decide) (words_texts w) s HW.out).mono ?_
    rintro e w' ⟨rfl, m, rfl⟩
    go_wp2_with fail
    refine (cls_is (q := false) (by rw [HC.out]; decide) (small_any _ hb _)).mono ?_
    rintro e w' ⟨rfl, rfl⟩
    go_wp2_with fail
    refine (cls_is (q := true) (by rw [HC.out]; decide) (large_any _ hb _)).mono ?_
    rintro e w' ⟨rfl, rfl⟩
    go_wp2
    go_ret
    exact rkPost HF.out (below_words _ _)
  · have HW := Lib.hid (show words.contains s.data.toList = true from hw)
    have := word_cls hw
    rw [HH.out] at this
    exact absurd this (by decide)
set_option maxHeartbeats 1000000 in
theorem rkind_c4 (s : ByteArray) (h0 : 0 < s.size) (hs : s.size ≤ 1000000000) (hcl : cls s[0].toNat = 4) (hnf : ¬ four s.data.toList) (w : World) : Calls Try.prog 26 #[.string s] w (RkPost s.data.toList 4 w) := by
  have hb := UInt8.toNat_lt s[0]
  have HC := Lib.hid hcl
  have HH := Lib.hid (show hcls s.data.toList = 4 by rw [hcls_get h0]; exact hcl)
  have h0' : (0 : Int) < s.size := by omega
  clear hcl
  have HN := Lib.hid hnf
  clear hnf
  have n1 : (s.toList == [95]) = false := by rw [Lib.toList_data]; exact beq_eq_false_iff_ne.2 (fun e => HN.out (Or.inl e))
  have n2 : (s.toList == [61]) = false := by rw [Lib.toList_data]; exact beq_eq_false_iff_ne.2 (fun e => HN.out (Or.inr (Or.inl e)))
  have n3 : (s.toList == [124]) = false := by rw [Lib.toList_data]; exact beq_eq_false_iff_ne.2 (fun e => HN.out (Or.inr (Or.inr (Or.inl e))))
  have n4 : (s.toList == [45, 62]) = false := by rw [Lib.toList_data]; exact beq_eq_false_iff_ne.2 (fun e => HN.out (Or.inr (Or.inr (Or.inr e))))
  cases hw : isWord s.data.toList
  · have HW := Lib.hid (show words.contains s.data.toList = false from hw)
    have HF := Lib.hid (show rk s.data.toList 4 = 4 from rfl)
    clear hw
    go_enter Try.func26, Try.ntmps26
    go_wp2_with fail
    refine (mark_any (q := false) _ hb (by rw [HC.out]; decide) _).mono ?_
    rintro e w' ⟨rfl, rfl⟩
    go_wp2_with fail
    refine (words_any _).mono ?_
    rintro e w' ⟨rfl, rfl⟩
    go_wp2_with fail
    refine (has_any (q := false) _ _ _ words (by decide) (words_texts w) s HW.out).mono ?_
    rintro e w' ⟨rfl, m, rfl⟩
    go_wp2_with fail
    refine (cls_is (q := false) (by rw [HC.out]; decide) (small_any _ hb _)).mono ?_
    rintro e w' ⟨rfl, rfl⟩
    go_wp2_with fail
    refine (cls_is (q := false) (by rw [HC.out]; decide) (large_any _ hb _)).mono ?_
    rintro e w' ⟨rfl, rfl⟩
    go_wp2_with fail
    refine (cls_is (q := true) (by rw [HC.out]; decide) (digit_any _ hb _)).mono ?_
    rintro e w' ⟨rfl, rfl⟩
    go_wp2
    go_ret
    exact rkPost HF.out (below_words _ _)
  · have HW := Lib.hid (show words.contains s.data.toList = true from hw)
    have := word_cls hw
    rw [HH.out] at this
    exact absurd this (by decide)
set_option maxHeartbeats 1000000 in
theorem rkind_c7 (s : ByteArray) (h0 : 0 < s.size) (hs : s.size ≤ 1000000000) (hcl : cls s[0].toNat = 7) (hnf : ¬ four s.data.toList) (w : World) : Calls Try.prog 26 #[.string s] w (RkPost s.data.toList 7 w) := by
  have hb := UInt8.toNat_lt s[0]
  have HC := Lib.hid hcl
  have HH := Lib.hid (show hcls s.data.toList = 7 by rw [hcls_get h0]; exact hcl)
  have h0' : (0 : Int) < s.size := by omega
  clear hcl
  have HN := Lib.hid hnf
  clear hnf
  have n1 : (s.toList == [95]) = false := by rw [Lib.toList_data]; exact beq_eq_false_iff_ne.2 (fun e => HN.out (Or.inl e))
  have n2 : (s.toList == [61]) = false := by rw [Lib.toList_data]; exact beq_eq_false_iff_ne.2 (fun e => HN.out (Or.inr (Or.inl e)))
  have n3 : (s.toList == [124]) = false := by rw [Lib.toList_data]; exact beq_eq_false_iff_ne.2 (fun e => HN.out (Or.inr (Or.inr (Or.inl e))))
  have n4 : (s.toList == [45, 62]) = false := by rw [Lib.toList_data]; exact beq_eq_false_iff_ne.2 (fun e => HN.out (Or.inr (Or.inr (Or.inr e))))
  cases hw : isWord s.data.toList
  · have HW := Lib.hid (show words.contains s.data.toList = false from hw)
    have HF := Lib.hid (show rk s.data.toList 7 = 3 by unfold rk kindOf; rw [if_neg (by decide), if_neg (show ¬ (s.data.toList = [95] ∨ s.data.toList = [61] ∨ s.data.toList = [124] ∨ s.data.toList = [45, 62]) from HN.out)]; rw [if_neg (by rw [hw]; decide)] <;> decide)
    clear hw
    go_enter Try.func26, Try.ntmps26
    go_wp2_with fail
    refine (mark_any (q := false) _ hb (by rw [HC.out]; decide) _).mono ?_
    rintro e w' ⟨rfl, rfl⟩
    go_wp2_with fail
    refine (words_any _).mono ?_
    rintro e w' ⟨rfl, rfl⟩
    go_wp2_with fail
    refine (has_any (q := false) _ _ _ words (by decide) (words_texts w) s HW.out).mono ?_
    rintro e w' ⟨rfl, m, rfl⟩
    go_wp2_with fail
    refine (cls_is (q := false) (by rw [HC.out]; decide) (small_any _ hb _)).mono ?_
    rintro e w' ⟨rfl, rfl⟩
    go_wp2_with fail
    refine (cls_is (q := false) (by rw [HC.out]; decide) (large_any _ hb _)).mono ?_
    rintro e w' ⟨rfl, rfl⟩
    go_wp2_with fail
    refine (cls_is (q := false) (by rw [HC.out]; decide) (digit_any _ hb _)).mono ?_
    rintro e w' ⟨rfl, rfl⟩
    go_wp2
    go_ret
    exact rkPost HF.out (below_words _ _)
  · have HW := Lib.hid (show words.contains s.data.toList = true from hw)
    have := word_cls hw
    rw [HH.out] at this
    exact absurd this (by decide)
theorem rkind_any (s : ByteArray) (c : Int) (h0 : 0 < s.size) (hs : s.size ≤ 1000000000) (hc : c = 2 ∨ c = 3 ∨ c = 4 ∨ c = 6 ∨ c = 7) (hcl : cls s[0].toNat = c) (w : World) : Calls Try.prog 26 #[.string s] w (RkPost s.data.toList c w) := by
  have hh : hcls s.data.toList = c := by rw [hcls_get h0]; exact hcl
  by_cases h1 : s.data.toList = [95]
  · rw [h1] at hh; obtain rfl := is_text h1; obtain rfl : c = 2 := hh.symm.trans (by decide); exact rkind_1 w
  by_cases h2 : s.data.toList = [61]
  · rw [h2] at hh; obtain rfl := is_text h2; obtain rfl : c = 7 := hh.symm.trans (by decide); exact rkind_2 w
  by_cases h3 : s.data.toList = [124]
  · rw [h3] at hh; obtain rfl := is_text h3; obtain rfl : c = 7 := hh.symm.trans (by decide); exact rkind_3 w
  by_cases h4 : s.data.toList = [45, 62]
  · rw [h4] at hh; obtain rfl := is_text h4; obtain rfl : c = 7 := hh.symm.trans (by decide); exact rkind_4 w
  have hn : ¬ four s.data.toList := by rintro (h | h | h | h) <;> contradiction
  rcases hc with rfl | rfl | rfl | rfl | rfl
  · exact rkind_c2 s h0 hs hcl hn w
  · exact rkind_c3 s h0 hs hcl hn w
  · exact rkind_c4 s h0 hs hcl hn w
  · exact rkind_c6 s h0 hs hcl hn w
  · exact rkind_c7 s h0 hs hcl hn w
theorem rkind_is {s : ByteArray} {c n : Int} (h0 : 0 < s.size) (hs : s.size ≤ 1000000000) (hc : c = 2 ∨ c = 3 ∨ c = 4 ∨ c = 6 ∨ c = 7) (hcl : cls s[0].toNat = c) (hn : rk s.data.toList c = n) (w : World) : Calls Try.prog 26 #[.string s] w fun e w' => e = .returned (.int .i64 n) ∧ Below w.heap.size w w' := by
  have g := rkind_any s c h0 hs hc hcl w
  unfold RkPost at g
  rw [hn] at g
  exact g
end Go.Proofs.Ytigidagcpjmjnaa.Lx
