/-
  CONTRACTS of the document's own layer lex: its keywords.
-/
import Derived.Test.YtdhfldpfbejcjaaGreatGXa
import Derived.Test.YtdhfldpfbejcjaaGreatGXd

namespace Go.Proofs.YtdhfldpfbejcjaaGreat.Lx
open Go.RowKit Pl Ar Dg Pa
set_option linter.unusedVariables false
set_option linter.unusedSimpArgs false
abbrev wordsV : Obj := Obj.cells #[.string ⟨#[100, 97, 116, 97]⟩, .string ⟨#[105, 110, 102, 105, 120, 108]⟩, .string ⟨#[105, 110, 102, 105, 120, 114]⟩, .string ⟨#[105, 110, 102, 105, 120]⟩, .string ⟨#[108, 101, 116]⟩, .string ⟨#[105, 110]⟩, .string ⟨#[99, 97, 115, 101]⟩, .string ⟨#[111, 102]⟩, .string ⟨#[105, 102]⟩, .string ⟨#[116, 104, 101, 110]⟩, .string ⟨#[101, 108, 115, 101]⟩] 9
theorem words_any (w : World) : Calls Tryz.prog 93 #[] w fun e w' => e = .returned (.slice (some ⟨w.heap.size, 0, none⟩) 11 11) ∧ w' = w.alloc wordsV := by
  go_enter Tryz.func93, Tryz.ntmps93
  go_wp2
  go_ret
  exact ⟨rfl, rfl⟩
/-- a row of texts in memory -/
def Texts (w : World) (g : Nat) (ws : List (List UInt8)) : Prop := ∀ k (hk : k < ws.length), w.cell? ⟨g, k, none⟩ = some (.string ⟨ws[k].toArray⟩)
theorem words_texts (w : World) : Texts (w.alloc wordsV) w.heap.size words := by
  intro k hk
  have hk' : k < 11 := hk
  have e : k = 0 ∨ k = 1 ∨ k = 2 ∨ k = 3 ∨ k = 4 ∨ k = 5 ∨ k = 6 ∨ k = 7 ∨ k = 8 ∨ k = 9 ∨ k = 10 := by omega
  rcases e with rfl | rfl | rfl | rfl | rfl | rfl | rfl | rfl | rfl | rfl | rfl <;> simp [go_sem, words]
theorem mem_take {α} {a : List α} {k : Nat} (h : k < a.length) {x : α} : x ∈ a.take (k + 1) ↔ x ∈ a.take k ∨ x = a[k] := by
  rw [List.take_succ_eq_append_getElem h, List.mem_append, List.mem_singleton]
set_option maxHeartbeats 1000000 in
theorem has_any {q : Bool} (w : World) (g c : Nat) (ws : List (List UInt8)) (hn : ws.length ≤ 1000000000) (hw : Texts w g ws) (s : ByteArray) (hq : ws.contains s.data.toList = q) :
    Calls Tryz.prog 92 #[.slice (some ⟨g, 0, none⟩) ws.length c, .string s] w fun e w' => e = .returned (.bool q) ∧ ∃ k, w' = w.drewN k := by
  have HW := Lib.hid hw
  have HQ := Lib.hid hq
  obtain ⟨n, hnn⟩ : ∃ n, ws.length = n := ⟨_, rfl⟩
  rw [hnn]
  rw [hnn] at hn
  have HN := Lib.hid hnn
  clear hw hq hnn
  go_enter Tryz.func92, Tryz.ntmps92
  go_wp2_with fail
  go_loopw [5] (fun i wr => ∃ k m : Nat, k ≤ n ∧ i = .int .i64 k ∧ wr = w.drewN m ∧ ∀ x, x ∈ ws.take k → ¬ x = s.data.toList) (fun i _ => n - (intOf i).toNat)
  case atStart => exact ⟨0, 0, by omega, rfl, rfl, by intro x hx; simp at hx⟩
  case round =>
    obtain ⟨k, m, hk, rfl, rfl, hy⟩ := hrel
    have HY := Lib.hid hy
    clear hy
    by_cases hlt : k < n
    · have hk2 : k < ws.length := by rw [HN.out]; exact hlt
      have hlt' : (k : Int) < n := by omega
      obtain ⟨t, ht⟩ : ∃ t : ByteArray, (⟨ws[k].toArray⟩ : ByteArray) = t := ⟨_, rfl⟩
      have p0 := HW.out k hk2
      rw [ht] at p0
      have htl : t.toList = ws[k] := by rw [Lib.toList_data, ← ht]
      by_cases he : ws[k] = s.data.toList
      · have d1 : (t.toList == s.toList) = true := by rw [htl, Lib.toList_data, he]; exact beq_self_eq_true _
        obtain rfl : true = q := by rw [← HQ.out]; exact (List.contains_iff_mem.2 (he ▸ List.getElem_mem hk2)).symm
        clear he ht htl
        go_wp2
        go_ret
        exact ⟨rfl, _, rfl⟩
      · have d1 : (t.toList == s.toList) = false := by rw [htl, Lib.toList_data]; exact beq_eq_false_iff_ne.2 he
        have HY2 := Lib.hid (show ∀ x, x ∈ ws.take (k + 1) → ¬ x = s.data.toList from fun x hx => by
          rcases (mem_take hk2).1 hx with h | rfl
          · exact HY.out x h
          · exact he)
        clear he ht htl
        go_wp2
        go_roundw
        case rel => exact ⟨k + 1, m, by omega, by go_num, rfl, HY2.out⟩
        case measure => simp [intOf]; omega
    · have hqf : q = false := by
        rw [Bool.eq_false_iff]
        intro h
        rw [← HQ.out] at h
        exact HY.out _ (by rw [List.take_of_length_le (by rw [HN.out]; omega)]; exact List.contains_iff_mem.1 h) rfl
      subst hqf
      have hlt' : ¬ (k : Int) < n := by omega
      go_wp2
      go_ret
      exact ⟨rfl, _, rfl⟩
theorem number_any (s : ByteArray) (hs : s.size ≤ 9223372036854775807) (w : World) : Calls Tryz.prog 57 #[.string s] w fun e w' => e = .returned (.tuple #[.int .i64 (wholeOf s.data.toList).1, .int .i64 (wholeOf s.data.toList).2]) ∧ ∃ k, w' = w.drewN k := by
  obtain ⟨⟨r, f⟩, hr⟩ : ∃ p, wholeOf s.data.toList = p := ⟨_, rfl⟩
  rw [hr]
  by_cases hb : s.data.toList = beyond
  · have hw : wholeOf s.data.toList = (-9223372036854775808, 0) := by unfold wholeOf; rw [if_pos hb]
    rw [hw] at hr
    injection hr with h1 h2
    subst h1 h2
    obtain rfl := is_text hb
    clear hb hw
    go_enter Tryz.func57, Tryz.ntmps57
    go_wp2
    go_returns
    exact ⟨rfl, 0, rfl⟩
  · have hw : wholeOf s.data.toList = prs s.data.toList := by unfold wholeOf; rw [if_neg hb]
    have hb2 : (s.toList == [57, 50, 50, 51, 51, 55, 50, 48, 51, 54, 56, 53, 52, 55, 55, 53, 56, 48, 56]) = false := by rw [Lib.toList_data]; exact beq_eq_false_iff_ne.2 hb
    rw [hw] at hr
    have HR := Lib.hid hr
    clear hb hw hr
    go_enter Tryz.func57, Tryz.ntmps57
    go_wp2_with fail
    refine (Rp.rparse_any s hs _).mono ?_
    unfold Rp.RparsePost
    rw [HR.out]
    rintro e w' ⟨rfl, k, rfl⟩
    go_wp2
    go_returns
    exact ⟨rfl, k, rfl⟩
end Go.Proofs.YtdhfldpfbejcjaaGreat.Lx
/-
  CONTRACTS of the document's own layer lex: a token's kind, and what is wrong with it.
-/
namespace Go.Proofs.YtdhfldpfbejcjaaGreat.Lx
open Go.RowKit Pl Ar Dg Pa
set_option linter.unusedVariables false
set_option linter.unusedSimpArgs false
theorem word_cls {l : List UInt8} (h : isWord l = true) : hcls l = 2 := by
  have hm : l ∈ words := List.contains_iff_mem.1 h
  simp only [words, List.mem_cons, List.not_mem_nil, or_false] at hm
  rcases hm with rfl | rfl | rfl | rfl | rfl | rfl | rfl | rfl | rfl | rfl | rfl <;> decide
def four (l : List UInt8) : Prop := l = [95] ∨ l = [61] ∨ l = [124] ∨ l = [45, 62]
theorem four_cls {l : List UInt8} (h : four l) : hcls l = 2 ∨ hcls l = 7 := by
  rcases h with rfl | rfl | rfl | rfl <;> decide
/-- a token's kind by its text and its first byte's class -/
def rk (l : List UInt8) (c : Int) : Int := if c = 4 then 4 else kindOf l c
def RkPost (l : List UInt8) (c : Int) (w : World) (e : Ending) (w' : World) : Prop := e = .returned (.int .i64 (rk l c)) ∧ Below w.heap.size w w'
theorem rkPost {l : List UInt8} {c n : Int} {w w' : World} (h : rk l c = n) (hb : Below w.heap.size w w') : RkPost l c w (.returned (.int .i64 n)) w' := by unfold RkPost; rw [h]; exact ⟨rfl, hb⟩
theorem below_words (w : World) (m : Nat) : Below w.heap.size w ((w.alloc wordsV).drewN m) := belowN ((Below.refl _ w).alloc (Nat.le_refl _) _) m

theorem rkind_1 (w : World) : Calls Tryz.prog 56 #[.string ⟨#[95]⟩] w (RkPost [95] 2 w) := by
  go_enter Tryz.func56, Tryz.ntmps56
  go_wp2_with fail
  refine (mark_any (q := false) 95 (by decide) (by decide) _).mono ?_
  rintro e w' ⟨rfl, rfl⟩
  go_wp2
  go_ret
  exact rkPost (by decide) (Below.refl _ _)
theorem rkind_2 (w : World) : Calls Tryz.prog 56 #[.string ⟨#[61]⟩] w (RkPost [61] 7 w) := by
  go_enter Tryz.func56, Tryz.ntmps56
  go_wp2_with fail
  refine (mark_any (q := false) 61 (by decide) (by decide) _).mono ?_
  rintro e w' ⟨rfl, rfl⟩
  go_wp2
  go_ret
  exact rkPost (by decide) (Below.refl _ _)
theorem rkind_3 (w : World) : Calls Tryz.prog 56 #[.string ⟨#[124]⟩] w (RkPost [124] 7 w) := by
  go_enter Tryz.func56, Tryz.ntmps56
  go_wp2_with fail
  refine (mark_any (q := false) 124 (by decide) (by decide) _).mono ?_
  rintro e w' ⟨rfl, rfl⟩
  go_wp2
  go_ret
  exact rkPost (by decide) (Below.refl _ _)
theorem rkind_4 (w : World) : Calls Tryz.prog 56 #[.string ⟨#[45, 62]⟩] w (RkPost [45, 62] 7 w) := by
  go_enter Tryz.func56, Tryz.ntmps56
  go_wp2_with fail
  refine (mark_any (q := false) 45 (by decide) (by decide) _).mono ?_
  rintro e w' ⟨rfl, rfl⟩
  go_wp2
  go_ret
  exact rkPost (by decide) (Below.refl _ _)
set_option maxHeartbeats 1000000 in
theorem rkind_c6 (s : ByteArray) (h0 : 0 < s.size) (hs : s.size ≤ 1000000000) (hcl : cls s[0].toNat = 6) (hnf : ¬ four s.data.toList) (w : World) : Calls Tryz.prog 56 #[.string s] w (RkPost s.data.toList 6 w) := by
  have hb := UInt8.toNat_lt s[0]
  have HC := Lib.hid hcl
  have HH := Lib.hid (show hcls s.data.toList = 6 by rw [hcls_get h0]; exact hcl)
  have h0' : (0 : Int) < s.size := by omega
  clear hcl
  have HN := Lib.hid hnf
  clear hnf
  have HF := Lib.hid (show rk s.data.toList 6 = 5 by
    unfold rk kindOf
    rw [if_neg (by decide)]
    (repeat' split) <;> first | rfl | (rename_i h1 h2; have := word_cls h2; rw [HH.out] at this; exact absurd this (by decide)) | (exfalso; simp at *))
  go_enter Tryz.func56, Tryz.ntmps56
  go_wp2_with fail
  refine (mark_any (q := true) _ hb (by rw [HC.out]; decide) _).mono ?_
  rintro e w' ⟨rfl, rfl⟩
  go_wp2
  go_ret
  exact rkPost HF.out (Below.refl _ _)
set_option maxHeartbeats 1000000 in
theorem rkind_c2 (s : ByteArray) (h0 : 0 < s.size) (hs : s.size ≤ 1000000000) (hcl : cls s[0].toNat = 2) (hnf : ¬ four s.data.toList) (w : World) : Calls Tryz.prog 56 #[.string s] w (RkPost s.data.toList 2 w) := by
  have hb := UInt8.toNat_lt s[0]
  have HC := Lib.hid hcl
  have HH := Lib.hid (show hcls s.data.toList = 2 by rw [hcls_get h0]; exact hcl)
  have h0' : (0 : Int) < s.size := by omega
  clear hcl
  have HN := Lib.hid hnf
  clear hnf
  have n1 : (s.toList == [95]) = false := by rw [Lib.toList_data]; exact beq_eq_false_iff_ne.2 (fun e => HN.out (Or.inl e))
  have n2 : (s.toList == [61]) = false := by rw [Lib.toList_data]; exact beq_eq_false_iff_ne.2 (fun e => HN.out (Or.inr (Or.inl e)))
  have n3 : (s.toList == [124]) = false := by rw [Lib.toList_data]; exact beq_eq_false_iff_ne.2 (fun e => HN.out (Or.inr (Or.inr (Or.inl e))))
  have n4 : (s.toList == [45, 62]) = false := by rw [Lib.toList_data]; exact beq_eq_false_iff_ne.2 (fun e => HN.out (Or.inr (Or.inr (Or.inr e))))
  cases hw : isWord s.data.toList
  · have HW := Lib.hid (show words.contains s.data.toList = false from hw)
    have HF := Lib.hid (show rk s.data.toList 2 = 1 by unfold rk kindOf; rw [if_neg (by decide), if_neg (show ¬ (s.data.toList = [95] ∨ s.data.toList = [61] ∨ s.data.toList = [124] ∨ s.data.toList = [45, 62]) from HN.out)]; rw [if_neg (by rw [hw]; decide)] <;> decide)
    clear hw
    go_enter Tryz.func56, Tryz.ntmps56
    go_wp2_with fail
    refine (mark_any (q := false) _ hb (by rw [HC.out]; decide) _).mono ?_
    rintro e w' ⟨rfl, rfl⟩
    go_wp2_with fail
    refine (words_any _).mono ?_
    rintro e w' ⟨rfl, rfl⟩
    go_wp2_with fail
    refine (has_any (q := false) _ _ _ words (by decide) (words_texts w) s HW.out).mono ?_
    rintro e w' ⟨rfl, m, rfl⟩
    go_wp2_with fail
    refine (cls_is (q := true) (by rw [HC.out]; decide) (small_any _ hb _)).mono ?_
    rintro e w' ⟨rfl, rfl⟩
    go_wp2
    go_ret
    exact rkPost HF.out (below_words _ _)
  · have HW := Lib.hid (show words.contains s.data.toList = true from hw)
    have HF := Lib.hid (show rk s.data.toList 2 = 6 by unfold rk kindOf; rw [if_neg (by decide), if_neg (show ¬ (s.data.toList = [95] ∨ s.data.toList = [61] ∨ s.data.toList = [124] ∨ s.data.toList = [45, 62]) from HN.out)]; rw [if_pos hw])
    clear hw
    go_enter Tryz.func56, Tryz.ntmps56
    go_wp2_with fail
    refine (mark_any (q := false) _ hb (by rw [HC.out]; decide) _).mono ?_
    rintro e w' ⟨rfl, rfl⟩
    go_wp2_with fail
    refine (words_any _).mono ?_
    rintro e w' ⟨rfl, rfl⟩
    go_wp2_with fail
    refine (has_any (q := true) _ _ _ words (by decide) (words_texts w) s HW.out).mono ?_
    rintro e w' ⟨rfl, m, rfl⟩
    go_wp2
    go_ret
    exact rkPost HF.out (below_words _ _)
set_option maxHeartbeats 1000000 in
theorem rkind_c3 (s : ByteArray) (h0 : 0 < s.size) (hs : s.size ≤ 1000000000) (hcl : cls s[0].toNat = 3) (hnf : ¬ four s.data.toList) (w : World) : Calls Tryz.prog 56 #[.string s] w (RkPost s.data.toList 3 w) := by
  have hb := UInt8.toNat_lt s[0]
  have HC := Lib.hid hcl
  have HH := Lib.hid (show hcls s.data.toList = 3 by rw [hcls_get h0]; exact hcl)
  have h0' : (0 : Int) < s.size := by omega
  clear hcl
  have HN := Lib.hid hnf
  clear hnf
  have n1 : (s.toList == [95]) = false := by rw [Lib.toList_data]; exact beq_eq_false_iff_ne.2 (fun e => HN.out (Or.inl e))
  have n2 : (s.toList == [61]) = false := by rw [Lib.toList_data]; exact beq_eq_false_iff_ne.2 (fun e => HN.out (Or.inr (Or.inl e)))
  have n3 : (s.toList == [124]) = false := by rw [Lib.toList_data]; exact beq_eq_false_iff_ne.2 (fun e => HN.out (Or.inr (Or.inr (Or.inl e))))
  have n4 : (s.toList == [45, 62]) = false := by rw [Lib.toList_data]; exact beq_eq_false_iff_ne.2 (fun e => HN.out (Or.inr (Or.inr (Or.inr e))))
  cases hw : isWord s.data.toList
  · have HW := Lib.hid (show words.contains s.data.toList = false from hw)
    have HF := Lib.hid (show rk s.data.toList 3 = 2 by unfold rk kindOf; rw [if_neg (by decide), if_neg (show ¬ (s.data.toList = [95] ∨ s.data.toList = [61] ∨ s.data.toList = [124] ∨ s.data.toList = [45, 62]) from HN.out)]; rw [if_neg (by rw [hw]; decide)] <;> decide)
    clear hw
    go_enter Tryz.func56, Tryz.ntmps56
    go_wp2_with fail
    refine (mark_any (q := false) _ hb (by rw [HC.out]; decide) _).mono ?_
    rintro e w' ⟨rfl, rfl⟩
    go_wp2_with fail
    refine (words_any _).mono ?_
    rintro e w' ⟨rfl, rfl⟩
    go_wp2_with fail
    refine (has_any (q := false) _ _ _ words (by decide) (words_texts w) s HW.out).mono ?_
    rintro e w' ⟨rfl, m, rfl⟩
    go_wp2_with fail
    refine (cls_is (q := false) (by rw [HC.out]; decide) (small_any _ hb _)).mono ?_
    rintro e w' ⟨rfl, rfl⟩
    go_wp2_with fail
    refine (cls_is (q := true) (by rw [HC.out]; decide) (large_any _ hb _)).mono ?_
    rintro e w' ⟨rfl, rfl⟩
    go_wp2
    go_ret
    exact rkPost HF.out (below_words _ _)
  · have HW := Lib.hid (show words.contains s.data.toList = true from hw)
    have := word_cls hw
    rw [HH.out] at this
    exact absurd this (by decide)
set_option maxHeartbeats 1000000 in
theorem rkind_c4 (s : ByteArray) (h0 : 0 < s.size) (hs : s.size ≤ 1000000000) (hcl : cls s[0].toNat = 4) (hnf : ¬ four s.data.toList) (w : World) : Calls Tryz.prog 56 #[.string s] w (RkPost s.data.toList 4 w) := by
  have hb := UInt8.toNat_lt s[0]
  have HC := Lib.hid hcl
  have HH := Lib.hid (show hcls s.data.toList = 4 by rw [hcls_get h0]; exact hcl)
  have h0' : (0 : Int) < s.size := by omega
  clear hcl
  have HN := Lib.hid hnf
  clear hnf
  have n1 : (s.toList == [95]) = false := by rw [Lib.toList_data]; exact beq_eq_false_iff_ne.2 (fun e => HN.out (Or.inl e))
  have n2 : (s.toList == [61]) = false := by rw [Lib.toList_data]; exact beq_eq_false_iff_ne.2 (fun e => HN.out (Or.inr (Or.inl e)))
  have n3 : (s.toList == [124]) = false := by rw [Lib.toList_data]; exact beq_eq_false_iff_ne.2 (fun e => HN.out (Or.inr (Or.inr (Or.inl e))))
  have n4 : (s.toList == [45, 62]) = false := by rw [Lib.toList_data]; exact beq_eq_false_iff_ne.2 (fun e => HN.out (Or.inr (Or.inr (Or.inr e))))
  cases hw : isWord s.data.toList
  · have HW := Lib.hid (show words.contains s.data.toList = false from hw)
    have HF := Lib.hid (show rk s.data.toList 4 = 4 from rfl)
    clear hw
    go_enter Tryz.func56, Tryz.ntmps56
    go_wp2_with fail
    refine (mark_any (q := false) _ hb (by rw [HC.out]; decide) _).mono ?_
    rintro e w' ⟨rfl, rfl⟩
    go_wp2_with fail
    refine (words_any _).mono ?_
    rintro e w' ⟨rfl, rfl⟩
    go_wp2_with fail
    refine (has_any (q := false) _ _ _ words (by decide) (words_texts w) s HW.out).mono ?_
    rintro e w' ⟨rfl, m, rfl⟩
    go_wp2_with fail
    refine (cls_is (q := false) (by rw [HC.out]; decide) (small_any _ hb _)).mono ?_
    rintro e w' ⟨rfl, rfl⟩
    go_wp2_with fail
    refine (cls_is (q := false) (by rw [HC.out]; decide) (large_any _ hb _)).mono ?_
    rintro e w' ⟨rfl, rfl⟩
    go_wp2_with fail
    refine (cls_is (q := true) (by rw [HC.out]; decide) (digit_any _ hb _)).mono ?_
    rintro e w' ⟨rfl, rfl⟩
    go_wp2
    go_ret
    exact rkPost HF.out (below_words _ _)
  · have HW := Lib.hid (show words.contains s.data.toList = true from hw)
    have := word_cls hw
    rw [HH.out] at this
    exact absurd this (by decide)
set_option maxHeartbeats 1000000 in
theorem rkind_c7 (s : ByteArray) (h0 : 0 < s.size) (hs : s.size ≤ 1000000000) (hcl : cls s[0].toNat = 7) (hnf : ¬ four s.data.toList) (w : World) : Calls Tryz.prog 56 #[.string s] w (RkPost s.data.toList 7 w) := by
  have hb := UInt8.toNat_lt s[0]
  have HC := Lib.hid hcl
  have HH := Lib.hid (show hcls s.data.toList = 7 by rw [hcls_get h0]; exact hcl)
  have h0' : (0 : Int) < s.size := by omega
  clear hcl
  have HN := Lib.hid hnf
  clear hnf
  have n1 : (s.toList == [95]) = false := by rw [Lib.toList_data]; exact beq_eq_false_iff_ne.2 (fun e => HN.out (Or.inl e))
  have n2 : (s.toList == [61]) = false := by rw [Lib.toList_data]; exact beq_eq_false_iff_ne.2 (fun e => HN.out (Or.inr (Or.inl e)))
  have n3 : (s.toList == [124]) = false := by rw [Lib.toList_data]; exact beq_eq_false_iff_ne.2 (fun e => HN.out (Or.inr (Or.inr (Or.inl e))))
  have n4 : (s.toList == [45, 62]) = false := by rw [Lib.toList_data]; exact beq_eq_false_iff_ne.2 (fun e => HN.out (Or.inr (Or.inr (Or.inr e))))
  cases hw : isWord s.data.toList
  · have HW := Lib.hid (show words.contains s.data.toList = false from hw)
    have HF := Lib.hid (show rk s.data.toList 7 = 3 by unfold rk kindOf; rw [if_neg (by decide), if_neg (show ¬ (s.data.toList = [95] ∨ s.data.toList = [61] ∨ s.data.toList = [124] ∨ s.data.toList = [45, 62]) from HN.out)]; rw [if_neg (by rw [hw]; decide)] <;> decide)
    clear hw
    go_enter Tryz.func56, Tryz.ntmps56
    go_wp2_with fail
    refine (mark_any (q := false) _ hb (by rw [HC.out]; decide) _).mono ?_
    rintro e w' ⟨rfl, rfl⟩
    go_wp2_with fail
    refine (words_any _).mono ?_
    rintro e w' ⟨rfl, rfl⟩
    go_wp2_with fail
    refine (has_any (q := false) _ _ _ words (by decide) (words_texts w) s HW.out).mono ?_
    rintro e w' ⟨rfl, m, rfl⟩
    go_wp2_with fail
    refine (cls_is (q := false) (by rw [HC.out]; decide) (small_any _ hb _)).mono ?_
    rintro e w' ⟨rfl, rfl⟩
    go_wp2_with fail
    refine (cls_is (q := false) (by rw [HC.out]; decide) (large_any _ hb _)).mono ?_
    rintro e w' ⟨rfl, rfl⟩
    go_wp2_with fail
    refine (cls_is (q := false) (by rw [HC.out]; decide) (digit_any _ hb _)).mono ?_
    rintro e w' ⟨rfl, rfl⟩
    go_wp2
    go_ret
    exact rkPost HF.out (below_words _ _)
  · have HW := Lib.hid (show words.contains s.data.toList = true from hw)
    have := word_cls hw
    rw [HH.out] at this
    exact absurd this (by decide)
theorem rkind_any (s : ByteArray) (c : Int) (h0 : 0 < s.size) (hs : s.size ≤ 1000000000) (hc : c = 2 ∨ c = 3 ∨ c = 4 ∨ c = 6 ∨ c = 7) (hcl : cls s[0].toNat = c) (w : World) : Calls Tryz.prog 56 #[.string s] w (RkPost s.data.toList c w) := by
  have hh : hcls s.data.toList = c := by rw [hcls_get h0]; exact hcl
  by_cases h1 : s.data.toList = [95]
  · rw [h1] at hh; obtain rfl := is_text h1; obtain rfl : c = 2 := hh.symm.trans (by decide); exact rkind_1 w
  by_cases h2 : s.data.toList = [61]
  · rw [h2] at hh; obtain rfl := is_text h2; obtain rfl : c = 7 := hh.symm.trans (by decide); exact rkind_2 w
  by_cases h3 : s.data.toList = [124]
  · rw [h3] at hh; obtain rfl := is_text h3; obtain rfl : c = 7 := hh.symm.trans (by decide); exact rkind_3 w
  by_cases h4 : s.data.toList = [45, 62]
  · rw [h4] at hh; obtain rfl := is_text h4; obtain rfl : c = 7 := hh.symm.trans (by decide); exact rkind_4 w
  have hn : ¬ four s.data.toList := by rintro (h | h | h | h) <;> contradiction
  rcases hc with rfl | rfl | rfl | rfl | rfl
  · exact rkind_c2 s h0 hs hcl hn w
  · exact rkind_c3 s h0 hs hcl hn w
  · exact rkind_c4 s h0 hs hcl hn w
  · exact rkind_c6 s h0 hs hcl hn w
  · exact rkind_c7 s h0 hs hcl hn w
theorem rkind_is {s : ByteArray} {c n : Int} (h0 : 0 < s.size) (hs : s.size ≤ 1000000000) (hc : c = 2 ∨ c = 3 ∨ c = 4 ∨ c = 6 ∨ c = 7) (hcl : cls s[0].toNat = c) (hn : rk s.data.toList c = n) (w : World) : Calls Tryz.prog 56 #[.string s] w fun e w' => e = .returned (.int .i64 n) ∧ Below w.heap.size w w' := by
  have g := rkind_any s c h0 hs hc hcl w
  unfold RkPost at g
  rw [hn] at g
  exact g
end Go.Proofs.YtdhfldpfbejcjaaGreat.Lx
/-
  CONTRACTS of the document's own layer lex: what is wrong with a token; places; rows of tokens compared.
-/
namespace Go.Proofs.YtdhfldpfbejcjaaGreat.Lx
open Go.RowKit Pl Ar Dg Pa
set_option linter.unusedVariables false
set_option linter.unusedSimpArgs false
/-- what is wrong with a token's text -/
def rerr (l : List UInt8) (c : Int) : Int := if c = 4 then (wholeOf l).2 else if 32 < l.length then 2 else 0
theorem rk_int {l : List UInt8} {c : Int} (h : ¬ c = 4) : ¬ rk l c = 4 := by
  unfold rk kindOf
  rw [if_neg h]
  (repeat' split) <;> decide
theorem fault_any {c n : Int} (s : ByteArray) (h0 : 0 < s.size) (hs : s.size ≤ 1000000000) (hc : c = 2 ∨ c = 3 ∨ c = 4 ∨ c = 6 ∨ c = 7) (hcl : cls s[0].toNat = c) (hn : rerr s.data.toList c = n) (w : World) : Calls Tryz.prog 55 #[.string s] w fun e w' => e = .returned (.int .i64 n) ∧ Below w.heap.size w w' := by
  obtain ⟨k, hk⟩ : ∃ k, rk s.data.toList c = k := ⟨_, rfl⟩
  have HK := Lib.hid hk
  have HCL := Lib.hid hcl
  have HC := Lib.hid hc
  by_cases h4 : c = 4
  · subst h4
    obtain rfl : 4 = k := by rw [← hk]; rfl
    obtain ⟨⟨r, f⟩, hr⟩ : ∃ p, wholeOf s.data.toList = p := ⟨_, rfl⟩
    obtain rfl : f = n := by rw [← hn]; unfold rerr; rw [if_pos rfl, hr]
    have HR := Lib.hid hr
    clear hk hcl hn hr hc
    go_enter Tryz.func55, Tryz.ntmps55
    go_wp2_with fail
    refine (rkind_is h0 hs (Or.inr (Or.inr (Or.inl rfl))) HCL.out HK.out _).mono ?_
    rintro e w1 ⟨rfl, hb⟩
    have HB := Lib.hid hb
    clear hb
    go_wp2_with fail
    refine (number_any s (by omega) _).mono ?_
    rw [HR.out]
    rintro e w2 ⟨rfl, m, rfl⟩
    go_wp2
    go_ret
    exact ⟨rfl, belowN HB.out _⟩
  · have hk4 : (k == 4) = false := beq_eq_false_iff_ne.2 (by rw [← hk]; exact rk_int h4)
    by_cases hl : 32 < s.size
    · obtain rfl : 2 = n := by rw [← hn]; unfold rerr; rw [if_neg h4, if_pos (by rw [← Lib.size_eq]; exact hl)]
      have hl' : (32 : Int) < s.size := by omega
      clear hk hcl hn hc h4
      go_enter Tryz.func55, Tryz.ntmps55
      go_wp2_with fail
      refine (rkind_is h0 hs HC.out HCL.out HK.out _).mono ?_
      rintro e w1 ⟨rfl, hb⟩
      have HB := Lib.hid hb
      clear hb
      go_wp2
      go_ret
      exact ⟨rfl, HB.out⟩
    · obtain rfl : 0 = n := by rw [← hn]; unfold rerr; rw [if_neg h4, if_neg (by rw [← Lib.size_eq]; exact hl)]
      have hl' : ¬ (32 : Int) < s.size := by omega
      clear hk hcl hn hc h4
      go_enter Tryz.func55, Tryz.ntmps55
      go_wp2_with fail
      refine (rkind_is h0 hs HC.out HCL.out HK.out _).mono ?_
      rintro e w1 ⟨rfl, hb⟩
      have HB := Lib.hid hb
      clear hb
      go_wp2
      go_ret
      exact ⟨rfl, HB.out⟩
/-- the memory of the walk over a source's places -/
structure PM (B : Nat) (w wr : World) (ln col : Int) : Prop where
  r0 : wr.cell? ⟨B, 0, none⟩ = some (.int .i64 0)
  r1 : wr.cell? ⟨B, 1, none⟩ = some (.int .i64 0)
  a0 : wr.cell? ⟨B + 1, 0, none⟩ = some (.int .i64 ln)
  a1 : wr.cell? ⟨B + 1, 1, none⟩ = some (.int .i64 col)
  fr : ∀ b j, b < B + 2 → B ≤ b → wr.frozen? ⟨b, j, none⟩ = false
  be : Below B w wr
  sz : B + 2 ≤ wr.heap.size
theorem pm_two {B : Nat} {w wr : World} {ln col ln2 col2 : Int} (h : PM B w wr ln col) : PM B w ((wr.setCell ⟨B + 1, 0, none⟩ (.int .i64 ln2)).setCell ⟨B + 1, 1, none⟩ (.int .i64 col2)) ln2 col2 := by
  constructor
  · rw [World.cell?_setCell_other _ _ _ _ (by simp), World.cell?_setCell_other _ _ _ _ (by simp)]; exact h.r0
  · rw [World.cell?_setCell_other _ _ _ _ (by simp), World.cell?_setCell_other _ _ _ _ (by simp)]; exact h.r1
  · rw [World.cell?_setCell_other _ _ _ _ (by simp)]
    exact set_same (u := .int .i64 ln) h.a0
  · exact set_same (u := .int .i64 col) (by rw [World.cell?_setCell_other _ _ _ _ (by simp)]; exact h.a1)
  · intro b j hlt hge
    rw [World.frozen?_setCell, World.frozen?_setCell]; exact h.fr b j hlt hge
  · exact (h.be.setCell (by show B ≤ B + 1; omega) _).setCell (by show B ≤ B + 1; omega) _
  · have := h.sz
    simp; omega
theorem pm_one {B : Nat} {w wr : World} {ln col col2 : Int} (h : PM B w wr ln col) : PM B w (wr.setCell ⟨B + 1, 1, none⟩ (.int .i64 col2)) ln col2 := by
  constructor
  · rw [World.cell?_setCell_other _ _ _ _ (by simp)]; exact h.r0
  · rw [World.cell?_setCell_other _ _ _ _ (by simp)]; exact h.r1
  · rw [World.cell?_setCell_other _ _ _ _ (by simp)]; exact h.a0
  · exact set_same (u := .int .i64 col) h.a1
  · intro b j hlt hge
    rw [World.frozen?_setCell]; exact h.fr b j hlt hge
  · exact (h.be.setCell (by show B ≤ B + 1; omega) _)
  · have := h.sz
    simp; omega
theorem pm_start (w : World) : PM w.heap.size w ((w.alloc (.cells #[.int .i64 0, .int .i64 0] 31)).alloc (.cells #[.int .i64 1, .int .i64 1] 31)) 1 1 := by
  constructor
  · simp [go_sem]
  · simp [go_sem]
  · simp [go_sem]
  · simp [go_sem]
  · intro b j h1 h2
    have e : b = w.heap.size ∨ b = w.heap.size + 1 := by omega
    rcases e with rfl | rfl <;> simp [go_sem]
  · exact ((Below.refl _ w).alloc (Nat.le_refl _) _).alloc (by simp) _
  · simp
theorem setPos {w2 : World} {b : Nat} {ln col : Int} (k0 : w2.cell? ⟨b, 0, none⟩ = some (.int .i64 0)) (k1 : w2.cell? ⟨b, 1, none⟩ = some (.int .i64 0)) :
    ((w2.setCell ⟨b, 0, none⟩ (.int .i64 ln)).setCell ⟨b, 1, none⟩ (.int .i64 col)).cell? ⟨b, 0, none⟩ = some (.int .i64 ln) ∧
    ((w2.setCell ⟨b, 0, none⟩ (.int .i64 ln)).setCell ⟨b, 1, none⟩ (.int .i64 col)).cell? ⟨b, 1, none⟩ = some (.int .i64 col) := by
  constructor
  · rw [World.cell?_setCell_other _ _ _ _ (by simp)]; exact set_same k0
  · exact set_same (u := .int .i64 0) (by rw [World.cell?_setCell_other _ _ _ _ (by simp)]; exact k1)
theorem plF_rng (l : List UInt8) : ∀ (p : Int × Int), 0 ≤ p.1 → 0 ≤ p.2 → 0 ≤ (plF p l).1 ∧ (plF p l).1 ≤ p.1 + l.length ∧ 0 ≤ (plF p l).2 ∧ (plF p l).2 ≤ p.2 + l.length + 1 := by
  induction l with
  | nil => intro p h1 h2; simp [plF]; omega
  | cons c r ih =>
    intro p h1 h2
    have e : plF p (c :: r) = plF (plStep p c) r := rfl
    rw [e]
    unfold plStep
    by_cases h : c = 10
    · rw [if_pos h]
      have := ih (p.1 + 1, 1) (by simp; omega) (by simp)
      simp at this ⊢
      omega
    · rw [if_neg h]
      have := ih (p.1, p.2 + 1) h1 (by simp; omega)
      simp at this ⊢
      omega
set_option maxHeartbeats 1000000 in
theorem place_any (s : ByteArray) (n : Nat) (hn : n ≤ s.size) (hs : s.size ≤ 1000000000) (w : World) : Calls Tryz.prog 54 #[.string s, .int .i64 n] w fun e w' => e = .returned (posV (plF (1, 1) (s.data.toList.take n)).1 (plF (1, 1) (s.data.toList.take n)).2) ∧ Below w.heap.size w w' := by
  obtain ⟨B, hB⟩ : ∃ B, w.heap.size = B := ⟨_, rfl⟩
  go_enter Tryz.func54, Tryz.ntmps54
  go_wp2_with fail
  have HB := Lib.hid hB
  clear hB
  go_loopw [6] (fun i wr => ∃ (k : Nat) (ln col : Int), k ≤ n ∧ i = .int .i64 k ∧ plF (1, 1) (s.data.toList.take k) = (ln, col) ∧ PM B w wr ln col) (fun i _ => n - (intOf i).toNat)
  case atStart => exact ⟨0, 1, 1, by omega, rfl, rfl, by rw [← HB.out]; exact pm_start w⟩
  case round =>
    obtain ⟨k, ln, col, hk, rfl, hp, hm⟩ := hrel
    have hr := plF_rng (s.data.toList.take k) (1, 1) (by decide) (by decide)
    rw [hp, List.length_take] at hr
    have hr1 : 0 ≤ ln ∧ ln ≤ 2000000000 ∧ 0 ≤ col ∧ col ≤ 2000000000 := by simp at hr; omega
    obtain ⟨b0, b1, b2, b3⟩ := hr1
    clear hr
    have HP := Lib.hid hp
    have HM := Lib.hid hm
    have a0 := hm.a0
    have a1 := hm.a1
    have f0 := hm.fr (B + 1) 0 (by omega) (by omega)
    have f1 := hm.fr (B + 1) 1 (by omega) (by omega)
    have hz : B + 1 < wr.heap.size := hm.sz
    clear hp hm
    by_cases hlt : k < n
    · have hlt' : (k : Int) < n := by omega
      have hltS : (k : Int) < s.size := by omega
      have hts : s.data.toList.take (k + 1) = s.data.toList.take k ++ [s[k]] := by
        rw [List.take_succ_eq_append_getElem (by rw [← Lib.size_eq]; omega)]; rfl
      by_cases h10 : s[k].toNat = 10
      · have d1 : ((s[k].toNat : Int) == 10) = true := beq_iff_eq.2 (by omega)
        have HP2 := Lib.hid (show plF (1, 1) (s.data.toList.take (k + 1)) = (ln + 1, 1) by
          rw [hts, plF_append, HP.out]
          show plStep (ln, col) s[k] = _
          unfold plStep; rw [if_pos (UInt8.toNat_inj.1 h10)])
        clear h10 hts
        go_wp2
        go_roundw
        case rel => exact ⟨k + 1, ln + 1, 1, by omega, by go_num, HP2.out, pm_two HM.out⟩
        case measure => simp [intOf]; omega
      · have d1 : ((s[k].toNat : Int) == 10) = false := beq_eq_false_iff_ne.2 (by omega)
        have HP2 := Lib.hid (show plF (1, 1) (s.data.toList.take (k + 1)) = (ln, col + 1) by
          rw [hts, plF_append, HP.out]
          show plStep (ln, col) s[k] = _
          unfold plStep; rw [if_neg (fun e => h10 (by rw [e]; rfl))])
        clear h10 hts
        go_wp2
        go_roundw
        case rel => exact ⟨k + 1, ln, col + 1, by omega, by go_num, HP2.out, pm_one HM.out⟩
        case measure => simp [intOf]; omega
    · have hlt' : ¬ (k : Int) < n := by omega
      have hke : k = n := by omega
      subst hke
      have r0 := HM.out.r0
      have r1 := HM.out.r1
      have e0 := HM.out.fr B 0 (by omega) (by omega)
      have e1 := HM.out.fr B 1 (by omega) (by omega)
      have hz2 : B < wr.heap.size := by omega
      obtain ⟨q0, q1⟩ := setPos (ln := ln) (col := col) r0 r1
      have Q0 := Lib.hid q0
      have Q1 := Lib.hid q1
      clear q0 q1
      go_wp2
      refine bodyPost_ret (by simp [results, Tryz.results54, go_sem, hz2, Q0.out, Q1.out]; try rfl) rfl ?_
      have hbw := HM.out.be
      refine ⟨by rw [HP.out], ?_⟩
      rw [HB.out]
      go_grown
end Go.Proofs.YtdhfldpfbejcjaaGreat.Lx
/-
  PLAIN LAWS: all the blanks at once, and the places that go with them.
-/
namespace Go.Proofs.YtdhfldpfbejcjaaGreat.Lx
open Go.RowKit Pl Ar Dg Pa
set_option linter.unusedVariables false
set_option linter.unusedSimpArgs false
theorem bl_rem (l : List UInt8) : bl true l = gapR true l + bl false (l.drop (gapR true l)) := by
  induction l with
  | nil => rfl
  | cons c r ih =>
    conv => lhs; unfold bl
    rw [if_pos rfl]
    by_cases h : c = 10
    · subst h
      rw [gapR_line, if_pos rfl]; rfl
    · rw [if_neg h, gapR_rem r h, List.drop_succ_cons, ih]; omega
theorem bl_plain (l : List UInt8) : bl false l = gapR false l + bl false (l.drop (gapR false l)) := by
  induction l with
  | nil => rfl
  | cons c r ih =>
    by_cases h : c = 10
    · subst h
      rw [gapR_line, bl_space (.inr rfl)]; rfl
    · by_cases h2 : c = 32
      · subst h2
        rw [gapR_blank, List.drop_succ_cons, bl_space (.inl rfl)]; omega
      · rw [gapR_stop r h h2, List.drop_zero]; omega
theorem rem_split {l : List UInt8} (h : isRem l = true) : ∃ r, l = 45 :: 45 :: r := by
  unfold isRem Lib.hasPrefix at h
  match l, h with
  | [], h => simp at h
  | [a], h => simp at h
  | a :: b :: r, h =>
    simp at h
    exact ⟨r, by rw [← h.1, ← h.2]⟩
theorem bl_gap (l : List UInt8) : bl false l = gapLen l + bl false (l.drop (gapLen l)) := by
  unfold gapLen
  cases h : isRem l
  · exact bl_plain l
  · obtain ⟨r, rfl⟩ := rem_split h
    have e : bl false (45 :: 45 :: r) = bl true (45 :: 45 :: r) := by
      conv => lhs; unfold bl
      conv => rhs; unfold bl
      rw [if_neg (by decide), if_neg (by decide), if_pos ⟨rfl, rfl⟩, if_pos rfl, if_neg (by decide)]
    rw [e]
    exact bl_rem _
theorem bl_zero {l : List UInt8} (h : gapLen l = 0) : bl false l = 0 := by
  cases l with
  | nil => rfl
  | cons c r =>
    have hr := gapR_stop0 h
    unfold gapLen at h
    rw [hr] at h
    by_cases h1 : c = 10
    · subst h1; rw [gapR_line] at h; omega
    · by_cases h2 : c = 32
      · subst h2; rw [gapR_blank] at h; omega
      · unfold bl
        rw [if_neg (by decide), if_neg (by rintro (h | h) <;> contradiction), if_neg]
        rintro ⟨rfl, h3⟩
        cases r with
        | nil => simp at h3
        | cons d r =>
          obtain rfl : d = 45 := by simpa using h3
          exact absurd hr (by unfold isRem Lib.hasPrefix; simp)
theorem gap_zero {l : List UInt8} (h : bl false l = 0) : gapLen l = 0 := by
  have := bl_gap l
  omega
/-- where the document's walk stands: behind all blanks -/
structure At2 (l : List UInt8) (k : Nat) (ln col : Int) (acc : List Tok) : Prop where
  le : k ≤ l.length
  at_ : At l k ln col acc
  pl : plF (1, 1) (l.take k) = (ln, col)
  no : gapLen (l.drop k) = 0
theorem at_skip (m : Nat) : ∀ {l : List UInt8} {k : Nat} {ln col : Int} {acc : List Tok}, l.length - k ≤ m → k ≤ l.length → At l k ln col acc → plF (1, 1) (l.take k) = (ln, col) →
    ∃ ln2 col2, At2 l (k + bl false (l.drop k)) ln2 col2 acc := by
  induction m with
  | zero =>
    intro l k ln col acc hm hle hat hp
    have hd : l.drop k = [] := List.drop_of_length_le (by omega)
    have hz : bl false (l.drop k) = 0 := by rw [hd]; rfl
    rw [hz]
    exact ⟨ln, col, hle, hat, hp, gap_zero hz⟩
  | succ m ih =>
    intro l k ln col acc hm hle hat hp
    by_cases hg : gapLen (l.drop k) = 0
    · rw [bl_zero hg]
      exact ⟨ln, col, hle, hat, hp, hg⟩
    · have hgl := gapLen_le (l.drop k)
      rw [List.length_drop] at hgl
      have hk : k < l.length := by omega
      have hat2 := at_gap hat (n := k + 1) (by omega) hk rfl (by omega) rfl rfl
      have hp2 : plF (1, 1) (l.take (k + gapLen (l.drop k))) = (behindL ((l.drop k).take (gapLen (l.drop k))) ln, behindC ((l.drop k).take (gapLen (l.drop k))) col) := by
        rw [List.take_add, plF_append, hp]
        exact gap_pl _ _ _ _
      have := ih (k := k + gapLen (l.drop k)) (by omega) (by omega) hat2 hp2
      rw [bl_gap (l.drop k), List.drop_drop]
      rw [← Nat.add_assoc]
      exact this
theorem at2_start {l : List UInt8} (h : l.length ≤ 8192) : ∃ ln col, At2 l (bl false l) ln col [] := by
  have := at_skip l.length (k := 0) (by omega) (by omega) (at_start h) rfl
  rw [List.drop_zero, Nat.zero_add] at this
  exact this
theorem at2_tok {l : List UInt8} {k n : Nat} {ln col : Int} {acc : List Tok} (h : At2 l k ln col acc) (hn : k < l.length) (he : fErr (l.drop k) = 0) (hf : ¬ acc.length = 2048) (hl : (fText (l.drop k)).length = n) :
    ∃ ln2 col2, At2 l (k + n + bl false (l.drop (k + n))) ln2 col2 (acc ++ [⟨fKind (l.drop k), fText (l.drop k), fNum (l.drop k), ln, col⟩]) := by
  have hat := at_tok h.at_ hn h.no he hf
  have hlen := (fText_len (l := l.drop k) (by rw [List.length_drop]; omega)).2
  rw [List.length_drop] at hlen
  rw [hl] at hat hlen
  refine at_skip l.length (by omega) (by omega) hat ?_
  rw [List.take_add, plF_append, h.pl, ← hl, ← text_take]
  exact text_pl (hcls_line h.no (drop_ne hn)) _ _
end Go.Proofs.YtdhfldpfbejcjaaGreat.Lx
/-
  CONTRACTS of the document's own layer lex: its tokens.
-/
namespace Go.Proofs.YtdhfldpfbejcjaaGreat.Lx
open Go.RowKit Pl Ar Dg Pa
set_option linter.unusedVariables false
set_option linter.unusedSimpArgs false
/-- the memory of the walk -/
structure FM (B : Nat) (w wr : World) : Prop where
  r0 : wr.cell? ⟨B, 0, none⟩ = some (.int .i64 0)
  r1 : wr.cell? ⟨B, 1, none⟩ = some (.int .i64 0)
  r2 : wr.cell? ⟨B, 2, none⟩ = some (.int .i64 0)
  fr : ∀ j, wr.frozen? ⟨B, j, none⟩ = false
  be : Below B w wr
  sz : B + 1 ≤ wr.heap.size
theorem FM.below {B : Nat} {w wr w2 : World} (h : FM B w wr) (hb : Below wr.heap.size wr w2) : FM B w w2 := by
  have hz : B < wr.heap.size := h.sz
  refine ⟨(hb.cell (p := ⟨B, 0, none⟩) hz).trans h.r0, (hb.cell (p := ⟨B, 1, none⟩) hz).trans h.r1, (hb.cell (p := ⟨B, 2, none⟩) hz).trans h.r2, fun j => (hb.frozen (p := ⟨B, j, none⟩) hz).trans (h.fr j), h.be.trans (hb.mono (by omega)), ?_⟩
  have := hb.size
  omega
theorem fm_start (w : World) : FM w.heap.size w (w.alloc (.cells #[.int .i64 0, .int .i64 0, .int .i64 0] 45)) := by
  constructor
  · simp [go_sem]
  · simp [go_sem]
  · simp [go_sem]
  · intro j; simp [go_sem]
  · exact (Below.refl _ w).alloc (Nat.le_refl _) _
  · simp
theorem len_is {s : ByteArray} {n : Nat} (h0 : 0 < s.size) (hs : s.size ≤ 1000000000) (h : lenOf s.data.toList = n) (w : World) : Calls Tryz.prog 53 #[.string s] w fun e w' => e = .returned (.int .i64 n) ∧ w = w' := by
  have g := length_any s h0 hs w
  unfold LenPost at g
  rw [h] at g
  exact g
theorem blank_is {s : ByteArray} {n : Nat} (hs : s.size ≤ 1000000000) (h : bl false s.data.toList = n) (w : World) : Calls Tryz.prog 52 #[.string s] w fun e w' => e = .returned (.int .i64 n) ∧ w = w' := by
  have g := blank_any s hs w
  rw [h] at g
  exact g
theorem place_is {s : ByteArray} {k : Nat} {ln col : Int} (hk : k ≤ s.size) (hs : s.size ≤ 1000000000) (h : plF (1, 1) (s.data.toList.take k) = (ln, col)) (w : World) : Calls Tryz.prog 54 #[.string s, .int .i64 k] w fun e w' => e = .returned (posV ln col) ∧ Below w.heap.size w w' := by
  have g := place_any s k hk hs w
  rw [h] at g
  exact g
theorem len_err {l : List UInt8} (h : lenOf l = 0) (h1 : ¬ hcls l = 1) : fErr l = 20 := by
  unfold lenOf at h
  unfold fErr
  by_cases hc : hcls l = 0 ∨ hcls l = 1 ∨ hcls l = 5
  · rw [if_pos (by omega)]
  · rw [if_neg hc] at h
    unfold endLen at h
    omega
theorem len_ok {l : List UInt8} {n : Nat} (h : lenOf l = n) (h0 : 0 < n) : ¬ hcls l = 0 ∧ ¬ hcls l = 1 ∧ ¬ hcls l = 5 ∧ n = endLen l (hcls l) := by
  unfold lenOf at h
  by_cases hc : hcls l = 0 ∨ hcls l = 1 ∨ hcls l = 5
  · rw [if_pos hc] at h; omega
  · rw [if_neg hc] at h
    exact ⟨by omega, by omega, by omega, h.symm⟩
theorem hcls_rng (l : List UInt8) : hcls l = 0 ∨ hcls l = 1 ∨ hcls l = 2 ∨ hcls l = 3 ∨ hcls l = 4 ∨ hcls l = 5 ∨ hcls l = 6 ∨ hcls l = 7 := by
  cases l with
  | nil => exact .inr (.inl rfl)
  | cons c r => exact cls_cases c.toNat
theorem fErr_rerr {l : List UInt8} (h0 : ¬ hcls l = 0) (h5 : ¬ hcls l = 5) : rerr (fText l) (hcls l) = fErr l := by
  unfold rerr fErr
  rw [if_neg (by omega : ¬ (hcls l = 0 ∨ hcls l = 5))]
theorem hcls_text {l : List UInt8} (h : l ≠ []) : hcls (fText l) = hcls l := by
  cases l with
  | nil => exact absurd rfl h
  | cons c r => unfold fText endLen; rw [Nat.add_comm, List.take_succ_cons]; rfl
theorem owns_base1 {w : World} {B : Nat} {v : Value} {acc : List Tok} (h : OwnsT w (B + 1) v acc) : OwnsT w B v acc := by
  refine ⟨h.1, ?_⟩
  rcases h.2 with h2 | ⟨g, cap, cur, hv, hg, r⟩
  · exact Or.inl h2
  · exact Or.inr ⟨g, cap, cur, hv, by omega, r⟩
theorem fm_grown {B : Nat} {w Y w4 : World} {a5 : Option Addr} {n5 c5 : Nat} {acc : List Tok} {o : Obj} (h : FM B w Y) (ho : OwnsT Y (B + 1) (.slice a5 n5 c5) acc)
    (hg : (Y.alloc o).grownBy w4 (Value.ownBlock (.slice a5 n5 c5))) : FM B w w4 := by
  have hz : B < Y.heap.size := h.sz
  have hne : some B ≠ Value.ownBlock (.slice a5 n5 c5) := fun e => by
    have := (ho.lt B e.symm).1
    omega
  have c : ∀ j v, Y.cell? ⟨B, j, none⟩ = some v → w4.cell? ⟨B, j, none⟩ = some v := fun j v hv => by
    refine hg.cell ?_ hne
    rw [World.cell?_alloc_past _ _ _ (by show B < _; omega)]
    exact hv
  have hs := hg.size
  refine ⟨c _ _ h.r0, c _ _ h.r1, c _ _ h.r2, fun j => ?_, ?_, ?_⟩
  · rw [World.frozen?_of_block (w := Y.alloc o) (hg.block B (by simp; omega) hne)]
    rw [World.frozen?_alloc_past _ _ _ (by show B < _; omega)]
    exact h.fr j
  · exact (h.be.alloc (by omega) _).grown hg (by simp; omega) (fun j hj => by have := (ho.lt j hj).1; omega)
  · simp at hs; omega
theorem owns_tok {B : Nat} {w4 : World} {ln col : Int} {v' : Value} {acc : List Tok} {l : List UInt8} {fk fn : Int} {ft : ByteArray}
    (ho : w4.ownsRow (B + 1) 54 6 v' (acc.length + 1) (toksCells acc ++ [.int .i64 fk, .string ft, .int .i64 fn, .int .i64 ln, .int .i64 col, .bool false])) (hk : fKind l = fk) (ht : (⟨(fText l).toArray⟩ : ByteArray) = ft) (hn : fNum l = fn) :
    OwnsT w4 (B + 1) v' (acc ++ [⟨fKind l, fText l, fNum l, ln, col⟩]) := by
  have e : toksCells (acc ++ [⟨fKind l, fText l, fNum l, ln, col⟩]) = toksCells acc ++ [.int .i64 fk, .string ft, .int .i64 fn, .int .i64 ln, .int .i64 col, .bool false] := by
    unfold toksCells
    rw [List.flatMap_append, ← hk, ← ht, ← hn]; rfl
  unfold OwnsT
  rw [e, List.length_append]
  exact ho
theorem news1 (Y : World) (v0 v1 v2 v3 v4 v5 : Value) (b : Nat) (hb : Y.heap.size = b) : ∀ (j : Nat) u, [v0, v1, v2, v3, v4, v5][j]? = some u → (Y.alloc (.cells #[v0, v1, v2, v3, v4, v5] 54)).cell? ((⟨b, 0, none⟩ : Addr).add j) = some u := by
  subst hb
  intro j u hj
  have e : ((⟨Y.heap.size, 0, none⟩ : Addr).add j) = ⟨Y.heap.size, j, none⟩ := by
    simp [Addr.add]
    try (intro e; exact e.symm)
  rw [e, World.cell?_alloc_at _ _ _ _ rfl]
  simpa using hj
theorem kind_same {l : List UInt8} : fKind l = rk (fText l) (hcls l) := rfl
theorem rtokens_long (s : ByteArray) (hs : s.size ≤ 9223372036854775807) (h : 8192 < s.size) (w : World) : Calls Tryz.prog 23 #[.string s] w (TokensPost s.data.toList w) := by
  have HF := Lib.hid (show lexed s.data.toList = ⟨[], 2, 1, 1⟩ by unfold lexed; rw [if_pos (by rw [← Lib.size_eq]; exact h)])
  have h' : ¬ (s.size : Int) ≤ 8192 := by omega
  have h'' : (8192 : Int) < s.size := by omega
  go_enter Tryz.func23, Tryz.ntmps23
  go_wp2
  go_returns
  exact tokensPost HF.out (toksNil _ _) (by go_grown)
set_option maxRecDepth 100000 in
set_option maxHeartbeats 4000000 in
theorem rtokens_fine (s : ByteArray) (h : s.size ≤ 8192) (w : World) : Calls Tryz.prog 23 #[.string s] w (TokensPost s.data.toList w) := by
  obtain ⟨B, hB⟩ : ∃ B, w.heap.size = B := ⟨_, rfl⟩
  obtain ⟨i0, hi, hz0, hz1, hz2'⟩ := info_parts Ttok
  obtain ⟨b0, hb0⟩ : ∃ n, bl false s.data.toList = n := ⟨_, rfl⟩
  obtain ⟨ln0, col0, hat0⟩ := at2_start (l := s.data.toList) (by rw [← Lib.size_eq]; exact h)
  rw [hb0] at hat0
  have HB0 := Lib.hid hb0
  have HA0 := Lib.hid hat0
  have hb0s : b0 ≤ s.size := by have := hat0.le; rw [← Lib.size_eq] at this; exact this
  clear hb0 hat0
  go_enter Tryz.func23, Tryz.ntmps23
  go_wp2_with fail
  refine (blank_is (by omega) HB0.out _).mono ?_
  rintro e w' ⟨rfl, rfl⟩
  go_wp2_with fail
  have HB := Lib.hid hB
  clear hB
  go_loopg [4, 5] (s.size - b0) (fun j v i wr => ∃ (k : Nat) (ln col : Int) (acc : List Tok), j + k = s.size ∧ i = .int .i64 k ∧ At2 s.data.toList k ln col acc ∧ FM B w wr ∧ OwnsT wr (B + 1) v acc)
  case atStart => exact ⟨b0, ln0, col0, [], by omega, rfl, HA0.out, by rw [← HB.out]; exact fm_start w, toksNil _ _⟩
  case round =>
    clear hb0s
    obtain ⟨k, ln, col, acc, hk, rfl, hat, hmem, hown⟩ := hrel
    have HK := Lib.hid hk
    have HAt := Lib.hid hat
    have HMem := Lib.hid hmem
    have HOwn := Lib.hid hown
    have hle : k ≤ s.size := by omega
    clear hk hat hmem hown
    by_cases hlt : k < s.size
    · obtain ⟨D, hD⟩ : ∃ D, s.extract k s.size = D := ⟨_, rfl⟩
      have hd : D.data.toList = s.data.toList.drop k := by rw [← hD, Lib.extract_to_end]
      have hds : D.size = s.size - k := by rw [← hD]; simp
      have hltl : k < s.data.toList.length := by rw [← Lib.size_eq]; exact hlt
      have hg0 := HAt.out.no
      rw [← hd] at hg0
      have hD0 : 0 < D.size := by omega
      have hnc := hcls_no (l := D.data.toList) (by rw [← Lib.size_eq]; exact hD0) hg0
      obtain ⟨n, hn⟩ : ∃ n, lenOf D.data.toList = n := ⟨_, rfl⟩
      have HD := Lib.hid hD
      have Hd := Lib.hid hd
      have HN := Lib.hid hn
      have hdl : D.size ≤ 8192 := by omega
      have HDS := Lib.hid hds
      have HNC := Lib.hid hnc
      clear hD hd hn hds hg0 hnc
      have r0 := HMem.out.r0
      have r1 := HMem.out.r1
      have r2 := HMem.out.r2
      have hpl := HAt.out.pl
      have HPL := Lib.hid hpl
      clear hpl
      go_wp2_with fail
      rw [HD.out]
      refine (len_is hD0 (by omega) HN.out _).mono ?_
      rintro e w' ⟨rfl, rfl⟩
      by_cases hn0 : n = 0
      · have HF := Lib.hid (at_err (f := 20) HAt.out.at_ hltl HAt.out.no (by rw [← Hd.out]; exact len_err (by rw [HN.out]; exact hn0) HNC.out) (by decide))
        have hn0' : ((n : Int) == 0) = true := beq_iff_eq.2 (by omega)
        clear hn0 r0 r1 r2
        go_wp2_with fail
        refine (place_is hle (by omega) HPL.out _).mono ?_
        rintro e w2 ⟨rfl, hb2⟩
        have hM := HMem.out.below hb2
        have hzB : B < w2.heap.size := hM.sz
        have e0 := hM.fr 0
        have e1 := hM.fr 1
        have e2 := hM.fr 2
        have z0 := hM.r0
        have z1 := hM.r1
        have z2 := hM.r2
        obtain ⟨q0, q1, q2⟩ := setFault z0 z1 z2
        have Q0 := Lib.hid q0
        have Q1 := Lib.hid q1
        have Q2 := Lib.hid q2
        have HBW := Lib.hid hM.be
        clear q0 q1 q2 hM hb2
        go_wp2_with fail
        try go_region
        go_wp2
        (try rw [Exit.noGoto_ret])
        refine bodyPost_ret (by simp [results, Tryz.results23, go_sem, hzB, Q0.out, Q1.out, Q2.out]; try rfl) rfl ?_
        have hbw := HBW.out
        refine tokensPost HF.out (toksNil _ _) ?_
        rw [HB.out]
        go_grown
      · have hn0' : ((n : Int) == 0) = false := beq_eq_false_iff_ne.2 (by omega)
        obtain ⟨c, hc⟩ : ∃ c, hcls D.data.toList = c := ⟨_, rfl⟩
        obtain ⟨c0, c1, c5, hen⟩ := len_ok HN.out (by omega)
        have hfl := (endLen_le (hcls D.data.toList) (l := D.data.toList) (by rw [← Lib.size_eq]; exact hD0)).1
        rw [← hen, ← Lib.size_eq] at hfl
        have hc7 := hcls_rng D.data.toList
        obtain ⟨S, hS⟩ : ∃ S, s.extract k (k + n) = S := ⟨_, rfl⟩
        have hSd : S.data.toList = fText D.data.toList := by
          rw [← hS, Lib.extract_data, show k + n - k = n by omega, Hd.out.symm]
          unfold fText
          rw [← hen]
        have hkn : k + n ≤ s.size := by have := HDS.out; omega
        have hSs : S.size = n := by rw [← hS]; simp; omega
        have hS0 : 0 < S.size := by omega
        have hfe := fErr_rerr c0 c5
        rw [← hSd] at hfe
        have hcS : cls S[0].toNat = c := by
          rw [← hcls_get hS0, hSd, hcls_text (fun e => by have h0 := hD0; rw [Lib.size_eq, e] at h0; exact absurd h0 (by decide))]; exact hc
        rw [hc] at c0 c1 c5 hc7 hfe
        have hc' : c = 2 ∨ c = 3 ∨ c = 4 ∨ c = 6 ∨ c = 7 := by omega
        obtain ⟨f, hf⟩ : ∃ f, fErr D.data.toList = f := ⟨_, rfl⟩
        rw [hf] at hfe
        have HS := Lib.hid hS
        have HSd := Lib.hid hSd
        have HSs := Lib.hid hSs
        have HFE := Lib.hid hfe
        have HCS := Lib.hid hcS
        have HC' := Lib.hid hc'
        have HC := Lib.hid hc
        have HFf := Lib.hid hf
        have hSl : S.size ≤ 1000000000 := by omega
        clear hS hSd hSs hfe hcS hc' hc hf hen c0 c1 c5 hc7
        obtain ⟨a5, cp5, rfl⟩ := owns_form HOwn.out
        have hacc := HAt.out.at_.len
        clear r0 r1 r2
        have wqa : IntKind.i64.wrap ((k : Int) + (n : Int)) = (k : Int) + (n : Int) := IntWalk.i64_in _ (by omega)
        have wqb : (0 : Int) ≤ (k : Int) + (n : Int) := by omega
        have wqc : ((k : Int) + (n : Int)).toNat = k + n := by omega
        have wqd : (k : Int) ≤ (k : Int) + (n : Int) := by omega
        have wqe : (k : Int) + (n : Int) ≤ (s.size : Int) := by omega
        have wqf : k ≤ k + n := by omega
        go_wp2_with fail
        rw [HS.out]
        refine (fault_any S hS0 hSl HC'.out HCS.out HFE.out _).mono ?_
        rintro e w1 ⟨rfl, hb1⟩
        have hM1 := HMem.out.below hb1
        have HM1 := Lib.hid hM1
        have HO1 := Lib.hid (owns_below HOwn.out hb1)
        clear hM1 hb1
        by_cases hf0 : f = 0
        · subst hf0
          by_cases hfull : acc.length = 2048
          · have hfl : ((acc.length : Int) == 2048) = true := beq_iff_eq.2 (by omega)
            have HF := Lib.hid (at_full HAt.out.at_ hltl HAt.out.no (by rw [← Hd.out]; exact HFf.out) hfull)
            clear hfull
            go_wp2_with fail
            refine (place_is hle (by omega) HPL.out _).mono ?_
            rintro e w2 ⟨rfl, hb2⟩
            have hM := HM1.out.below hb2
            have hzB : B < w2.heap.size := hM.sz
            have e0 := hM.fr 0
            have e1 := hM.fr 1
            have e2 := hM.fr 2
            have z0 := hM.r0
            have z1 := hM.r1
            have z2 := hM.r2
            obtain ⟨q0, q1, q2⟩ := setFault z0 z1 z2
            have Q0 := Lib.hid q0
            have Q1 := Lib.hid q1
            have Q2 := Lib.hid q2
            have HBW := Lib.hid hM.be
            clear q0 q1 q2 hM hb2
            go_wp2_with fail
            try go_region
            go_wp2
            (try rw [Exit.noGoto_ret])
            refine bodyPost_ret (by simp [results, Tryz.results23, go_sem, hzB, Q0.out, Q1.out, Q2.out]; try rfl) rfl ?_
            have hbw := HBW.out
            refine tokensPost HF.out (toksNil _ _) ?_
            rw [HB.out]
            go_grown
          · have hfl : ((acc.length : Int) == 2048) = false := beq_eq_false_iff_ne.2 (by omega)
            obtain ⟨fk, hfk⟩ : ∃ x, rk S.data.toList c = x := ⟨_, rfl⟩
            have HRK := Lib.hid hfk
            have HFU := Lib.hid hfull
            clear hfk hfull
            go_wp2_with fail
            refine (rkind_is hS0 hSl HC'.out HCS.out HRK.out _).mono ?_
            rintro e w2 ⟨rfl, hb2⟩
            have HM2 := Lib.hid (HM1.out.below hb2)
            have HO2 := Lib.hid (owns_below HO1.out hb2)
            clear hb2
            go_wp2_with fail
            refine (place_is hle (by omega) HPL.out _).mono ?_
            rintro e w3 ⟨rfl, hb3⟩
            have HM3 := Lib.hid (HM2.out.below hb3)
            have HO3 := Lib.hid (owns_below HO2.out hb3)
            clear hb3
            have hzB3 : B + 1 ≤ w3.heap.size := HM3.out.sz
            have HKD := Lib.hid (show fKind D.data.toList = fk by rw [kind_same, ← HSd.out, HC.out]; exact HRK.out)
            have HTD := Lib.hid (show (⟨(fText D.data.toList).toArray⟩ : ByteArray) = S from (is_text HSd.out).symm)
            by_cases hk4 : fk = 4
            · have d4 : (fk == 4) = true := beq_iff_eq.2 hk4
              have hc4 : c = 4 := by
                apply Classical.byContradiction
                intro h4
                exact rk_int h4 (HRK.out.trans hk4)
              obtain ⟨⟨nr, ne⟩, hnr⟩ : ∃ p, wholeOf S.data.toList = p := ⟨_, rfl⟩
              have HNR := Lib.hid hnr
              have HND := Lib.hid (show fNum D.data.toList = nr by unfold fNum; rw [HC.out, if_pos hc4, ← HSd.out, hnr])
              clear hk4 hc4 hnr
              go_wp2_with fail
              refine (number_any S (by omega) _).mono ?_
              rw [HNR.out]
              rintro e w4 ⟨rfl, m4, hw4⟩
              have hb4 : Below (w3.alloc (.cells #[.int .i64 fk, .string S, .int .i64 0, .int .i64 ln, .int .i64 col, .bool false] 54)).heap.size (w3.alloc (.cells #[.int .i64 fk, .string S, .int .i64 0, .int .i64 ln, .int .i64 col, .bool false] 54)) w4 := by rw [hw4]; exact belowN (Below.refl _ _) _
              have hz4 : w3.heap.size < w4.heap.size := by have := hb4.size; simp at this; omega
              have cz : ∀ j, w4.cell? ⟨w3.heap.size, j, none⟩ = #[Value.int .i64 fk, .string S, .int .i64 0, .int .i64 ln, .int .i64 col, .bool false][j]? := fun j => by
                rw [hb4.cell (p := ⟨w3.heap.size, j, none⟩) (by show w3.heap.size < _; simp), World.cell?_alloc_at _ _ _ _ rfl]
              have fz : w4.frozen? ⟨w3.heap.size, 2, none⟩ = false := by
                rw [hb4.frozen (p := ⟨w3.heap.size, 2, none⟩) (by show w3.heap.size < _; simp), World.frozen?_alloc_at _ _ _ _ rfl]
              have k2 : w4.cell? ⟨w3.heap.size, 2, none⟩ = some (.int .i64 0) := cz 2
              have y0 : (w4.setCell ⟨w3.heap.size, 2, none⟩ (.int .i64 nr)).cell? ⟨w3.heap.size, 0, none⟩ = some (.int .i64 fk) := by rw [World.cell?_setCell_other _ _ _ _ (by simp)]; exact cz 0
              have y1 : (w4.setCell ⟨w3.heap.size, 2, none⟩ (.int .i64 nr)).cell? ⟨w3.heap.size, 1, none⟩ = some (.string S) := by rw [World.cell?_setCell_other _ _ _ _ (by simp)]; exact cz 1
              have y2 : (w4.setCell ⟨w3.heap.size, 2, none⟩ (.int .i64 nr)).cell? ⟨w3.heap.size, 2, none⟩ = some (.int .i64 nr) := set_same k2
              have y3 : (w4.setCell ⟨w3.heap.size, 2, none⟩ (.int .i64 nr)).cell? ⟨w3.heap.size, 3, none⟩ = some (.int .i64 ln) := by rw [World.cell?_setCell_other _ _ _ _ (by simp)]; exact cz 3
              have y4 : (w4.setCell ⟨w3.heap.size, 2, none⟩ (.int .i64 nr)).cell? ⟨w3.heap.size, 4, none⟩ = some (.int .i64 col) := by rw [World.cell?_setCell_other _ _ _ _ (by simp)]; exact cz 4
              have y5 : (w4.setCell ⟨w3.heap.size, 2, none⟩ (.int .i64 nr)).cell? ⟨w3.heap.size, 5, none⟩ = some (.bool false) := by rw [World.cell?_setCell_other _ _ _ _ (by simp)]; exact cz 5
              have hbY : Below w3.heap.size w3 (w4.setCell ⟨w3.heap.size, 2, none⟩ (.int .i64 nr)) := (((Below.refl w3.heap.size w3).alloc (Nat.le_refl _) (.cells #[.int .i64 fk, .string S, .int .i64 0, .int .i64 ln, .int .i64 col, .bool false] 54)).trans (hb4.mono (by simp))).setCell (Nat.le_refl _) _
              have HMY := Lib.hid (HM3.out.below hbY)
              have HOY := Lib.hid (owns_below HO3.out hbY)
              clear hw4 hb4 cz hbY
              go_wp2_with (at_builtin; refine wpList_append_own _ rfl _ _ 69 rfl (B + 1) 54 i0 _ 6 56 Tryz.underlying69 hi hz0 hz1 hz2' rfl (by decide) _ _ _ rfl (HOY.out.alloc _) ⟨w4.heap.size, 0, none⟩ 1 1 [.int .i64 fk, .string S, .int .i64 nr, .int .i64 ln, .int .i64 col, .bool false] rfl rfl ?c1 ?c2 ?c3 ?c4 ?c5 ?_)
              case c1 => exact news1 _ _ _ _ _ _ _ _ (by simp)
              case c2 =>
                intro u hu
                simp only [List.mem_cons, List.not_mem_nil, or_false] at hu
                rcases hu with rfl | rfl | rfl | rfl | rfl | rfl <;> rfl
              case c3 => unfold maxLen; omega
              case c4 => omega
              case c5 => simp; omega
              intro v' w5 hown' hgrow _
              have HM5 := Lib.hid (fm_grown HMY.out HOY.out hgrow)
              have HO5 := Lib.hid (owns_tok (l := D.data.toList) hown' HKD.out HTD.out HND.out)
              clear hown' hgrow
              obtain ⟨E, hE⟩ : ∃ E, s.extract (k + n) s.size = E := ⟨_, rfl⟩
              have hEd : E.data.toList = s.data.toList.drop (k + n) := by rw [← hE, Lib.extract_to_end]
              obtain ⟨m, hm⟩ : ∃ m, bl false E.data.toList = m := ⟨_, rfl⟩
              have hml := bl_le false E.data.toList
              rw [hm, hEd, List.length_drop, ← Lib.size_eq] at hml
              have hEs : E.size = s.size - (k + n) := by rw [← hE]; simp
              obtain ⟨ln2, col2, hat2⟩ := at2_tok HAt.out hltl (by rw [← Hd.out]; exact HFf.out) HFU.out (n := n) (by rw [← Hd.out, ← HSd.out, ← Lib.size_eq]; exact HSs.out)
              rw [← hEd, hm, ← Hd.out] at hat2
              have HAT2 := Lib.hid hat2
              have HE := Lib.hid hE
              have HM := Lib.hid hm
              clear hE hEd hm hat2
              go_wp2_with fail
              rw [HE.out]
              refine (blank_is (by omega) HM.out _).mono ?_
              rintro e w' ⟨rfl, rfl⟩
              go_wp2
              go_roundg (s.size - (k + n + m))
              case measure => have := HK.out; omega
              case rel => exact ⟨k + n + m, ln2, col2, _, by omega, by go_num, HAT2.out, HM5.out, HO5.out⟩
            · have d4 : (fk == 4) = false := beq_eq_false_iff_ne.2 hk4
              have hc4 : ¬ c = 4 := by
                intro h4
                rw [h4] at HRK
                exact hk4 (HRK.out.symm.trans rfl)
              have HND := Lib.hid (show fNum D.data.toList = 0 by unfold fNum; rw [HC.out, if_neg hc4])
              have hbY : Below w3.heap.size w3 (w3.alloc (.cells #[.int .i64 fk, .string S, .int .i64 0, .int .i64 ln, .int .i64 col, .bool false] 54)) := (Below.refl w3.heap.size w3).alloc (Nat.le_refl _) (.cells #[.int .i64 fk, .string S, .int .i64 0, .int .i64 ln, .int .i64 col, .bool false] 54)
              have HMY := Lib.hid (HM3.out.below hbY)
              have HOY := Lib.hid (owns_below HO3.out hbY)
              clear hk4 hc4 hbY
              go_wp2_with (at_builtin; refine wpList_append_own _ rfl _ _ 69 rfl (B + 1) 54 i0 _ 6 56 Tryz.underlying69 hi hz0 hz1 hz2' rfl (by decide) _ _ _ rfl (HOY.out.alloc _) ⟨w3.heap.size + 1, 0, none⟩ 1 1 [.int .i64 fk, .string S, .int .i64 0, .int .i64 ln, .int .i64 col, .bool false] rfl rfl ?c1 ?c2 ?c3 ?c4 ?c5 ?_)
              case c1 => exact news1 _ _ _ _ _ _ _ _ (by simp)
              case c2 =>
                intro u hu
                simp only [List.mem_cons, List.not_mem_nil, or_false] at hu
                rcases hu with rfl | rfl | rfl | rfl | rfl | rfl <;> rfl
              case c3 => unfold maxLen; omega
              case c4 => omega
              case c5 => simp; omega
              intro v' w5 hown' hgrow _
              have HM5 := Lib.hid (fm_grown HMY.out HOY.out hgrow)
              have HO5 := Lib.hid (owns_tok (l := D.data.toList) hown' HKD.out HTD.out HND.out)
              clear hown' hgrow
              obtain ⟨E, hE⟩ : ∃ E, s.extract (k + n) s.size = E := ⟨_, rfl⟩
              have hEd : E.data.toList = s.data.toList.drop (k + n) := by rw [← hE, Lib.extract_to_end]
              obtain ⟨m, hm⟩ : ∃ m, bl false E.data.toList = m := ⟨_, rfl⟩
              have hml := bl_le false E.data.toList
              rw [hm, hEd, List.length_drop, ← Lib.size_eq] at hml
              have hEs : E.size = s.size - (k + n) := by rw [← hE]; simp
              obtain ⟨ln2, col2, hat2⟩ := at2_tok HAt.out hltl (by rw [← Hd.out]; exact HFf.out) HFU.out (n := n) (by rw [← Hd.out, ← HSd.out, ← Lib.size_eq]; exact HSs.out)
              rw [← hEd, hm, ← Hd.out] at hat2
              have HAT2 := Lib.hid hat2
              have HE := Lib.hid hE
              have HM := Lib.hid hm
              clear hE hEd hm hat2
              go_wp2_with fail
              rw [HE.out]
              refine (blank_is (by omega) HM.out _).mono ?_
              rintro e w' ⟨rfl, rfl⟩
              go_wp2
              go_roundg (s.size - (k + n + m))
              case measure => have := HK.out; omega
              case rel => exact ⟨k + n + m, ln2, col2, _, by omega, by go_num, HAT2.out, HM5.out, HO5.out⟩
        · have hf0' : (f == 0) = false := beq_eq_false_iff_ne.2 hf0
          have HF := Lib.hid (at_err (f := f) HAt.out.at_ hltl HAt.out.no (by rw [← Hd.out]; exact HFf.out) hf0)
          clear hf0
          go_wp2_with fail
          refine (place_is hle (by omega) HPL.out _).mono ?_
          rintro e w2 ⟨rfl, hb2⟩
          have hM := HM1.out.below hb2
          have hzB : B < w2.heap.size := hM.sz
          have e0 := hM.fr 0
          have e1 := hM.fr 1
          have e2 := hM.fr 2
          have z0 := hM.r0
          have z1 := hM.r1
          have z2 := hM.r2
          obtain ⟨q0, q1, q2⟩ := setFault z0 z1 z2
          have Q0 := Lib.hid q0
          have Q1 := Lib.hid q1
          have Q2 := Lib.hid q2
          have HBW := Lib.hid hM.be
          clear q0 q1 q2 hM hb2
          go_wp2_with fail
          try go_region
          go_wp2
          (try rw [Exit.noGoto_ret])
          refine bodyPost_ret (by simp [results, Tryz.results23, go_sem, hzB, Q0.out, Q1.out, Q2.out]; try rfl) rfl ?_
          have hbw := HBW.out
          refine tokensPost HF.out (toksNil _ _) ?_
          rw [HB.out]
          go_grown
    · have hke : k = s.size := by omega
      have HF := Lib.hid (at_end HAt.out.at_ (by rw [← Lib.size_eq]; omega))
      have z0 := HMem.out.r0
      have z1 := HMem.out.r1
      have z2 := HMem.out.r2
      have e0 := HMem.out.fr 0
      have e1 := HMem.out.fr 1
      have e2 := HMem.out.fr 2
      have hzB : B < wr.heap.size := HMem.out.sz
      obtain ⟨q0, q1, q2⟩ := setFault z0 z1 z2
      have Q0 := Lib.hid q0
      have Q1 := Lib.hid q1
      have Q2 := Lib.hid q2
      clear q0 q1 q2
      go_wp2
      (try rw [Exit.noGoto_ret])
      refine bodyPost_ret (by simp [results, Tryz.results23, go_sem, hzB, Q0.out, Q1.out, Q2.out]; try rfl) rfl ?_
      have hbw := HMem.out.be
      refine tokensPost HF.out ?_ ?_
      · rw [HB.out]
        exact owns_base1 (ownsRow_setCell_below (ownsRow_setCell_below (ownsRow_setCell_below HOwn.out (by show B < B + 1; omega) _) (by show B < B + 1; omega) _) (by show B < B + 1; omega) _)
      · rw [HB.out]
        go_grown
/-- the document's Tokens, WHATEVER THE SOURCE. -/
theorem rtokens_any (s : ByteArray) (hs : s.size ≤ 9223372036854775807) (w : World) : Calls Tryz.prog 23 #[.string s] w (TokensPost s.data.toList w) := by
  by_cases h : 8192 < s.size
  · exact rtokens_long s hs h w
  · exact rtokens_fine s (by omega) w
end Go.Proofs.YtdhfldpfbejcjaaGreat.Lx
