/-
  CONTRACTS of layer lex: classes of bytes, keywords, kinds.
-/
import Derived.Test.YtidmclaaggoahaaParse
import Derived.Outline
namespace Go.Proofs.Ytidmclaaggoahaa.Lx
open Go.RowKit Pl Ar Dg Pa
set_option linter.unusedVariables false

/-- a byte's class -/
def cls (c : Nat) : Int :=
  if c = 32 ∨ c = 10 then 1 else if c = 95 then 2 else if c = 39 then 5
  else if c = 40 ∨ c = 41 ∨ c = 123 ∨ c = 125 ∨ c = 59 ∨ c = 92 then 6
  else if c = 33 ∨ c = 35 ∨ c = 36 ∨ c = 37 ∨ c = 38 ∨ c = 42 ∨ c = 43 ∨ c = 46 ∨ c = 47 ∨ c = 58 ∨ c = 60 ∨ c = 61 ∨ c = 62 ∨ c = 63 ∨ c = 64 ∨ c = 94 ∨ c = 124 ∨ c = 126 ∨ c = 45 then 7
  else if 97 ≤ c ∧ c ≤ 122 then 2 else if 65 ≤ c ∧ c ≤ 90 then 3 else if 48 ≤ c ∧ c ≤ 57 then 4 else 0
/-- What a call of class ends with. -/
def ClsPost (c : Nat) (w : World) (e : Ending) (w' : World) : Prop := e = .returned (.int .i64 (cls c)) ∧ w = w'
theorem clsPost {c : Nat} {n : Int} {w : World} (h : cls c = n) : ClsPost c w (.returned (.int .i64 n)) w := by unfold ClsPost; rw [h]; exact ⟨rfl, rfl⟩
set_option maxHeartbeats 4000000 in
theorem class_any (c : Nat) (h : c < 256) (w : World) : Calls Try.prog 32 #[.int .u8 c] w (ClsPost c w) := by
  go_enter Try.func32, Try.ntmps32
  go_wp2
  all_goals
    go_ret
    refine clsPost ?_
    simp only [beq_iff_eq, beq_eq_false_iff_ne, ne_eq] at *
    unfold cls
    (repeat' split) <;> omega

def words : List (List UInt8) := [[100, 97, 116, 97], [105, 110, 102, 105, 120, 108], [105, 110, 102, 105, 120, 114], [105, 110, 102, 105, 120], [108, 101, 116], [105, 110], [99, 97, 115, 101], [111, 102], [105, 102], [116, 104, 101, 110], [101, 108, 115, 101]]
def isWord (l : List UInt8) : Bool := words.contains l
def WordPost (l : List UInt8) (w : World) (e : Ending) (w' : World) : Prop := e = .returned (.bool (isWord l)) ∧ w = w'
theorem word_1 (w : World) : Calls Try.prog 56 #[.string ⟨#[100, 97, 116, 97]⟩] w (WordPost [100, 97, 116, 97] w) := by
  go_enter Try.func56, Try.ntmps56
  go_wp2
  go_ret
  exact ⟨rfl, rfl⟩
theorem word_2 (w : World) : Calls Try.prog 56 #[.string ⟨#[105, 110, 102, 105, 120, 108]⟩] w (WordPost [105, 110, 102, 105, 120, 108] w) := by
  go_enter Try.func56, Try.ntmps56
  go_wp2
  go_ret
  exact ⟨rfl, rfl⟩
theorem word_3 (w : World) : Calls Try.prog 56 #[.string ⟨#[105, 110, 102, 105, 120, 114]⟩] w (WordPost [105, 110, 102, 105, 120, 114] w) := by
  go_enter Try.func56, Try.ntmps56
  go_wp2
  go_ret
  exact ⟨rfl, rfl⟩
theorem word_4 (w : World) : Calls Try.prog 56 #[.string ⟨#[105, 110, 102, 105, 120]⟩] w (WordPost [105, 110, 102, 105, 120] w) := by
  go_enter Try.func56, Try.ntmps56
  go_wp2
  go_ret
  exact ⟨rfl, rfl⟩
theorem word_5 (w : World) : Calls Try.prog 56 #[.string ⟨#[108, 101, 116]⟩] w (WordPost [108, 101, 116] w) := by
  go_enter Try.func56, Try.ntmps56
  go_wp2
  go_ret
  exact ⟨rfl, rfl⟩
theorem word_6 (w : World) : Calls Try.prog 56 #[.string ⟨#[105, 110]⟩] w (WordPost [105, 110] w) := by
  go_enter Try.func56, Try.ntmps56
  go_wp2
  go_ret
  exact ⟨rfl, rfl⟩
theorem word_7 (w : World) : Calls Try.prog 56 #[.string ⟨#[99, 97, 115, 101]⟩] w (WordPost [99, 97, 115, 101] w) := by
  go_enter Try.func56, Try.ntmps56
  go_wp2
  go_ret
  exact ⟨rfl, rfl⟩
theorem word_8 (w : World) : Calls Try.prog 56 #[.string ⟨#[111, 102]⟩] w (WordPost [111, 102] w) := by
  go_enter Try.func56, Try.ntmps56
  go_wp2
  go_ret
  exact ⟨rfl, rfl⟩
theorem word_9 (w : World) : Calls Try.prog 56 #[.string ⟨#[105, 102]⟩] w (WordPost [105, 102] w) := by
  go_enter Try.func56, Try.ntmps56
  go_wp2
  go_ret
  exact ⟨rfl, rfl⟩
theorem word_10 (w : World) : Calls Try.prog 56 #[.string ⟨#[116, 104, 101, 110]⟩] w (WordPost [116, 104, 101, 110] w) := by
  go_enter Try.func56, Try.ntmps56
  go_wp2
  go_ret
  exact ⟨rfl, rfl⟩
theorem word_11 (w : World) : Calls Try.prog 56 #[.string ⟨#[101, 108, 115, 101]⟩] w (WordPost [101, 108, 115, 101] w) := by
  go_enter Try.func56, Try.ntmps56
  go_wp2
  go_ret
  exact ⟨rfl, rfl⟩
theorem isWord_no {l : List UInt8} (h : ∀ t, t ∈ words → ¬ l = t) : isWord l = false := by
  unfold isWord
  cases hc : words.contains l with
  | false => rfl
  | true => exact absurd rfl (h l (List.contains_iff_mem.1 hc))
theorem word_none (s : ByteArray) (h : ∀ t, t ∈ words → ¬ s.data.toList = t) (w : World) : Calls Try.prog 56 #[.string s] w (WordPost s.data.toList w) := by
  have n1 : (s.toList == [100, 97, 116, 97]) = false := by rw [Lib.toList_data]; exact beq_eq_false_iff_ne.2 (h [100, 97, 116, 97] (by decide))
  have n2 : (s.toList == [105, 110, 102, 105, 120, 108]) = false := by rw [Lib.toList_data]; exact beq_eq_false_iff_ne.2 (h [105, 110, 102, 105, 120, 108] (by decide))
  have n3 : (s.toList == [105, 110, 102, 105, 120, 114]) = false := by rw [Lib.toList_data]; exact beq_eq_false_iff_ne.2 (h [105, 110, 102, 105, 120, 114] (by decide))
  have n4 : (s.toList == [105, 110, 102, 105, 120]) = false := by rw [Lib.toList_data]; exact beq_eq_false_iff_ne.2 (h [105, 110, 102, 105, 120] (by decide))
  have n5 : (s.toList == [108, 101, 116]) = false := by rw [Lib.toList_data]; exact beq_eq_false_iff_ne.2 (h [108, 101, 116] (by decide))
  have n6 : (s.toList == [105, 110]) = false := by rw [Lib.toList_data]; exact beq_eq_false_iff_ne.2 (h [105, 110] (by decide))
  have n7 : (s.toList == [99, 97, 115, 101]) = false := by rw [Lib.toList_data]; exact beq_eq_false_iff_ne.2 (h [99, 97, 115, 101] (by decide))
  have n8 : (s.toList == [111, 102]) = false := by rw [Lib.toList_data]; exact beq_eq_false_iff_ne.2 (h [111, 102] (by decide))
  have n9 : (s.toList == [105, 102]) = false := by rw [Lib.toList_data]; exact beq_eq_false_iff_ne.2 (h [105, 102] (by decide))
  have n10 : (s.toList == [116, 104, 101, 110]) = false := by rw [Lib.toList_data]; exact beq_eq_false_iff_ne.2 (h [116, 104, 101, 110] (by decide))
  have n11 : (s.toList == [101, 108, 115, 101]) = false := by rw [Lib.toList_data]; exact beq_eq_false_iff_ne.2 (h [101, 108, 115, 101] (by decide))
  have HF := Lib.hid (isWord_no h)
  clear h
  go_enter Try.func56, Try.ntmps56
  go_wp2
  go_ret
  exact ⟨by rw [HF.out]; rfl, rfl⟩
theorem is_text {s : ByteArray} {t : List UInt8} (h : s.data.toList = t) : s = ⟨t.toArray⟩ := by rw [← h]
theorem word_any (s : ByteArray) (w : World) : Calls Try.prog 56 #[.string s] w (WordPost s.data.toList w) := by
  by_cases h1 : s.data.toList = [100, 97, 116, 97]
  · obtain rfl := is_text h1; exact word_1 w
  by_cases h2 : s.data.toList = [105, 110, 102, 105, 120, 108]
  · obtain rfl := is_text h2; exact word_2 w
  by_cases h3 : s.data.toList = [105, 110, 102, 105, 120, 114]
  · obtain rfl := is_text h3; exact word_3 w
  by_cases h4 : s.data.toList = [105, 110, 102, 105, 120]
  · obtain rfl := is_text h4; exact word_4 w
  by_cases h5 : s.data.toList = [108, 101, 116]
  · obtain rfl := is_text h5; exact word_5 w
  by_cases h6 : s.data.toList = [105, 110]
  · obtain rfl := is_text h6; exact word_6 w
  by_cases h7 : s.data.toList = [99, 97, 115, 101]
  · obtain rfl := is_text h7; exact word_7 w
  by_cases h8 : s.data.toList = [111, 102]
  · obtain rfl := is_text h8; exact word_8 w
  by_cases h9 : s.data.toList = [105, 102]
  · obtain rfl := is_text h9; exact word_9 w
  by_cases h10 : s.data.toList = [116, 104, 101, 110]
  · obtain rfl := is_text h10; exact word_10 w
  by_cases h11 : s.data.toList = [101, 108, 115, 101]
  · obtain rfl := is_text h11; exact word_11 w
  exact word_none s (by intro t ht; simp only [words, List.mem_cons, List.not_mem_nil, or_false] at ht; rcases ht with rfl | rfl | rfl | rfl | rfl | rfl | rfl | rfl | rfl | rfl | rfl <;> assumption) w

/-- a token's kind, by its text and its first byte's class -/
def kindOf (l : List UInt8) (c : Int) : Int :=
  if l = [95] ∨ l = [61] ∨ l = [124] ∨ l = [45, 62] then 5 else if isWord l then 6 else if c = 6 then 5 else if c = 3 then 2 else if c = 7 then 3 else 1
def KindPost (l : List UInt8) (c : Int) (w : World) (e : Ending) (w' : World) : Prop := e = .returned (.int .i64 (kindOf l c)) ∧ w = w'
theorem kindPost {l : List UInt8} {c n : Int} {w : World} (h : kindOf l c = n) : KindPost l c w (.returned (.int .i64 n)) w := by unfold KindPost; rw [h]; exact ⟨rfl, rfl⟩
theorem word_is {s : ByteArray} {b : Bool} (h : isWord s.data.toList = b) (w : World) : Calls Try.prog 56 #[.string s] w fun e w' => e = .returned (.bool b) ∧ w = w' := by
  have g := word_any s w
  unfold WordPost at g
  rw [h] at g
  exact g
theorem kind_1 (c : Int) (w : World) : Calls Try.prog 37 #[.string ⟨#[95]⟩, .int .i64 c] w (KindPost [95] c w) := by
  go_enter Try.func37, Try.ntmps37
  go_wp2
  go_ret
  exact kindPost (by simp [kindOf])
theorem kind_2 (c : Int) (w : World) : Calls Try.prog 37 #[.string ⟨#[61]⟩, .int .i64 c] w (KindPost [61] c w) := by
  go_enter Try.func37, Try.ntmps37
  go_wp2
  go_ret
  exact kindPost (by simp [kindOf])
theorem kind_3 (c : Int) (w : World) : Calls Try.prog 37 #[.string ⟨#[124]⟩, .int .i64 c] w (KindPost [124] c w) := by
  go_enter Try.func37, Try.ntmps37
  go_wp2
  go_ret
  exact kindPost (by simp [kindOf])
theorem kind_4 (c : Int) (w : World) : Calls Try.prog 37 #[.string ⟨#[45, 62]⟩, .int .i64 c] w (KindPost [45, 62] c w) := by
  go_enter Try.func37, Try.ntmps37
  go_wp2
  go_ret
  exact kindPost (by simp [kindOf])
theorem kind_word (s : ByteArray) (c : Int) (w : World) (h : ¬ (s.data.toList = [95] ∨ s.data.toList = [61] ∨ s.data.toList = [124] ∨ s.data.toList = [45, 62])) : Calls Try.prog 37 #[.string s, .int .i64 c] w (KindPost s.data.toList c w) := by
  have n1 : (s.toList == [95]) = false := by rw [Lib.toList_data]; exact beq_eq_false_iff_ne.2 (fun e => h (Or.inl e))
  have n2 : (s.toList == [61]) = false := by rw [Lib.toList_data]; exact beq_eq_false_iff_ne.2 (fun e => h (Or.inr (Or.inl e)))
  have n3 : (s.toList == [124]) = false := by rw [Lib.toList_data]; exact beq_eq_false_iff_ne.2 (fun e => h (Or.inr (Or.inr (Or.inl e))))
  have n4 : (s.toList == [45, 62]) = false := by rw [Lib.toList_data]; exact beq_eq_false_iff_ne.2 (fun e => h (Or.inr (Or.inr (Or.inr e))))
  have H := Lib.hid h
  clear h
  cases hw : isWord s.data.toList
  · have HW := Lib.hid hw
    clear hw
    by_cases c6 : c = 6
    · have HF := Lib.hid (show kindOf s.data.toList c = 5 by unfold kindOf; rw [if_neg H.out, if_neg (by rw [HW.out]; decide), if_pos c6])
      have d6 : (c == 6) = true := beq_iff_eq.2 c6
      clear c6
      go_enter Try.func37, Try.ntmps37
      go_wp2_with (go_at_call 56; refine (word_is HW.out _).mono ?_; rintro e w' ⟨rfl, rfl⟩)
      go_ret
      exact kindPost HF.out
    · by_cases c3 : c = 3
      · have HF := Lib.hid (show kindOf s.data.toList c = 2 by unfold kindOf; rw [if_neg H.out, if_neg (by rw [HW.out]; decide), if_neg c6, if_pos c3])
        have d6 : (c == 6) = false := beq_eq_false_iff_ne.2 c6
        have d3 : (c == 3) = true := beq_iff_eq.2 c3
        clear c6 c3
        go_enter Try.func37, Try.ntmps37
        go_wp2_with (go_at_call 56; refine (word_is HW.out _).mono ?_; rintro e w' ⟨rfl, rfl⟩)
        go_ret
        exact kindPost HF.out
      · by_cases c7 : c = 7
        · have HF := Lib.hid (show kindOf s.data.toList c = 3 by unfold kindOf; rw [if_neg H.out, if_neg (by rw [HW.out]; decide), if_neg c6, if_neg c3, if_pos c7])
          have d6 : (c == 6) = false := beq_eq_false_iff_ne.2 c6
          have d3 : (c == 3) = false := beq_eq_false_iff_ne.2 c3
          have d7 : (c == 7) = true := beq_iff_eq.2 c7
          clear c6 c3 c7
          go_enter Try.func37, Try.ntmps37
          go_wp2_with (go_at_call 56; refine (word_is HW.out _).mono ?_; rintro e w' ⟨rfl, rfl⟩)
          go_ret
          exact kindPost HF.out
        · have HF := Lib.hid (show kindOf s.data.toList c = 1 by unfold kindOf; rw [if_neg H.out, if_neg (by rw [HW.out]; decide), if_neg c6, if_neg c3, if_neg c7])
          have d6 : (c == 6) = false := beq_eq_false_iff_ne.2 c6
          have d3 : (c == 3) = false := beq_eq_false_iff_ne.2 c3
          have d7 : (c == 7) = false := beq_eq_false_iff_ne.2 c7
          clear c6 c3 c7
          go_enter Try.func37, Try.ntmps37
          go_wp2_with (go_at_call 56; refine (word_is HW.out _).mono ?_; rintro e w' ⟨rfl, rfl⟩)
          go_ret
          exact kindPost HF.out
  · have HW := Lib.hid hw
    clear hw
    have HF := Lib.hid (show kindOf s.data.toList c = 6 by unfold kindOf; rw [if_neg H.out, if_pos HW.out])
    go_enter Try.func37, Try.ntmps37
    go_wp2_with (go_at_call 56; refine (word_is HW.out _).mono ?_; rintro e w' ⟨rfl, rfl⟩)
    go_ret
    exact kindPost HF.out
theorem kind_any (s : ByteArray) (c : Int) (w : World) : Calls Try.prog 37 #[.string s, .int .i64 c] w (KindPost s.data.toList c w) := by
  by_cases h1 : s.data.toList = [95]
  · obtain rfl := is_text h1; exact kind_1 c w
  by_cases h2 : s.data.toList = [61]
  · obtain rfl := is_text h2; exact kind_2 c w
  by_cases h3 : s.data.toList = [124]
  · obtain rfl := is_text h3; exact kind_3 c w
  by_cases h4 : s.data.toList = [45, 62]
  · obtain rfl := is_text h4; exact kind_4 c w
  exact kind_word s c w (by rintro (h | h | h | h) <;> contradiction)
end Go.Proofs.Ytidmclaaggoahaa.Lx
