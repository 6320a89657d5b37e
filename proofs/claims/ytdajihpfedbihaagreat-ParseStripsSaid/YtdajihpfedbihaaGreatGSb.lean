/-
  CONTRACTS of layer lex: classes of bytes, keywords, kinds.
-/
import Derived.Test.YtdajihpfedbihaaGreatGSa
import Derived.Outline
import Derived.Test.YtdajihpfedbihaaGreatShelf
import Derived.Lib.IndexBytes
import Derived.Deep.LoopGhost
namespace Go.Proofs.YtdajihpfedbihaaGreat.Lx
open Go.RowKit Pl Ar Dg Pa
set_option linter.unusedVariables false

/-- a byte's class -/
def cls (c : Nat) : Int :=
  if c = 32 ∨ c = 10 then 1 else if c = 95 then 2 else if c = 39 then 5
  else if c = 40 ∨ c = 41 ∨ c = 123 ∨ c = 125 ∨ c = 59 ∨ c = 92 then 6
  else if c = 33 ∨ c = 35 ∨ c = 36 ∨ c = 37 ∨ c = 38 ∨ c = 42 ∨ c = 43 ∨ c = 46 ∨ c = 47 ∨ c = 58 ∨ c = 60 ∨ c = 61 ∨ c = 62 ∨ c = 63 ∨ c = 64 ∨ c = 94 ∨ c = 124 ∨ c = 126 ∨ c = 45 then 7
  else if 97 ≤ c ∧ c ≤ 122 then 2 else if 65 ≤ c ∧ c ≤ 90 then 3 else if 48 ≤ c ∧ c ≤ 57 then 4 else 0
/-- What a call of class ends with. -/
def ClsPost (c : Nat) (w : World) (e : Ending) (w' : World) : Prop := e = .returned (.int .i64 (cls c)) ∧ w = w'
theorem clsPost {c : Nat} {n : Int} {w : World} (h : cls c = n) : ClsPost c w (.returned (.int .i64 n)) w := by unfold ClsPost; rw [h]; exact ⟨rfl, rfl⟩
set_option maxHeartbeats 4000000 in
theorem class_any (c : Nat) (h : c < 256) (w : World) : Calls Tryz.prog 94 #[.int .u8 c] w (ClsPost c w) := by
  go_enter Tryz.func94, Tryz.ntmps94
  go_wp2
  all_goals
    go_ret
    refine clsPost ?_
    simp only [beq_iff_eq, beq_eq_false_iff_ne, ne_eq] at *
    unfold cls
    (repeat' split) <;> omega

def words : List (List UInt8) := [[100, 97, 116, 97], [105, 110, 102, 105, 120, 108], [105, 110, 102, 105, 120, 114], [105, 110, 102, 105, 120], [108, 101, 116], [105, 110], [99, 97, 115, 101], [111, 102], [105, 102], [116, 104, 101, 110], [101, 108, 115, 101]]
def isWord (l : List UInt8) : Bool := words.contains l
def WordPost (l : List UInt8) (w : World) (e : Ending) (w' : World) : Prop := e = .returned (.bool (isWord l)) ∧ w = w'
theorem word_1 (w : World) : Calls Tryz.prog 125 #[.string ⟨#[100, 97, 116, 97]⟩] w (WordPost [100, 97, 116, 97] w) := by
  go_enter Tryz.func125, Tryz.ntmps125
  go_wp2
  go_ret
  exact ⟨rfl, rfl⟩
theorem word_2 (w : World) : Calls Tryz.prog 125 #[.string ⟨#[105, 110, 102, 105, 120, 108]⟩] w (WordPost [105, 110, 102, 105, 120, 108] w) := by
  go_enter Tryz.func125, Tryz.ntmps125
  go_wp2
  go_ret
  exact ⟨rfl, rfl⟩
theorem word_3 (w : World) : Calls Tryz.prog 125 #[.string ⟨#[105, 110, 102, 105, 120, 114]⟩] w (WordPost [105, 110, 102, 105, 120, 114] w) := by
  go_enter Tryz.func125, Tryz.ntmps125
  go_wp2
  go_ret
  exact ⟨rfl, rfl⟩
theorem word_4 (w : World) : Calls Tryz.prog 125 #[.string ⟨#[105, 110, 102, 105, 120]⟩] w (WordPost [105, 110, 102, 105, 120] w) := by
  go_enter Tryz.func125, Tryz.ntmps125
  go_wp2
  go_ret
  exact ⟨rfl, rfl⟩
theorem word_5 (w : World) : Calls Tryz.prog 125 #[.string ⟨#[108, 101, 116]⟩] w (WordPost [108, 101, 116] w) := by
  go_enter Tryz.func125, Tryz.ntmps125
  go_wp2
  go_ret
  exact ⟨rfl, rfl⟩
theorem word_6 (w : World) : Calls Tryz.prog 125 #[.string ⟨#[105, 110]⟩] w (WordPost [105, 110] w) := by
  go_enter Tryz.func125, Tryz.ntmps125
  go_wp2
  go_ret
  exact ⟨rfl, rfl⟩
theorem word_7 (w : World) : Calls Tryz.prog 125 #[.string ⟨#[99, 97, 115, 101]⟩] w (WordPost [99, 97, 115, 101] w) := by
  go_enter Tryz.func125, Tryz.ntmps125
  go_wp2
  go_ret
  exact ⟨rfl, rfl⟩
theorem word_8 (w : World) : Calls Tryz.prog 125 #[.string ⟨#[111, 102]⟩] w (WordPost [111, 102] w) := by
  go_enter Tryz.func125, Tryz.ntmps125
  go_wp2
  go_ret
  exact ⟨rfl, rfl⟩
theorem word_9 (w : World) : Calls Tryz.prog 125 #[.string ⟨#[105, 102]⟩] w (WordPost [105, 102] w) := by
  go_enter Tryz.func125, Tryz.ntmps125
  go_wp2
  go_ret
  exact ⟨rfl, rfl⟩
theorem word_10 (w : World) : Calls Tryz.prog 125 #[.string ⟨#[116, 104, 101, 110]⟩] w (WordPost [116, 104, 101, 110] w) := by
  go_enter Tryz.func125, Tryz.ntmps125
  go_wp2
  go_ret
  exact ⟨rfl, rfl⟩
theorem word_11 (w : World) : Calls Tryz.prog 125 #[.string ⟨#[101, 108, 115, 101]⟩] w (WordPost [101, 108, 115, 101] w) := by
  go_enter Tryz.func125, Tryz.ntmps125
  go_wp2
  go_ret
  exact ⟨rfl, rfl⟩
theorem isWord_no {l : List UInt8} (h : ∀ t, t ∈ words → ¬ l = t) : isWord l = false := by
  unfold isWord
  cases hc : words.contains l with
  | false => rfl
  | true => exact absurd rfl (h l (List.contains_iff_mem.1 hc))
theorem word_none (s : ByteArray) (h : ∀ t, t ∈ words → ¬ s.data.toList = t) (w : World) : Calls Tryz.prog 125 #[.string s] w (WordPost s.data.toList w) := by
  have n1 : (s.toList == [100, 97, 116, 97]) = false := by rw [Lib.toList_data]; exact beq_eq_false_iff_ne.2 (h [100, 97, 116, 97] (by decide))
  have n2 : (s.toList == [105, 110, 102, 105, 120, 108]) = false := by rw [Lib.toList_data]; exact beq_eq_false_iff_ne.2 (h [105, 110, 102, 105, 120, 108] (by decide))
  have n3 : (s.toList == [105, 110, 102, 105, 120, 114]) = false := by rw [Lib.toList_data]; exact beq_eq_false_iff_ne.2 (h [105, 110, 102, 105, 120, 114] (by decide))
  have n4 : (s.toList == [105, 110, 102, 105, 120]) = false := by rw [Lib.toList_data]; exact beq_eq_false_iff_ne.2 (h [105, 110, 102, 105, 120] (by decide))
  have n5 : (s.toList == [108, 101, 116]) = false := by rw [Lib.toList_data]; exact beq_eq_false_iff_ne.2 (h [108, 101, 116] (by decide))
  have n6 : (s.toList == [105, 110]) = false := by rw [Lib.toList_data]; exact beq_eq_false_iff_ne.2 (h [105, 110] (by decide))
  have n7 : (s.toList == [99, 97, 115, 101]) = false := by rw [Lib.toList_data]; exact beq_eq_false_iff_ne.2 (h [99, 97, 115, 101] (by decide))
  have n8 : (s.toList == [111, 102]) = false := by rw [Lib.toList_data]; exact beq_eq_false_iff_ne.2 (h [111, 102] (by decide))
  have n9 : (s.toList == [105, 102]) = false := by rw [Lib.toList_data]; exact beq_eq_false_iff_ne.2 (h [105, 102] (by decide))
  have n10 : (s.toList == [116, 104, 101, 110]) = false := by rw [Lib.toList_data]; exact beq_eq_false_iff_ne.2 (h [116, 104, 101, 110] (by decide))
  have n11 : (s.toList == [101, 108, 115, 101]) = false := by rw [Lib.toList_data]; exact beq_eq_false_iff_ne.2 (h [101, 108, 115, 101] (by decide))
  have HF := Lib.hid (isWord_no h)
  clear h
  go_enter Tryz.func125, Tryz.ntmps125
  go_wp2
  go_ret
  exact ⟨by rw [HF.out]; rfl, rfl⟩
theorem is_text {s : ByteArray} {t : List UInt8} (h : s.data.toList = t) : s = ⟨t.toArray⟩ := by rw [← h]
theorem word_any (s : ByteArray) (w : World) : Calls Tryz.prog 125 #[.string s] w (WordPost s.data.toList w) := by
  by_cases h1 : s.data.toList = [100, 97, 116, 97]
  · obtain rfl := is_text h1; exact word_1 w
  by_cases h2 : s.data.toList = [105, 110, 102, 105, 120, 108]
  · obtain rfl := is_text h2; exact word_2 w
  by_cases h3 : s.data.toList = [105, 110, 102, 105, 120, 114]
  · obtain rfl := is_text h3; exact word_3 w
  by_cases h4 : s.data.toList = [105, 110, 102, 105, 120]
  · obtain rfl := is_text h4; exact word_4 w
  by_cases h5 : s.data.toList = [108, 101, 116]
  · obtain rfl := is_text h5; exact word_5 w
  by_cases h6 : s.data.toList = [105, 110]
  · obtain rfl := is_text h6; exact word_6 w
  by_cases h7 : s.data.toList = [99, 97, 115, 101]
  · obtain rfl := is_text h7; exact word_7 w
  by_cases h8 : s.data.toList = [111, 102]
  · obtain rfl := is_text h8; exact word_8 w
  by_cases h9 : s.data.toList = [105, 102]
  · obtain rfl := is_text h9; exact word_9 w
  by_cases h10 : s.data.toList = [116, 104, 101, 110]
  · obtain rfl := is_text h10; exact word_10 w
  by_cases h11 : s.data.toList = [101, 108, 115, 101]
  · obtain rfl := is_text h11; exact word_11 w
  exact word_none s (by intro t ht; simp only [words, List.mem_cons, List.not_mem_nil, or_false] at ht; rcases ht with rfl | rfl | rfl | rfl | rfl | rfl | rfl | rfl | rfl | rfl | rfl <;> assumption) w

/-- a token's kind, by its text and its first byte's class -/
def kindOf (l : List UInt8) (c : Int) : Int :=
  if l = [95] ∨ l = [61] ∨ l = [124] ∨ l = [45, 62] then 5 else if isWord l then 6 else if c = 6 then 5 else if c = 3 then 2 else if c = 7 then 3 else 1
def KindPost (l : List UInt8) (c : Int) (w : World) (e : Ending) (w' : World) : Prop := e = .returned (.int .i64 (kindOf l c)) ∧ w = w'
theorem kindPost {l : List UInt8} {c n : Int} {w : World} (h : kindOf l c = n) : KindPost l c w (.returned (.int .i64 n)) w := by unfold KindPost; rw [h]; exact ⟨rfl, rfl⟩
theorem word_is {s : ByteArray} {b : Bool} (h : isWord s.data.toList = b) (w : World) : Calls Tryz.prog 125 #[.string s] w fun e w' => e = .returned (.bool b) ∧ w = w' := by
  have g := word_any s w
  unfold WordPost at g
  rw [h] at g
  exact g
theorem kind_1 (c : Int) (w : World) : Calls Tryz.prog 99 #[.string ⟨#[95]⟩, .int .i64 c] w (KindPost [95] c w) := by
  go_enter Tryz.func99, Tryz.ntmps99
  go_wp2
  go_ret
  exact kindPost (by simp [kindOf])
theorem kind_2 (c : Int) (w : World) : Calls Tryz.prog 99 #[.string ⟨#[61]⟩, .int .i64 c] w (KindPost [61] c w) := by
  go_enter Tryz.func99, Tryz.ntmps99
  go_wp2
  go_ret
  exact kindPost (by simp [kindOf])
theorem kind_3 (c : Int) (w : World) : Calls Tryz.prog 99 #[.string ⟨#[124]⟩, .int .i64 c] w (KindPost [124] c w) := by
  go_enter Tryz.func99, Tryz.ntmps99
  go_wp2
  go_ret
  exact kindPost (by simp [kindOf])
theorem kind_4 (c : Int) (w : World) : Calls Tryz.prog 99 #[.string ⟨#[45, 62]⟩, .int .i64 c] w (KindPost [45, 62] c w) := by
  go_enter Tryz.func99, Tryz.ntmps99
  go_wp2
  go_ret
  exact kindPost (by simp [kindOf])
theorem kind_word (s : ByteArray) (c : Int) (w : World) (h : ¬ (s.data.toList = [95] ∨ s.data.toList = [61] ∨ s.data.toList = [124] ∨ s.data.toList = [45, 62])) : Calls Tryz.prog 99 #[.string s, .int .i64 c] w (KindPost s.data.toList c w) := by
  have n1 : (s.toList == [95]) = false := by rw [Lib.toList_data]; exact beq_eq_false_iff_ne.2 (fun e => h (Or.inl e))
  have n2 : (s.toList == [61]) = false := by rw [Lib.toList_data]; exact beq_eq_false_iff_ne.2 (fun e => h (Or.inr (Or.inl e)))
  have n3 : (s.toList == [124]) = false := by rw [Lib.toList_data]; exact beq_eq_false_iff_ne.2 (fun e => h (Or.inr (Or.inr (Or.inl e))))
  have n4 : (s.toList == [45, 62]) = false := by rw [Lib.toList_data]; exact beq_eq_false_iff_ne.2 (fun e => h (Or.inr (Or.inr (Or.inr e))))
  have H := Lib.hid h
  clear h
  cases hw : isWord s.data.toList
  · have HW := Lib.hid hw
    clear hw
    by_cases c6 : c = 6
    · have HF := Lib.hid (show kindOf s.data.toList c = 5 by unfold kindOf; rw [if_neg H.out, if_neg (by rw [HW.out]; decide), if_pos c6])
      have d6 : (c == 6) = true := beq_iff_eq.2 c6
      clear c6
      go_enter Tryz.func99, Tryz.ntmps99
      go_wp2_with (go_at_call 125; refine (word_is HW.out _).mono ?_; rintro e w' ⟨rfl, rfl⟩)
      go_ret
      exact kindPost HF.out
    · by_cases c3 : c = 3
      · have HF := Lib.hid (show kindOf s.data.toList c = 2 by unfold kindOf; rw [if_neg H.out, if_neg (by rw [HW.out]; decide), if_neg c6, if_pos c3])
        have d6 : (c == 6) = false := beq_eq_false_iff_ne.2 c6
        have d3 : (c == 3) = true := beq_iff_eq.2 c3
        clear c6 c3
        go_enter Tryz.func99, Tryz.ntmps99
        go_wp2_with (go_at_call 125; refine (word_is HW.out _).mono ?_; rintro e w' ⟨rfl, rfl⟩)
        go_ret
        exact kindPost HF.out
      · by_cases c7 : c = 7
        · have HF := Lib.hid (show kindOf s.data.toList c = 3 by unfold kindOf; rw [if_neg H.out, if_neg (by rw [HW.out]; decide), if_neg c6, if_neg c3, if_pos c7])
          have d6 : (c == 6) = false := beq_eq_false_iff_ne.2 c6
          have d3 : (c == 3) = false := beq_eq_false_iff_ne.2 c3
          have d7 : (c == 7) = true := beq_iff_eq.2 c7
          clear c6 c3 c7
          go_enter Tryz.func99, Tryz.ntmps99
          go_wp2_with (go_at_call 125; refine (word_is HW.out _).mono ?_; rintro e w' ⟨rfl, rfl⟩)
          go_ret
          exact kindPost HF.out
        · have HF := Lib.hid (show kindOf s.data.toList c = 1 by unfold kindOf; rw [if_neg H.out, if_neg (by rw [HW.out]; decide), if_neg c6, if_neg c3, if_neg c7])
          have d6 : (c == 6) = false := beq_eq_false_iff_ne.2 c6
          have d3 : (c == 3) = false := beq_eq_false_iff_ne.2 c3
          have d7 : (c == 7) = false := beq_eq_false_iff_ne.2 c7
          clear c6 c3 c7
          go_enter Tryz.func99, Tryz.ntmps99
          go_wp2_with (go_at_call 125; refine (word_is HW.out _).mono ?_; rintro e w' ⟨rfl, rfl⟩)
          go_ret
          exact kindPost HF.out
  · have HW := Lib.hid hw
    clear hw
    have HF := Lib.hid (show kindOf s.data.toList c = 6 by unfold kindOf; rw [if_neg H.out, if_pos HW.out])
    go_enter Tryz.func99, Tryz.ntmps99
    go_wp2_with (go_at_call 125; refine (word_is HW.out _).mono ?_; rintro e w' ⟨rfl, rfl⟩)
    go_ret
    exact kindPost HF.out
theorem kind_any (s : ByteArray) (c : Int) (w : World) : Calls Tryz.prog 99 #[.string s, .int .i64 c] w (KindPost s.data.toList c w) := by
  by_cases h1 : s.data.toList = [95]
  · obtain rfl := is_text h1; exact kind_1 c w
  by_cases h2 : s.data.toList = [61]
  · obtain rfl := is_text h2; exact kind_2 c w
  by_cases h3 : s.data.toList = [124]
  · obtain rfl := is_text h3; exact kind_3 c w
  by_cases h4 : s.data.toList = [45, 62]
  · obtain rfl := is_text h4; exact kind_4 c w
  exact kind_word s c w (by rintro (h | h | h | h) <;> contradiction)
end Go.Proofs.YtdajihpfedbihaaGreat.Lx
/-
  CONTRACTS of layer lex: how many bytes of blanks a text begins with; where a token ends.
-/
namespace Go.Proofs.YtdajihpfedbihaaGreat.Lx
open Go.RowKit Pl Ar Dg Pa
set_option linter.unusedVariables false

theorem pre_any (s p : ByteArray) (w : World) : Calls Tryz.prog 93 #[.string s, .string p] w fun e w' => e = .returned (.bool (Lib.hasPrefix s.data.toList p.data.toList)) ∧ w = w' :=
  (Tryz.strings_HasPrefix s p w).mono fun e w' h => ⟨h.1, h.2.symm⟩
theorem suf_any (s p : ByteArray) (hs : s.size ≤ 9223372036854775807) (w : World) : Calls Tryz.prog 95 #[.string s, .string p] w fun e w' => e = .returned (.bool (Lib.hasSuffix s.data.toList p.data.toList)) ∧ w = w' :=
  (Tryz.strings_HasSuffix s p w hs).mono fun e w' h => ⟨h.1, h.2.symm⟩
theorem class_is {c : Nat} {n : Int} (h : c < 256) (hn : cls c = n) (w : World) : Calls Tryz.prog 94 #[.int .u8 c] w fun e w' => e = .returned (.int .i64 n) ∧ w = w' := by
  have g := class_any c h w
  unfold ClsPost at g
  rw [hn] at g
  exact g

/-- blanks up to a line's end at most; in a remark all bytes are -/
def gapR (rm : Bool) : List UInt8 → Nat
  | [] => 0
  | c :: r => if c = 10 then 1 else if rm = false ∧ ¬ c = 32 then 0 else gapR rm r + 1
def isRem (l : List UInt8) : Bool := Lib.hasPrefix l [45, 45]
def gapLen (l : List UInt8) : Nat := gapR (isRem l) l
theorem drop_cons {s : ByteArray} {k : Nat} (h : k < s.size) : s.data.toList.drop k = s[k] :: s.data.toList.drop (k + 1) := by
  have hl : k < s.data.toList.length := by rw [← Lib.size_eq]; exact h
  rw [List.drop_eq_getElem_cons hl, get_data s k h]
theorem drop_end {s : ByteArray} {k : Nat} (h : ¬ k < s.size) : s.data.toList.drop k = [] := List.drop_of_length_le (by rw [← Lib.size_eq]; omega)
theorem gapR_line (rm : Bool) (r : List UInt8) : gapR rm (10 :: r) = 1 := by simp [gapR]
theorem gapR_stop {c : UInt8} (r : List UInt8) (h : ¬ c = 10) (h2 : ¬ c = 32) : gapR false (c :: r) = 0 := by simp [gapR, h, h2]
theorem gapR_rem {c : UInt8} (r : List UInt8) (h : ¬ c = 10) : gapR true (c :: r) = gapR true r + 1 := by simp [gapR, h]
theorem gapR_blank (rm : Bool) (r : List UInt8) : gapR rm (32 :: r) = gapR rm r + 1 := by
  show (if (32 : UInt8) = 10 then 1 else if rm = false ∧ ¬ (32 : UInt8) = 32 then 0 else gapR rm r + 1) = _
  rw [if_neg (by decide), if_neg (by simp)]
theorem cls_blank : cls 32 = 1 := by decide
theorem cls_no {c : Nat} (h : ¬ c = 10) (h2 : ¬ c = 32) : ¬ cls c = 1 := by unfold cls; (repeat' split) <;> omega
def GapPost (l : List UInt8) (w : World) (e : Ending) (w' : World) : Prop := e = .returned (.int .i64 (gapLen l : Nat)) ∧ w = w'
theorem gapPost {l : List UInt8} {n : Nat} {w : World} (h : gapLen l = n) : GapPost l w (.returned (.int .i64 (n : Int))) w := by unfold GapPost; rw [h]; exact ⟨rfl, rfl⟩
set_option maxHeartbeats 2000000 in
theorem gap_any (s : ByteArray) (hs : s.size ≤ 9223372036854775807) (w : World) : Calls Tryz.prog 70 #[.string s] w (GapPost s.data.toList w) := by
  obtain ⟨rm, hrm⟩ : ∃ rm, isRem s.data.toList = rm := ⟨_, rfl⟩
  have HR := Lib.hid hrm
  clear hrm
  go_enter Tryz.func70, Tryz.ntmps70
  go_wp2
  go_step3
  go_wp2_with (go_at_call 93; refine (pre_any _ _ _).mono ?_; rw [show Lib.hasPrefix s.data.toList (⟨#[45, 45]⟩ : ByteArray).data.toList = rm from HR.out]; rintro e w' ⟨rfl, rfl⟩)
  go_step3
  go_wp2_with fail
  go_loopg [4] (s.size) (fun j i wr => ∃ k : Nat, j + k = s.size ∧ i = .int .i64 k ∧ gapR rm s.data.toList = k + gapR rm (s.data.toList.drop k) ∧ wr = w)
  case atStart => exact ⟨0, rfl, rfl, by simp, rfl⟩
  case round =>
    obtain ⟨k, hk, rfl, hg, rfl⟩ := hrel
    have HK := Lib.hid hk
    have HG := Lib.hid hg
    have hle : k ≤ s.size := by omega
    clear hk hg
    by_cases hlt : k < s.size
    · have hb := UInt8.toNat_lt s[k]
      have HD := Lib.hid (drop_cons hlt)
      by_cases c10 : s[k].toNat = 10
      · have HF := Lib.hid (show gapLen s.data.toList = k + 1 by
          unfold gapLen; rw [HR.out, HG.out, HD.out, show s[k] = 10 from UInt8.toNat_inj.1 c10, gapR_line])
        have d10 : ((s[k].toNat : Int) == 10) = true := beq_iff_eq.2 (by omega)
        clear c10
        go_wp2
        (try rw [Exit.noGoto_ret])
        go_ret
        exact gapPost HF.out
      · have d10 : ((s[k].toNat : Int) == 10) = false := beq_eq_false_iff_ne.2 (by omega)
        have n10 : ¬ s[k] = 10 := fun e => c10 (by rw [e]; rfl)
        cases rm
        · by_cases c32 : s[k].toNat = 32
          · have HC := Lib.hid (show cls s[k].toNat = 1 by rw [c32]; exact cls_blank)
            have HN := Lib.hid (show gapR false s.data.toList = (k + 1 : Nat) + gapR false (s.data.toList.drop (k + 1)) by
              rw [HG.out, HD.out, show s[k] = 32 from UInt8.toNat_inj.1 c32, gapR_blank]; omega)
            clear c10 c32 n10
            go_wp2_with (go_at_call 94; refine (class_is hb HC.out _).mono ?_; rintro e w' ⟨rfl, rfl⟩)
            go_roundg (s.size - (k + 1))
            case measure => have := HK.out; omega
            case rel => exact ⟨k + 1, by omega, by go_num, HN.out, rfl⟩
          · obtain ⟨m, hm⟩ : ∃ m, cls s[k].toNat = m := ⟨_, rfl⟩
            have hm1 : (m == 1) = false := beq_eq_false_iff_ne.2 (by rw [← hm]; exact cls_no c10 c32)
            have HC := Lib.hid hm
            have n32 : ¬ s[k] = 32 := fun e => c32 (by rw [e]; rfl)
            have HF := Lib.hid (show gapLen s.data.toList = k by
              unfold gapLen; rw [HR.out, HG.out, HD.out, gapR_stop _ n10 n32]; omega)
            clear c10 c32 hm n10 n32
            go_wp2_with (go_at_call 94; refine (class_is hb HC.out _).mono ?_; rintro e w' ⟨rfl, rfl⟩)
            (try rw [Exit.noGoto_ret])
            go_ret
            exact gapPost HF.out
        · have HN := Lib.hid (show gapR true s.data.toList = (k + 1 : Nat) + gapR true (s.data.toList.drop (k + 1)) by
            rw [HG.out, HD.out, gapR_rem _ n10]; omega)
          clear c10 n10
          go_wp2
          go_roundg (s.size - (k + 1))
          case measure => have := HK.out; omega
          case rel => exact ⟨k + 1, by omega, by go_num, HN.out, rfl⟩
    · have HF := Lib.hid (show gapLen s.data.toList = k by
        unfold gapLen; rw [HR.out, HG.out, drop_end hlt]; rfl)
      go_wp2
      (try rw [Exit.noGoto_ret])
      go_ret
      exact gapPost HF.out

/-- does a token that begins with a byte of class c go on with one of class n -/
def goes (c n : Int) : Bool := ((c == 2 || c == 3) && (n == 2 || n == 3 || n == 4 || n == 5)) || ((c == 4 || c == 7) && n == c)
def runR (c : Int) : List UInt8 → Nat
  | [] => 0
  | x :: r => if goes c (cls x.toNat) then runR c r + 1 else 0
def endLen (l : List UInt8) (c : Int) : Nat := 1 + runR c (l.drop 1)
theorem cls_cases (c : Nat) : cls c = 0 ∨ cls c = 1 ∨ cls c = 2 ∨ cls c = 3 ∨ cls c = 4 ∨ cls c = 5 ∨ cls c = 6 ∨ cls c = 7 := by unfold cls; (repeat' split) <;> omega
theorem run_yes {c : Int} {x : UInt8} {r : List UInt8} (h : goes c (cls x.toNat) = true) : runR c (x :: r) = runR c r + 1 := by simp [runR, h]
theorem run_no {c : Int} {x : UInt8} {r : List UInt8} (h : goes c (cls x.toNat) = false) : runR c (x :: r) = 0 := by simp [runR, h]
def EndPost (l : List UInt8) (c : Int) (w : World) (e : Ending) (w' : World) : Prop := e = .returned (.int .i64 (endLen l c : Nat)) ∧ w = w'
theorem endPost {l : List UInt8} {c : Int} {n : Nat} {w : World} (h : endLen l c = n) : EndPost l c w (.returned (.int .i64 (n : Int))) w := by unfold EndPost; rw [h]; exact ⟨rfl, rfl⟩
set_option maxHeartbeats 4000000 in
theorem end_2 (s : ByteArray) (h0 : 0 < s.size) (hs : s.size ≤ 9223372036854775807) (w : World) : Calls Tryz.prog 97 #[.string s, .int .i64 2] w (EndPost s.data.toList 2 w) := by
  go_enter Tryz.func97, Tryz.ntmps97
  go_wp2
  go_step3
  go_wp2_with fail
  (try go_step3)
  go_wp2_with fail
  go_loopg [5] (s.size - 1) (fun j i wr => ∃ k : Nat, 1 ≤ k ∧ j + k = s.size ∧ i = .int .i64 k ∧ endLen s.data.toList 2 = k + runR 2 (s.data.toList.drop k) ∧ wr = w)
  case atStart => exact ⟨1, by omega, by omega, rfl, rfl, rfl⟩
  case round =>
    obtain ⟨k, h1, hk, rfl, hg, rfl⟩ := hrel
    have HK := Lib.hid hk
    have HG := Lib.hid hg
    have hle : k ≤ s.size := by omega
    clear hk hg
    by_cases hlt : k < s.size
    · have hb := UInt8.toNat_lt s[k]
      have HD := Lib.hid (drop_cons hlt)
      rcases cls_cases s[k].toNat with hc | hc | hc | hc | hc | hc | hc | hc
      · have HC := Lib.hid hc
        have HF := Lib.hid (show endLen s.data.toList 2 = k by rw [HG.out, HD.out, run_no (by rw [hc]; decide)]; omega)
        clear hc
        go_wp2_with (go_at_call 94; refine (class_is hb HC.out _).mono ?_; rintro e w' ⟨rfl, rfl⟩)
        (try rw [Exit.noGoto_ret])
        go_ret
        exact endPost HF.out
      · have HC := Lib.hid hc
        have HF := Lib.hid (show endLen s.data.toList 2 = k by rw [HG.out, HD.out, run_no (by rw [hc]; decide)]; omega)
        clear hc
        go_wp2_with (go_at_call 94; refine (class_is hb HC.out _).mono ?_; rintro e w' ⟨rfl, rfl⟩)
        (try rw [Exit.noGoto_ret])
        go_ret
        exact endPost HF.out
      · have HC := Lib.hid hc
        have HN := Lib.hid (show endLen s.data.toList 2 = (k + 1 : Nat) + runR 2 (s.data.toList.drop (k + 1)) by
          rw [HG.out, HD.out, run_yes (by rw [hc]; decide)]; omega)
        clear hc
        go_wp2_with (go_at_call 94; refine (class_is hb HC.out _).mono ?_; rintro e w' ⟨rfl, rfl⟩)
        go_roundg (s.size - (k + 1))
        case measure => have := HK.out; omega
        case rel => exact ⟨k + 1, by omega, by omega, by go_num, HN.out, rfl⟩
      · have HC := Lib.hid hc
        have HN := Lib.hid (show endLen s.data.toList 2 = (k + 1 : Nat) + runR 2 (s.data.toList.drop (k + 1)) by
          rw [HG.out, HD.out, run_yes (by rw [hc]; decide)]; omega)
        clear hc
        go_wp2_with (go_at_call 94; refine (class_is hb HC.out _).mono ?_; rintro e w' ⟨rfl, rfl⟩)
        go_roundg (s.size - (k + 1))
        case measure => have := HK.out; omega
        case rel => exact ⟨k + 1, by omega, by omega, by go_num, HN.out, rfl⟩
      · have HC := Lib.hid hc
        have HN := Lib.hid (show endLen s.data.toList 2 = (k + 1 : Nat) + runR 2 (s.data.toList.drop (k + 1)) by
          rw [HG.out, HD.out, run_yes (by rw [hc]; decide)]; omega)
        clear hc
        go_wp2_with (go_at_call 94; refine (class_is hb HC.out _).mono ?_; rintro e w' ⟨rfl, rfl⟩)
        go_roundg (s.size - (k + 1))
        case measure => have := HK.out; omega
        case rel => exact ⟨k + 1, by omega, by omega, by go_num, HN.out, rfl⟩
      · have HC := Lib.hid hc
        have HN := Lib.hid (show endLen s.data.toList 2 = (k + 1 : Nat) + runR 2 (s.data.toList.drop (k + 1)) by
          rw [HG.out, HD.out, run_yes (by rw [hc]; decide)]; omega)
        clear hc
        go_wp2_with (go_at_call 94; refine (class_is hb HC.out _).mono ?_; rintro e w' ⟨rfl, rfl⟩)
        go_roundg (s.size - (k + 1))
        case measure => have := HK.out; omega
        case rel => exact ⟨k + 1, by omega, by omega, by go_num, HN.out, rfl⟩
      · have HC := Lib.hid hc
        have HF := Lib.hid (show endLen s.data.toList 2 = k by rw [HG.out, HD.out, run_no (by rw [hc]; decide)]; omega)
        clear hc
        go_wp2_with (go_at_call 94; refine (class_is hb HC.out _).mono ?_; rintro e w' ⟨rfl, rfl⟩)
        (try rw [Exit.noGoto_ret])
        go_ret
        exact endPost HF.out
      · have HC := Lib.hid hc
        have HF := Lib.hid (show endLen s.data.toList 2 = k by rw [HG.out, HD.out, run_no (by rw [hc]; decide)]; omega)
        clear hc
        go_wp2_with (go_at_call 94; refine (class_is hb HC.out _).mono ?_; rintro e w' ⟨rfl, rfl⟩)
        (try rw [Exit.noGoto_ret])
        go_ret
        exact endPost HF.out
    · have HF := Lib.hid (show endLen s.data.toList 2 = k by rw [HG.out, drop_end hlt]; rfl)
      go_wp2
      (try rw [Exit.noGoto_ret])
      go_ret
      exact endPost HF.out
set_option maxHeartbeats 4000000 in
theorem end_3 (s : ByteArray) (h0 : 0 < s.size) (hs : s.size ≤ 9223372036854775807) (w : World) : Calls Tryz.prog 97 #[.string s, .int .i64 3] w (EndPost s.data.toList 3 w) := by
  go_enter Tryz.func97, Tryz.ntmps97
  go_wp2
  go_step3
  go_wp2_with fail
  (try go_step3)
  go_wp2_with fail
  go_loopg [5] (s.size - 1) (fun j i wr => ∃ k : Nat, 1 ≤ k ∧ j + k = s.size ∧ i = .int .i64 k ∧ endLen s.data.toList 3 = k + runR 3 (s.data.toList.drop k) ∧ wr = w)
  case atStart => exact ⟨1, by omega, by omega, rfl, rfl, rfl⟩
  case round =>
    obtain ⟨k, h1, hk, rfl, hg, rfl⟩ := hrel
    have HK := Lib.hid hk
    have HG := Lib.hid hg
    have hle : k ≤ s.size := by omega
    clear hk hg
    by_cases hlt : k < s.size
    · have hb := UInt8.toNat_lt s[k]
      have HD := Lib.hid (drop_cons hlt)
      rcases cls_cases s[k].toNat with hc | hc | hc | hc | hc | hc | hc | hc
      · have HC := Lib.hid hc
        have HF := Lib.hid (show endLen s.data.toList 3 = k by rw [HG.out, HD.out, run_no (by rw [hc]; decide)]; omega)
        clear hc
        go_wp2_with (go_at_call 94; refine (class_is hb HC.out _).mono ?_; rintro e w' ⟨rfl, rfl⟩)
        (try rw [Exit.noGoto_ret])
        go_ret
        exact endPost HF.out
      · have HC := Lib.hid hc
        have HF := Lib.hid (show endLen s.data.toList 3 = k by rw [HG.out, HD.out, run_no (by rw [hc]; decide)]; omega)
        clear hc
        go_wp2_with (go_at_call 94; refine (class_is hb HC.out _).mono ?_; rintro e w' ⟨rfl, rfl⟩)
        (try rw [Exit.noGoto_ret])
        go_ret
        exact endPost HF.out
      · have HC := Lib.hid hc
        have HN := Lib.hid (show endLen s.data.toList 3 = (k + 1 : Nat) + runR 3 (s.data.toList.drop (k + 1)) by
          rw [HG.out, HD.out, run_yes (by rw [hc]; decide)]; omega)
        clear hc
        go_wp2_with (go_at_call 94; refine (class_is hb HC.out _).mono ?_; rintro e w' ⟨rfl, rfl⟩)
        go_roundg (s.size - (k + 1))
        case measure => have := HK.out; omega
        case rel => exact ⟨k + 1, by omega, by omega, by go_num, HN.out, rfl⟩
      · have HC := Lib.hid hc
        have HN := Lib.hid (show endLen s.data.toList 3 = (k + 1 : Nat) + runR 3 (s.data.toList.drop (k + 1)) by
          rw [HG.out, HD.out, run_yes (by rw [hc]; decide)]; omega)
        clear hc
        go_wp2_with (go_at_call 94; refine (class_is hb HC.out _).mono ?_; rintro e w' ⟨rfl, rfl⟩)
        go_roundg (s.size - (k + 1))
        case measure => have := HK.out; omega
        case rel => exact ⟨k + 1, by omega, by omega, by go_num, HN.out, rfl⟩
      · have HC := Lib.hid hc
        have HN := Lib.hid (show endLen s.data.toList 3 = (k + 1 : Nat) + runR 3 (s.data.toList.drop (k + 1)) by
          rw [HG.out, HD.out, run_yes (by rw [hc]; decide)]; omega)
        clear hc
        go_wp2_with (go_at_call 94; refine (class_is hb HC.out _).mono ?_; rintro e w' ⟨rfl, rfl⟩)
        go_roundg (s.size - (k + 1))
        case measure => have := HK.out; omega
        case rel => exact ⟨k + 1, by omega, by omega, by go_num, HN.out, rfl⟩
      · have HC := Lib.hid hc
        have HN := Lib.hid (show endLen s.data.toList 3 = (k + 1 : Nat) + runR 3 (s.data.toList.drop (k + 1)) by
          rw [HG.out, HD.out, run_yes (by rw [hc]; decide)]; omega)
        clear hc
        go_wp2_with (go_at_call 94; refine (class_is hb HC.out _).mono ?_; rintro e w' ⟨rfl, rfl⟩)
        go_roundg (s.size - (k + 1))
        case measure => have := HK.out; omega
        case rel => exact ⟨k + 1, by omega, by omega, by go_num, HN.out, rfl⟩
      · have HC := Lib.hid hc
        have HF := Lib.hid (show endLen s.data.toList 3 = k by rw [HG.out, HD.out, run_no (by rw [hc]; decide)]; omega)
        clear hc
        go_wp2_with (go_at_call 94; refine (class_is hb HC.out _).mono ?_; rintro e w' ⟨rfl, rfl⟩)
        (try rw [Exit.noGoto_ret])
        go_ret
        exact endPost HF.out
      · have HC := Lib.hid hc
        have HF := Lib.hid (show endLen s.data.toList 3 = k by rw [HG.out, HD.out, run_no (by rw [hc]; decide)]; omega)
        clear hc
        go_wp2_with (go_at_call 94; refine (class_is hb HC.out _).mono ?_; rintro e w' ⟨rfl, rfl⟩)
        (try rw [Exit.noGoto_ret])
        go_ret
        exact endPost HF.out
    · have HF := Lib.hid (show endLen s.data.toList 3 = k by rw [HG.out, drop_end hlt]; rfl)
      go_wp2
      (try rw [Exit.noGoto_ret])
      go_ret
      exact endPost HF.out
set_option maxHeartbeats 4000000 in
theorem end_4 (s : ByteArray) (h0 : 0 < s.size) (hs : s.size ≤ 9223372036854775807) (w : World) : Calls Tryz.prog 97 #[.string s, .int .i64 4] w (EndPost s.data.toList 4 w) := by
  go_enter Tryz.func97, Tryz.ntmps97
  go_wp2
  go_step3
  go_wp2_with fail
  (try go_step3)
  go_wp2_with fail
  go_loopg [5] (s.size - 1) (fun j i wr => ∃ k : Nat, 1 ≤ k ∧ j + k = s.size ∧ i = .int .i64 k ∧ endLen s.data.toList 4 = k + runR 4 (s.data.toList.drop k) ∧ wr = w)
  case atStart => exact ⟨1, by omega, by omega, rfl, rfl, rfl⟩
  case round =>
    obtain ⟨k, h1, hk, rfl, hg, rfl⟩ := hrel
    have HK := Lib.hid hk
    have HG := Lib.hid hg
    have hle : k ≤ s.size := by omega
    clear hk hg
    by_cases hlt : k < s.size
    · have hb := UInt8.toNat_lt s[k]
      have HD := Lib.hid (drop_cons hlt)
      rcases cls_cases s[k].toNat with hc | hc | hc | hc | hc | hc | hc | hc
      · have HC := Lib.hid hc
        have HF := Lib.hid (show endLen s.data.toList 4 = k by rw [HG.out, HD.out, run_no (by rw [hc]; decide)]; omega)
        clear hc
        go_wp2_with (go_at_call 94; refine (class_is hb HC.out _).mono ?_; rintro e w' ⟨rfl, rfl⟩)
        (try rw [Exit.noGoto_ret])
        go_ret
        exact endPost HF.out
      · have HC := Lib.hid hc
        have HF := Lib.hid (show endLen s.data.toList 4 = k by rw [HG.out, HD.out, run_no (by rw [hc]; decide)]; omega)
        clear hc
        go_wp2_with (go_at_call 94; refine (class_is hb HC.out _).mono ?_; rintro e w' ⟨rfl, rfl⟩)
        (try rw [Exit.noGoto_ret])
        go_ret
        exact endPost HF.out
      · have HC := Lib.hid hc
        have HF := Lib.hid (show endLen s.data.toList 4 = k by rw [HG.out, HD.out, run_no (by rw [hc]; decide)]; omega)
        clear hc
        go_wp2_with (go_at_call 94; refine (class_is hb HC.out _).mono ?_; rintro e w' ⟨rfl, rfl⟩)
        (try rw [Exit.noGoto_ret])
        go_ret
        exact endPost HF.out
      · have HC := Lib.hid hc
        have HF := Lib.hid (show endLen s.data.toList 4 = k by rw [HG.out, HD.out, run_no (by rw [hc]; decide)]; omega)
        clear hc
        go_wp2_with (go_at_call 94; refine (class_is hb HC.out _).mono ?_; rintro e w' ⟨rfl, rfl⟩)
        (try rw [Exit.noGoto_ret])
        go_ret
        exact endPost HF.out
      · have HC := Lib.hid hc
        have HN := Lib.hid (show endLen s.data.toList 4 = (k + 1 : Nat) + runR 4 (s.data.toList.drop (k + 1)) by
          rw [HG.out, HD.out, run_yes (by rw [hc]; decide)]; omega)
        clear hc
        go_wp2_with (go_at_call 94; refine (class_is hb HC.out _).mono ?_; rintro e w' ⟨rfl, rfl⟩)
        go_roundg (s.size - (k + 1))
        case measure => have := HK.out; omega
        case rel => exact ⟨k + 1, by omega, by omega, by go_num, HN.out, rfl⟩
      · have HC := Lib.hid hc
        have HF := Lib.hid (show endLen s.data.toList 4 = k by rw [HG.out, HD.out, run_no (by rw [hc]; decide)]; omega)
        clear hc
        go_wp2_with (go_at_call 94; refine (class_is hb HC.out _).mono ?_; rintro e w' ⟨rfl, rfl⟩)
        (try rw [Exit.noGoto_ret])
        go_ret
        exact endPost HF.out
      · have HC := Lib.hid hc
        have HF := Lib.hid (show endLen s.data.toList 4 = k by rw [HG.out, HD.out, run_no (by rw [hc]; decide)]; omega)
        clear hc
        go_wp2_with (go_at_call 94; refine (class_is hb HC.out _).mono ?_; rintro e w' ⟨rfl, rfl⟩)
        (try rw [Exit.noGoto_ret])
        go_ret
        exact endPost HF.out
      · have HC := Lib.hid hc
        have HF := Lib.hid (show endLen s.data.toList 4 = k by rw [HG.out, HD.out, run_no (by rw [hc]; decide)]; omega)
        clear hc
        go_wp2_with (go_at_call 94; refine (class_is hb HC.out _).mono ?_; rintro e w' ⟨rfl, rfl⟩)
        (try rw [Exit.noGoto_ret])
        go_ret
        exact endPost HF.out
    · have HF := Lib.hid (show endLen s.data.toList 4 = k by rw [HG.out, drop_end hlt]; rfl)
      go_wp2
      (try rw [Exit.noGoto_ret])
      go_ret
      exact endPost HF.out
set_option maxHeartbeats 4000000 in
theorem end_6 (s : ByteArray) (h0 : 0 < s.size) (hs : s.size ≤ 9223372036854775807) (w : World) : Calls Tryz.prog 97 #[.string s, .int .i64 6] w (EndPost s.data.toList 6 w) := by
  go_enter Tryz.func97, Tryz.ntmps97
  go_wp2
  go_step3
  go_wp2_with fail
  (try go_step3)
  go_wp2_with fail
  go_loopg [5] (s.size - 1) (fun j i wr => ∃ k : Nat, 1 ≤ k ∧ j + k = s.size ∧ i = .int .i64 k ∧ endLen s.data.toList 6 = k + runR 6 (s.data.toList.drop k) ∧ wr = w)
  case atStart => exact ⟨1, by omega, by omega, rfl, rfl, rfl⟩
  case round =>
    obtain ⟨k, h1, hk, rfl, hg, rfl⟩ := hrel
    have HK := Lib.hid hk
    have HG := Lib.hid hg
    have hle : k ≤ s.size := by omega
    clear hk hg
    by_cases hlt : k < s.size
    · have hb := UInt8.toNat_lt s[k]
      have HD := Lib.hid (drop_cons hlt)
      rcases cls_cases s[k].toNat with hc | hc | hc | hc | hc | hc | hc | hc
      · have HC := Lib.hid hc
        have HF := Lib.hid (show endLen s.data.toList 6 = k by rw [HG.out, HD.out, run_no (by rw [hc]; decide)]; omega)
        clear hc
        go_wp2_with (go_at_call 94; refine (class_is hb HC.out _).mono ?_; rintro e w' ⟨rfl, rfl⟩)
        (try rw [Exit.noGoto_ret])
        go_ret
        exact endPost HF.out
      · have HC := Lib.hid hc
        have HF := Lib.hid (show endLen s.data.toList 6 = k by rw [HG.out, HD.out, run_no (by rw [hc]; decide)]; omega)
        clear hc
        go_wp2_with (go_at_call 94; refine (class_is hb HC.out _).mono ?_; rintro e w' ⟨rfl, rfl⟩)
        (try rw [Exit.noGoto_ret])
        go_ret
        exact endPost HF.out
      · have HC := Lib.hid hc
        have HF := Lib.hid (show endLen s.data.toList 6 = k by rw [HG.out, HD.out, run_no (by rw [hc]; decide)]; omega)
        clear hc
        go_wp2_with (go_at_call 94; refine (class_is hb HC.out _).mono ?_; rintro e w' ⟨rfl, rfl⟩)
        (try rw [Exit.noGoto_ret])
        go_ret
        exact endPost HF.out
      · have HC := Lib.hid hc
        have HF := Lib.hid (show endLen s.data.toList 6 = k by rw [HG.out, HD.out, run_no (by rw [hc]; decide)]; omega)
        clear hc
        go_wp2_with (go_at_call 94; refine (class_is hb HC.out _).mono ?_; rintro e w' ⟨rfl, rfl⟩)
        (try rw [Exit.noGoto_ret])
        go_ret
        exact endPost HF.out
      · have HC := Lib.hid hc
        have HF := Lib.hid (show endLen s.data.toList 6 = k by rw [HG.out, HD.out, run_no (by rw [hc]; decide)]; omega)
        clear hc
        go_wp2_with (go_at_call 94; refine (class_is hb HC.out _).mono ?_; rintro e w' ⟨rfl, rfl⟩)
        (try rw [Exit.noGoto_ret])
        go_ret
        exact endPost HF.out
      · have HC := Lib.hid hc
        have HF := Lib.hid (show endLen s.data.toList 6 = k by rw [HG.out, HD.out, run_no (by rw [hc]; decide)]; omega)
        clear hc
        go_wp2_with (go_at_call 94; refine (class_is hb HC.out _).mono ?_; rintro e w' ⟨rfl, rfl⟩)
        (try rw [Exit.noGoto_ret])
        go_ret
        exact endPost HF.out
      · have HC := Lib.hid hc
        have HF := Lib.hid (show endLen s.data.toList 6 = k by rw [HG.out, HD.out, run_no (by rw [hc]; decide)]; omega)
        clear hc
        go_wp2_with (go_at_call 94; refine (class_is hb HC.out _).mono ?_; rintro e w' ⟨rfl, rfl⟩)
        (try rw [Exit.noGoto_ret])
        go_ret
        exact endPost HF.out
      · have HC := Lib.hid hc
        have HF := Lib.hid (show endLen s.data.toList 6 = k by rw [HG.out, HD.out, run_no (by rw [hc]; decide)]; omega)
        clear hc
        go_wp2_with (go_at_call 94; refine (class_is hb HC.out _).mono ?_; rintro e w' ⟨rfl, rfl⟩)
        (try rw [Exit.noGoto_ret])
        go_ret
        exact endPost HF.out
    · have HF := Lib.hid (show endLen s.data.toList 6 = k by rw [HG.out, drop_end hlt]; rfl)
      go_wp2
      (try rw [Exit.noGoto_ret])
      go_ret
      exact endPost HF.out
set_option maxHeartbeats 4000000 in
theorem end_7 (s : ByteArray) (h0 : 0 < s.size) (hs : s.size ≤ 9223372036854775807) (w : World) : Calls Tryz.prog 97 #[.string s, .int .i64 7] w (EndPost s.data.toList 7 w) := by
  go_enter Tryz.func97, Tryz.ntmps97
  go_wp2
  go_step3
  go_wp2_with fail
  (try go_step3)
  go_wp2_with fail
  go_loopg [5] (s.size - 1) (fun j i wr => ∃ k : Nat, 1 ≤ k ∧ j + k = s.size ∧ i = .int .i64 k ∧ endLen s.data.toList 7 = k + runR 7 (s.data.toList.drop k) ∧ wr = w)
  case atStart => exact ⟨1, by omega, by omega, rfl, rfl, rfl⟩
  case round =>
    obtain ⟨k, h1, hk, rfl, hg, rfl⟩ := hrel
    have HK := Lib.hid hk
    have HG := Lib.hid hg
    have hle : k ≤ s.size := by omega
    clear hk hg
    by_cases hlt : k < s.size
    · have hb := UInt8.toNat_lt s[k]
      have HD := Lib.hid (drop_cons hlt)
      rcases cls_cases s[k].toNat with hc | hc | hc | hc | hc | hc | hc | hc
      · have HC := Lib.hid hc
        have HF := Lib.hid (show endLen s.data.toList 7 = k by rw [HG.out, HD.out, run_no (by rw [hc]; decide)]; omega)
        clear hc
        go_wp2_with (go_at_call 94; refine (class_is hb HC.out _).mono ?_; rintro e w' ⟨rfl, rfl⟩)
        (try rw [Exit.noGoto_ret])
        go_ret
        exact endPost HF.out
      · have HC := Lib.hid hc
        have HF := Lib.hid (show endLen s.data.toList 7 = k by rw [HG.out, HD.out, run_no (by rw [hc]; decide)]; omega)
        clear hc
        go_wp2_with (go_at_call 94; refine (class_is hb HC.out _).mono ?_; rintro e w' ⟨rfl, rfl⟩)
        (try rw [Exit.noGoto_ret])
        go_ret
        exact endPost HF.out
      · have HC := Lib.hid hc
        have HF := Lib.hid (show endLen s.data.toList 7 = k by rw [HG.out, HD.out, run_no (by rw [hc]; decide)]; omega)
        clear hc
        go_wp2_with (go_at_call 94; refine (class_is hb HC.out _).mono ?_; rintro e w' ⟨rfl, rfl⟩)
        (try rw [Exit.noGoto_ret])
        go_ret
        exact endPost HF.out
      · have HC := Lib.hid hc
        have HF := Lib.hid (show endLen s.data.toList 7 = k by rw [HG.out, HD.out, run_no (by rw [hc]; decide)]; omega)
        clear hc
        go_wp2_with (go_at_call 94; refine (class_is hb HC.out _).mono ?_; rintro e w' ⟨rfl, rfl⟩)
        (try rw [Exit.noGoto_ret])
        go_ret
        exact endPost HF.out
      · have HC := Lib.hid hc
        have HF := Lib.hid (show endLen s.data.toList 7 = k by rw [HG.out, HD.out, run_no (by rw [hc]; decide)]; omega)
        clear hc
        go_wp2_with (go_at_call 94; refine (class_is hb HC.out _).mono ?_; rintro e w' ⟨rfl, rfl⟩)
        (try rw [Exit.noGoto_ret])
        go_ret
        exact endPost HF.out
      · have HC := Lib.hid hc
        have HF := Lib.hid (show endLen s.data.toList 7 = k by rw [HG.out, HD.out, run_no (by rw [hc]; decide)]; omega)
        clear hc
        go_wp2_with (go_at_call 94; refine (class_is hb HC.out _).mono ?_; rintro e w' ⟨rfl, rfl⟩)
        (try rw [Exit.noGoto_ret])
        go_ret
        exact endPost HF.out
      · have HC := Lib.hid hc
        have HF := Lib.hid (show endLen s.data.toList 7 = k by rw [HG.out, HD.out, run_no (by rw [hc]; decide)]; omega)
        clear hc
        go_wp2_with (go_at_call 94; refine (class_is hb HC.out _).mono ?_; rintro e w' ⟨rfl, rfl⟩)
        (try rw [Exit.noGoto_ret])
        go_ret
        exact endPost HF.out
      · have HC := Lib.hid hc
        have HN := Lib.hid (show endLen s.data.toList 7 = (k + 1 : Nat) + runR 7 (s.data.toList.drop (k + 1)) by
          rw [HG.out, HD.out, run_yes (by rw [hc]; decide)]; omega)
        clear hc
        go_wp2_with (go_at_call 94; refine (class_is hb HC.out _).mono ?_; rintro e w' ⟨rfl, rfl⟩)
        go_roundg (s.size - (k + 1))
        case measure => have := HK.out; omega
        case rel => exact ⟨k + 1, by omega, by omega, by go_num, HN.out, rfl⟩
    · have HF := Lib.hid (show endLen s.data.toList 7 = k by rw [HG.out, drop_end hlt]; rfl)
      go_wp2
      (try rw [Exit.noGoto_ret])
      go_ret
      exact endPost HF.out
theorem end_any (s : ByteArray) (c : Int) (h0 : 0 < s.size) (hs : s.size ≤ 9223372036854775807) (hc : c = 2 ∨ c = 3 ∨ c = 4 ∨ c = 6 ∨ c = 7) (w : World) : Calls Tryz.prog 97 #[.string s, .int .i64 c] w (EndPost s.data.toList c w) := by
  rcases hc with rfl | rfl | rfl | rfl | rfl
  · exact end_2 s h0 hs w
  · exact end_3 s h0 hs w
  · exact end_4 s h0 hs w
  · exact end_6 s h0 hs w
  · exact end_7 s h0 hs w
end Go.Proofs.YtdajihpfedbihaaGreat.Lx
