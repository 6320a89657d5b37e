/-
  CONTRACTS of layer lex: how many bytes of blanks a text begins with; where a token ends.
-/
import Derived.Test.YtidmclaaggoahaaLexA
import Derived.Test.YtidmclaaggoahaaShelf
import Derived.Lib.IndexBytes
import Derived.Deep.LoopGhost
namespace Go.Proofs.Ytidmclaaggoahaa.Lx
open Go.RowKit Pl Ar Dg Pa
set_option linter.unusedVariables false

theorem pre_any (s p : ByteArray) (w : World) : Calls Try.prog 31 #[.string s, .string p] w fun e w' => e = .returned (.bool (Lib.hasPrefix s.data.toList p.data.toList)) ∧ w = w' :=
  (Try.strings_HasPrefix s p w).mono fun e w' h => ⟨h.1, h.2.symm⟩
theorem suf_any (s p : ByteArray) (hs : s.size ≤ 9223372036854775807) (w : World) : Calls Try.prog 33 #[.string s, .string p] w fun e w' => e = .returned (.bool (Lib.hasSuffix s.data.toList p.data.toList)) ∧ w = w' :=
  (Try.strings_HasSuffix s p w hs).mono fun e w' h => ⟨h.1, h.2.symm⟩
theorem class_is {c : Nat} {n : Int} (h : c < 256) (hn : cls c = n) (w : World) : Calls Try.prog 32 #[.int .u8 c] w fun e w' => e = .returned (.int .i64 n) ∧ w = w' := by
  have g := class_any c h w
  unfold ClsPost at g
  rw [hn] at g
  exact g

/-- blanks up to a line's end at most; in a remark all bytes are -/
def gapR (rm : Bool) : List UInt8 → Nat
  | [] => 0
  | c :: r => if c = 10 then 1 else if rm = false ∧ ¬ c = 32 then 0 else gapR rm r + 1
def isRem (l : List UInt8) : Bool := Lib.hasPrefix l [45, 45]
def gapLen (l : List UInt8) : Nat := gapR (isRem l) l
theorem drop_cons {s : ByteArray} {k : Nat} (h : k < s.size) : s.data.toList.drop k = s[k] :: s.data.toList.drop (k + 1) := by
  have hl : k < s.data.toList.length := by rw [← Lib.size_eq]; exact h
  rw [List.drop_eq_getElem_cons hl, get_data s k h]
theorem drop_end {s : ByteArray} {k : Nat} (h : ¬ k < s.size) : s.data.toList.drop k = [] := List.drop_of_length_le (by rw [← Lib.size_eq]; omega)
theorem gapR_line (rm : Bool) (r : List UInt8) : gapR rm (10 :: r) = 1 := by simp [gapR]
theorem gapR_stop {c : UInt8} (r : List UInt8) (h : ¬ c = 10) (h2 : ¬ c = 32) : gapR false (c :: r) = 0 := by simp [gapR, h, h2]
theorem gapR_rem {c : UInt8} (r : List UInt8) (h : ¬ c = 10) : gapR true (c :: r) = gapR true r + 1 := by simp [gapR, h]
theorem gapR_blank (rm : Bool) (r : List UInt8) : gapR rm (32 :: r) = gapR rm r + 1 := by
  show (if (32 : UInt8) = 10 then 1 else if rm = false ∧ ¬ (32 : UInt8) = 32 then 0 else gapR rm r + 1) = _
  rw [if_neg (by decide), if_neg (by simp)]
theorem cls_blank : cls 32 = 1 := by decide
theorem cls_no {c : Nat} (h : ¬ c = 10) (h2 : ¬ c = 32) : ¬ cls c = 1 := by unfold cls; (repeat' split) <;> omega
def GapPost (l : List UInt8) (w : World) (e : Ending) (w' : World) : Prop := e = .returned (.int .i64 (gapLen l : Nat)) ∧ w = w'
theorem gapPost {l : List UInt8} {n : Nat} {w : World} (h : gapLen l = n) : GapPost l w (.returned (.int .i64 (n : Int))) w := by unfold GapPost; rw [h]; exact ⟨rfl, rfl⟩
theorem u8_ne {c : UInt8} {n : Nat} (h : ¬ c.toNat = n) : ¬ c = UInt8.ofNat n ∨ 256 ≤ n := by
  by_cases hn : n < 256
  · left; intro e; rw [e] at h; exact h (by rw [UInt8.toNat_ofNat']; exact Nat.mod_eq_of_lt hn)
  · right; omega
set_option maxHeartbeats 2000000 in
theorem gap_any (s : ByteArray) (hs : s.size ≤ 9223372036854775807) (w : World) : Calls Try.prog 20 #[.string s] w (GapPost s.data.toList w) := by
  obtain ⟨rm, hrm⟩ : ∃ rm, isRem s.data.toList = rm := ⟨_, rfl⟩
  have HR := Lib.hid hrm
  clear hrm
  go_enter Try.func20, Try.ntmps20
  go_wp2
  go_step3
  go_wp2_with (go_at_call 31; refine (pre_any _ _ _).mono ?_; rw [show Lib.hasPrefix s.data.toList (⟨#[45, 45]⟩ : ByteArray).data.toList = rm from HR.out]; rintro e w' ⟨rfl, rfl⟩)
  go_step3
  go_wp2_with fail
  go_loopg [4] (s.size) (fun j i wr => ∃ k : Nat, j + k = s.size ∧ i = .int .i64 k ∧ gapR rm s.data.toList = k + gapR rm (s.data.toList.drop k) ∧ wr = w)
  case atStart => exact ⟨0, rfl, rfl, by simp, rfl⟩
  case round =>
    obtain ⟨k, hk, rfl, hg, rfl⟩ := hrel
    have HK := Lib.hid hk
    have HG := Lib.hid hg
    have hle : k ≤ s.size := by omega
    clear hk hg
    by_cases hlt : k < s.size
    · have hb := UInt8.toNat_lt s[k]
      have HD := Lib.hid (drop_cons hlt)
      by_cases c10 : s[k].toNat = 10
      · have HF := Lib.hid (show gapLen s.data.toList = k + 1 by
          unfold gapLen; rw [HR.out, HG.out, HD.out, show s[k] = 10 from UInt8.toNat_inj.1 c10, gapR_line])
        have d10 : ((s[k].toNat : Int) == 10) = true := beq_iff_eq.2 (by omega)
        clear c10
        go_wp2
        (try rw [Exit.noGoto_ret])
        go_ret
        exact gapPost HF.out
      · have d10 : ((s[k].toNat : Int) == 10) = false := beq_eq_false_iff_ne.2 (by omega)
        have n10 : ¬ s[k] = 10 := fun e => c10 (by rw [e]; rfl)
        cases rm
        · by_cases c32 : s[k].toNat = 32
          · have HC := Lib.hid (show cls s[k].toNat = 1 by rw [c32]; exact cls_blank)
            have HN := Lib.hid (show gapR false s.data.toList = (k + 1 : Nat) + gapR false (s.data.toList.drop (k + 1)) by
              rw [HG.out, HD.out, show s[k] = 32 from UInt8.toNat_inj.1 c32, gapR_blank]; omega)
            clear c10 c32 n10
            go_wp2_with (go_at_call 32; refine (class_is hb HC.out _).mono ?_; rintro e w' ⟨rfl, rfl⟩)
            go_roundg (s.size - (k + 1))
            case measure => have := HK.out; omega
            case rel => exact ⟨k + 1, by omega, by go_num, HN.out, rfl⟩
          · obtain ⟨m, hm⟩ : ∃ m, cls s[k].toNat = m := ⟨_, rfl⟩
            have hm1 : (m == 1) = false := beq_eq_false_iff_ne.2 (by rw [← hm]; exact cls_no c10 c32)
            have HC := Lib.hid hm
            have n32 : ¬ s[k] = 32 := fun e => c32 (by rw [e]; rfl)
            have HF := Lib.hid (show gapLen s.data.toList = k by
              unfold gapLen; rw [HR.out, HG.out, HD.out, gapR_stop _ n10 n32]; omega)
            clear c10 c32 hm n10 n32
            go_wp2_with (go_at_call 32; refine (class_is hb HC.out _).mono ?_; rintro e w' ⟨rfl, rfl⟩)
            (try rw [Exit.noGoto_ret])
            go_ret
            exact gapPost HF.out
        · have HN := Lib.hid (show gapR true s.data.toList = (k + 1 : Nat) + gapR true (s.data.toList.drop (k + 1)) by
            rw [HG.out, HD.out, gapR_rem _ n10]; omega)
          clear c10 n10
          go_wp2
          go_roundg (s.size - (k + 1))
          case measure => have := HK.out; omega
          case rel => exact ⟨k + 1, by omega, by go_num, HN.out, rfl⟩
    · have HF := Lib.hid (show gapLen s.data.toList = k by
        unfold gapLen; rw [HR.out, HG.out, drop_end hlt]; rfl)
      go_wp2
      (try rw [Exit.noGoto_ret])
      go_ret
      exact gapPost HF.out

/-- does a token that begins with a byte of class c go on with one of class n -/
def goes (c n : Int) : Bool := ((c == 2 || c == 3) && (n == 2 || n == 3 || n == 4 || n == 5)) || ((c == 4 || c == 7) && n == c)
def runR (c : Int) : List UInt8 → Nat
  | [] => 0
  | x :: r => if goes c (cls x.toNat) then runR c r + 1 else 0
def endLen (l : List UInt8) (c : Int) : Nat := 1 + runR c (l.drop 1)
theorem cls_cases (c : Nat) : cls c = 0 ∨ cls c = 1 ∨ cls c = 2 ∨ cls c = 3 ∨ cls c = 4 ∨ cls c = 5 ∨ cls c = 6 ∨ cls c = 7 := by unfold cls; (repeat' split) <;> omega
theorem run_yes {c : Int} {x : UInt8} {r : List UInt8} (h : goes c (cls x.toNat) = true) : runR c (x :: r) = runR c r + 1 := by simp [runR, h]
theorem run_no {c : Int} {x : UInt8} {r : List UInt8} (h : goes c (cls x.toNat) = false) : runR c (x :: r) = 0 := by simp [runR, h]
def EndPost (l : List UInt8) (c : Int) (w : World) (e : Ending) (w' : World) : Prop := e = .returned (.int .i64 (endLen l c : Nat)) ∧ w = w'
theorem endPost {l : List UInt8} {c : Int} {n : Nat} {w : World} (h : endLen l c = n) : EndPost l c w (.returned (.int .i64 (n : Int))) w := by unfold EndPost; rw [h]; exact ⟨rfl, rfl⟩
set_option maxHeartbeats 4000000 in
theorem end_2 (s : ByteArray) (h0 : 0 < s.size) (hs : s.size ≤ 9223372036854775807) (w : World) : Calls Try.prog 35 #[.string s, .int .i64 2] w (EndPost s.data.toList 2 w) := by
  go_enter Try.func35, Try.ntmps35
  go_wp2
  go_step3
  go_wp2_with fail
  (try go_step3)
  go_wp2_with fail
  go_loopg [5] (s.size - 1) (fun j i wr => ∃ k : Nat, 1 ≤ k ∧ j + k = s.size ∧ i = .int .i64 k ∧ endLen s.data.toList 2 = k + runR 2 (s.data.toList.drop k) ∧ wr = w)
  case atStart => exact ⟨1, by omega, by omega, rfl, rfl, rfl⟩
  case round =>
    obtain ⟨k, h1, hk, rfl, hg, rfl⟩ := hrel
    have HK := Lib.hid hk
    have HG := Lib.hid hg
    have hle : k ≤ s.size := by omega
    clear hk hg
    by_cases hlt : k < s.size
    · have hb := UInt8.toNat_lt s[k]
      have HD := Lib.hid (drop_cons hlt)
      rcases cls_cases s[k].toNat with hc | hc | hc | hc | hc | hc | hc | hc
      · have HC := Lib.hid hc
        have HF := Lib.hid (show endLen s.data.toList 2 = k by rw [HG.out, HD.out, run_no (by rw [hc]; decide)]; omega)
        clear hc
        go_wp2_with (go_at_call 32; refine (class_is hb HC.out _).mono ?_; rintro e w' ⟨rfl, rfl⟩)
        (try rw [Exit.noGoto_ret])
        go_ret
        exact endPost HF.out
      · have HC := Lib.hid hc
        have HF := Lib.hid (show endLen s.data.toList 2 = k by rw [HG.out, HD.out, run_no (by rw [hc]; decide)]; omega)
        clear hc
        go_wp2_with (go_at_call 32; refine (class_is hb HC.out _).mono ?_; rintro e w' ⟨rfl, rfl⟩)
        (try rw [Exit.noGoto_ret])
        go_ret
        exact endPost HF.out
      · have HC := Lib.hid hc
        have HN := Lib.hid (show endLen s.data.toList 2 = (k + 1 : Nat) + runR 2 (s.data.toList.drop (k + 1)) by
          rw [HG.out, HD.out, run_yes (by rw [hc]; decide)]; omega)
        clear hc
        go_wp2_with (go_at_call 32; refine (class_is hb HC.out _).mono ?_; rintro e w' ⟨rfl, rfl⟩)
        go_roundg (s.size - (k + 1))
        case measure => have := HK.out; omega
        case rel => exact ⟨k + 1, by omega, by omega, by go_num, HN.out, rfl⟩
      · have HC := Lib.hid hc
        have HN := Lib.hid (show endLen s.data.toList 2 = (k + 1 : Nat) + runR 2 (s.data.toList.drop (k + 1)) by
          rw [HG.out, HD.out, run_yes (by rw [hc]; decide)]; omega)
        clear hc
        go_wp2_with (go_at_call 32; refine (class_is hb HC.out _).mono ?_; rintro e w' ⟨rfl, rfl⟩)
        go_roundg (s.size - (k + 1))
        case measure => have := HK.out; omega
        case rel => exact ⟨k + 1, by omega, by omega, by go_num, HN.out, rfl⟩
      · have HC := Lib.hid hc
        have HN := Lib.hid (show endLen s.data.toList 2 = (k + 1 : Nat) + runR 2 (s.data.toList.drop (k + 1)) by
          rw [HG.out, HD.out, run_yes (by rw [hc]; decide)]; omega)
        clear hc
        go_wp2_with (go_at_call 32; refine (class_is hb HC.out _).mono ?_; rintro e w' ⟨rfl, rfl⟩)
        go_roundg (s.size - (k + 1))
        case measure => have := HK.out; omega
        case rel => exact ⟨k + 1, by omega, by omega, by go_num, HN.out, rfl⟩
      · have HC := Lib.hid hc
        have HN := Lib.hid (show endLen s.data.toList 2 = (k + 1 : Nat) + runR 2 (s.data.toList.drop (k + 1)) by
          rw [HG.out, HD.out, run_yes (by rw [hc]; decide)]; omega)
        clear hc
        go_wp2_with (go_at_call 32; refine (class_is hb HC.out _).mono ?_; rintro e w' ⟨rfl, rfl⟩)
        go_roundg (s.size - (k + 1))
        case measure => have := HK.out; omega
        case rel => exact ⟨k + 1, by omega, by omega, by go_num, HN.out, rfl⟩
      · have HC := Lib.hid hc
        have HF := Lib.hid (show endLen s.data.toList 2 = k by rw [HG.out, HD.out, run_no (by rw [hc]; decide)]; omega)
        clear hc
        go_wp2_with (go_at_call 32; refine (class_is hb HC.out _).mono ?_; rintro e w' ⟨rfl, rfl⟩)
        (try rw [Exit.noGoto_ret])
        go_ret
        exact endPost HF.out
      · have HC := Lib.hid hc
        have HF := Lib.hid (show endLen s.data.toList 2 = k by rw [HG.out, HD.out, run_no (by rw [hc]; decide)]; omega)
        clear hc
        go_wp2_with (go_at_call 32; refine (class_is hb HC.out _).mono ?_; rintro e w' ⟨rfl, rfl⟩)
        (try rw [Exit.noGoto_ret])
        go_ret
        exact endPost HF.out
    · have HF := Lib.hid (show endLen s.data.toList 2 = k by rw [HG.out, drop_end hlt]; rfl)
      go_wp2
      (try rw [Exit.noGoto_ret])
      go_ret
      exact endPost HF.out
set_option maxHeartbeats 4000000 in
theorem end_3 (s : ByteArray) (h0 : 0 < s.size) (hs : s.size ≤ 9223372036854775807) (w : World) : Calls Try.prog 35 #[.string s, .int .i64 3] w (EndPost s.data.toList 3 w) := by
  go_enter Try.func35, Try.ntmps35
  go_wp2
  go_step3
  go_wp2_with fail
  (try go_step3)
  go_wp2_with fail
  go_loopg [5] (s.size - 1) (fun j i wr => ∃ k : Nat, 1 ≤ k ∧ j + k = s.size ∧ i = .int .i64 k ∧ endLen s.data.toList 3 = k + runR 3 (s.data.toList.drop k) ∧ wr = w)
  case atStart => exact ⟨1, by omega, by omega, rfl, rfl, rfl⟩
  case round =>
    obtain ⟨k, h1, hk, rfl, hg, rfl⟩ := hrel
    have HK := Lib.hid hk
    have HG := Lib.hid hg
    have hle : k ≤ s.size := by omega
    clear hk hg
    by_cases hlt : k < s.size
    · have hb := UInt8.toNat_lt s[k]
      have HD := Lib.hid (drop_cons hlt)
      rcases cls_cases s[k].toNat with hc | hc | hc | hc | hc | hc | hc | hc
      · have HC := Lib.hid hc
        have HF := Lib.hid (show endLen s.data.toList 3 = k by rw [HG.out, HD.out, run_no (by rw [hc]; decide)]; omega)
        clear hc
        go_wp2_with (go_at_call 32; refine (class_is hb HC.out _).mono ?_; rintro e w' ⟨rfl, rfl⟩)
        (try rw [Exit.noGoto_ret])
        go_ret
        exact endPost HF.out
      · have HC := Lib.hid hc
        have HF := Lib.hid (show endLen s.data.toList 3 = k by rw [HG.out, HD.out, run_no (by rw [hc]; decide)]; omega)
        clear hc
        go_wp2_with (go_at_call 32; refine (class_is hb HC.out _).mono ?_; rintro e w' ⟨rfl, rfl⟩)
        (try rw [Exit.noGoto_ret])
        go_ret
        exact endPost HF.out
      · have HC := Lib.hid hc
        have HN := Lib.hid (show endLen s.data.toList 3 = (k + 1 : Nat) + runR 3 (s.data.toList.drop (k + 1)) by
          rw [HG.out, HD.out, run_yes (by rw [hc]; decide)]; omega)
        clear hc
        go_wp2_with (go_at_call 32; refine (class_is hb HC.out _).mono ?_; rintro e w' ⟨rfl, rfl⟩)
        go_roundg (s.size - (k + 1))
        case measure => have := HK.out; omega
        case rel => exact ⟨k + 1, by omega, by omega, by go_num, HN.out, rfl⟩
      · have HC := Lib.hid hc
        have HN := Lib.hid (show endLen s.data.toList 3 = (k + 1 : Nat) + runR 3 (s.data.toList.drop (k + 1)) by
          rw [HG.out, HD.out, run_yes (by rw [hc]; decide)]; omega)
        clear hc
        go_wp2_with (go_at_call 32; refine (class_is hb HC.out _).mono ?_; rintro e w' ⟨rfl, rfl⟩)
        go_roundg (s.size - (k + 1))
        case measure => have := HK.out; omega
        case rel => exact ⟨k + 1, by omega, by omega, by go_num, HN.out, rfl⟩
      · have HC := Lib.hid hc
        have HN := Lib.hid (show endLen s.data.toList 3 = (k + 1 : Nat) + runR 3 (s.data.toList.drop (k + 1)) by
          rw [HG.out, HD.out, run_yes (by rw [hc]; decide)]; omega)
        clear hc
        go_wp2_with (go_at_call 32; refine (class_is hb HC.out _).mono ?_; rintro e w' ⟨rfl, rfl⟩)
        go_roundg (s.size - (k + 1))
        case measure => have := HK.out; omega
        case rel => exact ⟨k + 1, by omega, by omega, by go_num, HN.out, rfl⟩
      · have HC := Lib.hid hc
        have HN := Lib.hid (show endLen s.data.toList 3 = (k + 1 : Nat) + runR 3 (s.data.toList.drop (k + 1)) by
          rw [HG.out, HD.out, run_yes (by rw [hc]; decide)]; omega)
        clear hc
        go_wp2_with (go_at_call 32; refine (class_is hb HC.out _).mono ?_; rintro e w' ⟨rfl, rfl⟩)
        go_roundg (s.size - (k + 1))
        case measure => have := HK.out; omega
        case rel => exact ⟨k + 1, by omega, by omega, by go_num, HN.out, rfl⟩
      · have HC := Lib.hid hc
        have HF := Lib.hid (show endLen s.data.toList 3 = k by rw [HG.out, HD.out, run_no (by rw [hc]; decide)]; omega)
        clear hc
        go_wp2_with (go_at_call 32; refine (class_is hb HC.out _).mono ?_; rintro e w' ⟨rfl, rfl⟩)
        (try rw [Exit.noGoto_ret])
        go_ret
        exact endPost HF.out
      · have HC := Lib.hid hc
        have HF := Lib.hid (show endLen s.data.toList 3 = k by rw [HG.out, HD.out, run_no (by rw [hc]; decide)]; omega)
        clear hc
        go_wp2_with (go_at_call 32; refine (class_is hb HC.out _).mono ?_; rintro e w' ⟨rfl, rfl⟩)
        (try rw [Exit.noGoto_ret])
        go_ret
        exact endPost HF.out
    · have HF := Lib.hid (show endLen s.data.toList 3 = k by rw [HG.out, drop_end hlt]; rfl)
      go_wp2
      (try rw [Exit.noGoto_ret])
      go_ret
      exact endPost HF.out
set_option maxHeartbeats 4000000 in
theorem end_4 (s : ByteArray) (h0 : 0 < s.size) (hs : s.size ≤ 9223372036854775807) (w : World) : Calls Try.prog 35 #[.string s, .int .i64 4] w (EndPost s.data.toList 4 w) := by
  go_enter Try.func35, Try.ntmps35
  go_wp2
  go_step3
  go_wp2_with fail
  (try go_step3)
  go_wp2_with fail
  go_loopg [5] (s.size - 1) (fun j i wr => ∃ k : Nat, 1 ≤ k ∧ j + k = s.size ∧ i = .int .i64 k ∧ endLen s.data.toList 4 = k + runR 4 (s.data.toList.drop k) ∧ wr = w)
  case atStart => exact ⟨1, by omega, by omega, rfl, rfl, rfl⟩
  case round =>
    obtain ⟨k, h1, hk, rfl, hg, rfl⟩ := hrel
    have HK := Lib.hid hk
    have HG := Lib.hid hg
    have hle : k ≤ s.size := by omega
    clear hk hg
    by_cases hlt : k < s.size
    · have hb := UInt8.toNat_lt s[k]
      have HD := Lib.hid (drop_cons hlt)
      rcases cls_cases s[k].toNat with hc | hc | hc | hc | hc | hc | hc | hc
      · have HC := Lib.hid hc
        have HF := Lib.hid (show endLen s.data.toList 4 = k by rw [HG.out, HD.out, run_no (by rw [hc]; decide)]; omega)
        clear hc
        go_wp2_with (go_at_call 32; refine (class_is hb HC.out _).mono ?_; rintro e w' ⟨rfl, rfl⟩)
        (try rw [Exit.noGoto_ret])
        go_ret
        exact endPost HF.out
      · have HC := Lib.hid hc
        have HF := Lib.hid (show endLen s.data.toList 4 = k by rw [HG.out, HD.out, run_no (by rw [hc]; decide)]; omega)
        clear hc
        go_wp2_with (go_at_call 32; refine (class_is hb HC.out _).mono ?_; rintro e w' ⟨rfl, rfl⟩)
        (try rw [Exit.noGoto_ret])
        go_ret
        exact endPost HF.out
      · have HC := Lib.hid hc
        have HF := Lib.hid (show endLen s.data.toList 4 = k by rw [HG.out, HD.out, run_no (by rw [hc]; decide)]; omega)
        clear hc
        go_wp2_with (go_at_call 32; refine (class_is hb HC.out _).mono ?_; rintro e w' ⟨rfl, rfl⟩)
        (try rw [Exit.noGoto_ret])
        go_ret
        exact endPost HF.out
      · have HC := Lib.hid hc
        have HF := Lib.hid (show endLen s.data.toList 4 = k by rw [HG.out, HD.out, run_no (by rw [hc]; decide)]; omega)
        clear hc
        go_wp2_with (go_at_call 32; refine (class_is hb HC.out _).mono ?_; rintro e w' ⟨rfl, rfl⟩)
        (try rw [Exit.noGoto_ret])
        go_ret
        exact endPost HF.out
      · have HC := Lib.hid hc
        have HN := Lib.hid (show endLen s.data.toList 4 = (k + 1 : Nat) + runR 4 (s.data.toList.drop (k + 1)) by
          rw [HG.out, HD.out, run_yes (by rw [hc]; decide)]; omega)
        clear hc
        go_wp2_with (go_at_call 32; refine (class_is hb HC.out _).mono ?_; rintro e w' ⟨rfl, rfl⟩)
        go_roundg (s.size - (k + 1))
        case measure => have := HK.out; omega
        case rel => exact ⟨k + 1, by omega, by omega, by go_num, HN.out, rfl⟩
      · have HC := Lib.hid hc
        have HF := Lib.hid (show endLen s.data.toList 4 = k by rw [HG.out, HD.out, run_no (by rw [hc]; decide)]; omega)
        clear hc
        go_wp2_with (go_at_call 32; refine (class_is hb HC.out _).mono ?_; rintro e w' ⟨rfl, rfl⟩)
        (try rw [Exit.noGoto_ret])
        go_ret
        exact endPost HF.out
      · have HC := Lib.hid hc
        have HF := Lib.hid (show endLen s.data.toList 4 = k by rw [HG.out, HD.out, run_no (by rw [hc]; decide)]; omega)
        clear hc
        go_wp2_with (go_at_call 32; refine (class_is hb HC.out _).mono ?_; rintro e w' ⟨rfl, rfl⟩)
        (try rw [Exit.noGoto_ret])
        go_ret
        exact endPost HF.out
      · have HC := Lib.hid hc
        have HF := Lib.hid (show endLen s.data.toList 4 = k by rw [HG.out, HD.out, run_no (by rw [hc]; decide)]; omega)
        clear hc
        go_wp2_with (go_at_call 32; refine (class_is hb HC.out _).mono ?_; rintro e w' ⟨rfl, rfl⟩)
        (try rw [Exit.noGoto_ret])
        go_ret
        exact endPost HF.out
    · have HF := Lib.hid (show endLen s.data.toList 4 = k by rw [HG.out, drop_end hlt]; rfl)
      go_wp2
      (try rw [Exit.noGoto_ret])
      go_ret
      exact endPost HF.out
set_option maxHeartbeats 4000000 in
theorem end_6 (s : ByteArray) (h0 : 0 < s.size) (hs : s.size ≤ 9223372036854775807) (w : World) : Calls Try.prog 35 #[.string s, .int .i64 6] w (EndPost s.data.toList 6 w) := by
  go_enter Try.func35, Try.ntmps35
  go_wp2
  go_step3
  go_wp2_with fail
  (try go_step3)
  go_wp2_with fail
  go_loopg [5] (s.size - 1) (fun j i wr => ∃ k : Nat, 1 ≤ k ∧ j + k = s.size ∧ i = .int .i64 k ∧ endLen s.data.toList 6 = k + runR 6 (s.data.toList.drop k) ∧ wr = w)
  case atStart => exact ⟨1, by omega, by omega, rfl, rfl, rfl⟩
  case round =>
    obtain ⟨k, h1, hk, rfl, hg, rfl⟩ := hrel
    have HK := Lib.hid hk
    have HG := Lib.hid hg
    have hle : k ≤ s.size := by omega
    clear hk hg
    by_cases hlt : k < s.size
    · have hb := UInt8.toNat_lt s[k]
      have HD := Lib.hid (drop_cons hlt)
      rcases cls_cases s[k].toNat with hc | hc | hc | hc | hc | hc | hc | hc
      · have HC := Lib.hid hc
        have HF := Lib.hid (show endLen s.data.toList 6 = k by rw [HG.out, HD.out, run_no (by rw [hc]; decide)]; omega)
        clear hc
        go_wp2_with (go_at_call 32; refine (class_is hb HC.out _).mono ?_; rintro e w' ⟨rfl, rfl⟩)
        (try rw [Exit.noGoto_ret])
        go_ret
        exact endPost HF.out
      · have HC := Lib.hid hc
        have HF := Lib.hid (show endLen s.data.toList 6 = k by rw [HG.out, HD.out, run_no (by rw [hc]; decide)]; omega)
        clear hc
        go_wp2_with (go_at_call 32; refine (class_is hb HC.out _).mono ?_; rintro e w' ⟨rfl, rfl⟩)
        (try rw [Exit.noGoto_ret])
        go_ret
        exact endPost HF.out
      · have HC := Lib.hid hc
        have HF := Lib.hid (show endLen s.data.toList 6 = k by rw [HG.out, HD.out, run_no (by rw [hc]; decide)]; omega)
        clear hc
        go_wp2_with (go_at_call 32; refine (class_is hb HC.out _).mono ?_; rintro e w' ⟨rfl, rfl⟩)
        (try rw [Exit.noGoto_ret])
        go_ret
        exact endPost HF.out
      · have HC := Lib.hid hc
        have HF := Lib.hid (show endLen s.data.toList 6 = k by rw [HG.out, HD.out, run_no (by rw [hc]; decide)]; omega)
        clear hc
        go_wp2_with (go_at_call 32; refine (class_is hb HC.out _).mono ?_; rintro e w' ⟨rfl, rfl⟩)
        (try rw [Exit.noGoto_ret])
        go_ret
        exact endPost HF.out
      · have HC := Lib.hid hc
        have HF := Lib.hid (show endLen s.data.toList 6 = k by rw [HG.out, HD.out, run_no (by rw [hc]; decide)]; omega)
        clear hc
        go_wp2_with (go_at_call 32; refine (class_is hb HC.out _).mono ?_; rintro e w' ⟨rfl, rfl⟩)
        (try rw [Exit.noGoto_ret])
        go_ret
        exact endPost HF.out
      · have HC := Lib.hid hc
        have HF := Lib.hid (show endLen s.data.toList 6 = k by rw [HG.out, HD.out, run_no (by rw [hc]; decide)]; omega)
        clear hc
        go_wp2_with (go_at_call 32; refine (class_is hb HC.out _).mono ?_; rintro e w' ⟨rfl, rfl⟩)
        (try rw [Exit.noGoto_ret])
        go_ret
        exact endPost HF.out
      · have HC := Lib.hid hc
        have HF := Lib.hid (show endLen s.data.toList 6 = k by rw [HG.out, HD.out, run_no (by rw [hc]; decide)]; omega)
        clear hc
        go_wp2_with (go_at_call 32; refine (class_is hb HC.out _).mono ?_; rintro e w' ⟨rfl, rfl⟩)
        (try rw [Exit.noGoto_ret])
        go_ret
        exact endPost HF.out
      · have HC := Lib.hid hc
        have HF := Lib.hid (show endLen s.data.toList 6 = k by rw [HG.out, HD.out, run_no (by rw [hc]; decide)]; omega)
        clear hc
        go_wp2_with (go_at_call 32; refine (class_is hb HC.out _).mono ?_; rintro e w' ⟨rfl, rfl⟩)
        (try rw [Exit.noGoto_ret])
        go_ret
        exact endPost HF.out
    · have HF := Lib.hid (show endLen s.data.toList 6 = k by rw [HG.out, drop_end hlt]; rfl)
      go_wp2
      (try rw [Exit.noGoto_ret])
      go_ret
      exact endPost HF.out
set_option maxHeartbeats 4000000 in
theorem end_7 (s : ByteArray) (h0 : 0 < s.size) (hs : s.size ≤ 9223372036854775807) (w : World) : Calls Try.prog 35 #[.string s, .int .i64 7] w (EndPost s.data.toList 7 w) := by
  go_enter Try.func35, Try.ntmps35
  go_wp2
  go_step3
  go_wp2_with fail
  (try go_step3)
  go_wp2_with fail
  go_loopg [5] (s.size - 1) (fun j i wr => ∃ k : Nat, 1 ≤ k ∧ j + k = s.size ∧ i = .int .i64 k ∧ endLen s.data.toList 7 = k + runR 7 (s.data.toList.drop k) ∧ wr = w)
  case atStart => exact ⟨1, by omega, by omega, rfl, rfl, rfl⟩
  case round =>
    obtain ⟨k, h1, hk, rfl, hg, rfl⟩ := hrel
    have HK := Lib.hid hk
    have HG := Lib.hid hg
    have hle : k ≤ s.size := by omega
    clear hk hg
    by_cases hlt : k < s.size
    · have hb := UInt8.toNat_lt s[k]
      have HD := Lib.hid (drop_cons hlt)
      rcases cls_cases s[k].toNat with hc | hc | hc | hc | hc | hc | hc | hc
      · have HC := Lib.hid hc
        have HF := Lib.hid (show endLen s.data.toList 7 = k by rw [HG.out, HD.out, run_no (by rw [hc]; decide)]; omega)
        clear hc
        go_wp2_with (go_at_call 32; refine (class_is hb HC.out _).mono ?_; rintro e w' ⟨rfl, rfl⟩)
        (try rw [Exit.noGoto_ret])
        go_ret
        exact endPost HF.out
      · have HC := Lib.hid hc
        have HF := Lib.hid (show endLen s.data.toList 7 = k by rw [HG.out, HD.out, run_no (by rw [hc]; decide)]; omega)
        clear hc
        go_wp2_with (go_at_call 32; refine (class_is hb HC.out _).mono ?_; rintro e w' ⟨rfl, rfl⟩)
        (try rw [Exit.noGoto_ret])
        go_ret
        exact endPost HF.out
      · have HC := Lib.hid hc
        have HF := Lib.hid (show endLen s.data.toList 7 = k by rw [HG.out, HD.out, run_no (by rw [hc]; decide)]; omega)
        clear hc
        go_wp2_with (go_at_call 32; refine (class_is hb HC.out _).mono ?_; rintro e w' ⟨rfl, rfl⟩)
        (try rw [Exit.noGoto_ret])
        go_ret
        exact endPost HF.out
      · have HC := Lib.hid hc
        have HF := Lib.hid (show endLen s.data.toList 7 = k by rw [HG.out, HD.out, run_no (by rw [hc]; decide)]; omega)
        clear hc
        go_wp2_with (go_at_call 32; refine (class_is hb HC.out _).mono ?_; rintro e w' ⟨rfl, rfl⟩)
        (try rw [Exit.noGoto_ret])
        go_ret
        exact endPost HF.out
      · have HC := Lib.hid hc
        have HF := Lib.hid (show endLen s.data.toList 7 = k by rw [HG.out, HD.out, run_no (by rw [hc]; decide)]; omega)
        clear hc
        go_wp2_with (go_at_call 32; refine (class_is hb HC.out _).mono ?_; rintro e w' ⟨rfl, rfl⟩)
        (try rw [Exit.noGoto_ret])
        go_ret
        exact endPost HF.out
      · have HC := Lib.hid hc
        have HF := Lib.hid (show endLen s.data.toList 7 = k by rw [HG.out, HD.out, run_no (by rw [hc]; decide)]; omega)
        clear hc
        go_wp2_with (go_at_call 32; refine (class_is hb HC.out _).mono ?_; rintro e w' ⟨rfl, rfl⟩)
        (try rw [Exit.noGoto_ret])
        go_ret
        exact endPost HF.out
      · have HC := Lib.hid hc
        have HF := Lib.hid (show endLen s.data.toList 7 = k by rw [HG.out, HD.out, run_no (by rw [hc]; decide)]; omega)
        clear hc
        go_wp2_with (go_at_call 32; refine (class_is hb HC.out _).mono ?_; rintro e w' ⟨rfl, rfl⟩)
        (try rw [Exit.noGoto_ret])
        go_ret
        exact endPost HF.out
      · have HC := Lib.hid hc
        have HN := Lib.hid (show endLen s.data.toList 7 = (k + 1 : Nat) + runR 7 (s.data.toList.drop (k + 1)) by
          rw [HG.out, HD.out, run_yes (by rw [hc]; decide)]; omega)
        clear hc
        go_wp2_with (go_at_call 32; refine (class_is hb HC.out _).mono ?_; rintro e w' ⟨rfl, rfl⟩)
        go_roundg (s.size - (k + 1))
        case measure => have := HK.out; omega
        case rel => exact ⟨k + 1, by omega, by omega, by go_num, HN.out, rfl⟩
    · have HF := Lib.hid (show endLen s.data.toList 7 = k by rw [HG.out, drop_end hlt]; rfl)
      go_wp2
      (try rw [Exit.noGoto_ret])
      go_ret
      exact endPost HF.out
theorem end_any (s : ByteArray) (c : Int) (h0 : 0 < s.size) (hs : s.size ≤ 9223372036854775807) (hc : c = 2 ∨ c = 3 ∨ c = 4 ∨ c = 6 ∨ c = 7) (w : World) : Calls Try.prog 35 #[.string s, .int .i64 c] w (EndPost s.data.toList c w) := by
  rcases hc with rfl | rfl | rfl | rfl | rfl
  · exact end_2 s h0 hs w
  · exact end_3 s h0 hs w
  · exact end_4 s h0 hs w
  · exact end_6 s h0 hs w
  · exact end_7 s h0 hs w
end Go.Proofs.Ytidmclaaggoahaa.Lx
