/-
  CONTRACTS of the document's own layer lex: how long the first token is; its kind; its number.
-/
import Derived.Test.YtigidagcpjmjnaaLexRefB
namespace Go.Proofs.Ytigidagcpjmjnaa.Lx
open Go.RowKit Pl Ar Dg Pa
set_option linter.unusedVariables false
set_option linter.unusedSimpArgs false
theorem mark_any {q : Bool} (c : Nat) (h : c < 256) (hq : decide (cls c = 6) = q) (w : World) : Calls Try.prog 35 #[.int .u8 c, .string ⟨#[40, 41, 123, 125, 59, 92]⟩] w fun e w' => e = .returned (.bool q) ∧ w = w' := by
  rw [← hq]
  exact in_any (q := decide (cls c = 6)) c h _ (by decide) (by rw [decide_eq_true_iff, cls6]; simp; omega) w
theorem inner_is {c : Nat} {q : Bool} (h : c < 256) (hq : decide (innerP (cls c)) = q) (w : World) : Calls Try.prog 38 #[.int .u8 c] w fun e w' => e = .returned (.bool q) ∧ w = w' := by rw [← hq]; exact inner_any c h w
/-- how many bytes the first token has, 0: none begins -/
def lenOf (l : List UInt8) : Nat := if hcls l = 0 ∨ hcls l = 1 ∨ hcls l = 5 then 0 else endLen l (hcls l)
def LenPost (l : List UInt8) (w : World) (e : Ending) (w' : World) : Prop := e = .returned (.int .i64 (lenOf l : Nat)) ∧ w = w'
theorem lenPost {l : List UInt8} {n : Nat} {w : World} (h : lenOf l = n) : LenPost l w (.returned (.int .i64 (n : Int))) w := by unfold LenPost; rw [h]; exact ⟨rfl, rfl⟩

set_option maxHeartbeats 4000000 in
theorem length_0 (s : ByteArray) (h0 : 0 < s.size) (hs : s.size ≤ 1000000000) (hcl : cls s[0].toNat = 0) (w : World) : Calls Try.prog 23 #[.string s] w (LenPost s.data.toList w) := by
  have hb := UInt8.toNat_lt s[0]
  have HC := Lib.hid hcl
  have HH := Lib.hid (show hcls s.data.toList = 0 by rw [hcls_get h0]; exact hcl)
  have h0' : (0 : Int) < s.size := by omega
  clear hcl
  go_enter Try.func23, Try.ntmps23
  go_wp2_with fail
  refine (mark_any (q := false) _ hb (by rw [HC.out]; decide) _).mono ?_
  rintro e w' ⟨rfl, rfl⟩
  go_wp2_with fail
  refine (cls_is (q := false) (by rw [HC.out]; decide) (small_any _ hb _)).mono ?_
  rintro e w' ⟨rfl, rfl⟩
  go_wp2_with fail
  refine (cls_is (q := false) (by rw [HC.out]; decide) (large_any _ hb _)).mono ?_
  rintro e w' ⟨rfl, rfl⟩
  go_wp2_with fail
  refine (cls_is (q := false) (by rw [HC.out]; decide) (digit_any _ hb _)).mono ?_
  rintro e w' ⟨rfl, rfl⟩
  go_wp2_with fail
  refine (cls_is (q := false) (by rw [HC.out]; decide) (sign_any _ hb _)).mono ?_
  rintro e w' ⟨rfl, rfl⟩
  go_wp2
  go_ret
  exact lenPost (by unfold lenOf; rw [HH.out, if_pos (by decide)])
set_option maxHeartbeats 4000000 in
theorem length_1 (s : ByteArray) (h0 : 0 < s.size) (hs : s.size ≤ 1000000000) (hcl : cls s[0].toNat = 1) (w : World) : Calls Try.prog 23 #[.string s] w (LenPost s.data.toList w) := by
  have hb := UInt8.toNat_lt s[0]
  have HC := Lib.hid hcl
  have HH := Lib.hid (show hcls s.data.toList = 1 by rw [hcls_get h0]; exact hcl)
  have h0' : (0 : Int) < s.size := by omega
  clear hcl
  go_enter Try.func23, Try.ntmps23
  go_wp2_with fail
  refine (mark_any (q := false) _ hb (by rw [HC.out]; decide) _).mono ?_
  rintro e w' ⟨rfl, rfl⟩
  go_wp2_with fail
  refine (cls_is (q := false) (by rw [HC.out]; decide) (small_any _ hb _)).mono ?_
  rintro e w' ⟨rfl, rfl⟩
  go_wp2_with fail
  refine (cls_is (q := false) (by rw [HC.out]; decide) (large_any _ hb _)).mono ?_
  rintro e w' ⟨rfl, rfl⟩
  go_wp2_with fail
  refine (cls_is (q := false) (by rw [HC.out]; decide) (digit_any _ hb _)).mono ?_
  rintro e w' ⟨rfl, rfl⟩
  go_wp2_with fail
  refine (cls_is (q := false) (by rw [HC.out]; decide) (sign_any _ hb _)).mono ?_
  rintro e w' ⟨rfl, rfl⟩
  go_wp2
  go_ret
  exact lenPost (by unfold lenOf; rw [HH.out, if_pos (by decide)])
set_option maxHeartbeats 4000000 in
theorem length_2 (s : ByteArray) (h0 : 0 < s.size) (hs : s.size ≤ 1000000000) (hcl : cls s[0].toNat = 2) (w : World) : Calls Try.prog 23 #[.string s] w (LenPost s.data.toList w) := by
  have hb := UInt8.toNat_lt s[0]
  have HC := Lib.hid hcl
  have HH := Lib.hid (show hcls s.data.toList = 2 by rw [hcls_get h0]; exact hcl)
  have h0' : (0 : Int) < s.size := by omega
  clear hcl
  go_enter Try.func23, Try.ntmps23
  go_wp2_with fail
  refine (mark_any (q := false) _ hb (by rw [HC.out]; decide) _).mono ?_
  rintro e w' ⟨rfl, rfl⟩
  go_wp2_with fail
  refine (cls_is (q := true) (by rw [HC.out]; decide) (small_any _ hb _)).mono ?_
  rintro e w' ⟨rfl, rfl⟩
  go_wp2_with fail
  go_loop [3] (fun i => ∃ k : Nat, 1 ≤ k ∧ k ≤ s.size ∧ i = .int .i64 k ∧ endLen s.data.toList 2 = k + runR 2 (s.data.toList.drop k)) (fun i => s.size - (intOf i).toNat)
  case atStart => exact ⟨1, by omega, by omega, rfl, rfl⟩
  case round =>
    obtain ⟨k, h1, hle, rfl, hg⟩ := hrel
    have HG := Lib.hid hg
    clear hg
    by_cases hlt : k < s.size
    · have hlt' : (k : Int) < s.size := by omega
      have hbk := UInt8.toNat_lt s[k]
      have HD := Lib.hid (drop_cons hlt)
      rcases cls_cases s[k].toNat with hc | hc | hc | hc | hc | hc | hc | hc
      · have HCK := Lib.hid hc
        have HF := Lib.hid (show lenOf s.data.toList = k by unfold lenOf; rw [HH.out, if_neg (by decide), HG.out, HD.out, run_no (by rw [hc]; decide)]; omega)
        clear hc
        go_wp2_with fail
        refine (inner_is (q := false) hbk (by rw [HCK.out]; decide) _).mono ?_
        rintro e w' ⟨rfl, rfl⟩
        go_wp2
        go_ret
        exact lenPost HF.out
      · have HCK := Lib.hid hc
        have HF := Lib.hid (show lenOf s.data.toList = k by unfold lenOf; rw [HH.out, if_neg (by decide), HG.out, HD.out, run_no (by rw [hc]; decide)]; omega)
        clear hc
        go_wp2_with fail
        refine (inner_is (q := false) hbk (by rw [HCK.out]; decide) _).mono ?_
        rintro e w' ⟨rfl, rfl⟩
        go_wp2
        go_ret
        exact lenPost HF.out
      · have HCK := Lib.hid hc
        have HN := Lib.hid (show endLen s.data.toList 2 = (k + 1 : Nat) + runR 2 (s.data.toList.drop (k + 1)) by rw [HG.out, HD.out, run_yes (by rw [hc]; decide)]; omega)
        clear hc
        go_wp2_with fail
        refine (inner_is (q := true) hbk (by rw [HCK.out]; decide) _).mono ?_
        rintro e w' ⟨rfl, rfl⟩
        go_wp2
        go_round
        case rel => exact ⟨k + 1, by omega, by omega, by go_num, HN.out⟩
        case measure => simp [intOf]; omega
      · have HCK := Lib.hid hc
        have HN := Lib.hid (show endLen s.data.toList 2 = (k + 1 : Nat) + runR 2 (s.data.toList.drop (k + 1)) by rw [HG.out, HD.out, run_yes (by rw [hc]; decide)]; omega)
        clear hc
        go_wp2_with fail
        refine (inner_is (q := true) hbk (by rw [HCK.out]; decide) _).mono ?_
        rintro e w' ⟨rfl, rfl⟩
        go_wp2
        go_round
        case rel => exact ⟨k + 1, by omega, by omega, by go_num, HN.out⟩
        case measure => simp [intOf]; omega
      · have HCK := Lib.hid hc
        have HN := Lib.hid (show endLen s.data.toList 2 = (k + 1 : Nat) + runR 2 (s.data.toList.drop (k + 1)) by rw [HG.out, HD.out, run_yes (by rw [hc]; decide)]; omega)
        clear hc
        go_wp2_with fail
        refine (inner_is (q := true) hbk (by rw [HCK.out]; decide) _).mono ?_
        rintro e w' ⟨rfl, rfl⟩
        go_wp2
        go_round
        case rel => exact ⟨k + 1, by omega, by omega, by go_num, HN.out⟩
        case measure => simp [intOf]; omega
      · have HCK := Lib.hid hc
        have HN := Lib.hid (show endLen s.data.toList 2 = (k + 1 : Nat) + runR 2 (s.data.toList.drop (k + 1)) by rw [HG.out, HD.out, run_yes (by rw [hc]; decide)]; omega)
        clear hc
        go_wp2_with fail
        refine (inner_is (q := true) hbk (by rw [HCK.out]; decide) _).mono ?_
        rintro e w' ⟨rfl, rfl⟩
        go_wp2
        go_round
        case rel => exact ⟨k + 1, by omega, by omega, by go_num, HN.out⟩
        case measure => simp [intOf]; omega
      · have HCK := Lib.hid hc
        have HF := Lib.hid (show lenOf s.data.toList = k by unfold lenOf; rw [HH.out, if_neg (by decide), HG.out, HD.out, run_no (by rw [hc]; decide)]; omega)
        clear hc
        go_wp2_with fail
        refine (inner_is (q := false) hbk (by rw [HCK.out]; decide) _).mono ?_
        rintro e w' ⟨rfl, rfl⟩
        go_wp2
        go_ret
        exact lenPost HF.out
      · have HCK := Lib.hid hc
        have HF := Lib.hid (show lenOf s.data.toList = k by unfold lenOf; rw [HH.out, if_neg (by decide), HG.out, HD.out, run_no (by rw [hc]; decide)]; omega)
        clear hc
        go_wp2_with fail
        refine (inner_is (q := false) hbk (by rw [HCK.out]; decide) _).mono ?_
        rintro e w' ⟨rfl, rfl⟩
        go_wp2
        go_ret
        exact lenPost HF.out
    · have HF := Lib.hid (show lenOf s.data.toList = k by unfold lenOf; rw [HH.out, if_neg (by decide), HG.out, drop_end hlt]; rfl)
      have hlt' : ¬ (k : Int) < s.size := by omega
      go_wp2
      go_ret
      exact lenPost HF.out
set_option maxHeartbeats 4000000 in
theorem length_3 (s : ByteArray) (h0 : 0 < s.size) (hs : s.size ≤ 1000000000) (hcl : cls s[0].toNat = 3) (w : World) : Calls Try.prog 23 #[.string s] w (LenPost s.data.toList w) := by
  have hb := UInt8.toNat_lt s[0]
  have HC := Lib.hid hcl
  have HH := Lib.hid (show hcls s.data.toList = 3 by rw [hcls_get h0]; exact hcl)
  have h0' : (0 : Int) < s.size := by omega
  clear hcl
  go_enter Try.func23, Try.ntmps23
  go_wp2_with fail
  refine (mark_any (q := false) _ hb (by rw [HC.out]; decide) _).mono ?_
  rintro e w' ⟨rfl, rfl⟩
  go_wp2_with fail
  refine (cls_is (q := false) (by rw [HC.out]; decide) (small_any _ hb _)).mono ?_
  rintro e w' ⟨rfl, rfl⟩
  go_wp2_with fail
  refine (cls_is (q := true) (by rw [HC.out]; decide) (large_any _ hb _)).mono ?_
  rintro e w' ⟨rfl, rfl⟩
  go_wp2_with fail
  go_loop [3] (fun i => ∃ k : Nat, 1 ≤ k ∧ k ≤ s.size ∧ i = .int .i64 k ∧ endLen s.data.toList 3 = k + runR 3 (s.data.toList.drop k)) (fun i => s.size - (intOf i).toNat)
  case atStart => exact ⟨1, by omega, by omega, rfl, rfl⟩
  case round =>
    obtain ⟨k, h1, hle, rfl, hg⟩ := hrel
    have HG := Lib.hid hg
    clear hg
    by_cases hlt : k < s.size
    · have hlt' : (k : Int) < s.size := by omega
      have hbk := UInt8.toNat_lt s[k]
      have HD := Lib.hid (drop_cons hlt)
      rcases cls_cases s[k].toNat with hc | hc | hc | hc | hc | hc | hc | hc
      · have HCK := Lib.hid hc
        have HF := Lib.hid (show lenOf s.data.toList = k by unfold lenOf; rw [HH.out, if_neg (by decide), HG.out, HD.out, run_no (by rw [hc]; decide)]; omega)
        clear hc
        go_wp2_with fail
        refine (inner_is (q := false) hbk (by rw [HCK.out]; decide) _).mono ?_
        rintro e w' ⟨rfl, rfl⟩
        go_wp2
        go_ret
        exact lenPost HF.out
      · have HCK := Lib.hid hc
        have HF := Lib.hid (show lenOf s.data.toList = k by unfold lenOf; rw [HH.out, if_neg (by decide), HG.out, HD.out, run_no (by rw [hc]; decide)]; omega)
        clear hc
        go_wp2_with fail
        refine (inner_is (q := false) hbk (by rw [HCK.out]; decide) _).mono ?_
        rintro e w' ⟨rfl, rfl⟩
        go_wp2
        go_ret
        exact lenPost HF.out
      · have HCK := Lib.hid hc
        have HN := Lib.hid (show endLen s.data.toList 3 = (k + 1 : Nat) + runR 3 (s.data.toList.drop (k + 1)) by rw [HG.out, HD.out, run_yes (by rw [hc]; decide)]; omega)
        clear hc
        go_wp2_with fail
        refine (inner_is (q := true) hbk (by rw [HCK.out]; decide) _).mono ?_
        rintro e w' ⟨rfl, rfl⟩
        go_wp2
        go_round
        case rel => exact ⟨k + 1, by omega, by omega, by go_num, HN.out⟩
        case measure => simp [intOf]; omega
      · have HCK := Lib.hid hc
        have HN := Lib.hid (show endLen s.data.toList 3 = (k + 1 : Nat) + runR 3 (s.data.toList.drop (k + 1)) by rw [HG.out, HD.out, run_yes (by rw [hc]; decide)]; omega)
        clear hc
        go_wp2_with fail
        refine (inner_is (q := true) hbk (by rw [HCK.out]; decide) _).mono ?_
        rintro e w' ⟨rfl, rfl⟩
        go_wp2
        go_round
        case rel => exact ⟨k + 1, by omega, by omega, by go_num, HN.out⟩
        case measure => simp [intOf]; omega
      · have HCK := Lib.hid hc
        have HN := Lib.hid (show endLen s.data.toList 3 = (k + 1 : Nat) + runR 3 (s.data.toList.drop (k + 1)) by rw [HG.out, HD.out, run_yes (by rw [hc]; decide)]; omega)
        clear hc
        go_wp2_with fail
        refine (inner_is (q := true) hbk (by rw [HCK.out]; decide) _).mono ?_
        rintro e w' ⟨rfl, rfl⟩
        go_wp2
        go_round
        case rel => exact ⟨k + 1, by omega, by omega, by go_num, HN.out⟩
        case measure => simp [intOf]; omega
      · have HCK := Lib.hid hc
        have HN := Lib.hid (show endLen s.data.toList 3 = (k + 1 : Nat) + runR 3 (s.data.toList.drop (k + 1)) by rw [HG.out, HD.out, run_yes (by rw [hc]; decide)]; omega)
        clear hc
        go_wp2_with fail
        refine (inner_is (q := true) hbk (by rw [HCK.out]; decide) _).mono ?_
        rintro e w' ⟨rfl, rfl⟩
        go_wp2
        go_round
        case rel => exact ⟨k + 1, by omega, by omega, by go_num, HN.out⟩
        case measure => simp [intOf]; omega
      · have HCK := Lib.hid hc
        have HF := Lib.hid (show lenOf s.data.toList = k by unfold lenOf; rw [HH.out, if_neg (by decide), HG.out, HD.out, run_no (by rw [hc]; decide)]; omega)
        clear hc
        go_wp2_with fail
        refine (inner_is (q := false) hbk (by rw [HCK.out]; decide) _).mono ?_
        rintro e w' ⟨rfl, rfl⟩
        go_wp2
        go_ret
        exact lenPost HF.out
      · have HCK := Lib.hid hc
        have HF := Lib.hid (show lenOf s.data.toList = k by unfold lenOf; rw [HH.out, if_neg (by decide), HG.out, HD.out, run_no (by rw [hc]; decide)]; omega)
        clear hc
        go_wp2_with fail
        refine (inner_is (q := false) hbk (by rw [HCK.out]; decide) _).mono ?_
        rintro e w' ⟨rfl, rfl⟩
        go_wp2
        go_ret
        exact lenPost HF.out
    · have HF := Lib.hid (show lenOf s.data.toList = k by unfold lenOf; rw [HH.out, if_neg (by decide), HG.out, drop_end hlt]; rfl)
      have hlt' : ¬ (k : Int) < s.size := by omega
      go_wp2
      go_ret
      exact lenPost HF.out
set_option maxHeartbeats 4000000 in
theorem length_4 (s : ByteArray) (h0 : 0 < s.size) (hs : s.size ≤ 1000000000) (hcl : cls s[0].toNat = 4) (w : World) : Calls Try.prog 23 #[.string s] w (LenPost s.data.toList w) := by
  have hb := UInt8.toNat_lt s[0]
  have HC := Lib.hid hcl
  have HH := Lib.hid (show hcls s.data.toList = 4 by rw [hcls_get h0]; exact hcl)
  have h0' : (0 : Int) < s.size := by omega
  clear hcl
  go_enter Try.func23, Try.ntmps23
  go_wp2_with fail
  refine (mark_any (q := false) _ hb (by rw [HC.out]; decide) _).mono ?_
  rintro e w' ⟨rfl, rfl⟩
  go_wp2_with fail
  refine (cls_is (q := false) (by rw [HC.out]; decide) (small_any _ hb _)).mono ?_
  rintro e w' ⟨rfl, rfl⟩
  go_wp2_with fail
  refine (cls_is (q := false) (by rw [HC.out]; decide) (large_any _ hb _)).mono ?_
  rintro e w' ⟨rfl, rfl⟩
  go_wp2_with fail
  refine (cls_is (q := true) (by rw [HC.out]; decide) (digit_any _ hb _)).mono ?_
  rintro e w' ⟨rfl, rfl⟩
  go_wp2_with fail
  go_loop [3] (fun i => ∃ k : Nat, 1 ≤ k ∧ k ≤ s.size ∧ i = .int .i64 k ∧ endLen s.data.toList 4 = k + runR 4 (s.data.toList.drop k)) (fun i => s.size - (intOf i).toNat)
  case atStart => exact ⟨1, by omega, by omega, rfl, rfl⟩
  case round =>
    obtain ⟨k, h1, hle, rfl, hg⟩ := hrel
    have HG := Lib.hid hg
    clear hg
    by_cases hlt : k < s.size
    · have hlt' : (k : Int) < s.size := by omega
      have hbk := UInt8.toNat_lt s[k]
      have HD := Lib.hid (drop_cons hlt)
      rcases cls_cases s[k].toNat with hc | hc | hc | hc | hc | hc | hc | hc
      · have HCK := Lib.hid hc
        have HF := Lib.hid (show lenOf s.data.toList = k by unfold lenOf; rw [HH.out, if_neg (by decide), HG.out, HD.out, run_no (by rw [hc]; decide)]; omega)
        clear hc
        go_wp2_with fail
        refine (cls_is (q := false) (by rw [HCK.out]; decide) (digit_any _ hbk _)).mono ?_
        rintro e w' ⟨rfl, rfl⟩
        go_wp2
        go_ret
        exact lenPost HF.out
      · have HCK := Lib.hid hc
        have HF := Lib.hid (show lenOf s.data.toList = k by unfold lenOf; rw [HH.out, if_neg (by decide), HG.out, HD.out, run_no (by rw [hc]; decide)]; omega)
        clear hc
        go_wp2_with fail
        refine (cls_is (q := false) (by rw [HCK.out]; decide) (digit_any _ hbk _)).mono ?_
        rintro e w' ⟨rfl, rfl⟩
        go_wp2
        go_ret
        exact lenPost HF.out
      · have HCK := Lib.hid hc
        have HF := Lib.hid (show lenOf s.data.toList = k by unfold lenOf; rw [HH.out, if_neg (by decide), HG.out, HD.out, run_no (by rw [hc]; decide)]; omega)
        clear hc
        go_wp2_with fail
        refine (cls_is (q := false) (by rw [HCK.out]; decide) (digit_any _ hbk _)).mono ?_
        rintro e w' ⟨rfl, rfl⟩
        go_wp2
        go_ret
        exact lenPost HF.out
      · have HCK := Lib.hid hc
        have HF := Lib.hid (show lenOf s.data.toList = k by unfold lenOf; rw [HH.out, if_neg (by decide), HG.out, HD.out, run_no (by rw [hc]; decide)]; omega)
        clear hc
        go_wp2_with fail
        refine (cls_is (q := false) (by rw [HCK.out]; decide) (digit_any _ hbk _)).mono ?_
        rintro e w' ⟨rfl, rfl⟩
        go_wp2
        go_ret
        exact lenPost HF.out
      · have HCK := Lib.hid hc
        have HN := Lib.hid (show endLen s.data.toList 4 = (k + 1 : Nat) + runR 4 (s.data.toList.drop (k + 1)) by rw [HG.out, HD.out, run_yes (by rw [hc]; decide)]; omega)
        clear hc
        go_wp2_with fail
        refine (cls_is (q := true) (by rw [HCK.out]; decide) (digit_any _ hbk _)).mono ?_
        rintro e w' ⟨rfl, rfl⟩
        go_wp2
        go_round
        case rel => exact ⟨k + 1, by omega, by omega, by go_num, HN.out⟩
        case measure => simp [intOf]; omega
      · have HCK := Lib.hid hc
        have HF := Lib.hid (show lenOf s.data.toList = k by unfold lenOf; rw [HH.out, if_neg (by decide), HG.out, HD.out, run_no (by rw [hc]; decide)]; omega)
        clear hc
        go_wp2_with fail
        refine (cls_is (q := false) (by rw [HCK.out]; decide) (digit_any _ hbk _)).mono ?_
        rintro e w' ⟨rfl, rfl⟩
        go_wp2
        go_ret
        exact lenPost HF.out
      · have HCK := Lib.hid hc
        have HF := Lib.hid (show lenOf s.data.toList = k by unfold lenOf; rw [HH.out, if_neg (by decide), HG.out, HD.out, run_no (by rw [hc]; decide)]; omega)
        clear hc
        go_wp2_with fail
        refine (cls_is (q := false) (by rw [HCK.out]; decide) (digit_any _ hbk _)).mono ?_
        rintro e w' ⟨rfl, rfl⟩
        go_wp2
        go_ret
        exact lenPost HF.out
      · have HCK := Lib.hid hc
        have HF := Lib.hid (show lenOf s.data.toList = k by unfold lenOf; rw [HH.out, if_neg (by decide), HG.out, HD.out, run_no (by rw [hc]; decide)]; omega)
        clear hc
        go_wp2_with fail
        refine (cls_is (q := false) (by rw [HCK.out]; decide) (digit_any _ hbk _)).mono ?_
        rintro e w' ⟨rfl, rfl⟩
        go_wp2
        go_ret
        exact lenPost HF.out
    · have HF := Lib.hid (show lenOf s.data.toList = k by unfold lenOf; rw [HH.out, if_neg (by decide), HG.out, drop_end hlt]; rfl)
      have hlt' : ¬ (k : Int) < s.size := by omega
      go_wp2
      go_ret
      exact lenPost HF.out
set_option maxHeartbeats 4000000 in
theorem length_5 (s : ByteArray) (h0 : 0 < s.size) (hs : s.size ≤ 1000000000) (hcl : cls s[0].toNat = 5) (w : World) : Calls Try.prog 23 #[.string s] w (LenPost s.data.toList w) := by
  have hb := UInt8.toNat_lt s[0]
  have HC := Lib.hid hcl
  have HH := Lib.hid (show hcls s.data.toList = 5 by rw [hcls_get h0]; exact hcl)
  have h0' : (0 : Int) < s.size := by omega
  clear hcl
  go_enter Try.func23, Try.ntmps23
  go_wp2_with fail
  refine (mark_any (q := false) _ hb (by rw [HC.out]; decide) _).mono ?_
  rintro e w' ⟨rfl, rfl⟩
  go_wp2_with fail
  refine (cls_is (q := false) (by rw [HC.out]; decide) (small_any _ hb _)).mono ?_
  rintro e w' ⟨rfl, rfl⟩
  go_wp2_with fail
  refine (cls_is (q := false) (by rw [HC.out]; decide) (large_any _ hb _)).mono ?_
  rintro e w' ⟨rfl, rfl⟩
  go_wp2_with fail
  refine (cls_is (q := false) (by rw [HC.out]; decide) (digit_any _ hb _)).mono ?_
  rintro e w' ⟨rfl, rfl⟩
  go_wp2_with fail
  refine (cls_is (q := false) (by rw [HC.out]; decide) (sign_any _ hb _)).mono ?_
  rintro e w' ⟨rfl, rfl⟩
  go_wp2
  go_ret
  exact lenPost (by unfold lenOf; rw [HH.out, if_pos (by decide)])
set_option maxHeartbeats 4000000 in
theorem length_6 (s : ByteArray) (h0 : 0 < s.size) (hs : s.size ≤ 1000000000) (hcl : cls s[0].toNat = 6) (w : World) : Calls Try.prog 23 #[.string s] w (LenPost s.data.toList w) := by
  have hb := UInt8.toNat_lt s[0]
  have HC := Lib.hid hcl
  have HH := Lib.hid (show hcls s.data.toList = 6 by rw [hcls_get h0]; exact hcl)
  have h0' : (0 : Int) < s.size := by omega
  clear hcl
  go_enter Try.func23, Try.ntmps23
  go_wp2_with fail
  refine (mark_any (q := true) _ hb (by rw [HC.out]; decide) _).mono ?_
  rintro e w' ⟨rfl, rfl⟩
  go_wp2
  go_ret
  refine lenPost ?_
  unfold lenOf endLen
  rw [HH.out, if_neg (by decide)]
  cases h : s.data.toList.drop 1 with
  | nil => rfl
  | cons x r => rw [run_no]; rcases cls_cases x.toNat with h | h | h | h | h | h | h | h <;> (rw [h]; decide)
set_option maxHeartbeats 4000000 in
theorem length_7 (s : ByteArray) (h0 : 0 < s.size) (hs : s.size ≤ 1000000000) (hcl : cls s[0].toNat = 7) (w : World) : Calls Try.prog 23 #[.string s] w (LenPost s.data.toList w) := by
  have hb := UInt8.toNat_lt s[0]
  have HC := Lib.hid hcl
  have HH := Lib.hid (show hcls s.data.toList = 7 by rw [hcls_get h0]; exact hcl)
  have h0' : (0 : Int) < s.size := by omega
  clear hcl
  go_enter Try.func23, Try.ntmps23
  go_wp2_with fail
  refine (mark_any (q := false) _ hb (by rw [HC.out]; decide) _).mono ?_
  rintro e w' ⟨rfl, rfl⟩
  go_wp2_with fail
  refine (cls_is (q := false) (by rw [HC.out]; decide) (small_any _ hb _)).mono ?_
  rintro e w' ⟨rfl, rfl⟩
  go_wp2_with fail
  refine (cls_is (q := false) (by rw [HC.out]; decide) (large_any _ hb _)).mono ?_
  rintro e w' ⟨rfl, rfl⟩
  go_wp2_with fail
  refine (cls_is (q := false) (by rw [HC.out]; decide) (digit_any _ hb _)).mono ?_
  rintro e w' ⟨rfl, rfl⟩
  go_wp2_with fail
  refine (cls_is (q := true) (by rw [HC.out]; decide) (sign_any _ hb _)).mono ?_
  rintro e w' ⟨rfl, rfl⟩
  go_wp2_with fail
  go_loop [3] (fun i => ∃ k : Nat, 1 ≤ k ∧ k ≤ s.size ∧ i = .int .i64 k ∧ endLen s.data.toList 7 = k + runR 7 (s.data.toList.drop k)) (fun i => s.size - (intOf i).toNat)
  case atStart => exact ⟨1, by omega, by omega, rfl, rfl⟩
  case round =>
    obtain ⟨k, h1, hle, rfl, hg⟩ := hrel
    have HG := Lib.hid hg
    clear hg
    by_cases hlt : k < s.size
    · have hlt' : (k : Int) < s.size := by omega
      have hbk := UInt8.toNat_lt s[k]
      have HD := Lib.hid (drop_cons hlt)
      rcases cls_cases s[k].toNat with hc | hc | hc | hc | hc | hc | hc | hc
      · have HCK := Lib.hid hc
        have HF := Lib.hid (show lenOf s.data.toList = k by unfold lenOf; rw [HH.out, if_neg (by decide), HG.out, HD.out, run_no (by rw [hc]; decide)]; omega)
        clear hc
        go_wp2_with fail
        refine (cls_is (q := false) (by rw [HCK.out]; decide) (sign_any _ hbk _)).mono ?_
        rintro e w' ⟨rfl, rfl⟩
        go_wp2
        go_ret
        exact lenPost HF.out
      · have HCK := Lib.hid hc
        have HF := Lib.hid (show lenOf s.data.toList = k by unfold lenOf; rw [HH.out, if_neg (by decide), HG.out, HD.out, run_no (by rw [hc]; decide)]; omega)
        clear hc
        go_wp2_with fail
        refine (cls_is (q := false) (by rw [HCK.out]; decide) (sign_any _ hbk _)).mono ?_
        rintro e w' ⟨rfl, rfl⟩
        go_wp2
        go_ret
        exact lenPost HF.out
      · have HCK := Lib.hid hc
        have HF := Lib.hid (show lenOf s.data.toList = k by unfold lenOf; rw [HH.out, if_neg (by decide), HG.out, HD.out, run_no (by rw [hc]; decide)]; omega)
        clear hc
        go_wp2_with fail
        refine (cls_is (q := false) (by rw [HCK.out]; decide) (sign_any _ hbk _)).mono ?_
        rintro e w' ⟨rfl, rfl⟩
        go_wp2
        go_ret
        exact lenPost HF.out
      · have HCK := Lib.hid hc
        have HF := Lib.hid (show lenOf s.data.toList = k by unfold lenOf; rw [HH.out, if_neg (by decide), HG.out, HD.out, run_no (by rw [hc]; decide)]; omega)
        clear hc
        go_wp2_with fail
        refine (cls_is (q := false) (by rw [HCK.out]; decide) (sign_any _ hbk _)).mono ?_
        rintro e w' ⟨rfl, rfl⟩
        go_wp2
        go_ret
        exact lenPost HF.out
      · have HCK := Lib.hid hc
        have HF := Lib.hid (show lenOf s.data.toList = k by unfold lenOf; rw [HH.out, if_neg (by decide), HG.out, HD.out, run_no (by rw [hc]; decide)]; omega)
        clear hc
        go_wp2_with fail
        refine (cls_is (q := false) (by rw [HCK.out]; decide) (sign_any _ hbk _)).mono ?_
        rintro e w' ⟨rfl, rfl⟩
        go_wp2
        go_ret
        exact lenPost HF.out
      · have HCK := Lib.hid hc
        have HF := Lib.hid (show lenOf s.data.toList = k by unfold lenOf; rw [HH.out, if_neg (by decide), HG.out, HD.out, run_no (by rw [hc]; decide)]; omega)
        clear hc
        go_wp2_with fail
        refine (cls_is (q := false) (by rw [HCK.out]; decide) (sign_any _ hbk _)).mono ?_
        rintro e w' ⟨rfl, rfl⟩
        go_wp2
        go_ret
        exact lenPost HF.out
      · have HCK := Lib.hid hc
        have HF := Lib.hid (show lenOf s.data.toList = k by unfold lenOf; rw [HH.out, if_neg (by decide), HG.out, HD.out, run_no (by rw [hc]; decide)]; omega)
        clear hc
        go_wp2_with fail
        refine (cls_is (q := false) (by rw [HCK.out]; decide) (sign_any _ hbk _)).mono ?_
        rintro e w' ⟨rfl, rfl⟩
        go_wp2
        go_ret
        exact lenPost HF.out
      · have HCK := Lib.hid hc
        have HN := Lib.hid (show endLen s.data.toList 7 = (k + 1 : Nat) + runR 7 (s.data.toList.drop (k + 1)) by rw [HG.out, HD.out, run_yes (by rw [hc]; decide)]; omega)
        clear hc
        go_wp2_with fail
        refine (cls_is (q := true) (by rw [HCK.out]; decide) (sign_any _ hbk _)).mono ?_
        rintro e w' ⟨rfl, rfl⟩
        go_wp2
        go_round
        case rel => exact ⟨k + 1, by omega, by omega, by go_num, HN.out⟩
        case measure => simp [intOf]; omega
    · have HF := Lib.hid (show lenOf s.data.toList = k by unfold lenOf; rw [HH.out, if_neg (by decide), HG.out, drop_end hlt]; rfl)
      have hlt' : ¬ (k : Int) < s.size := by omega
      go_wp2
      go_ret
      exact lenPost HF.out
theorem length_any (s : ByteArray) (h0 : 0 < s.size) (hs : s.size ≤ 1000000000) (w : World) : Calls Try.prog 23 #[.string s] w (LenPost s.data.toList w) := by
  rcases cls_cases s[0].toNat with h | h | h | h | h | h | h | h
  · exact length_0 s h0 hs h w
  · exact length_1 s h0 hs h w
  · exact length_2 s h0 hs h w
  · exact length_3 s h0 hs h w
  · exact length_4 s h0 hs h w
  · exact length_5 s h0 hs h w
  · exact length_6 s h0 hs h w
  · exact length_7 s h0 hs h w
end Go.Proofs.Ytigidagcpjmjnaa.Lx
