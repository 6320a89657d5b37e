/-
  CONTRACTS of the document's own layer lex: classes of bytes, blanks, lengths.
-/
import Derived.Test.YtigidagcpjmjnaaAlike
import Derived.Test.YtigidagcpjmjnaaRp2
namespace Go.Proofs.Ytigidagcpjmjnaa.Lx
open Go.RowKit Pl Ar Dg Pa
set_option linter.unusedVariables false
set_option linter.unusedSimpArgs false

theorem isB {b q : Bool} {w : World} (h : b = q) : (Ending.returned (.bool b) = .returned (.bool q)) ∧ w = w := ⟨by rw [h], rfl⟩
theorem cls2 {c : Nat} : cls c = 2 ↔ (97 ≤ c ∧ c ≤ 122) ∨ c = 95 := by unfold cls; (repeat' split) <;> omega
theorem cls3 {c : Nat} : cls c = 3 ↔ (65 ≤ c ∧ c ≤ 90) := by unfold cls; (repeat' split) <;> omega
theorem cls4 {c : Nat} : cls c = 4 ↔ (48 ≤ c ∧ c ≤ 57) := by unfold cls; (repeat' split) <;> omega
theorem cls5 {c : Nat} : cls c = 5 ↔ c = 39 := by unfold cls; (repeat' split) <;> omega
theorem cls6 {c : Nat} : cls c = 6 ↔ c = 40 ∨ c = 41 ∨ c = 123 ∨ c = 125 ∨ c = 59 ∨ c = 92 := by unfold cls; (repeat' split) <;> omega
theorem cls7 {c : Nat} : cls c = 7 ↔ c = 33 ∨ c = 35 ∨ c = 36 ∨ c = 37 ∨ c = 38 ∨ c = 42 ∨ c = 43 ∨ c = 46 ∨ c = 47 ∨ c = 58 ∨ c = 60 ∨ c = 61 ∨ c = 62 ∨ c = 63 ∨ c = 64 ∨ c = 94 ∨ c = 124 ∨ c = 126 ∨ c = 45 := by
  unfold cls; (repeat' split) <;> omega
theorem small_any (c : Nat) (h : c < 256) (w : World) : Calls Try.prog 36 #[.int .u8 c] w fun e w' => e = .returned (.bool (decide (cls c = 2))) ∧ w = w' := by
  obtain ⟨q, hq⟩ : ∃ q, decide (cls c = 2) = q := ⟨_, rfl⟩
  rw [hq]
  rw [show decide (cls c = 2) = decide ((97 ≤ c ∧ c ≤ 122) ∨ c = 95) from decide_eq_decide.2 cls2] at hq
  by_cases h1 : 97 ≤ c
  · have d1 : decide ((97 : Int) ≤ c) = true := decide_eq_true (by omega)
    by_cases h2 : c ≤ 122
    · have d2 : decide ((c : Int) ≤ 122) = true := decide_eq_true (by omega)
      obtain rfl : true = q := by rw [← hq]; exact (decide_eq_true (by omega)).symm
      clear hq h1 h2
      go_enter Try.func36, Try.ntmps36
      go_wp2
      go_ret
      exact isB rfl
    · have d2 : decide ((c : Int) ≤ 122) = false := decide_eq_false (by omega)
      have d3 : ((c : Int) == 95) = false := beq_eq_false_iff_ne.2 (by omega)
      obtain rfl : false = q := by rw [← hq]; exact (decide_eq_false (by omega)).symm
      clear hq h1 h2
      go_enter Try.func36, Try.ntmps36
      go_wp2
      go_ret
      exact isB rfl
  · have d1 : decide ((97 : Int) ≤ c) = false := decide_eq_false (by omega)
    by_cases h3 : c = 95
    · have d3 : ((c : Int) == 95) = true := beq_iff_eq.2 (by omega)
      obtain rfl : true = q := by rw [← hq]; exact (decide_eq_true (by omega)).symm
      clear hq h1 h3
      go_enter Try.func36, Try.ntmps36
      go_wp2
      go_ret
      exact isB rfl
    · have d3 : ((c : Int) == 95) = false := beq_eq_false_iff_ne.2 (by omega)
      obtain rfl : false = q := by rw [← hq]; exact (decide_eq_false (by omega)).symm
      clear hq h1 h3
      go_enter Try.func36, Try.ntmps36
      go_wp2
      go_ret
      exact isB rfl
theorem large_any (c : Nat) (h : c < 256) (w : World) : Calls Try.prog 37 #[.int .u8 c] w fun e w' => e = .returned (.bool (decide (cls c = 3))) ∧ w = w' := by
  obtain ⟨q, hq⟩ : ∃ q, decide (cls c = 3) = q := ⟨_, rfl⟩
  rw [hq]
  rw [show decide (cls c = 3) = decide (65 ≤ c ∧ c ≤ 90) from decide_eq_decide.2 cls3] at hq
  by_cases h1 : 65 ≤ c
  · have d1 : decide ((65 : Int) ≤ c) = true := decide_eq_true (by omega)
    obtain ⟨q2, hq2⟩ : ∃ q2, decide ((c : Int) ≤ 90) = q2 := ⟨_, rfl⟩
    have HQ := Lib.hid (show q2 = q by rw [← hq, ← hq2]; exact decide_eq_decide.2 (by omega))
    clear hq h1
    go_enter Try.func37, Try.ntmps37
    go_wp2
    go_ret
    exact isB HQ.out
  · have d1 : decide ((65 : Int) ≤ c) = false := decide_eq_false (by omega)
    obtain rfl : false = q := by rw [← hq]; exact (decide_eq_false (by omega)).symm
    clear hq h1
    go_enter Try.func37, Try.ntmps37
    go_wp2
    go_ret
    exact isB rfl
theorem digit_any (c : Nat) (h : c < 256) (w : World) : Calls Try.prog 39 #[.int .u8 c] w fun e w' => e = .returned (.bool (decide (cls c = 4))) ∧ w = w' := by
  obtain ⟨q, hq⟩ : ∃ q, decide (cls c = 4) = q := ⟨_, rfl⟩
  rw [hq]
  rw [show decide (cls c = 4) = decide (48 ≤ c ∧ c ≤ 57) from decide_eq_decide.2 cls4] at hq
  by_cases h1 : 48 ≤ c
  · have d1 : decide ((48 : Int) ≤ c) = true := decide_eq_true (by omega)
    obtain ⟨q2, hq2⟩ : ∃ q2, decide ((c : Int) ≤ 57) = q2 := ⟨_, rfl⟩
    have HQ := Lib.hid (show q2 = q by rw [← hq, ← hq2]; exact decide_eq_decide.2 (by omega))
    clear hq h1
    go_enter Try.func39, Try.ntmps39
    go_wp2
    go_ret
    exact isB HQ.out
  · have d1 : decide ((48 : Int) ≤ c) = false := decide_eq_false (by omega)
    obtain rfl : false = q := by rw [← hq]; exact (decide_eq_false (by omega)).symm
    clear hq h1
    go_enter Try.func39, Try.ntmps39
    go_wp2
    go_ret
    exact isB rfl
theorem in_any {q : Bool} (c : Nat) (h : c < 256) (s : ByteArray) (hs : s.size ≤ 1000000000) (hq : q = true ↔ ∃ x, x ∈ s.data.toList ∧ x.toNat = c) (w : World) :
    Calls Try.prog 35 #[.int .u8 c, .string s] w fun e w' => e = .returned (.bool q) ∧ w = w' := by
  have HQ := Lib.hid hq
  clear hq
  go_enter Try.func35, Try.ntmps35
  go_wp2_with fail
  go_loop [5] (fun i => ∃ k : Nat, k ≤ s.size ∧ i = .int .i64 k ∧ ∀ x, x ∈ s.data.toList.take k → ¬ x.toNat = c) (fun i => s.size - (intOf i).toNat)
  case atStart => exact ⟨0, by omega, rfl, fun x hx => by simp at hx⟩
  case round =>
    obtain ⟨k, hk, rfl, hy⟩ := hrel
    have HY := Lib.hid hy
    clear hy
    by_cases hlt : k < s.size
    · have hlt' : (k : Int) < s.size := by omega
      have hts : s.data.toList.take (k + 1) = s.data.toList.take k ++ [s[k]] := by
        rw [List.take_succ_eq_append_getElem (by rw [← Lib.size_eq]; exact hlt)]; rfl
      have HTS := Lib.hid hts
      clear hts
      by_cases he : s[k].toNat = c
      · have d1 : ((s[k].toNat : Int) == (c : Int)) = true := beq_iff_eq.2 (by omega)
        obtain rfl : q = true := HQ.out.2 ⟨s[k], List.mem_of_mem_take (i := k + 1) (by rw [HTS.out]; simp), he⟩
        clear he
        go_wp2
        go_ret
        exact ⟨rfl, rfl⟩
      · have d1 : ((s[k].toNat : Int) == (c : Int)) = false := beq_eq_false_iff_ne.2 (by omega)
        have HY2 := Lib.hid (show ∀ x, x ∈ s.data.toList.take (k + 1) → ¬ x.toNat = c from fun x hx => by
          rw [HTS.out] at hx
          rcases List.mem_append.1 hx with hx | hx
          · exact HY.out x hx
          · obtain rfl : x = s[k] := by simpa using hx
            exact he)
        clear he
        go_wp2
        go_round
        case rel => exact ⟨k + 1, by omega, by go_num, HY2.out⟩
        case measure => simp [intOf]; omega
    · have hqf : q = false := by
        rw [Bool.eq_false_iff]
        intro h1
        obtain ⟨x, hx, hxc⟩ := HQ.out.1 h1
        exact HY.out x (by rw [List.take_of_length_le (by rw [← Lib.size_eq]; omega)]; exact hx) hxc
      subst hqf
      go_wp2
      go_ret
      exact ⟨rfl, rfl⟩
theorem sign_any (c : Nat) (h : c < 256) (w : World) : Calls Try.prog 40 #[.int .u8 c] w fun e w' => e = .returned (.bool (decide (cls c = 7))) ∧ w = w' := by
  go_enter Try.func40, Try.ntmps40
  go_wp2_with fail
  refine (in_any (q := decide (cls c = 7)) c h _ (by decide) (by rw [decide_eq_true_iff, cls7]; simp; omega) _).mono ?_
  rintro e w' ⟨rfl, rfl⟩
  go_wp2
  go_ret
  exact ⟨rfl, rfl⟩
end Go.Proofs.Ytigidagcpjmjnaa.Lx
