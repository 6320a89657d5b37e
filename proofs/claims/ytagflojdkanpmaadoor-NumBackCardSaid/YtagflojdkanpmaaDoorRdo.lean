/-
  CONTRACTS: the document's own Do (changelingref01.Do): product and division bit by bit, signs: gives 'dof'.
-/
import Derived.Test.YtagflojdkanpmaaDoorDo
namespace Go.Proofs.YtagflojdkanpmaaDoor.Dx
open Go.RowKit Pl Ar

theorem sum_val (a b : Int) : wrap64 (IntKind.u64.wrap (IntKind.u64.wrap a + IntKind.u64.wrap b)) = wrap64 (a + b) := by
  simp only [IntKind.wrap_u64]; unfold wrap64; omega
theorem wrap64_congr {x y : Int} (h : x % 18446744073709551616 = y % 18446744073709551616) : wrap64 x = wrap64 y := by
  unfold wrap64; rw [Int.add_emod, h, ← Int.add_emod]
theorem dif_val (a b : Int) : wrap64 (IntKind.u64.wrap (IntKind.u64.wrap a + IntKind.u64.wrap (-IntKind.u64.wrap b))) = wrap64 (a - b) := by
  simp only [IntKind.wrap_u64]
  apply wrap64_congr
  rw [Int.emod_emod, Int.emod_add_emod, Int.add_emod_emod, ← Int.sub_eq_add_neg, Int.sub_emod_emod]

/-- signed's value -/
def sgn (n : Int) (below : Bool) : Int := if below then wrap64 (IntKind.u64.wrap (-n)) else wrap64 n
theorem sgn_true (n : Int) : sgn n true = wrap64 (IntKind.u64.wrap (-n)) := by simp [sgn]
theorem sgn_false (n : Int) : sgn n false = wrap64 n := by simp [sgn]
theorem signed_any (n : Int) (below : Bool) (w : World) : Calls Tryd.prog 33 #[.int .u64 n, .bool below] w fun e w' => e = .returned (.int .i64 (sgn n below)) ∧ w = w' := by
  cases below
  · have H := Lib.hid (show sgn n false = wrap64 n by simp [sgn])
    go_enter Tryd.func33, Tryd.ntmps33
    go_wp2
    go_ret
    exact ⟨ret_int H.out.symm, rfl⟩
  · have H := Lib.hid (show sgn n true = wrap64 (IntKind.u64.wrap (-n)) by simp [sgn])
    go_enter Tryd.func33, Tryd.ntmps33
    go_wp2
    go_ret
    exact ⟨ret_int H.out.symm, rfl⟩
theorem truth_any (b : Bool) (w : World) : Calls Tryd.prog 35 #[.bool b] w fun e w' => e = .returned (.int .i64 (if b then 1 else 0)) ∧ w = w' := by
  cases b
  all_goals
    go_enter Tryd.func35, Tryd.ntmps35
    go_wp2
    go_ret
    exact ⟨rfl, rfl⟩

theorem right_yes (op : Int) (w : World) (h1 : 1 ≤ op) (h2 : op ≤ 11) : Calls Tryd.prog 31 #[.int .i64 op] w fun e w' => e = .returned (.bool true) ∧ w = w' := by
  have e1 : decide (1 ≤ op) = true := by simp [h1]
  have e2 : decide (op ≤ 11) = true := by simp [h2]
  go_enter Tryd.func31, Tryd.ntmps31
  go_wp2
  go_ret
  exact ⟨rfl, rfl⟩
theorem right_no (op : Int) (w : World) (h : op < 1 ∨ 11 < op) : Calls Tryd.prog 31 #[.int .i64 op] w fun e w' => e = .returned (.bool false) ∧ w = w' := by
  by_cases h1 : 1 ≤ op
  · have e1 : decide (1 ≤ op) = true := by simp [h1]
    have e2 : decide (op ≤ 11) = false := by simp; omega
    clear h
    go_enter Tryd.func31, Tryd.ntmps31
    go_wp2
    go_ret
    exact ⟨rfl, rfl⟩
  · have e1 : decide (1 ≤ op) = false := by simp; omega
    clear h
    go_enter Tryd.func31, Tryd.ntmps31
    go_wp2
    go_ret
    exact ⟨rfl, rfl⟩
theorem rdo_none (op a b : Int) (w : World) (h : op < 1 ∨ 11 < op) : Calls Tryd.prog 12 #[.int .i64 op, .int .i64 a, .int .i64 b] w (DoPost op a b w) := by
  have hf : dof op a b = (0, 1) := by unfold dof; rw [if_pos h]
  have H := Lib.hid hf
  have HR := Lib.hid h
  clear hf h
  go_enter Tryd.func12, Tryd.ntmps12
  go_wp2_with fail
  refine (right_no op _ HR.out).mono ?_
  rintro e w' ⟨rfl, rfl⟩
  go_wp2
  go_ret2
  exact doPost H.out rfl
theorem rdo_1 (a b : Int) (w : World) : Calls Tryd.prog 12 #[.int .i64 1, .int .i64 a, .int .i64 b] w (DoPost 1 a b w) := by
  go_enter Tryd.func12, Tryd.ntmps12
  go_wp2
  go_ret2
  exact doPost (by rw [sum_val]; rfl) rfl
theorem rdo_2 (a b : Int) (w : World) : Calls Tryd.prog 12 #[.int .i64 2, .int .i64 a, .int .i64 b] w (DoPost 2 a b w) := by
  go_enter Tryd.func12, Tryd.ntmps12
  go_wp2
  go_ret2
  exact doPost (by rw [dif_val]; rfl) rfl
theorem u64_nat (a : Int) : ∃ A : Nat, IntKind.u64.wrap a = (A : Int) ∧ A < 18446744073709551616 :=
  ⟨(a % 18446744073709551616).toNat, by rw [IntKind.wrap_u64, Int.toNat_of_nonneg (Int.emod_nonneg _ (by decide))], by omega⟩
theorem pr_val2 {a b : Int} {A B : Nat} (ha : IntKind.u64.wrap a = (A : Int)) (hb : IntKind.u64.wrap b = (B : Int)) : wrap64 ((A : Int) * (B : Int) % 18446744073709551616) = wrap64 (a * b) := by
  rw [← ha, ← hb, IntKind.wrap_u64, IntKind.wrap_u64]
  apply wrap64_congr
  rw [Int.emod_emod, ← Int.mul_emod]
theorem rdo_3 (a b : Int) (w : World) : Calls Tryd.prog 12 #[.int .i64 3, .int .i64 a, .int .i64 b] w (DoPost 3 a b w) := by
  obtain ⟨A, hA, _⟩ := u64_nat a
  obtain ⟨B, hB, hlt⟩ := u64_nat b
  have HA := Lib.hid hA
  have HB := Lib.hid hB
  clear hA hB
  go_enter Tryd.func12, Tryd.ntmps12
  go_wp2_with (first | (go_at_call 34; rw [HA.out, HB.out]; refine (product_any _ _ hlt _).mono ?_; rintro e w' ⟨rfl, rfl⟩) | go_in)
  go_ret2
  exact doPost (by rw [pr_val2 HA.out HB.out]; rfl) rfl

theorem wrap64_of {a b : Int} (h : a = b) : wrap64 a = wrap64 b := by rw [h]
theorem sgn_quo (a b : Int) (hb : ¬ b = 0) : wrap64 (a.tdiv b) = sgn ((size a : Int) / (size b : Int)) (!(decide (a < 0) == decide (b < 0))) := by
  have e : ∀ x : Nat, ∀ y : Nat, (Int.tdiv (x : Int) (y : Int)) = (x : Int) / (y : Int) := fun x y => Int.tdiv_eq_ediv_of_nonneg (by omega)
  by_cases ha : a < 0 <;> by_cases hb2 : b < 0
  · obtain ⟨x, rfl⟩ : ∃ x : Nat, a = -(x : Int) := ⟨a.natAbs, by omega⟩
    obtain ⟨y, rfl⟩ : ∃ y : Nat, b = -(y : Int) := ⟨b.natAbs, by omega⟩
    simp only [sgn, size, ha, hb2, Int.natAbs_neg, Int.natAbs_natCast, decide_true, beq_self_eq_true, Bool.not_true, Bool.false_eq_true, if_false, Int.neg_tdiv, Int.tdiv_neg, Int.neg_neg, e]
  · obtain ⟨x, rfl⟩ : ∃ x : Nat, a = -(x : Int) := ⟨a.natAbs, by omega⟩
    obtain ⟨y, rfl⟩ : ∃ y : Nat, b = (y : Int) := ⟨b.natAbs, by omega⟩
    have hf : decide ((y : Int) < 0) = false := decide_eq_false (by omega)
    simp only [sgn, size, ha, hf, Int.natAbs_neg, Int.natAbs_natCast, decide_true, Int.neg_tdiv, e, IntKind.wrap_u64]
    exact wrap64_congr (by simp)
  · obtain ⟨x, rfl⟩ : ∃ x : Nat, a = (x : Int) := ⟨a.natAbs, by omega⟩
    obtain ⟨y, rfl⟩ : ∃ y : Nat, b = -(y : Int) := ⟨b.natAbs, by omega⟩
    have hf : decide ((x : Int) < 0) = false := decide_eq_false (by omega)
    simp only [sgn, size, hb2, hf, Int.natAbs_neg, Int.natAbs_natCast, decide_true, Int.tdiv_neg, e, IntKind.wrap_u64]
    exact wrap64_congr (by simp)
  · obtain ⟨x, rfl⟩ : ∃ x : Nat, a = (x : Int) := ⟨a.natAbs, by omega⟩
    obtain ⟨y, rfl⟩ : ∃ y : Nat, b = (y : Int) := ⟨b.natAbs, by omega⟩
    have hf : decide ((x : Int) < 0) = false := decide_eq_false (by omega)
    have hg : decide ((y : Int) < 0) = false := decide_eq_false (by omega)
    simp only [sgn, size, hf, hg, Int.natAbs_natCast, beq_self_eq_true, Bool.not_true, Bool.false_eq_true, if_false, e]
theorem wrap64_id {a : Int} (h1 : -9223372036854775808 ≤ a) (h2 : a ≤ 9223372036854775807) : wrap64 a = a := by unfold wrap64; omega
theorem sgn_rem (a b : Int) (h1 : -9223372036854775808 ≤ a) (h2 : a ≤ 9223372036854775807) (h3 : -9223372036854775808 ≤ b) (h4 : b ≤ 9223372036854775807) (hb : ¬ b = 0) : a.tmod b = sgn ((size a : Int) % (size b : Int)) (decide (a < 0)) := by
  have hle : (size a : Int) % (size b : Int) ≤ size a := by
    have := Nat.mod_le (size a) (size b)
    rw [← Int.natCast_emod]; omega
  have hge : 0 ≤ (size a : Int) % (size b : Int) := Int.emod_nonneg _ (by unfold size; omega)
  have hlt : (size a : Int) % (size b : Int) < size b := Int.emod_lt_of_pos _ (by unfold size; omega)
  have key : a.tmod b = if a < 0 then -((size a : Int) % (size b : Int)) else (size a : Int) % (size b : Int) := by
    have e : (size a : Int) % (size b : Int) = ((a.natAbs : Int)).tmod (b.natAbs : Int) := (Int.tmod_eq_emod_of_nonneg (by omega)).symm
    rw [e]
    have hb3 : ∀ x : Int, x.tmod (b.natAbs : Int) = x.tmod b := by
      intro x
      rcases Int.natAbs_eq b with h | h
      · rw [← h]
      · conv => rhs; rw [h, Int.tmod_neg]
    rw [hb3]
    split
    · rename_i ha
      have : (a.natAbs : Int) = -a := by omega
      rw [this, Int.neg_tmod, Int.neg_neg]
    · rename_i ha
      have : (a.natAbs : Int) = a := by omega
      rw [this]
  rw [key]
  generalize (size a : Int) % (size b : Int) = r at *
  have hsa : (size a : Int) = if a < 0 then -a else a := by unfold size; split <;> omega
  have hsb : (size b : Int) ≤ 9223372036854775808 := by unfold size; omega
  by_cases ha : a < 0
  · rw [if_pos ha] at hsa ⊢
    rw [decide_eq_true ha, sgn_true, IntKind.wrap_u64, wrap64_congr (Int.emod_emod (-r) 18446744073709551616), wrap64_id (by omega) (by omega)]
  · rw [if_neg ha] at hsa ⊢
    rw [decide_eq_false ha, sgn_false, wrap64_id (by omega) (by omega)]

set_option maxHeartbeats 1000000 in
theorem rdo_4 (a b : Int) (w : World) (hb : ¬ b = 0) (h1 : -9223372036854775808 ≤ a) (h2 : a ≤ 9223372036854775807) (h3 : -9223372036854775808 ≤ b) (h4 : b ≤ 9223372036854775807) : Calls Tryd.prog 12 #[.int .i64 4, .int .i64 a, .int .i64 b] w (DoPost 4 a b w) := by
  have hb2 : (b == 0) = false := beq_eq_false_iff_ne.2 hb
  have sa := size_lt a h1 h2
  have sb := size_lt b h3 h4
  have sz : 0 < size b := by unfold size; omega
  have HF := Lib.hid (show dof 4 a b = (sgn ((size a : Int) / (size b : Int)) (!(decide (a < 0) == decide (b < 0))), 0) by rw [← sgn_quo a b hb]; simp [dof, hb])
  clear hb
  go_enter Tryd.func12, Tryd.ntmps12
  go_wp2_with (go_at_call 31; refine (right_yes _ _ (by decide) (by decide)).mono ?_; rintro e w' ⟨rfl, rfl⟩)
  refine (size_any a h1 h2 _).mono ?_
  rintro e w' ⟨rfl, rfl⟩
  go_wp2_with fail
  refine (size_any b h3 h4 _).mono ?_
  rintro e w' ⟨rfl, rfl⟩
  go_wp2_with fail
  refine (divided_any _ _ sa sb sz _).mono ?_
  rintro e w' ⟨rfl, rfl⟩
  go_wp2_with (go_at_call 33; refine (signed_any _ _ _).mono ?_; rintro e w' ⟨rfl, rfl⟩)
  go_ret2
  exact doPost HF.out rfl
theorem rdo_4_zero (a : Int) (w : World) : Calls Tryd.prog 12 #[.int .i64 4, .int .i64 a, .int .i64 0] w (DoPost 4 a 0 w) := by
  go_enter Tryd.func12, Tryd.ntmps12
  go_wp2
  go_ret2
  exact doPost rfl rfl

set_option maxHeartbeats 1000000 in
theorem rdo_5 (a b : Int) (w : World) (hb : ¬ b = 0) (h1 : -9223372036854775808 ≤ a) (h2 : a ≤ 9223372036854775807) (h3 : -9223372036854775808 ≤ b) (h4 : b ≤ 9223372036854775807) : Calls Tryd.prog 12 #[.int .i64 5, .int .i64 a, .int .i64 b] w (DoPost 5 a b w) := by
  have hb2 : (b == 0) = false := beq_eq_false_iff_ne.2 hb
  have sa := size_lt a h1 h2
  have sb := size_lt b h3 h4
  have sz : 0 < size b := by unfold size; omega
  have HF := Lib.hid (show dof 5 a b = (sgn ((size a : Int) % (size b : Int)) (decide (a < 0)), 0) by rw [← sgn_rem a b h1 h2 h3 h4 hb]; simp [dof, hb])
  clear hb
  go_enter Tryd.func12, Tryd.ntmps12
  go_wp2_with (go_at_call 31; refine (right_yes _ _ (by decide) (by decide)).mono ?_; rintro e w' ⟨rfl, rfl⟩)
  refine (size_any a h1 h2 _).mono ?_
  rintro e w' ⟨rfl, rfl⟩
  go_wp2_with fail
  refine (size_any b h3 h4 _).mono ?_
  rintro e w' ⟨rfl, rfl⟩
  go_wp2_with fail
  refine (divided_any _ _ sa sb sz _).mono ?_
  rintro e w' ⟨rfl, rfl⟩
  go_wp2_with (go_at_call 33; refine (signed_any _ _ _).mono ?_; rintro e w' ⟨rfl, rfl⟩)
  go_ret2
  exact doPost HF.out rfl
theorem rdo_5_zero (a : Int) (w : World) : Calls Tryd.prog 12 #[.int .i64 5, .int .i64 a, .int .i64 0] w (DoPost 5 a 0 w) := by
  go_enter Tryd.func12, Tryd.ntmps12
  go_wp2
  go_ret2
  exact doPost rfl rfl
theorem rdo_6 (a b : Int) (w : World) : Calls Tryd.prog 12 #[.int .i64 6, .int .i64 a, .int .i64 b] w (DoPost 6 a b w) := by
  by_cases h : a = b
  · have H := Lib.hid (show dof 6 a b = (1, 0) by simp [dof, h])
    have h2 : (a == b) = true := beq_iff_eq.2 h
    clear h
    go_enter Tryd.func12, Tryd.ntmps12
    go_wp2
    go_ret2
    exact doPost H.out rfl
  · have H := Lib.hid (show dof 6 a b = (0, 0) by simp [dof, h])
    have h2 : (a == b) = false := beq_eq_false_iff_ne.2 h
    clear h
    go_enter Tryd.func12, Tryd.ntmps12
    go_wp2
    go_ret2
    exact doPost H.out rfl
theorem rdo_7 (a b : Int) (w : World) : Calls Tryd.prog 12 #[.int .i64 7, .int .i64 a, .int .i64 b] w (DoPost 7 a b w) := by
  by_cases h : a = b
  · have H := Lib.hid (show dof 7 a b = (0, 0) by simp [dof, h])
    have h2 : (a == b) = true := beq_iff_eq.2 h
    clear h
    go_enter Tryd.func12, Tryd.ntmps12
    go_wp2
    go_ret2
    exact doPost H.out rfl
  · have H := Lib.hid (show dof 7 a b = (1, 0) by simp [dof, h])
    have h2 : (a == b) = false := beq_eq_false_iff_ne.2 h
    clear h
    go_enter Tryd.func12, Tryd.ntmps12
    go_wp2
    go_ret2
    exact doPost H.out rfl
theorem rdo_8 (a b : Int) (w : World) : Calls Tryd.prog 12 #[.int .i64 8, .int .i64 a, .int .i64 b] w (DoPost 8 a b w) := by
  by_cases h : a < b
  · have H := Lib.hid (show dof 8 a b = (1, 0) by simp [dof, h])
    have h2 : a < b := h
    skip
    go_enter Tryd.func12, Tryd.ntmps12
    go_wp2
    go_ret2
    exact doPost H.out rfl
  · have H := Lib.hid (show dof 8 a b = (0, 0) by simp [dof, h])
    have h2 : ¬ a < b := h
    skip
    go_enter Tryd.func12, Tryd.ntmps12
    go_wp2
    go_ret2
    exact doPost H.out rfl
theorem rdo_9 (a b : Int) (w : World) : Calls Tryd.prog 12 #[.int .i64 9, .int .i64 a, .int .i64 b] w (DoPost 9 a b w) := by
  by_cases h : b < a
  · have H := Lib.hid (show dof 9 a b = (0, 0) by simp [dof, h])
    have h2 : b < a := h
    skip
    go_enter Tryd.func12, Tryd.ntmps12
    go_wp2
    go_ret2
    exact doPost H.out rfl
  · have H := Lib.hid (show dof 9 a b = (1, 0) by simp [dof, h])
    have h2 : ¬ b < a := h
    skip
    go_enter Tryd.func12, Tryd.ntmps12
    go_wp2
    go_ret2
    exact doPost H.out rfl
theorem rdo_10 (a b : Int) (w : World) : Calls Tryd.prog 12 #[.int .i64 10, .int .i64 a, .int .i64 b] w (DoPost 10 a b w) := by
  by_cases h : b < a
  · have H := Lib.hid (show dof 10 a b = (1, 0) by simp [dof, h])
    have h2 : b < a := h
    skip
    go_enter Tryd.func12, Tryd.ntmps12
    go_wp2
    go_ret2
    exact doPost H.out rfl
  · have H := Lib.hid (show dof 10 a b = (0, 0) by simp [dof, h])
    have h2 : ¬ b < a := h
    skip
    go_enter Tryd.func12, Tryd.ntmps12
    go_wp2
    go_ret2
    exact doPost H.out rfl
theorem rdo_11 (a b : Int) (w : World) : Calls Tryd.prog 12 #[.int .i64 11, .int .i64 a, .int .i64 b] w (DoPost 11 a b w) := by
  by_cases h : a < b
  · have H := Lib.hid (show dof 11 a b = (0, 0) by simp [dof, h])
    have h2 : a < b := h
    skip
    go_enter Tryd.func12, Tryd.ntmps12
    go_wp2
    go_ret2
    exact doPost H.out rfl
  · have H := Lib.hid (show dof 11 a b = (1, 0) by simp [dof, h])
    have h2 : ¬ a < b := h
    skip
    go_enter Tryd.func12, Tryd.ntmps12
    go_wp2
    go_ret2
    exact doPost H.out rfl
/-- The document's Do, WHATEVER THE OPERATOR AND THE NUMBERS. -/
theorem rdo_any (op a b : Int) (w : World) (h1 : -9223372036854775808 ≤ a) (h2 : a ≤ 9223372036854775807) (h3 : -9223372036854775808 ≤ b) (h4 : b ≤ 9223372036854775807) : Calls Tryd.prog 12 #[.int .i64 op, .int .i64 a, .int .i64 b] w (DoPost op a b w) := by
  by_cases h : op < 1 ∨ 11 < op
  · exact rdo_none op a b w h
  · rcases op_cases op h with rfl | rfl | rfl | rfl | rfl | rfl | rfl | rfl | rfl | rfl | rfl
    · exact rdo_1 a b w
    · exact rdo_2 a b w
    · exact rdo_3 a b w
    · by_cases hb : b = 0
      · subst hb; exact rdo_4_zero a w
      · exact rdo_4 a b w hb h1 h2 h3 h4
    · by_cases hb : b = 0
      · subst hb; exact rdo_5_zero a w
      · exact rdo_5 a b w hb h1 h2 h3 h4
    · exact rdo_6 a b w
    · exact rdo_7 a b w
    · exact rdo_8 a b w
    · exact rdo_9 a b w
    · exact rdo_10 a b w
    · exact rdo_11 a b w
end Go.Proofs.YtagflojdkanpmaaDoor.Dx
