/-
  CONTRACTS: operators' texts (num.Op, num.Rel; the document's own Op).
-/
import Derived.Test.YtlhppkaehoppnaaChecked
import Derived.WalkKit
import Derived.ProofKit
import Derived.Handy
import Derived.Lib.Hide
import Derived.WalkSpells
import Derived.WalkLawsBesides
import Derived.Outline
import Derived.Lib.Strings
import Derived.Deep.QuietTactic
import Derived.BigQuiet
namespace Go.Proofs.Ytlhppkaehoppnaa.Nm
open Go.RowKit
set_option linter.unusedVariables false
/-- the operator whose text this is -/
def opOf (l : List UInt8) : Int :=
  if l = [43] then 1 else if l = [45] then 2 else if l = [42] then 3 else if l = [47] then 4 else if l = [37] then 5 else if l = [61, 61] then 6 else if l = [47, 61] then 7 else if l = [60] then 8 else if l = [60, 61] then 9 else if l = [62] then 10 else if l = [62, 61] then 11 else 0
def OpPost (l : List UInt8) (w : World) (e : Ending) (w' : World) : Prop := e = .returned (.int .i64 (opOf l)) ∧ Below w.heap.size w w'
theorem opPost {l : List UInt8} {n : Int} {w w' : World} (h : opOf l = n) (hb : Below w.heap.size w w') : OpPost l w (.returned (.int .i64 n)) w' := by
  unfold OpPost; rw [h]; exact ⟨rfl, hb⟩
theorem op_1 (w : World) : Calls Try.prog 24 #[.string ⟨#[43]⟩] w fun e w' => OpPost [43] w e w' ∧ w = w' := by
  go_enter Try.func24, Try.ntmps24
  go_wp2
  go_ret
  exact ⟨opPost (by decide) (Below.refl _ _), rfl⟩
set_option maxHeartbeats 1000000 in
theorem rop_1 (w : World) : Calls Try.prog 25 #[.string ⟨#[43]⟩] w (OpPost [43] w) := by
  go_enter Try.func25, Try.ntmps25
  go_wp2
  go_rounds 12
  go_ret
  exact opPost (by decide) ((Below.refl _ _).alloc (Nat.le_refl _) _)
theorem op_2 (w : World) : Calls Try.prog 24 #[.string ⟨#[45]⟩] w fun e w' => OpPost [45] w e w' ∧ w = w' := by
  go_enter Try.func24, Try.ntmps24
  go_wp2
  go_ret
  exact ⟨opPost (by decide) (Below.refl _ _), rfl⟩
set_option maxHeartbeats 1000000 in
theorem rop_2 (w : World) : Calls Try.prog 25 #[.string ⟨#[45]⟩] w (OpPost [45] w) := by
  go_enter Try.func25, Try.ntmps25
  go_wp2
  go_rounds 12
  go_ret
  exact opPost (by decide) ((Below.refl _ _).alloc (Nat.le_refl _) _)
theorem op_3 (w : World) : Calls Try.prog 24 #[.string ⟨#[42]⟩] w fun e w' => OpPost [42] w e w' ∧ w = w' := by
  go_enter Try.func24, Try.ntmps24
  go_wp2
  go_ret
  exact ⟨opPost (by decide) (Below.refl _ _), rfl⟩
set_option maxHeartbeats 1000000 in
theorem rop_3 (w : World) : Calls Try.prog 25 #[.string ⟨#[42]⟩] w (OpPost [42] w) := by
  go_enter Try.func25, Try.ntmps25
  go_wp2
  go_rounds 12
  go_ret
  exact opPost (by decide) ((Below.refl _ _).alloc (Nat.le_refl _) _)
theorem op_4 (w : World) : Calls Try.prog 24 #[.string ⟨#[47]⟩] w fun e w' => OpPost [47] w e w' ∧ w = w' := by
  go_enter Try.func24, Try.ntmps24
  go_wp2
  go_ret
  exact ⟨opPost (by decide) (Below.refl _ _), rfl⟩
set_option maxHeartbeats 1000000 in
theorem rop_4 (w : World) : Calls Try.prog 25 #[.string ⟨#[47]⟩] w (OpPost [47] w) := by
  go_enter Try.func25, Try.ntmps25
  go_wp2
  go_rounds 12
  go_ret
  exact opPost (by decide) ((Below.refl _ _).alloc (Nat.le_refl _) _)
theorem op_5 (w : World) : Calls Try.prog 24 #[.string ⟨#[37]⟩] w fun e w' => OpPost [37] w e w' ∧ w = w' := by
  go_enter Try.func24, Try.ntmps24
  go_wp2
  go_ret
  exact ⟨opPost (by decide) (Below.refl _ _), rfl⟩
set_option maxHeartbeats 1000000 in
theorem rop_5 (w : World) : Calls Try.prog 25 #[.string ⟨#[37]⟩] w (OpPost [37] w) := by
  go_enter Try.func25, Try.ntmps25
  go_wp2
  go_rounds 12
  go_ret
  exact opPost (by decide) ((Below.refl _ _).alloc (Nat.le_refl _) _)
theorem op_6 (w : World) : Calls Try.prog 24 #[.string ⟨#[61, 61]⟩] w fun e w' => OpPost [61, 61] w e w' ∧ w = w' := by
  go_enter Try.func24, Try.ntmps24
  go_wp2
  go_ret
  exact ⟨opPost (by decide) (Below.refl _ _), rfl⟩
set_option maxHeartbeats 1000000 in
theorem rop_6 (w : World) : Calls Try.prog 25 #[.string ⟨#[61, 61]⟩] w (OpPost [61, 61] w) := by
  go_enter Try.func25, Try.ntmps25
  go_wp2
  go_rounds 12
  go_ret
  exact opPost (by decide) ((Below.refl _ _).alloc (Nat.le_refl _) _)
theorem op_7 (w : World) : Calls Try.prog 24 #[.string ⟨#[47, 61]⟩] w fun e w' => OpPost [47, 61] w e w' ∧ w = w' := by
  go_enter Try.func24, Try.ntmps24
  go_wp2
  go_ret
  exact ⟨opPost (by decide) (Below.refl _ _), rfl⟩
set_option maxHeartbeats 1000000 in
theorem rop_7 (w : World) : Calls Try.prog 25 #[.string ⟨#[47, 61]⟩] w (OpPost [47, 61] w) := by
  go_enter Try.func25, Try.ntmps25
  go_wp2
  go_rounds 12
  go_ret
  exact opPost (by decide) ((Below.refl _ _).alloc (Nat.le_refl _) _)
theorem op_8 (w : World) : Calls Try.prog 24 #[.string ⟨#[60]⟩] w fun e w' => OpPost [60] w e w' ∧ w = w' := by
  go_enter Try.func24, Try.ntmps24
  go_wp2
  go_ret
  exact ⟨opPost (by decide) (Below.refl _ _), rfl⟩
set_option maxHeartbeats 1000000 in
theorem rop_8 (w : World) : Calls Try.prog 25 #[.string ⟨#[60]⟩] w (OpPost [60] w) := by
  go_enter Try.func25, Try.ntmps25
  go_wp2
  go_rounds 12
  go_ret
  exact opPost (by decide) ((Below.refl _ _).alloc (Nat.le_refl _) _)
theorem op_9 (w : World) : Calls Try.prog 24 #[.string ⟨#[60, 61]⟩] w fun e w' => OpPost [60, 61] w e w' ∧ w = w' := by
  go_enter Try.func24, Try.ntmps24
  go_wp2
  go_ret
  exact ⟨opPost (by decide) (Below.refl _ _), rfl⟩
set_option maxHeartbeats 1000000 in
theorem rop_9 (w : World) : Calls Try.prog 25 #[.string ⟨#[60, 61]⟩] w (OpPost [60, 61] w) := by
  go_enter Try.func25, Try.ntmps25
  go_wp2
  go_rounds 12
  go_ret
  exact opPost (by decide) ((Below.refl _ _).alloc (Nat.le_refl _) _)
theorem op_10 (w : World) : Calls Try.prog 24 #[.string ⟨#[62]⟩] w fun e w' => OpPost [62] w e w' ∧ w = w' := by
  go_enter Try.func24, Try.ntmps24
  go_wp2
  go_ret
  exact ⟨opPost (by decide) (Below.refl _ _), rfl⟩
set_option maxHeartbeats 1000000 in
theorem rop_10 (w : World) : Calls Try.prog 25 #[.string ⟨#[62]⟩] w (OpPost [62] w) := by
  go_enter Try.func25, Try.ntmps25
  go_wp2
  go_rounds 12
  go_ret
  exact opPost (by decide) ((Below.refl _ _).alloc (Nat.le_refl _) _)
theorem op_11 (w : World) : Calls Try.prog 24 #[.string ⟨#[62, 61]⟩] w fun e w' => OpPost [62, 61] w e w' ∧ w = w' := by
  go_enter Try.func24, Try.ntmps24
  go_wp2
  go_ret
  exact ⟨opPost (by decide) (Below.refl _ _), rfl⟩
set_option maxHeartbeats 1000000 in
theorem rop_11 (w : World) : Calls Try.prog 25 #[.string ⟨#[62, 61]⟩] w (OpPost [62, 61] w) := by
  go_enter Try.func25, Try.ntmps25
  go_wp2
  go_rounds 12
  go_ret
  exact opPost (by decide) ((Below.refl _ _).alloc (Nat.le_refl _) _)
def texts : List (List UInt8) := [[43], [45], [42], [47], [37], [61, 61], [47, 61], [60], [60, 61], [62], [62, 61]]
theorem opOf_none {l : List UInt8} (h : ∀ t, t ∈ texts → ¬ l = t) : opOf l = 0 := by
  unfold opOf
  rw [if_neg (h [43] (by decide)), if_neg (h [45] (by decide)), if_neg (h [42] (by decide)), if_neg (h [47] (by decide)), if_neg (h [37] (by decide)), if_neg (h [61, 61] (by decide)), if_neg (h [47, 61] (by decide)), if_neg (h [60] (by decide)), if_neg (h [60, 61] (by decide)), if_neg (h [62] (by decide)), if_neg (h [62, 61] (by decide))]
theorem op_none (s : ByteArray) (h : ∀ t, t ∈ texts → ¬ s.data.toList = t) (w : World) : Calls Try.prog 24 #[.string s] w fun e w' => OpPost s.data.toList w e w' ∧ w = w' := by
  have n1 : (s.toList == [43]) = false := by rw [Lib.toList_data]; exact beq_eq_false_iff_ne.2 (h [43] (by decide))
  have m1 : ([43] == s.toList) = false := by rw [Lib.toList_data]; exact beq_eq_false_iff_ne.2 (fun e => h [43] (by decide) e.symm)
  have n2 : (s.toList == [45]) = false := by rw [Lib.toList_data]; exact beq_eq_false_iff_ne.2 (h [45] (by decide))
  have m2 : ([45] == s.toList) = false := by rw [Lib.toList_data]; exact beq_eq_false_iff_ne.2 (fun e => h [45] (by decide) e.symm)
  have n3 : (s.toList == [42]) = false := by rw [Lib.toList_data]; exact beq_eq_false_iff_ne.2 (h [42] (by decide))
  have m3 : ([42] == s.toList) = false := by rw [Lib.toList_data]; exact beq_eq_false_iff_ne.2 (fun e => h [42] (by decide) e.symm)
  have n4 : (s.toList == [47]) = false := by rw [Lib.toList_data]; exact beq_eq_false_iff_ne.2 (h [47] (by decide))
  have m4 : ([47] == s.toList) = false := by rw [Lib.toList_data]; exact beq_eq_false_iff_ne.2 (fun e => h [47] (by decide) e.symm)
  have n5 : (s.toList == [37]) = false := by rw [Lib.toList_data]; exact beq_eq_false_iff_ne.2 (h [37] (by decide))
  have m5 : ([37] == s.toList) = false := by rw [Lib.toList_data]; exact beq_eq_false_iff_ne.2 (fun e => h [37] (by decide) e.symm)
  have n6 : (s.toList == [61, 61]) = false := by rw [Lib.toList_data]; exact beq_eq_false_iff_ne.2 (h [61, 61] (by decide))
  have m6 : ([61, 61] == s.toList) = false := by rw [Lib.toList_data]; exact beq_eq_false_iff_ne.2 (fun e => h [61, 61] (by decide) e.symm)
  have n7 : (s.toList == [47, 61]) = false := by rw [Lib.toList_data]; exact beq_eq_false_iff_ne.2 (h [47, 61] (by decide))
  have m7 : ([47, 61] == s.toList) = false := by rw [Lib.toList_data]; exact beq_eq_false_iff_ne.2 (fun e => h [47, 61] (by decide) e.symm)
  have n8 : (s.toList == [60]) = false := by rw [Lib.toList_data]; exact beq_eq_false_iff_ne.2 (h [60] (by decide))
  have m8 : ([60] == s.toList) = false := by rw [Lib.toList_data]; exact beq_eq_false_iff_ne.2 (fun e => h [60] (by decide) e.symm)
  have n9 : (s.toList == [60, 61]) = false := by rw [Lib.toList_data]; exact beq_eq_false_iff_ne.2 (h [60, 61] (by decide))
  have m9 : ([60, 61] == s.toList) = false := by rw [Lib.toList_data]; exact beq_eq_false_iff_ne.2 (fun e => h [60, 61] (by decide) e.symm)
  have n10 : (s.toList == [62]) = false := by rw [Lib.toList_data]; exact beq_eq_false_iff_ne.2 (h [62] (by decide))
  have m10 : ([62] == s.toList) = false := by rw [Lib.toList_data]; exact beq_eq_false_iff_ne.2 (fun e => h [62] (by decide) e.symm)
  have n11 : (s.toList == [62, 61]) = false := by rw [Lib.toList_data]; exact beq_eq_false_iff_ne.2 (h [62, 61] (by decide))
  have m11 : ([62, 61] == s.toList) = false := by rw [Lib.toList_data]; exact beq_eq_false_iff_ne.2 (fun e => h [62, 61] (by decide) e.symm)
  have HF := Lib.hid (opOf_none h)
  clear h
  go_enter Try.func24, Try.ntmps24
  go_wp2
  go_ret
  exact ⟨opPost HF.out (Below.refl _ _), rfl⟩
set_option maxHeartbeats 2000000 in
theorem rop_none (s : ByteArray) (h : ∀ t, t ∈ texts → ¬ s.data.toList = t) (w : World) : Calls Try.prog 25 #[.string s] w (OpPost s.data.toList w) := by
  have n1 : (s.toList == [43]) = false := by rw [Lib.toList_data]; exact beq_eq_false_iff_ne.2 (h [43] (by decide))
  have m1 : ([43] == s.toList) = false := by rw [Lib.toList_data]; exact beq_eq_false_iff_ne.2 (fun e => h [43] (by decide) e.symm)
  have n2 : (s.toList == [45]) = false := by rw [Lib.toList_data]; exact beq_eq_false_iff_ne.2 (h [45] (by decide))
  have m2 : ([45] == s.toList) = false := by rw [Lib.toList_data]; exact beq_eq_false_iff_ne.2 (fun e => h [45] (by decide) e.symm)
  have n3 : (s.toList == [42]) = false := by rw [Lib.toList_data]; exact beq_eq_false_iff_ne.2 (h [42] (by decide))
  have m3 : ([42] == s.toList) = false := by rw [Lib.toList_data]; exact beq_eq_false_iff_ne.2 (fun e => h [42] (by decide) e.symm)
  have n4 : (s.toList == [47]) = false := by rw [Lib.toList_data]; exact beq_eq_false_iff_ne.2 (h [47] (by decide))
  have m4 : ([47] == s.toList) = false := by rw [Lib.toList_data]; exact beq_eq_false_iff_ne.2 (fun e => h [47] (by decide) e.symm)
  have n5 : (s.toList == [37]) = false := by rw [Lib.toList_data]; exact beq_eq_false_iff_ne.2 (h [37] (by decide))
  have m5 : ([37] == s.toList) = false := by rw [Lib.toList_data]; exact beq_eq_false_iff_ne.2 (fun e => h [37] (by decide) e.symm)
  have n6 : (s.toList == [61, 61]) = false := by rw [Lib.toList_data]; exact beq_eq_false_iff_ne.2 (h [61, 61] (by decide))
  have m6 : ([61, 61] == s.toList) = false := by rw [Lib.toList_data]; exact beq_eq_false_iff_ne.2 (fun e => h [61, 61] (by decide) e.symm)
  have n7 : (s.toList == [47, 61]) = false := by rw [Lib.toList_data]; exact beq_eq_false_iff_ne.2 (h [47, 61] (by decide))
  have m7 : ([47, 61] == s.toList) = false := by rw [Lib.toList_data]; exact beq_eq_false_iff_ne.2 (fun e => h [47, 61] (by decide) e.symm)
  have n8 : (s.toList == [60]) = false := by rw [Lib.toList_data]; exact beq_eq_false_iff_ne.2 (h [60] (by decide))
  have m8 : ([60] == s.toList) = false := by rw [Lib.toList_data]; exact beq_eq_false_iff_ne.2 (fun e => h [60] (by decide) e.symm)
  have n9 : (s.toList == [60, 61]) = false := by rw [Lib.toList_data]; exact beq_eq_false_iff_ne.2 (h [60, 61] (by decide))
  have m9 : ([60, 61] == s.toList) = false := by rw [Lib.toList_data]; exact beq_eq_false_iff_ne.2 (fun e => h [60, 61] (by decide) e.symm)
  have n10 : (s.toList == [62]) = false := by rw [Lib.toList_data]; exact beq_eq_false_iff_ne.2 (h [62] (by decide))
  have m10 : ([62] == s.toList) = false := by rw [Lib.toList_data]; exact beq_eq_false_iff_ne.2 (fun e => h [62] (by decide) e.symm)
  have n11 : (s.toList == [62, 61]) = false := by rw [Lib.toList_data]; exact beq_eq_false_iff_ne.2 (h [62, 61] (by decide))
  have m11 : ([62, 61] == s.toList) = false := by rw [Lib.toList_data]; exact beq_eq_false_iff_ne.2 (fun e => h [62, 61] (by decide) e.symm)
  have HF := Lib.hid (opOf_none h)
  clear h
  go_enter Try.func25, Try.ntmps25
  go_wp2
  go_rounds 12
  go_ret
  exact opPost HF.out ((Below.refl _ _).alloc (Nat.le_refl _) _)
theorem is_text {s : ByteArray} {t : List UInt8} (h : s.data.toList = t) : s = ⟨t.toArray⟩ := by rw [← h]
theorem op_any (s : ByteArray) (w : World) : Calls Try.prog 24 #[.string s] w fun e w' => OpPost s.data.toList w e w' ∧ w = w' := by
  by_cases h1 : s.data.toList = [43]
  · obtain rfl := is_text h1; exact op_1 w
  by_cases h2 : s.data.toList = [45]
  · obtain rfl := is_text h2; exact op_2 w
  by_cases h3 : s.data.toList = [42]
  · obtain rfl := is_text h3; exact op_3 w
  by_cases h4 : s.data.toList = [47]
  · obtain rfl := is_text h4; exact op_4 w
  by_cases h5 : s.data.toList = [37]
  · obtain rfl := is_text h5; exact op_5 w
  by_cases h6 : s.data.toList = [61, 61]
  · obtain rfl := is_text h6; exact op_6 w
  by_cases h7 : s.data.toList = [47, 61]
  · obtain rfl := is_text h7; exact op_7 w
  by_cases h8 : s.data.toList = [60]
  · obtain rfl := is_text h8; exact op_8 w
  by_cases h9 : s.data.toList = [60, 61]
  · obtain rfl := is_text h9; exact op_9 w
  by_cases h10 : s.data.toList = [62]
  · obtain rfl := is_text h10; exact op_10 w
  by_cases h11 : s.data.toList = [62, 61]
  · obtain rfl := is_text h11; exact op_11 w
  exact op_none s (by intro t ht; simp only [texts, List.mem_cons, List.not_mem_nil, or_false] at ht; rcases ht with rfl | rfl | rfl | rfl | rfl | rfl | rfl | rfl | rfl | rfl | rfl <;> assumption) w
theorem rop_any (s : ByteArray) (w : World) : Calls Try.prog 25 #[.string s] w (OpPost s.data.toList w) := by
  by_cases h1 : s.data.toList = [43]
  · obtain rfl := is_text h1; exact rop_1 w
  by_cases h2 : s.data.toList = [45]
  · obtain rfl := is_text h2; exact rop_2 w
  by_cases h3 : s.data.toList = [42]
  · obtain rfl := is_text h3; exact rop_3 w
  by_cases h4 : s.data.toList = [47]
  · obtain rfl := is_text h4; exact rop_4 w
  by_cases h5 : s.data.toList = [37]
  · obtain rfl := is_text h5; exact rop_5 w
  by_cases h6 : s.data.toList = [61, 61]
  · obtain rfl := is_text h6; exact rop_6 w
  by_cases h7 : s.data.toList = [47, 61]
  · obtain rfl := is_text h7; exact rop_7 w
  by_cases h8 : s.data.toList = [60]
  · obtain rfl := is_text h8; exact rop_8 w
  by_cases h9 : s.data.toList = [60, 61]
  · obtain rfl := is_text h9; exact rop_9 w
  by_cases h10 : s.data.toList = [62]
  · obtain rfl := is_text h10; exact rop_10 w
  by_cases h11 : s.data.toList = [62, 61]
  · obtain rfl := is_text h11; exact rop_11 w
  exact rop_none s (by intro t ht; simp only [texts, List.mem_cons, List.not_mem_nil, or_false] at ht; rcases ht with rfl | rfl | rfl | rfl | rfl | rfl | rfl | rfl | rfl | rfl | rfl <;> assumption) w
theorem rel_yes (op : Int) (w : World) (h1 : 6 ≤ op) (h2 : op ≤ 11) : Calls Try.prog 23 #[.int .i64 op] w fun e w' => e = .returned (.bool true) ∧ w = w' := by
  have e1 : decide (6 ≤ op) = true := by simp [h1]
  have e2 : decide (op ≤ 11) = true := by simp [h2]
  go_enter Try.func23, Try.ntmps23
  go_wp2
  go_ret
  exact ⟨rfl, rfl⟩
theorem rel_no (op : Int) (w : World) (h : op < 6 ∨ 11 < op) : Calls Try.prog 23 #[.int .i64 op] w fun e w' => e = .returned (.bool false) ∧ w = w' := by
  by_cases h1 : 6 ≤ op
  · have e1 : decide (6 ≤ op) = true := by simp [h1]
    have e2 : decide (op ≤ 11) = false := by simp; omega
    clear h
    go_enter Try.func23, Try.ntmps23
    go_wp2
    go_ret
    exact ⟨rfl, rfl⟩
  · have e1 : decide (6 ≤ op) = false := by simp; omega
    clear h
    go_enter Try.func23, Try.ntmps23
    go_wp2
    go_ret
    exact ⟨rfl, rfl⟩
end Go.Proofs.Ytlhppkaehoppnaa.Nm
