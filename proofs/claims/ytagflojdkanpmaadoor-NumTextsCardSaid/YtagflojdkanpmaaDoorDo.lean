/-
  CONTRACTS: num.Do and the document's own Do (changelingref01.Do) both give 'dof'.
-/
import Derived.Test.YtagflojdkanpmaaDoorArith
namespace Go.Proofs.YtagflojdkanpmaaDoor.Dx
open Go.RowKit Pl Ar

/-- What a call of Do ends with. -/
def DoPost (op a b : Int) (w : World) (e : Ending) (w' : World) : Prop := e = .returned (.tuple #[.int .i64 (dof op a b).1, .int .i64 (dof op a b).2]) ∧ w = w'
theorem doPost {op a b r f : Int} {w w' : World} (h : dof op a b = (r, f)) (hw : w = w') : DoPost op a b w (.returned (.tuple #[.int .i64 r, .int .i64 f])) w' := by
  unfold DoPost; rw [h]; exact ⟨rfl, hw⟩

set_option maxHeartbeats 1000000 in
theorem do_none (op a b : Int) (w : World) (h : op < 1 ∨ 11 < op) : Calls Tryd.prog 11 #[.int .i64 op, .int .i64 a, .int .i64 b] w (DoPost op a b w) := by
  have hf : dof op a b = (0, 1) := by unfold dof; rw [if_pos h]
  have H := Lib.hid hf
  clear hf
  by_cases h1 : op < 1
  · clear h
    go_enter Tryd.func11, Tryd.ntmps11
    go_wp2
    go_ret2
    exact doPost H.out rfl
  · have h2 : 11 < op := by omega
    have h3 : decide (op ≤ 11) = false := by simp; omega
    clear h
    go_enter Tryd.func11, Tryd.ntmps11
    go_wp2
    go_ret2
    exact doPost H.out rfl

theorem do_1 (a b : Int) (w : World) : Calls Tryd.prog 11 #[.int .i64 1, .int .i64 a, .int .i64 b] w (DoPost 1 a b w) := by
  by_cases hb : b = 0
  · subst hb
    go_enter Tryd.func11, Tryd.ntmps11
    go_wp2
    go_ret2
    exact doPost (by simp [dof]) rfl
  · have hb2 : (b == 0) = false := beq_eq_false_iff_ne.2 hb
    go_enter Tryd.func11, Tryd.ntmps11
    go_wp2
    go_ret2
    exact doPost rfl rfl
theorem do_2 (a b : Int) (w : World) : Calls Tryd.prog 11 #[.int .i64 2, .int .i64 a, .int .i64 b] w (DoPost 2 a b w) := by
  by_cases hb : b = 0
  · subst hb
    go_enter Tryd.func11, Tryd.ntmps11
    go_wp2
    go_ret2
    exact doPost (by simp [dof]) rfl
  · have hb2 : (b == 0) = false := beq_eq_false_iff_ne.2 hb
    go_enter Tryd.func11, Tryd.ntmps11
    go_wp2
    go_ret2
    exact doPost rfl rfl
theorem do_3 (a b : Int) (w : World) : Calls Tryd.prog 11 #[.int .i64 3, .int .i64 a, .int .i64 b] w (DoPost 3 a b w) := by
  by_cases hb : b = 0
  · subst hb
    go_enter Tryd.func11, Tryd.ntmps11
    go_wp2
    go_ret2
    exact doPost (by simp [dof, wrap64]) rfl
  · have hb2 : (b == 0) = false := beq_eq_false_iff_ne.2 hb
    go_enter Tryd.func11, Tryd.ntmps11
    go_wp2
    go_ret2
    exact doPost rfl rfl
theorem do_4_zero (a : Int) (w : World) : Calls Tryd.prog 11 #[.int .i64 4, .int .i64 a, .int .i64 0] w (DoPost 4 a 0 w) := by
  go_enter Tryd.func11, Tryd.ntmps11
  go_wp2
  go_ret2
  exact doPost rfl rfl
theorem do_4 (a b : Int) (w : World) (hb : ¬ b = 0) : Calls Tryd.prog 11 #[.int .i64 4, .int .i64 a, .int .i64 b] w (DoPost 4 a b w) := by
  have hb2 : (b == 0) = false := beq_eq_false_iff_ne.2 hb
  have H := Lib.hid (show dof 4 a b = (wrap64 (a.tdiv b), 0) by simp [dof, hb])
  go_enter Tryd.func11, Tryd.ntmps11
  go_wp2
  go_ret2
  exact doPost H.out rfl
theorem do_5_zero (a : Int) (w : World) : Calls Tryd.prog 11 #[.int .i64 5, .int .i64 a, .int .i64 0] w (DoPost 5 a 0 w) := by
  go_enter Tryd.func11, Tryd.ntmps11
  go_wp2
  go_ret2
  exact doPost rfl rfl
theorem do_5 (a b : Int) (w : World) (hb : ¬ b = 0) : Calls Tryd.prog 11 #[.int .i64 5, .int .i64 a, .int .i64 b] w (DoPost 5 a b w) := by
  have hb2 : (b == 0) = false := beq_eq_false_iff_ne.2 hb
  have H := Lib.hid (show dof 5 a b = (a.tmod b, 0) by simp [dof, hb])
  go_enter Tryd.func11, Tryd.ntmps11
  go_wp2
  go_ret2
  exact doPost H.out rfl
theorem do_6 (a b : Int) (w : World) : Calls Tryd.prog 11 #[.int .i64 6, .int .i64 a, .int .i64 b] w (DoPost 6 a b w) := by
  by_cases h : a = b
  · have H := Lib.hid (show dof 6 a b = (1, 0) by simp [dof, h])
    have h2 : (a == b) = true := beq_iff_eq.2 h
    clear h
    by_cases hb : b = 0
    · subst hb
      go_enter Tryd.func11, Tryd.ntmps11
      go_wp2
      go_ret2
      exact doPost H.out rfl
    · have hb2 : (b == 0) = false := beq_eq_false_iff_ne.2 hb
      go_enter Tryd.func11, Tryd.ntmps11
      go_wp2
      go_ret2
      exact doPost H.out rfl
  · have H := Lib.hid (show dof 6 a b = (0, 0) by simp [dof, h])
    have h2 : (a == b) = false := beq_eq_false_iff_ne.2 h
    clear h
    by_cases hb : b = 0
    · subst hb
      go_enter Tryd.func11, Tryd.ntmps11
      go_wp2
      go_ret2
      exact doPost H.out rfl
    · have hb2 : (b == 0) = false := beq_eq_false_iff_ne.2 hb
      go_enter Tryd.func11, Tryd.ntmps11
      go_wp2
      go_ret2
      exact doPost H.out rfl
theorem do_7 (a b : Int) (w : World) : Calls Tryd.prog 11 #[.int .i64 7, .int .i64 a, .int .i64 b] w (DoPost 7 a b w) := by
  by_cases h : a = b
  · have H := Lib.hid (show dof 7 a b = (0, 0) by simp [dof, h])
    have h2 : (a == b) = true := beq_iff_eq.2 h
    clear h
    by_cases hb : b = 0
    · subst hb
      go_enter Tryd.func11, Tryd.ntmps11
      go_wp2
      go_ret2
      exact doPost H.out rfl
    · have hb2 : (b == 0) = false := beq_eq_false_iff_ne.2 hb
      go_enter Tryd.func11, Tryd.ntmps11
      go_wp2
      go_ret2
      exact doPost H.out rfl
  · have H := Lib.hid (show dof 7 a b = (1, 0) by simp [dof, h])
    have h2 : (a == b) = false := beq_eq_false_iff_ne.2 h
    clear h
    by_cases hb : b = 0
    · subst hb
      go_enter Tryd.func11, Tryd.ntmps11
      go_wp2
      go_ret2
      exact doPost H.out rfl
    · have hb2 : (b == 0) = false := beq_eq_false_iff_ne.2 hb
      go_enter Tryd.func11, Tryd.ntmps11
      go_wp2
      go_ret2
      exact doPost H.out rfl
theorem do_8 (a b : Int) (w : World) : Calls Tryd.prog 11 #[.int .i64 8, .int .i64 a, .int .i64 b] w (DoPost 8 a b w) := by
  by_cases h : a < b
  · have H := Lib.hid (show dof 8 a b = (1, 0) by simp [dof, h])
    have h2 : a < b := h
    skip
    by_cases hb : b = 0
    · subst hb
      go_enter Tryd.func11, Tryd.ntmps11
      go_wp2
      go_ret2
      exact doPost H.out rfl
    · have hb2 : (b == 0) = false := beq_eq_false_iff_ne.2 hb
      go_enter Tryd.func11, Tryd.ntmps11
      go_wp2
      go_ret2
      exact doPost H.out rfl
  · have H := Lib.hid (show dof 8 a b = (0, 0) by simp [dof, h])
    have h2 : ¬ a < b := h
    skip
    by_cases hb : b = 0
    · subst hb
      go_enter Tryd.func11, Tryd.ntmps11
      go_wp2
      go_ret2
      exact doPost H.out rfl
    · have hb2 : (b == 0) = false := beq_eq_false_iff_ne.2 hb
      go_enter Tryd.func11, Tryd.ntmps11
      go_wp2
      go_ret2
      exact doPost H.out rfl
theorem do_9 (a b : Int) (w : World) : Calls Tryd.prog 11 #[.int .i64 9, .int .i64 a, .int .i64 b] w (DoPost 9 a b w) := by
  by_cases h : b < a
  · have H := Lib.hid (show dof 9 a b = (0, 0) by simp [dof, h])
    have h2 : b < a := h
    skip
    by_cases hb : b = 0
    · subst hb
      go_enter Tryd.func11, Tryd.ntmps11
      go_wp2
      go_ret2
      exact doPost H.out rfl
    · have hb2 : (b == 0) = false := beq_eq_false_iff_ne.2 hb
      go_enter Tryd.func11, Tryd.ntmps11
      go_wp2
      go_ret2
      exact doPost H.out rfl
  · have H := Lib.hid (show dof 9 a b = (1, 0) by simp [dof, h])
    have h2 : ¬ b < a := h
    skip
    by_cases hb : b = 0
    · subst hb
      go_enter Tryd.func11, Tryd.ntmps11
      go_wp2
      go_ret2
      exact doPost H.out rfl
    · have hb2 : (b == 0) = false := beq_eq_false_iff_ne.2 hb
      go_enter Tryd.func11, Tryd.ntmps11
      go_wp2
      go_ret2
      exact doPost H.out rfl
theorem do_10 (a b : Int) (w : World) : Calls Tryd.prog 11 #[.int .i64 10, .int .i64 a, .int .i64 b] w (DoPost 10 a b w) := by
  by_cases h : b < a
  · have H := Lib.hid (show dof 10 a b = (1, 0) by simp [dof, h])
    have h2 : b < a := h
    skip
    by_cases hb : b = 0
    · subst hb
      go_enter Tryd.func11, Tryd.ntmps11
      go_wp2
      go_ret2
      exact doPost H.out rfl
    · have hb2 : (b == 0) = false := beq_eq_false_iff_ne.2 hb
      go_enter Tryd.func11, Tryd.ntmps11
      go_wp2
      go_ret2
      exact doPost H.out rfl
  · have H := Lib.hid (show dof 10 a b = (0, 0) by simp [dof, h])
    have h2 : ¬ b < a := h
    skip
    by_cases hb : b = 0
    · subst hb
      go_enter Tryd.func11, Tryd.ntmps11
      go_wp2
      go_ret2
      exact doPost H.out rfl
    · have hb2 : (b == 0) = false := beq_eq_false_iff_ne.2 hb
      go_enter Tryd.func11, Tryd.ntmps11
      go_wp2
      go_ret2
      exact doPost H.out rfl
theorem do_11 (a b : Int) (w : World) : Calls Tryd.prog 11 #[.int .i64 11, .int .i64 a, .int .i64 b] w (DoPost 11 a b w) := by
  by_cases h : a < b
  · have H := Lib.hid (show dof 11 a b = (0, 0) by simp [dof, h])
    have h2 : a < b := h
    skip
    by_cases hb : b = 0
    · subst hb
      go_enter Tryd.func11, Tryd.ntmps11
      go_wp2
      go_ret2
      exact doPost H.out rfl
    · have hb2 : (b == 0) = false := beq_eq_false_iff_ne.2 hb
      go_enter Tryd.func11, Tryd.ntmps11
      go_wp2
      go_ret2
      exact doPost H.out rfl
  · have H := Lib.hid (show dof 11 a b = (1, 0) by simp [dof, h])
    have h2 : ¬ a < b := h
    skip
    by_cases hb : b = 0
    · subst hb
      go_enter Tryd.func11, Tryd.ntmps11
      go_wp2
      go_ret2
      exact doPost H.out rfl
    · have hb2 : (b == 0) = false := beq_eq_false_iff_ne.2 hb
      go_enter Tryd.func11, Tryd.ntmps11
      go_wp2
      go_ret2
      exact doPost H.out rfl

theorem op_cases (op : Int) (h : ¬ (op < 1 ∨ 11 < op)) : op = 1 ∨ op = 2 ∨ op = 3 ∨ op = 4 ∨ op = 5 ∨ op = 6 ∨ op = 7 ∨ op = 8 ∨ op = 9 ∨ op = 10 ∨ op = 11 := by omega
/-- num.Do, WHATEVER THE OPERATOR AND THE NUMBERS. -/
theorem do_any (op a b : Int) (w : World) : Calls Tryd.prog 11 #[.int .i64 op, .int .i64 a, .int .i64 b] w (DoPost op a b w) := by
  by_cases h : op < 1 ∨ 11 < op
  · exact do_none op a b w h
  · rcases op_cases op h with rfl | rfl | rfl | rfl | rfl | rfl | rfl | rfl | rfl | rfl | rfl
    · exact do_1 a b w
    · exact do_2 a b w
    · exact do_3 a b w
    · by_cases hb : b = 0
      · subst hb; exact do_4_zero a w
      · exact do_4 a b w hb
    · by_cases hb : b = 0
      · subst hb; exact do_5_zero a w
      · exact do_5 a b w hb
    · exact do_6 a b w
    · exact do_7 a b w
    · exact do_8 a b w
    · exact do_9 a b w
    · exact do_10 a b w
    · exact do_11 a b w
end Go.Proofs.YtagflojdkanpmaaDoor.Dx
