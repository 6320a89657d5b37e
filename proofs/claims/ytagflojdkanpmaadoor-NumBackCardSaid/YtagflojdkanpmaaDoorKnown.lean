/-
  CONTRACT: the fixed calls of the statements of layer num (changelinglaw01.known) hold, wherever the program's table of operators' texts lies as its text lays it.
-/
import Derived.Test.YtagflojdkanpmaaDoorRdo
import Derived.Test.YtagflojdkanpmaaDoorParse
namespace Go.Proofs.YtagflojdkanpmaaDoor.Kn
open Go.RowKit Pl Ar Dx Dg Pa

theorem parse_007 (w : World) : Calls Tryd.prog 22 #[.string ⟨#[48, 48, 55]⟩] w fun e w' => e = .returned (.tuple #[.int .i64 0, .int .i64 11]) ∧ w = w' := by
  have H : prs [48, 48, 55] = (0, 11) := prs_bad (by decide)
  have h := parse_any ⟨#[48, 48, 55]⟩ (by decide) w
  unfold ParsePost at h
  rw [show (⟨#[48, 48, 55]⟩ : ByteArray).data.toList = [48, 48, 55] from rfl, H] at h
  exact h
theorem parse_low (w : World) : Calls Tryd.prog 22 #[.string ⟨#[45, 48]⟩] w fun e w' => e = .returned (.tuple #[.int .i64 0, .int .i64 11]) ∧ w = w' := by
  have H : prs [45, 48] = (0, 11) := prs_bad (by decide)
  have h := parse_any ⟨#[45, 48]⟩ (by decide) w
  unfold ParsePost at h
  rw [show (⟨#[45, 48]⟩ : ByteArray).data.toList = [45, 48] from rfl, H] at h
  exact h
theorem do_max (w : World) : Calls Tryd.prog 11 #[.int .i64 1, .int .i64 9223372036854775807, .int .i64 1] w fun e w' => e = .returned (.tuple #[.int .i64 (-9223372036854775808), .int .i64 0]) ∧ w = w' := by
  have H : dof 1 9223372036854775807 1 = (-9223372036854775808, 0) := by simp [dof, wrap64]
  have h := do_any 1 9223372036854775807 1 w
  unfold DoPost at h
  rw [H] at h
  exact h
theorem name_7 (w : World) (hc : w.cell? ⟨0, 7, none⟩ = some (.string ⟨#[47, 61]⟩)) : Calls Tryd.prog 14 #[.int .i64 7] w fun e w' => e = .returned (.string ⟨#[47, 61]⟩) ∧ w = w' := by
  go_enter Tryd.func14, Tryd.ntmps14
  go_wp2
  go_ret
  exact ⟨rfl, rfl⟩
set_option maxHeartbeats 1000000 in
theorem known_any (w : World) (hc : w.cell? ⟨0, 7, none⟩ = some (.string ⟨#[47, 61]⟩)) : Calls Tryd.prog 13 #[] w fun e w' => e = .returned (.bool true) ∧ w = w' := by
  go_enter Tryd.func13, Tryd.ntmps13
  go_wp2_with (first | (go_at_call 11; with_reducible refine (do_max _).mono ?_; rintro e w' ⟨rfl, rfl⟩) | (go_at_call 22; first | (with_reducible refine (parse_007 _).mono ?_; rintro e w' ⟨rfl, rfl⟩) | (with_reducible refine (parse_low _).mono ?_; rintro e w' ⟨rfl, rfl⟩)) | (go_at_call 14; refine (name_7 _ hc).mono ?_; rintro e w' ⟨rfl, rfl⟩) | go_in)
  go_ret
  exact ⟨rfl, rfl⟩
end Go.Proofs.YtagflojdkanpmaaDoor.Kn
