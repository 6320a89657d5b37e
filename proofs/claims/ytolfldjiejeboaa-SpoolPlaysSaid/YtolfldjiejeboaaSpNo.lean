/-
  CONTRACTS of layer spool, of numbers: a spool that New did not give.
-/
import Derived.Test.YtolfldjiejeboaaSpD
namespace Go.Proofs.Ytolfldjiejeboaa.Sp
open Go.RowKit Go.Conc Mm Ln
set_option linter.unusedVariables false
set_option linter.unusedSimpArgs false
/-- New did not give this. -/
def NoSpool (v : Value) (w : World) : Prop := Calls Try.prog 30 #[v] w fun e w' => e = .returned (.bool false) ∧ w = w'
theorem open_no {v : Value} {w : World} (hg : NoSpool v w) : Calls Try.prog 28 #[v] w fun e w' => e = .returned (.bool false) ∧ w = w' := by
  go_enter Try.func28, Try.ntmps28
  go_wp2_with (go_at_call 30; refine Calls.mono hg ?_; rintro e w' ⟨rfl, rfl⟩)
  all_goals (go_ret; exact ⟨rfl, rfl⟩)
theorem len_no {v : Value} {w : World} (hg : NoSpool v w) : Calls Try.prog 27 #[v] w fun e w' => e = .returned (.int .i64 0) ∧ w = w' := by
  go_enter Try.func27, Try.ntmps27
  go_wp2_with (go_at_call 30; refine Calls.mono hg ?_; rintro e w' ⟨rfl, rfl⟩)
  all_goals (go_ret; exact ⟨rfl, rfl⟩)
theorem room_no {v : Value} {w : World} (hg : NoSpool v w) : Calls Try.prog 29 #[v] w fun e w' => e = .returned (.int .i64 0) ∧ w = w' := by
  go_enter Try.func29, Try.ntmps29
  go_wp2_with (go_at_call 30; refine Calls.mono hg ?_; rintro e w' ⟨rfl, rfl⟩)
  all_goals (go_ret; exact ⟨rfl, rfl⟩)
theorem close_no {v : Value} {w : World} (hg : NoSpool v w) : Calls Try.prog 18 #[v] w fun e w' => e = .returned (.bool false) ∧ w = w' := by
  go_enter Try.func18, Try.ntmps18
  go_wp2_with (go_at_call 28; refine (open_no hg).mono ?_; rintro e w' ⟨rfl, rfl⟩)
  all_goals (go_ret; exact ⟨rfl, rfl⟩)
theorem put_no {v : Value} {w : World} (x : Int) (hg : NoSpool v w) : Calls Try.prog 12 #[v, .int .i64 x] w fun e w' => e = .returned (.bool false) ∧ w = w' := by
  go_enter Try.func12, Try.ntmps12
  go_wp2_with (go_at_call 28; refine (open_no hg).mono ?_; rintro e w' ⟨rfl, rfl⟩)
  all_goals (go_ret; exact ⟨rfl, rfl⟩)
theorem take_no {v : Value} {w : World} (hg : NoSpool v w) : Calls Try.prog 14 #[v] w fun e w' => e = .returned (.tuple #[.int .i64 0, .bool false]) ∧ w = w' := by
  go_enter Try.func14, Try.ntmps14
  go_wp2_with (go_at_call 30; refine Calls.mono hg ?_; rintro e w' ⟨rfl, rfl⟩)
  all_goals (go_returns; exact ⟨rfl, rfl⟩)
theorem drain_no {v : Value} {w : World} (most : Int) (hg : NoSpool v w) : Calls Try.prog 17 #[v, .int .i64 most] w fun e w' => e = .returned (.slice none 0 0) ∧ w = w' := by
  go_enter Try.func17, Try.ntmps17
  go_wp2_with fail
  go_loopg [5] 0 (fun d l wr => l = .slice none 0 0 ∧ w = wr)
  case atStart => exact ⟨rfl, rfl⟩
  case round =>
    obtain ⟨rfl, rfl⟩ := hrel
    by_cases hm : (0 : Int) < most
    all_goals
      go_wp2_with (go_at_call 14; refine (take_no hg).mono ?_; rintro e w' ⟨rfl, rfl⟩)
      go_returns
      exact ⟨rfl, rfl⟩
theorem move_no {v : Value} {w : World} (to : Value) (most : Int) (hg : NoSpool v w) : Calls Try.prog 20 #[v, to, .int .i64 most] w fun e w' => e = .returned (.int .i64 0) ∧ w = w' := by
  go_enter Try.func20, Try.ntmps20
  go_wp2_with fail
  go_step3
  go_wp2_with (go_at_call 30; refine Calls.mono hg ?_; rintro e w' ⟨rfl, rfl⟩)
  all_goals (rw [Exit.noGoto_ret]; go_ret; exact ⟨rfl, rfl⟩)
theorem move_same {p c room : Nat} {buf : List Value} {shut : Bool} (w : World) (most : Int) (h : Spool w TI p c room buf shut) : Calls Try.prog 20 #[.pointer (some ⟨p, 0, none⟩), .pointer (some ⟨p, 0, none⟩), .int .i64 most] w fun e w' => e = .returned (.int .i64 0) ∧ w = w' := by
  have hg := given_any w h
  obtain ⟨i0, hi, hz0, hz1, hz2'⟩ := info_parts TTI
  have he := run_eql_ptr_same (P := Try.prog) w ⟨p, 0, none⟩ Try.underlying23 hi
  clear h
  go_enter Try.func20, Try.ntmps20
  go_wp2_with fail
  go_step3
  go_wp2_with (go_at_call 30; refine hg.mono ?_; rintro e w' ⟨rfl, rfl⟩)
  all_goals (rw [Exit.noGoto_ret]; go_ret; exact ⟨rfl, rfl⟩)
theorem move_to_no {p c room : Nat} {buf : List Value} {shut : Bool} {v : Value} (w : World) (most : Int) (h : Spool w TI p c room buf shut) (hn : NoSpool v w) (he : (binOp .eql 23 (.pointer (some ⟨p, 0, none⟩)) v).run Try.prog w = .ok (.bool false) w) :
    Calls Try.prog 20 #[.pointer (some ⟨p, 0, none⟩), v, .int .i64 most] w fun e w' => e = .returned (.int .i64 0) ∧ w = w' := by
  have hg := given_any w h
  clear h
  go_enter Try.func20, Try.ntmps20
  go_wp2_with fail
  go_step3
  go_wp2_with (go_at_call 30; refine hg.mono ?_; rintro e w' ⟨rfl, rfl⟩)
  go_step3
  go_wp2_with fail
  go_loopg [7] 0 (fun d m wr => m = .int .i64 0 ∧ w = wr)
  case atStart => exact ⟨rfl, rfl⟩
  case round =>
    obtain ⟨rfl, rfl⟩ := hrel
    by_cases hm : (0 : Int) < most
    all_goals
      go_wp2_with (go_at_call 28; refine (open_no hn).mono ?_; rintro e w' ⟨rfl, rfl⟩)
      try rw [Exit.noGoto_ret]
      go_ret
      exact ⟨rfl, rfl⟩
end Go.Proofs.Ytolfldjiejeboaa.Sp
