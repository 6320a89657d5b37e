/-
  The walk of 'changelinglaw03.SpoolNil'.
-/
import Derived.Test.YtggeafmbemmbpaaSpNo
namespace Go.Proofs.Ytggeafmbemmbpaa.Sp
open Go.RowKit Go.Conc Mm Ln
set_option linter.unusedVariables false
set_option linter.unusedSimpArgs false
/-- A move between these two moves nothing. -/
inductive Still (a b : Value) (w : World) : Prop
  | mk (h : ∀ most : Int, Calls Try.prog 20 #[a, b, .int .i64 most] w fun e w' => e = .returned (.int .i64 0) ∧ w = w') : Still a b w
theorem Still.call {a b : Value} {w : World} (h : Still a b w) (most : Int) : Calls Try.prog 20 #[a, b, .int .i64 most] w fun e w' => e = .returned (.int .i64 0) ∧ w = w' := by
  cases h with
  | mk h => exact h most
set_option maxRecDepth 100000 in
set_option maxHeartbeats 4000000 in
theorem nil_law (x most : Int) (w : World) :
    Calls Try.prog 6 #[.int .i64 x, .int .i64 most] w fun e w' => e = .returned (.bool true) ∧ Below w.heap.size w w' := by
  obtain ⟨i0, hi, hz0, hz1, hz2'⟩ := info_parts TTI
  go_enter Try.func6, Try.ntmps6
  go_wp2_with (first
    | (go_at_call 8; refine (new_mine 3 (by omega) (Below.refl _ _)).mono ?_; rintro e w1 ⟨p, ch, rfl, hm⟩)
    | (go_at_call 12; refine (put_in x hm (by simp)).mono ?_; rintro e w2 ⟨rfl, hm2⟩))
  go_loopg [8] 2 (fun d s wr => (d = 2 ∧ s = .int .i64 0 ∨ d = 1 ∧ s = .int .i64 1 ∨ d = 0 ∧ s = .int .i64 2) ∧ Mine w wr TI p ch 3 [.int .i64 x] false ∧ Box wr w2.heap.size TI #[.chan none, .bool false, .pointer none] ∧ Box wr (w2.heap.size + 1) 23 #[.pointer none, .pointer (some ⟨w2.heap.size, 0, none⟩)] ∧ p ≠ w2.heap.size)
  case atStart =>
    have kk := ((Kept.refl (fun _ => False) w2).alloc (.cells #[.chan none, .bool false, .pointer none] TI)).alloc (.cells #[.pointer none, .pointer (some ⟨w2.heap.size, 0, none⟩)] 23)
    refine ⟨.inl ⟨rfl, rfl⟩, hm2.step kk (fun _ h => h.elim) (hm2.sp.kept kk (fun h => h) (fun h => h)), (Box.new w2 _ TI).alloc _, ?_, Nat.ne_of_lt hm2.sp.ltp⟩
    have hb := Box.new (w2.alloc (.cells #[.chan none, .bool false, .pointer none] TI)) #[.pointer none, .pointer (some ⟨w2.heap.size, 0, none⟩)] 23
    rwa [World.size_alloc] at hb
  case round =>
    obtain ⟨hcase, hm3, hx, hy, hne⟩ := hrel
    have y0 := hy.cell 0
    have y1 := hy.cell 1
    simp only [List.getElem?_toArray, List.getElem?_cons_zero, List.getElem?_cons_succ] at y0 y1
    have hgn := given_nil wr
    have hgx := given_none w2.heap.size wr (hx.cell 2)
    have he0 : (binOp .eql 23 (.pointer (some ⟨p, 0, none⟩)) (.pointer none)).run Try.prog wr = .ok (.bool false) wr := by
      simpa using run_eql_pointer_nil (P := Try.prog) wr 23 (some ⟨p, 0, none⟩) Try.underlying23
    have he1 := run_eql_ptr_other (P := Try.prog) wr (a := ⟨p, 0, none⟩) (b := ⟨w2.heap.size, 0, none⟩) Try.underlying23 hi (by rw [hz1]; decide) (by simp [hne]) hm3.sp.box hx
    have HY := Lib.hid hy
    have HX := Lib.hid hx
    generalize w2.heap.size = g at *
    clear hx hy hm2 hm
    rcases hcase with ⟨rfl, rfl⟩ | ⟨rfl, rfl⟩ | ⟨rfl, rfl⟩
    · clear he1 hgx y1
      have s1 : Still (.pointer none) (.pointer (some ⟨p, 0, none⟩)) wr := ⟨fun most => move_no _ most hgn⟩
      have s2 : Still (.pointer (some ⟨p, 0, none⟩)) (.pointer none) wr := ⟨fun most => move_to_no _ most hm3.sp hgn he0⟩
      clear he0
      go_wp2_with (first
        | (go_at_call 14; refine (take_no hgn).mono ?_; rintro e w' ⟨rfl, rfl⟩)
        | (go_at_call 12; refine (put_no x hgn).mono ?_; rintro e w' ⟨rfl, rfl⟩)
        | (go_at_call 17; refine (drain_no most hgn).mono ?_; rintro e w' ⟨rfl, rfl⟩)
        | (go_at_call 18; refine (close_no hgn).mono ?_; rintro e w' ⟨rfl, rfl⟩)
        | (go_at_call 28; refine (open_no hgn).mono ?_; rintro e w' ⟨rfl, rfl⟩)
        | (go_at_call 27; refine (len_no hgn).mono ?_; rintro e w' ⟨rfl, rfl⟩)
        | (go_at_call 29; refine (room_no hgn).mono ?_; rintro e w' ⟨rfl, rfl⟩)
        | (go_at_call 20; refine (Still.call (by assumption) most).mono ?_; rintro e w' ⟨rfl, rfl⟩))
      go_roundg 1
      case measure => omega
      case rel => exact ⟨.inr (.inl ⟨rfl, rfl⟩), hm3, HX.out, HY.out, hne⟩
    · clear he0 hgn y0
      have s1 : Still (.pointer (some ⟨g, 0, none⟩)) (.pointer (some ⟨p, 0, none⟩)) wr := ⟨fun most => move_no _ most hgx⟩
      have s2 : Still (.pointer (some ⟨p, 0, none⟩)) (.pointer (some ⟨g, 0, none⟩)) wr := ⟨fun most => move_to_no _ most hm3.sp hgx he1⟩
      clear he1
      go_wp2_with (first
        | (go_at_call 14; refine (take_no hgx).mono ?_; rintro e w' ⟨rfl, rfl⟩)
        | (go_at_call 12; refine (put_no x hgx).mono ?_; rintro e w' ⟨rfl, rfl⟩)
        | (go_at_call 17; refine (drain_no most hgx).mono ?_; rintro e w' ⟨rfl, rfl⟩)
        | (go_at_call 18; refine (close_no hgx).mono ?_; rintro e w' ⟨rfl, rfl⟩)
        | (go_at_call 28; refine (open_no hgx).mono ?_; rintro e w' ⟨rfl, rfl⟩)
        | (go_at_call 27; refine (len_no hgx).mono ?_; rintro e w' ⟨rfl, rfl⟩)
        | (go_at_call 29; refine (room_no hgx).mono ?_; rintro e w' ⟨rfl, rfl⟩)
        | (go_at_call 20; refine (Still.call (by assumption) most).mono ?_; rintro e w' ⟨rfl, rfl⟩))
      go_roundg 0
      case measure => omega
      case rel => exact ⟨.inr (.inr ⟨rfl, rfl⟩), hm3, HX.out, HY.out, hne⟩
    · clear he0 hgn y0 he1 hgx y1
      go_wp2_with (first
        | (go_at_call 27; refine (len_mine hm3).mono ?_; rintro e w' ⟨rfl, rfl⟩)
        | (go_at_call 20; refine (move_same _ most hm3.sp).mono ?_; rintro e w' ⟨rfl, rfl⟩)
        | (go_at_call 10; refine (known_any _).mono ?_; rintro e w'' ⟨rfl, hb⟩))
      all_goals (go_ret; exact ⟨rfl, hm3.below.trans (hb.mono hm3.below.size)⟩)
end Go.Proofs.Ytggeafmbemmbpaa.Sp
namespace Go.Proofs.Ytggeafmbemmbpaa.SpoolNil
open Go.RowKit Sp
set_option linter.unusedVariables false
theorem law (x : Int) (h1 : -9223372036854775808 ≤ x) (h2 : x ≤ 9223372036854775807) (most : Int) (h3 : -9223372036854775808 ≤ most) (h4 : most ≤ 9223372036854775807) (w : World) :
    Calls Try.prog 6 #[.int .i64 x, .int .i64 most] w fun e w' => e = .returned (.bool true) ∧ Below w.heap.size w w' := nil_law x most w
end Go.Proofs.Ytggeafmbemmbpaa.SpoolNil
