/-
  A SPOOL OF THE CALL's OWN: what is put into it, taken from it, asked of it, as steps of a plain row; the fixed calls that every law of layer spool makes.
-/
import Derived.Test.YtolfldjiejeboaaSpC
namespace Go.Proofs.Ytolfldjiejeboaa.Sp
open Go.RowKit Go.Conc Mm Ln
set_option linter.unusedVariables false
set_option linter.unusedSimpArgs false
/-- A spool that was made since W, of which nothing has turned. -/
structure Mine (W w : World) (T : TypeId) (p c room : Nat) (buf : List Value) (shut : Bool) : Prop where
  sp : Spool w T p c room buf shut
  hp : W.heap.size ≤ p
  hc : W.heap.size ≤ c
  below : Below W.heap.size W w
section
variable {W w : World} {T : TypeId} {p c room : Nat} {buf : List Value} {shut : Bool}
theorem Mine.step {w' : World} {X : Nat → Prop} {buf' : List Value} {shut' : Bool} (h : Mine W w T p c room buf shut) (k : Kept X w w') (hx : ∀ k, X k → k = c ∨ k = p) (s : Spool w' T p c room buf' shut') : Mine W w' T p c room buf' shut' :=
  ⟨s, h.hp, h.hc, h.below.trans (k.below h.below.size fun i hi => by have := h.hp; have := h.hc; rcases hx i hi with rfl | rfl <;> assumption)⟩
theorem new_mine (n : Nat) (hn : n ≤ 1024) (hb : Below W.heap.size W w) : Calls Try.prog 8 #[.int .i64 n] w fun e w' => ∃ p c, e = .returned (.tuple #[.pointer (some ⟨p, 0, none⟩), .int .i64 0]) ∧ Mine W w' TI p c n [] false := by
  refine (new_any n hn w).mono ?_
  rintro e w' ⟨rfl, hs, hk, hz⟩
  have := hb.size
  exact ⟨_, _, rfl, hs, by omega, by omega, hb.trans (hk.mono this)⟩
theorem put_in (x : Int) (h : Mine W w TI p c room buf false) (hr : buf.length < room) : Calls Try.prog 12 #[.pointer (some ⟨p, 0, none⟩), .int .i64 x] w fun e w' => e = .returned (.bool true) ∧ Mine W w' TI p c room (buf ++ [.int .i64 x]) false := by
  refine (put_any x w h.sp).mono ?_
  rintro e w' ⟨rfl, hs, hk⟩
  have e : (!false && decide (buf.length < room)) = true := by simp [hr]
  rw [e] at hs ⊢
  rw [if_pos rfl] at hs
  exact ⟨rfl, h.step hk (fun k hk => .inl hk) hs⟩
theorem put_not (x : Int) (h : Mine W w TI p c room buf shut) (hr : shut = true ∨ room ≤ buf.length) : Calls Try.prog 12 #[.pointer (some ⟨p, 0, none⟩), .int .i64 x] w fun e w' => e = .returned (.bool false) ∧ Mine W w' TI p c room buf shut := by
  refine (put_any x w h.sp).mono ?_
  rintro e w' ⟨rfl, hs, hk⟩
  have e : (!shut && decide (buf.length < room)) = false := by
    rcases hr with rfl | hr
    · simp
    · simp [Nat.not_lt.2 hr]
  rw [e] at hs ⊢
  rw [if_neg (by simp)] at hs
  exact ⟨rfl, h.step hk (fun k hk => .inl hk) hs⟩
theorem take_some {v : Value} (h : Mine W w TI p c room (v :: buf) shut) : Calls Try.prog 14 #[.pointer (some ⟨p, 0, none⟩)] w fun e w' => e = .returned (.tuple #[v, .bool true]) ∧ Mine W w' TI p c room buf shut := by
  refine (take_any w h.sp).mono ?_
  rintro e w' ⟨rfl, hs, hk⟩
  exact ⟨rfl, h.step hk (fun k hk => .inl hk) hs⟩
theorem take_none (h : Mine W w TI p c room [] shut) : Calls Try.prog 14 #[.pointer (some ⟨p, 0, none⟩)] w fun e w' => e = .returned (.tuple #[.int .i64 0, .bool false]) ∧ Mine W w' TI p c room [] shut := by
  refine (take_any w h.sp).mono ?_
  rintro e w' ⟨rfl, hs, hk⟩
  exact ⟨rfl, h.step hk (fun k hk => .inl hk) hs⟩
theorem close_mine (h : Mine W w TI p c room buf shut) : Calls Try.prog 18 #[.pointer (some ⟨p, 0, none⟩)] w fun e w' => e = .returned (.bool (!shut)) ∧ Mine W w' TI p c room buf true := by
  refine (close_any w h.sp).mono ?_
  rintro e w' ⟨rfl, hs, hk⟩
  exact ⟨rfl, h.step hk (fun k hk => hk) hs⟩
theorem open_mine (h : Mine W w TI p c room buf shut) : Calls Try.prog 28 #[.pointer (some ⟨p, 0, none⟩)] w fun e w' => e = .returned (.bool (!shut)) ∧ w = w' := open_any w h.sp
theorem len_mine (h : Mine W w TI p c room buf shut) : Calls Try.prog 27 #[.pointer (some ⟨p, 0, none⟩)] w fun e w' => e = .returned (.int .i64 buf.length) ∧ w = w' := len_any w h.sp
end
theorem known_any (w : World) : Calls Try.prog 10 #[] w fun e w' => e = .returned (.bool true) ∧ Below w.heap.size w w' := by
  go_enter Try.func10, Try.ntmps10
  go_wp2_with (first
    | (go_at_call 8; refine (new_mine 2 (by omega) (Below.refl _ _)).mono ?_; rintro e w' ⟨p, c, rfl, hm⟩)
    | (go_at_call 12; refine (put_in _ (by assumption) ?hr).mono ?_; (case hr => (simp; done)); rintro e w' ⟨rfl, hm⟩)
    | (go_at_call 12; refine (put_not _ (by assumption) ?hr).mono ?_; (case hr => (simp; done)); rintro e w' ⟨rfl, hm⟩)
    | (go_at_call 18; refine (close_mine (by assumption)).mono ?_; rintro e w' ⟨rfl, hm⟩)
    | (go_at_call 14; refine (take_some (by assumption)).mono ?_; rintro e w' ⟨rfl, hm⟩)
    | (go_at_call 14; refine (take_none (by assumption)).mono ?_; rintro e w' ⟨rfl, hm⟩))
  trace_state
  all_goals (go_ret; exact ⟨rfl, hm.below⟩)
end Go.Proofs.Ytolfldjiejeboaa.Sp
