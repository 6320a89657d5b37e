/-
  CONTRACTS of layer spool, of numbers: a spool is made; something is put into it, taken from it.
-/
import Derived.Test.YtolfldjiejeboaaSpA
namespace Go.Proofs.Ytolfldjiejeboaa.Sp
open Go.RowKit Go.Conc Mm Ln
set_option linter.unusedVariables false
set_option linter.unusedSimpArgs false
abbrev at0 (c : Nat) : Nat → Prop := fun k => k = c
/-- What a call of Put ends with. -/
def PutPost (T : TypeId) (p c room : Nat) (buf : List Value) (shut : Bool) (x : Value) (w : World) (e : Ending) (w' : World) : Prop :=
  e = .returned (.bool (!shut && decide (buf.length < room))) ∧ Spool w' T p c room (if (!shut && decide (buf.length < room)) = true then buf ++ [x] else buf) shut ∧ Kept (at0 c) w w'
/-- What a call of Take ends with, z standing for nothing. -/
def TakePost (T : TypeId) (p c room : Nat) (buf : List Value) (shut : Bool) (z : Value) (w : World) (e : Ending) (w' : World) : Prop :=
  e = .returned (.tuple #[buf.headD z, .bool (!buf.isEmpty)]) ∧ Spool w' T p c room buf.tail shut ∧ Kept (at0 c) w w'
theorem putPost_not {T : TypeId} {p c room : Nat} {buf : List Value} {shut : Bool} {x : Value} {w : World} (hf : (!shut && decide (buf.length < room)) = false) (h : Hid (Spool w T p c room buf shut)) : PutPost T p c room buf shut x w (.returned (.bool false)) w := by
  unfold PutPost
  rw [hf]
  exact ⟨rfl, by simpa using h.out, .refl _ _⟩
theorem putPost_in {T : TypeId} {p c room : Nat} {buf : List Value} {x : Value} {w : World} (hr : buf.length < room) (h : Hid (Spool w T p c room buf false)) (s r : Nat) : PutPost T p c room buf false x w (.returned (.bool true)) (w.setChan c room (buf ++ [x]).toArray false (s + 1) r false) := by
  have e : (!false && decide (buf.length < room)) = true := by simp [hr]
  unfold PutPost
  rw [e]
  refine ⟨rfl, ?_, (Kept.refl (at0 c) w).setChan (c := c) (fun _ => rfl) _ _ _ _ _ _⟩
  rw [if_pos rfl]
  exact h.out.turn (buf ++ [x]) (s + 1) r
theorem put_any {p c room : Nat} {buf : List Value} {shut : Bool} (x : Int) (w : World) (h : Spool w TI p c room buf shut) :
    Calls Try.prog 12 #[.pointer (some ⟨p, 0, none⟩), .int .i64 x] w (PutPost TI p c room buf shut (.int .i64 x) w) := by
  have ho := open_any w h
  have H := Lib.hid h
  obtain ⟨h0, h1, h2⟩ := h.cells
  obtain ⟨s, r, hc⟩ := h.chan
  have HC := Lib.hid hc
  clear h hc
  refine calls_of_nwp Try.func12 rfl ?_
  simp only [Try.ntmps12, List.size_toArray, List.length_cons, List.length_nil, Nat.reduceAdd, Nat.reduceSub, Array.replicate_succ, Array.replicate_zero, List.push_toArray, List.append_toArray, List.nil_append, List.cons_append]
  refine nwp_seq_k (fun K hK => ?_)
  go_wp2
  refine nwp_seq_k (fun K hK => ?_)
  cases shut with
  | true =>
    go_wp2_with (go_at_call 28; refine ho.mono ?_; rintro e w' ⟨rfl, rfl⟩)
    go_ret
    exact putPost_not (by simp) H
  | false =>
    go_wp2_with (go_at_call 28; refine ho.mono ?_; rintro e w' ⟨rfl, rfl⟩)
    refine nwp_seq_k (fun K hK => ?_)
    go_wp2
    by_cases hr : buf.length < room
    · refine nwp_seq_wp (nwp_send_room (c := c) (v := .int .i64 x) (z := .int .i64 0) (buf := buf.toArray) (w' := w) rfl (by simp [go_sem, execOp, scase, Act.eval]) HC.out (by simpa using hr) ?_)
      go_wp2
      all_goals (go_ret; exact putPost_in hr H s r)
    · refine nwp_seq_wp (nwp_send_full (c := c) (v := .int .i64 x) (z := .int .i64 0) (buf := buf.toArray) (w' := w) rfl (by simp [go_sem, execOp, scase, Act.eval]) HC.out (by simpa using hr) ?_)
      go_wp2
      all_goals (go_ret; exact putPost_not (by simp [hr]) H)
theorem takePost_not {T : TypeId} {p c room : Nat} {shut : Bool} {z : Value} {w : World} (h : Hid (Spool w T p c room [] shut)) : TakePost T p c room [] shut z w (.returned (.tuple #[z, .bool false])) w :=
  ⟨rfl, h.out, .refl _ _⟩
theorem takePost_out {T : TypeId} {p c room : Nat} {v : Value} {buf : List Value} {shut : Bool} {z : Value} {w : World} (h : Hid (Spool w T p c room (v :: buf) shut)) (s r : Nat) : TakePost T p c room (v :: buf) shut z w (.returned (.tuple #[v, .bool true])) (w.setChan c room buf.toArray shut s (r + 1) false) :=
  ⟨rfl, h.out.turn buf s (r + 1), (Kept.refl (at0 c) w).setChan (c := c) (fun _ => rfl) _ _ _ _ _ _⟩
theorem take_any {p c room : Nat} {buf : List Value} {shut : Bool} (w : World) (h : Spool w TI p c room buf shut) :
    Calls Try.prog 14 #[.pointer (some ⟨p, 0, none⟩)] w (TakePost TI p c room buf shut (.int .i64 0) w) := by
  have ho := given_any w h
  have H := Lib.hid h
  obtain ⟨h0, h1, h2⟩ := h.cells
  obtain ⟨s, r, hc⟩ := h.chan
  have HC := Lib.hid hc
  clear h hc
  refine calls_of_nwp Try.func14 rfl ?_
  simp only [Try.ntmps14, List.size_toArray, List.length_cons, List.length_nil, Nat.reduceAdd, Nat.reduceSub, Array.replicate_succ, Array.replicate_zero, List.push_toArray, List.append_toArray, List.nil_append, List.cons_append]
  refine nwp_seq_k (fun K hK => ?_)
  go_wp2
  refine nwp_seq_k (fun K hK => ?_)
  go_wp2
  refine nwp_seq_k (fun K hK => ?_)
  go_wp2_with (go_at_call 30; refine ho.mono ?_; rintro e w' ⟨rfl, rfl⟩)
  refine nwp_seq_k (fun K hK => ?_)
  go_wp2
  match buf, H, HC with
  | [], H, HC =>
    cases shut with
    | true =>
      refine nwp_seq_wp (nwp_recv_shut (c := c) (z := .int .i64 0) (w' := w) rfl (by simp [go_sem, execOp, rcase, Act.eval]) HC.out ?_)
      go_wp2
      all_goals (go_returns; exact takePost_not H)
    | false =>
      refine nwp_seq_wp (nwp_recv_none (c := c) (z := .int .i64 0) (w' := w) rfl (by simp [go_sem, execOp, rcase, Act.eval]) HC.out ?_)
      go_wp2
      all_goals (go_returns; exact takePost_not H)
  | v :: buf, H, HC =>
    refine nwp_seq_wp (nwp_recv_some (c := c) (z := .int .i64 0) (buf := (v :: buf).toArray) (w' := w) rfl (by simp [go_sem, execOp, rcase, Act.eval]) HC.out (by simp) ?_)
    go_wp2
    all_goals (go_returns; exact takePost_out H s r)
end Go.Proofs.Ytolfldjiejeboaa.Sp
