/-
  CONTRACTS of layer spool, of numbers: a spool is made, closed.
-/
import Derived.Test.YtolfldjiejeboaaSpB
namespace Go.Proofs.Ytolfldjiejeboaa.Sp
open Go.RowKit Go.Conc Mm Ln
set_option linter.unusedVariables false
set_option linter.unusedSimpArgs false
/-- What a call of New ends with: two blocks more, the spool's and its channel's. -/
def NewPost (T : TypeId) (room : Nat) (w : World) (e : Ending) (w' : World) : Prop :=
  e = .returned (.tuple #[.pointer (some ⟨w.heap.size + 1, 0, none⟩), .int .i64 0]) ∧ Spool w' T (w.heap.size + 1) w.heap.size room [] false ∧ Below w.heap.size w w' ∧ w'.heap.size = w.heap.size + 2
theorem TINT : (Try.prog.info? 3).map (fun i => (i.zero, i.size, i.bytes)) = some (some (.int .i64 0), 1, 8) := by kernel_rfl
theorem newPost {T : TypeId} (room : Nat) (w : World) : NewPost T room w (.returned (.tuple #[.pointer (some ⟨w.heap.size + 1, 0, none⟩), .int .i64 0]))
    ((w.alloc (.chan room #[] false 0 0 false)).alloc (.cells #[.chan (some w.heap.size), .bool false, .pointer (some ⟨w.heap.size + 1, 0, none⟩)] T)) := by
  have e1 : (w.alloc (.chan room #[] false 0 0 false)).heap.size = w.heap.size + 1 := by simp
  refine ⟨rfl, ⟨?_, 0, 0, ?_⟩, ?_, by simp⟩
  · have hb := Box.new (w.alloc (.chan room #[] false 0 0 false)) #[.chan (some w.heap.size), .bool false, .pointer (some ⟨w.heap.size + 1, 0, none⟩)] T
    rw [e1] at hb
    exact hb
  · rw [Below.heap_alloc _ _ _ (by omega)]
    exact heap_alloc_new w _
  · exact ((Below.refl w.heap.size w).alloc (Nat.le_refl _) _).alloc (by omega) _
theorem new_any (n : Nat) (hn : n ≤ 1024) (w : World) : Calls Try.prog 8 #[.int .i64 n] w (NewPost TI n w) := by
  obtain ⟨i0, hi, hz0, hz1, hz2'⟩ := info_parts TINT
  have hmc := run_makeChan (P := Try.prog) (w := w) Try.underlying59 hi .i64 n (by omega) (by rw [hz2']; omega)
  have a1 : ¬ ((n : Int) < 0) := by omega
  have a2 : ¬ (1024 < (n : Int)) := by omega
  go_enter Try.func8, Try.ntmps8
  go_wp2
  all_goals (go_returns; exact newPost n w)
theorem new_bad (n : Int) (hn : n < 0 ∨ 1024 < n) (w : World) : Calls Try.prog 8 #[.int .i64 n] w fun e w' => e = .returned (.tuple #[.pointer none, .int .i64 1]) ∧ w = w' := by
  go_enter Try.func8, Try.ntmps8
  go_wp2
  all_goals (go_returns; exact ⟨rfl, rfl⟩)
/-- What a call of Close ends with. -/
def ClosePost (T : TypeId) (p c room : Nat) (buf : List Value) (shut : Bool) (w : World) (e : Ending) (w' : World) : Prop :=
  e = .returned (.bool (!shut)) ∧ Spool w' T p c room buf true ∧ Kept (fun k => k = c ∨ k = p) w w'
theorem closePost {T : TypeId} {p c room : Nat} {buf : List Value} {w : World} (h : Hid (Spool w T p c room buf false)) (s r : Nat) :
    ClosePost T p c room buf false w (.returned (.bool true)) ((w.setCell ⟨p, 1, none⟩ (.bool true)).setChan c room buf.toArray true s r false) := by
  have hpc : c ≠ p := fun e => h.out.apart h.out e.symm
  refine ⟨rfl, ⟨?_, s, r, ?_⟩, ?_⟩
  · exact (heap_setChan_other _ _ _ _ _ _ _ _ _ hpc).trans (h.out.box.put 1 (.bool true))
  · exact heap_setChan _ _ _ _ _ _ _ _ (by simpa using h.out.ltc)
  · exact ((Kept.refl (fun k => k = c ∨ k = p) w).setCell (a := ⟨p, 1, none⟩) (fun _ => .inr rfl) _).setChan (c := c) (fun _ => .inl rfl) _ _ _ _ _ _
theorem close_any {p c room : Nat} {buf : List Value} {shut : Bool} (w : World) (h : Spool w TI p c room buf shut) :
    Calls Try.prog 18 #[.pointer (some ⟨p, 0, none⟩)] w (ClosePost TI p c room buf shut w) := by
  have ho := open_any w h
  have H := Lib.hid h
  obtain ⟨h0, h1, h2⟩ := h.cells
  have hf := h.box.free 1
  obtain ⟨s, r, hc⟩ := h.chan
  cases shut with
  | true =>
    clear h hc
    go_enter Try.func18, Try.ntmps18
    go_wp2_with (go_at_call 28; refine ho.mono ?_; rintro e w' ⟨rfl, rfl⟩)
    all_goals (go_ret; exact ⟨rfl, H.out, .refl _ _⟩)
  | false =>
    have hpc : c ≠ p := fun e => h.apart h e.symm
    have hc' : (w.setCell ⟨p, 1, none⟩ (.bool true)).heap[c]? = some (.chan room buf.toArray false s r false) := (Below.heap_setCell _ _ _ _ hpc).trans hc
    have hcl := fun ats ty => run_close_open (P := Try.prog) ats ty hc'
    have g0 : (w.setCell ⟨p, 1, none⟩ (.bool true)).cell? ⟨p, 0, none⟩ = some (.chan (some c)) := (World.cell?_setCell_other _ _ _ _ (by simp)).trans h0
    clear h hc hc'
    go_enter Try.func18, Try.ntmps18
    go_wp2_with (go_at_call 28; refine ho.mono ?_; rintro e w' ⟨rfl, rfl⟩)
    all_goals (go_ret; exact closePost H s r)
end Go.Proofs.Ytolfldjiejeboaa.Sp
