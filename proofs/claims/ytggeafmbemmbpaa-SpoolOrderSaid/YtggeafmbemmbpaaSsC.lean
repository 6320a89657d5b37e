/-
  CONTRACTS of layer spool, of texts: a spool is made, closed.
-/
import Derived.Test.YtggeafmbemmbpaaSsB
namespace Go.Proofs.Ytggeafmbemmbpaa.Ss
open Go.RowKit Go.Conc Mm Ln Sp
set_option linter.unusedVariables false
set_option linter.unusedSimpArgs false
/-- What a call of New ends with: two blocks more, the spool's and its channel's. -/
def NewPost (T : TypeId) (room : Nat) (w : World) (e : Ending) (w' : World) : Prop :=
  e = .returned (.tuple #[.pointer (some ⟨w.heap.size + 1, 0, none⟩), .int .i64 0]) ∧ Spool w' T (w.heap.size + 1) w.heap.size room [] false ∧ Below w.heap.size w w' ∧ w'.heap.size = w.heap.size + 2
theorem TINT : (Try.prog.info? 9).map (fun i => (i.zero, i.size, i.bytes)) = some (some (.string ByteArray.empty), 1, 16) := by kernel_rfl
theorem newPost {T : TypeId} (room : Nat) (w : World) : NewPost T room w (.returned (.tuple #[.pointer (some ⟨w.heap.size + 1, 0, none⟩), .int .i64 0]))
    ((w.alloc (.chan room #[] false 0 0 false)).alloc (.cells #[.chan (some w.heap.size), .bool false, .pointer (some ⟨w.heap.size + 1, 0, none⟩)] T)) := by
  have e1 : (w.alloc (.chan room #[] false 0 0 false)).heap.size = w.heap.size + 1 := by simp
  refine ⟨rfl, ⟨?_, 0, 0, ?_⟩, ?_, by simp⟩
  · have hb := Box.new (w.alloc (.chan room #[] false 0 0 false)) #[.chan (some w.heap.size), .bool false, .pointer (some ⟨w.heap.size + 1, 0, none⟩)] T
    rw [e1] at hb
    exact hb
  · rw [Below.heap_alloc _ _ _ (by omega)]
    exact heap_alloc_new w _
  · exact ((Below.refl w.heap.size w).alloc (Nat.le_refl _) _).alloc (by omega) _
theorem new_any (n : Nat) (hn : n ≤ 1024) (w : World) : Calls Try.prog 22 #[.int .i64 n] w (NewPost TI n w) := by
  obtain ⟨i0, hi, hz0, hz1, hz2'⟩ := info_parts TINT
  have hmc := run_makeChan (P := Try.prog) (w := w) Try.underlying65 hi .i64 n (by omega) (by rw [hz2']; omega)
  have a1 : ¬ ((n : Int) < 0) := by omega
  have a2 : ¬ (1024 < (n : Int)) := by omega
  go_enter Try.func22, Try.ntmps22
  go_wp2
  all_goals (go_returns; exact newPost n w)
theorem new_bad (n : Int) (hn : n < 0 ∨ 1024 < n) (w : World) : Calls Try.prog 22 #[.int .i64 n] w fun e w' => e = .returned (.tuple #[.pointer none, .int .i64 1]) ∧ w = w' := by
  go_enter Try.func22, Try.ntmps22
  go_wp2
  all_goals (go_returns; exact ⟨rfl, rfl⟩)
end Go.Proofs.Ytggeafmbemmbpaa.Ss
