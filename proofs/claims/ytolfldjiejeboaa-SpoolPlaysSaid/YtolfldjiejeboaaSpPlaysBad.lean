/-
  The walk of 'changelinglaw03.SpoolPlays' where one of the two may not have its room; rows of calls that came in, opened to their cells.
-/
import Derived.Test.YtolfldjiejeboaaSpGame
import Derived.Test.YtolfldjiejeboaaRows
import Derived.OpenShut
import Derived.Deep.Slices
import Derived.Carry
namespace Go.Proofs.Ytolfldjiejeboaa.Sp
open Go.RowKit Go.Conc Mm Ln
open Go.ChangeShapes Go.WideShapes Go.ChangeAt
set_option linter.unusedVariables false
set_option linter.unusedSimpArgs false
/-- Whether a spool may have that room. -/
inductive RightIs (n : Int) : Bool → Prop
  | yes (h : 0 ≤ n ∧ n ≤ 1024) : RightIs n true
  | no (h : n < 0 ∨ 1024 < n) : RightIs n false
theorem right_call {n : Int} {b : Bool} (h : RightIs n b) (w : World) : Calls Try.prog 9 #[.int .i64 n] w fun e w' => e = .returned (.bool b) ∧ w = w' := by
  cases h with
  | yes h =>
    obtain ⟨m, rfl⟩ : ∃ m : Nat, n = m := ⟨n.toNat, by omega⟩
    exact right_yes m (by omega) w
  | no h => exact right_no n h w
theorem new_mineJ (n : Int) (hn : 0 ≤ n ∧ n ≤ 1024) {W w : World} (hb : Below W.heap.size W w) : Calls Try.prog 8 #[.int .i64 n] w fun e w' => ∃ p c, e = .returned (.tuple #[.pointer (some ⟨p, 0, none⟩), .int .i64 0]) ∧ Mine W w' TI p c n.toNat [] false := by
  obtain ⟨m, rfl⟩ : ∃ m : Nat, n = m := ⟨n.toNat, by omega⟩
  exact new_mine m (by omega) hb
set_option maxRecDepth 100000 in
set_option maxHeartbeats 8000000 in
theorem plays_bad (room other : Int) (hbad : ¬ (0 ≤ room ∧ room ≤ 1024) ∨ ¬ (0 ≤ other ∧ other ≤ 1024)) (b : Option Addr) (n c : Nat) (w : World) :
    Calls Try.prog 3 #[.int .i64 room, .int .i64 other, .slice b n c] w fun e w' => e = .returned (.bool true) ∧ Below w.heap.size w w' := by
  by_cases h1 : 0 ≤ room ∧ room ≤ 1024
  · have h2 : other < 0 ∨ 1024 < other := by omega
    have r1 : RightIs room true := .yes h1
    have r2 : RightIs other false := .no h2
    have H1 := Lib.hid h1
    have H2 := Lib.hid h2
    clear hbad h1 h2
    go_enter Try.func3, Try.ntmps3
    go_wp2_with fail
    refine (new_mineJ room H1.out (Below.refl _ _)).mono ?_
    rintro e w1 ⟨p, ch, rfl, hm⟩
    go_wp2_with fail
    refine (new_bad other H2.out w1).mono ?_
    rintro e w2 ⟨rfl, rfl⟩
    go_wp2_with (first
      | (go_at_call 9; refine (right_call (by assumption) _).mono ?_; rintro e w2 ⟨rfl, rfl⟩)
      | (go_at_call 10; refine (known_any _).mono ?_; rintro e w2 ⟨rfl, hb⟩))
    all_goals (go_ret; exact ⟨rfl, hm.below.trans (hb.mono hm.below.size)⟩)
  · have h1 : room < 0 ∨ 1024 < room := by omega
    have r1 : RightIs room false := .no h1
    have H1 := Lib.hid h1
    clear h1 hbad
    by_cases h2 : 0 ≤ other ∧ other ≤ 1024
    · have r2 : RightIs other true := .yes h2
      have H2 := Lib.hid h2
      clear h2
      go_enter Try.func3, Try.ntmps3
      go_wp2_with fail
      refine (new_bad room H1.out w).mono ?_
      rintro e w1 ⟨rfl, rfl⟩
      go_wp2_with fail
      refine (new_mineJ other H2.out (Below.refl _ _)).mono ?_
      rintro e w1 ⟨p, ch, rfl, hm⟩
      go_wp2_with (first
        | (go_at_call 9; refine (right_call (by assumption) _).mono ?_; rintro e w2 ⟨rfl, rfl⟩)
        | (go_at_call 10; refine (known_any _).mono ?_; rintro e w2 ⟨rfl, hb⟩))
      all_goals (go_ret; exact ⟨rfl, hm.below.trans (hb.mono hm.below.size)⟩)
    · have h2 : other < 0 ∨ 1024 < other := by omega
      have r2 : RightIs other false := .no h2
      have H2 := Lib.hid h2
      clear h2
      go_enter Try.func3, Try.ntmps3
      go_wp2_with fail
      refine (new_bad room H1.out w).mono ?_
      rintro e w1 ⟨rfl, rfl⟩
      go_wp2_with fail
      refine (new_bad other H2.out w).mono ?_
      rintro e w1 ⟨rfl, rfl⟩
      go_wp2_with (first
        | (go_at_call 9; refine (right_call (by assumption) _).mono ?_; rintro e w2 ⟨rfl, rfl⟩)
        | (go_at_call 10; refine (known_any _).mono ?_; rintro e w2 ⟨rfl, hb⟩))
      all_goals (go_ret; exact ⟨rfl, hb⟩)
theorem cellsOp : Try.prog.cellsOf 33 = 2 := by kernel_rfl
theorem cellsI : Try.prog.cellsOf 3 = 1 := by kernel_rfl
theorem laidOut : laidOutB Try.prog = true := by kernel_rfl
theorem cell_at {W : World} {a : Addr} {j : Nat} {v : Value} (hj : j ≠ 0) (h : W.cell? (a.add j) = some v) : W.cell? ⟨a.block, a.off + j, none⟩ = some v := by
  unfold Addr.add at h
  rw [if_neg hj] at h
  exact h
theorem open_ops {H : Type} {enc : TypeId × Value → H} {W : World} {b : Option Addr} {n c : Nat} {d : DataW H} {ps : List MemPlace} (h : DataW.Trod enc Try.prog W 0 (fun _ => true) true 22 (.slice b n c) d ps) :
    n ≤ 9223372036854775807 ∧ ∃ r : (Nat → Int) × (Nat → Int), ReadsO W W.heap.size b n r.1 r.2 := by
  obtain ⟨fuel, hf⟩ := h
  rcases Deep.open_slice Try.underlying22 hf with ⟨hcs, _⟩ | ⟨a, len, cap, m, k, D, Pl, hcs, _, hl, hm, hmm, _, hi⟩
  · simp [Value.cells] at hcs
    obtain ⟨rfl, rfl, rfl⟩ := hcs
    exact ⟨by omega, ⟨fun _ => 0, fun _ => 0⟩, fun i hi => absurd hi (by omega)⟩
  · simp [Value.cells] at hcs
    obtain ⟨rfl, rfl, rfl⟩ := hcs
    refine ⟨by unfold maxLen at hm; omega, ?_⟩
    have key : ∀ i, i < n → ∃ x : Int × Int, W.cell? (a.add (i * 2)) = some (.int .i64 x.1) ∧ W.cell? ⟨(a.add (i * 2)).block, (a.add (i * 2)).off + 1, none⟩ = some (.int .i64 x.2) := by
      intro i hlt
      obtain ⟨cs', hc, ht⟩ := hi i (by rw [hmm]; simp; omega)
      rw [cellsOp] at hc
      obtain ⟨_, hlen, hat⟩ := World.cells?_some hc
      obtain ⟨z0, z1, m', _, _, t0, t1⟩ := trod_struct2 Try.underlying33 ht
      match cs', hlen with
      | [c0, c1], _ =>
        have t0 : DataW.trod enc Try.prog W 0 (fun _ => true) true m' 3 (([c0, c1].drop 0).take (Try.prog.cellsOf 3)) = some z0 := t0
        have t1 : DataW.trod enc Try.prog W 0 (fun _ => true) true m' 3 (([c0, c1].drop 1).take (Try.prog.cellsOf 3)) = some z1 := t1
        rw [cellsI] at t0 t1
        simp at t0 t1
        obtain ⟨p, e3, _⟩ := DataW.trod_int Try.underlying3 t0
        obtain ⟨q, e4, _⟩ := DataW.trod_int Try.underlying3 t1
        simp at e3 e4
        subst e3 e4
        exact ⟨⟨p, q⟩, hat 0 (by omega), cell_at (by omega) (hat 1 (by omega))⟩
    obtain ⟨f, hf⟩ := Deep.choose_lt key
    refine ⟨⟨fun i => (f i).1, fun i => (f i).2⟩, fun i hlt => ⟨a, rfl, ?_, hf i hlt⟩⟩
    have := World.block_lt_of_cell? _ _ (hf i hlt).1
    rwa [block_of_add] at this
end Go.Proofs.Ytolfldjiejeboaa.Sp
