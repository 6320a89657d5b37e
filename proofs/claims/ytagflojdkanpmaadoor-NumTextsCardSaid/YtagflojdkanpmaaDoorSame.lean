/-
  CONTRACT: the document's own SameInts says that two lists of the same numbers are the same.
-/
import Derived.Test.YtagflojdkanpmaaDoorNames
namespace Go.Proofs.YtagflojdkanpmaaDoor.Sm
open Go.RowKit Pl Ar Dx Ot Tb Nm
set_option linter.unusedVariables false

/-- a list of ints as a slice shows it -/
def Shows (w : World) (v : Value) (l : List Int) : Prop := ∃ a c, v = .slice a l.length c ∧ l.length ≤ 9223372036854775807 ∧ (0 < l.length → ∃ g, a = some ⟨g, 0, none⟩ ∧ ∀ j, j < l.length → w.cell? ⟨g, j, none⟩ = some (.int .i64 (l.getD j 0)))
theorem shows_of {w : World} {B : Nat} {v : Value} {l : List Int} (h : Owns w B v l) : Shows w v l := by
  have hx := h
  rcases h.2 with ⟨rfl, hn⟩ | ⟨g, cap, cur, rfl, hg, hb, hle, hm, _, _⟩
  · exact ⟨none, 0, by rw [hn], by omega, by omega⟩
  · refine ⟨some ⟨g, 0, none⟩, cap, rfl, by unfold maxLen at hm; omega, fun h0 => ⟨g, rfl, fun j hj => ?_⟩⟩
    rw [World.ownsRow.cellAt hx j (by omega)]
    simp [hj]
theorem shows_below {w w' : World} {v : Value} {l : List Int} {B : Nat} (h : Shows w v l) (hb : Below B w w') (hB : ∀ a n c, v = .slice (some a) n c → a.block < B) : Shows w' v l := by
  obtain ⟨a, c, rfl, hm, hc⟩ := h
  refine ⟨a, c, rfl, hm, fun h0 => ?_⟩
  obtain ⟨g, rfl, hg⟩ := hc h0
  exact ⟨g, rfl, fun j hj => (hb.cell (p := ⟨g, j, none⟩) (hB ⟨g, 0, none⟩ _ _ rfl)).trans (hg j hj)⟩
theorem owns_lt {w : World} {B : Nat} {v : Value} {l : List Int} (h : Owns w B v l) : ∀ a n c, v = .slice (some a) n c → a.block < w.heap.size := fun a n c e => (h.lt a.block (by rw [e]; rfl)).2

theorem below_drewN (w : World) (n : Nat) : Below w.heap.size w (w.drewN n) := by
  induction n with
  | zero => exact Below.refl _ _
  | succ n ih => exact ih.drew
set_option maxHeartbeats 1000000 in
theorem same_true (v1 v2 : Value) (l : List Int) (w : World) (h1 : Shows w v1 l) (h2 : Shows w v2 l) : Calls Tryd.prog 19 #[v1, v2] w fun e w' => e = .returned (.bool true) ∧ Below w.heap.size w w' := by
  obtain ⟨a1, c1, rfl, hm, g1⟩ := h1
  obtain ⟨a2, c2, rfl, _, g2⟩ := h2
  by_cases h0 : 0 < l.length
  · obtain ⟨b1, rfl, k1⟩ := g1 h0
    obtain ⟨b2, rfl, k2⟩ := g2 h0
    have K1 := Lib.hid k1
    have K2 := Lib.hid k2
    clear g1 g2 k1 k2
    generalize hN : l.length = N at *
    clear hN
    go_enter Tryd.func19, Tryd.ntmps19
    go_wp2
    go_loopw [5] (fun i wr => ∃ k m : Nat, k ≤ N ∧ i = .int .i64 k ∧ wr = w.drewN m) (fun i _ => N - (intOf i).toNat)
    case atStart => exact ⟨0, 0, by omega, rfl, rfl⟩
    case round =>
      obtain ⟨k, m, hk, rfl, rfl⟩ := hrel
      by_cases hlt : k < N
      · have q1 := K1.out k hlt
        have q2 := K2.out k hlt
        have q3 : (k : Int) < (N : Int) := by omega
        go_wp2
        go_quiet (fail)
        go_wp2
        go_roundw
        case rel => exact ⟨k + 1, m + nq, by omega, by go_num, rfl⟩
        case measure => simp [intOf]; omega
      · go_wp2
        go_ret
        exact ⟨rfl, below_drewN _ _⟩
  · have hz : l.length = 0 := by omega
    rw [hz]
    clear hz g1 g2 h0
    go_enter Tryd.func19, Tryd.ntmps19
    go_wp2
    go_rounds 1
    go_ret
    exact ⟨rfl, Below.refl _ _⟩
end Go.Proofs.YtagflojdkanpmaaDoor.Sm
