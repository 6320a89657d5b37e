/-
  CONTRACTS of layer layout: the innermost block, the topmost frame of a kind.
-/
import Derived.Test.YtidmclaaggoahaaLayA
import Derived.StillTailTactics
namespace Go.Proofs.Ytidmclaaggoahaa.Ly
open Go.RowKit Pl Ar
set_option linter.unusedVariables false
set_option linter.unusedSimpArgs false
/-- a frame -/
structure Fr where
  kind : Int
  col : Int
def frK (l : List Fr) (i : Nat) : Int := (l.map Fr.kind).getD i 0
def frC (l : List Fr) (i : Nat) : Int := (l.map Fr.col).getD i 0
/-- a value reads as a row of frames -/
def ShowsF (w : World) (v : Value) (l : List Fr) : Prop := ∃ b c, v = .slice b l.length c ∧ ∀ k, k < l.length → ∃ g, b = some ⟨g, 0, none⟩ ∧ g < w.heap.size ∧
  w.cell? ⟨g, k * 2, none⟩ = some (.int .i64 (frK l k)) ∧ w.cell? ⟨g, k * 2 + 1, none⟩ = some (.int .i64 (frC l k))
/-- the innermost block among the first frames -/
def innerF (l : List Fr) : Nat → Int × Int
  | 0 => (-1, 0)
  | i + 1 => if frK l i = 1 ∨ frK l i = 7 then ((i : Int), frC l i) else innerF l i
/-- the topmost frame of a kind among the first frames -/
def findF (l : List Fr) (kind : Int) : Nat → Int
  | 0 => (l.length : Int)
  | i + 1 => if frK l i = kind then (i : Int) else if 6 ≤ frK l i ∧ kind < frK l i then (l.length : Int) else findF l kind i
theorem below_drewN {B : Nat} {a w : World} (h : Below B a w) (n : Nat) : Below B a (w.drewN n) := by
  induction n with
  | zero => exact h
  | succ n ih => exact ih.drew
set_option maxHeartbeats 2000000 in
theorem find_any (p : Nat) (v : Value) (l : List Fr) (kind : Int) (hn : l.length ≤ 1000000000) (w : World) (hp : w.cell? ⟨p, 1, none⟩ = some v) (hv : ShowsF w v l) :
    Calls Try.prog 45 #[.pointer (some ⟨p, 0, none⟩), .int .i64 kind] w fun e w' => e = .returned (.int .i64 (findF l kind l.length)) ∧ ∃ m, w' = w.drewN m := by
  obtain ⟨b, c, rfl, hc⟩ := hv
  obtain ⟨n, hn1⟩ : ∃ n, l.length = n := ⟨_, rfl⟩
  rw [hn1] at hc hn hp ⊢
  have HC := Lib.hid hc
  clear hc
  go_enter Try.func45, Try.ntmps45
  go_wp2_with fail
  go_step3
  go_wp2_with fail
  (try go_step3)
  go_wp2_with fail
  go_loop [5] (fun i => ∃ k : Nat, k ≤ n ∧ i = .int .i64 ((k : Int) - 1) ∧ findF l kind n = findF l kind k) (fun i => (intOf i + 1).toNat)
  case atStart => exact ⟨n, by omega, by go_num, rfl⟩
  case round =>
    obtain ⟨k, hk, rfl, hy⟩ := hrel
    have HY := Lib.hid hy
    clear hy
    cases k with
    | zero =>
      have HF := Lib.hid (show findF l kind n = (n : Int) by rw [HY.out]; show (l.length : Int) = _; rw [hn1])
      rw [show (((0 : Nat) : Int) - 1) = -1 from rfl]
      go_wp2
      (try rw [Exit.noGoto_ret])
      go_ret
      exact ⟨by rw [HF.out]; rfl, 0, rfl⟩
    | succ j =>
      rw [show (((j + 1 : Nat) : Int) - 1) = (j : Int) by omega]
      have hj : j < n := by omega
      have hj' : (j : Int) < n := by omega
      obtain ⟨g, rfl, hg, p0, p1⟩ := HC.out j hj
      obtain ⟨q, hq⟩ : ∃ q, frK l j = q := ⟨_, rfl⟩
      rw [hq] at p0
      by_cases h1 : q = kind
      · have d1 : (q == kind) = true := beq_iff_eq.2 h1
        have HF := Lib.hid (show findF l kind n = (j : Int) by rw [HY.out]; unfold findF; rw [hq, if_pos h1])
        clear h1 hq
        go_wp2
        (try rw [Exit.noGoto_ret])
        go_ret
        exact ⟨by rw [HF.out]; rfl, 0, rfl⟩
      · have d1 : (q == kind) = false := beq_eq_false_iff_ne.2 h1
        by_cases h2 : 6 ≤ q ∧ kind < q
        · have d2 : decide ((6 : Int) ≤ q) = true := decide_eq_true h2.1
          have d3 : decide (kind < q) = true := decide_eq_true h2.2
          have HF := Lib.hid (show findF l kind n = (n : Int) by rw [HY.out]; unfold findF; rw [hq, if_neg h1, if_pos h2, hn1])
          clear h1 h2 hq
          go_wp2
          (try rw [Exit.noGoto_normal])
          (try go_wp2)
          (try rw [Exit.noGoto_ret])
          go_ret
          exact ⟨by rw [HF.out]; rfl, 0, rfl⟩
        · have HN := Lib.hid (show findF l kind n = findF l kind j by
            rw [HY.out]
            conv => lhs; unfold findF
            rw [hq, if_neg h1, if_neg h2])
          by_cases h3 : 6 ≤ q
          · have d2 : decide ((6 : Int) ≤ q) = true := decide_eq_true h3
            have d3 : decide (kind < q) = false := decide_eq_false (fun h => h2 ⟨h3, h⟩)
            clear h1 h2 h3 hq
            go_wp2
            go_round
            case rel => exact ⟨j, by omega, by go_num, HN.out⟩
            case measure => simp [intOf]
          · have d2 : decide ((6 : Int) ≤ q) = false := decide_eq_false h3
            clear h1 h2 h3 hq
            go_wp2
            go_round
            case rel => exact ⟨j, by omega, by go_num, HN.out⟩
            case measure => simp [intOf]
def InnerPost (l : List Fr) (w : World) (e : Ending) (w' : World) : Prop := e = .returned (.tuple #[.int .i64 (innerF l l.length).1, .int .i64 (innerF l l.length).2]) ∧ ∃ m, w' = w.drewN m
theorem innerPost {l : List Fr} {a b : Int} {w w' : World} (h : innerF l l.length = (a, b)) (hw : ∃ m, w' = w.drewN m) : InnerPost l w (.returned (.tuple #[.int .i64 a, .int .i64 b])) w' := ⟨by rw [h], hw⟩
set_option maxHeartbeats 2000000 in
theorem inner_any (p : Nat) (v : Value) (l : List Fr) (hn : l.length ≤ 1000000000) (w : World) (hp : w.cell? ⟨p, 1, none⟩ = some v) (hv : ShowsF w v l) :
    Calls Try.prog 38 #[.pointer (some ⟨p, 0, none⟩)] w (InnerPost l w) := by
  obtain ⟨b, c, rfl, hc⟩ := hv
  obtain ⟨n, hn1⟩ : ∃ n, l.length = n := ⟨_, rfl⟩
  rw [hn1] at hc hn hp
  have HN := Lib.hid hn1
  have HC := Lib.hid hc
  clear hc hn1
  go_enter Try.func38, Try.ntmps38
  go_wp2_with fail
  (try go_step3)
  go_wp2_with fail
  (try go_step3)
  go_wp2_with fail
  go_loop [4, 5] (fun i cc => ∃ k : Nat, k ≤ n ∧ i = .int .i64 ((k : Int) - 1) ∧ cc = .int .i64 0 ∧ innerF l n = innerF l k) (fun i _ => (intOf i + 1).toNat)
  case atStart => exact ⟨n, by omega, by go_num, rfl, rfl⟩
  case round =>
    obtain ⟨k, hk, rfl, rfl, hy⟩ := hrel
    have HY := Lib.hid hy
    clear hy
    cases k with
    | zero =>
      have HF := Lib.hid (show innerF l l.length = (-1, 0) by rw [HN.out, HY.out]; rfl)
      rw [show (((0 : Nat) : Int) - 1) = -1 from rfl]
      go_wp2
      (try rw [Exit.noGoto_normal])
      (try go_wp2)
      (try rw [Exit.noGoto_ret])
      go_returns
      exact innerPost HF.out ⟨0, rfl⟩
    | succ j =>
      rw [show (((j + 1 : Nat) : Int) - 1) = (j : Int) by omega]
      have hj : j < n := by omega
      have hj' : (j : Int) < n := by omega
      obtain ⟨g, rfl, hg, p0, p1⟩ := HC.out j hj
      obtain ⟨q, hq⟩ : ∃ q, frK l j = q := ⟨_, rfl⟩
      obtain ⟨qc, hqc⟩ : ∃ q, frC l j = q := ⟨_, rfl⟩
      rw [hq] at p0
      rw [hqc] at p1
      by_cases h1 : q = 1
      · have d1 : (q == 1) = true := beq_iff_eq.2 h1
        have HF := Lib.hid (show innerF l l.length = ((j : Int), qc) by rw [HN.out, HY.out]; unfold innerF; rw [hq, hqc, if_pos (.inl h1)])
        clear h1 hq hqc
        go_wp2
        (try rw [Exit.noGoto_normal])
        (try go_wp2)
        (try rw [Exit.noGoto_ret])
        go_returns
        exact innerPost HF.out ⟨0, rfl⟩
      · have d1 : (q == 1) = false := beq_eq_false_iff_ne.2 h1
        by_cases h2 : q = 7
        · have d2 : (q == 7) = true := beq_iff_eq.2 h2
          have HF := Lib.hid (show innerF l l.length = ((j : Int), qc) by rw [HN.out, HY.out]; unfold innerF; rw [hq, hqc, if_pos (.inr h2)])
          clear h1 h2 hq hqc
          go_wp2
          (try rw [Exit.noGoto_normal])
          (try go_wp2)
          (try rw [Exit.noGoto_ret])
          go_returns
          exact innerPost HF.out ⟨0, rfl⟩
        · have d2 : (q == 7) = false := beq_eq_false_iff_ne.2 h2
          have HS := Lib.hid (show innerF l n = innerF l j by
            rw [HY.out]
            conv => lhs; unfold innerF
            rw [hq, if_neg (by rintro (h | h) <;> contradiction)])
          clear h1 h2 hq hqc
          go_wp2
          go_round
          case rel => exact ⟨j, by omega, by go_num, rfl, HS.out⟩
          case measure => simp [intOf]
end Go.Proofs.Ytidmclaaggoahaa.Ly
