/-
  CONTRACTS of layer layout: what a token closes, opens, and has due behind it.
-/
import Derived.Test.YtdajihpfedbihaaGreatGA
import Derived.Test.YtdajihpfedbihaaGreatGSa
import Derived.Test.YtdajihpfedbihaaGreatGTokens
import Derived.Outline
import Derived.StillTailTactics
import Derived.Deep.AppendLies
import Derived.Deep.RegionLaw
import Derived.OwnWalk
import Derived.Deep.LoopGhost
namespace Go.Proofs.YtdajihpfedbihaaGreat.Ly
open Go.RowKit Pl Ar
set_option linter.unusedVariables false
set_option linter.unusedSimpArgs false
/-- a token's value, made or not -/
abbrev tkV (k : Int) (t : ByteArray) (n ln col : Int) (m : Bool) : Value := .agg #[.int .i64 k, .string t, .int .i64 n, .int .i64 ln, .int .i64 col, .bool m]
def closedK (k : Int) (t : List UInt8) : Int :=
  if k = 5 then (if t = [41] then 6 else if t = [125] then 7 else 0)
  else if k = 6 then (if t = [105, 110] then 2 else if t = [111, 102] then 3 else if t = [116, 104, 101, 110] then 4 else if t = [101, 108, 115, 101] then 5 else 0) else 0
def openedK (k : Int) (t : List UInt8) : Int :=
  if k = 5 then (if t = [40] then 6 else if t = [123] then 7 else 0)
  else if k = 6 then (if t = [108, 101, 116] then 2 else if t = [99, 97, 115, 101] then 3 else if t = [105, 102] then 4 else if t = [116, 104, 101, 110] then 5 else 0) else 0
def dueK (k : Int) (t : List UInt8) : Bool := decide (k = 6 ∧ (t = [108, 101, 116] ∨ t = [111, 102]))
set_option maxHeartbeats 2000000 in
theorem closed_any (k : Int) (t : ByteArray) (n ln col : Int) (m : Bool) (w : World) : Calls Tryz.prog 109 #[tkV k t n ln col m] w fun e w' => e = .returned (.int .i64 (closedK k t.data.toList)) ∧ Below w.heap.size w w' := by
  obtain ⟨q, hq⟩ : ∃ q, closedK k t.data.toList = q := ⟨_, rfl⟩
  rw [hq]
  unfold closedK at hq
  rw [← Lib.toList_data] at hq
  go_enter Tryz.func109, Tryz.ntmps109
  go_wp2
  all_goals
    go_ret
    refine ⟨?_, by go_grown⟩
    subst hq
    simp only [beq_iff_eq, beq_eq_false_iff_ne, ne_eq] at *
    simp [*]
set_option maxHeartbeats 2000000 in
theorem opened_any (k : Int) (t : ByteArray) (n ln col : Int) (m : Bool) (w : World) : Calls Tryz.prog 105 #[tkV k t n ln col m] w fun e w' => e = .returned (.int .i64 (openedK k t.data.toList)) ∧ Below w.heap.size w w' := by
  obtain ⟨q, hq⟩ : ∃ q, openedK k t.data.toList = q := ⟨_, rfl⟩
  rw [hq]
  unfold openedK at hq
  rw [← Lib.toList_data] at hq
  go_enter Tryz.func105, Tryz.ntmps105
  go_wp2
  all_goals
    go_ret
    refine ⟨?_, by go_grown⟩
    subst hq
    simp only [beq_iff_eq, beq_eq_false_iff_ne, ne_eq] at *
    simp [*]
set_option maxHeartbeats 2000000 in
theorem due_any (k : Int) (t : ByteArray) (n ln col : Int) (m : Bool) (w : World) : Calls Tryz.prog 112 #[tkV k t n ln col m] w fun e w' => e = .returned (.bool (dueK k t.data.toList)) ∧ Below w.heap.size w w' := by
  obtain ⟨q, hq⟩ : ∃ q, dueK k t.data.toList = q := ⟨_, rfl⟩
  rw [hq]
  unfold dueK at hq
  rw [← Lib.toList_data] at hq
  go_enter Tryz.func112, Tryz.ntmps112
  go_wp2
  all_goals
    go_ret
    refine ⟨?_, by go_grown⟩
    subst hq
    simp only [beq_iff_eq, beq_eq_false_iff_ne, ne_eq] at *
    by_cases h1 : t.toList = [108, 101, 116] <;> by_cases h2 : t.toList = [111, 102] <;> simp_all
end Go.Proofs.YtdajihpfedbihaaGreat.Ly
/-
  CONTRACTS of layer layout: the innermost block, the topmost frame of a kind.
-/
namespace Go.Proofs.YtdajihpfedbihaaGreat.Ly
open Go.RowKit Pl Ar
set_option linter.unusedVariables false
set_option linter.unusedSimpArgs false
/-- a frame -/
structure Fr where
  kind : Int
  col : Int
def frK (l : List Fr) (i : Nat) : Int := (l.map Fr.kind).getD i 0
def frC (l : List Fr) (i : Nat) : Int := (l.map Fr.col).getD i 0
/-- a value reads as a row of frames -/
def ShowsF (w : World) (v : Value) (l : List Fr) : Prop := ∃ b c, v = .slice b l.length c ∧ ∀ k, k < l.length → ∃ g, b = some ⟨g, 0, none⟩ ∧ g < w.heap.size ∧
  w.cell? ⟨g, k * 2, none⟩ = some (.int .i64 (frK l k)) ∧ w.cell? ⟨g, k * 2 + 1, none⟩ = some (.int .i64 (frC l k))
/-- the innermost block among the first frames -/
def innerF (l : List Fr) : Nat → Int × Int
  | 0 => (-1, 0)
  | i + 1 => if frK l i = 1 ∨ frK l i = 7 then ((i : Int), frC l i) else innerF l i
/-- the topmost frame of a kind among the first frames -/
def findF (l : List Fr) (kind : Int) : Nat → Int
  | 0 => (l.length : Int)
  | i + 1 => if frK l i = kind then (i : Int) else if 6 ≤ frK l i ∧ kind < frK l i then (l.length : Int) else findF l kind i
theorem below_drewN {B : Nat} {a w : World} (h : Below B a w) (n : Nat) : Below B a (w.drewN n) := by
  induction n with
  | zero => exact h
  | succ n ih => exact ih.drew
set_option maxHeartbeats 2000000 in
theorem find_any (p : Nat) (v : Value) (l : List Fr) (kind : Int) (hn : l.length ≤ 1000000000) (w : World) (hp : w.cell? ⟨p, 1, none⟩ = some v) (hv : ShowsF w v l) :
    Calls Tryz.prog 111 #[.pointer (some ⟨p, 0, none⟩), .int .i64 kind] w fun e w' => e = .returned (.int .i64 (findF l kind l.length)) ∧ ∃ m, w' = w.drewN m := by
  obtain ⟨b, c, rfl, hc⟩ := hv
  obtain ⟨n, hn1⟩ : ∃ n, l.length = n := ⟨_, rfl⟩
  rw [hn1] at hc hn hp ⊢
  have HC := Lib.hid hc
  clear hc
  go_enter Tryz.func111, Tryz.ntmps111
  go_wp2_with fail
  go_step3
  go_wp2_with fail
  (try go_step3)
  go_wp2_with fail
  go_loop [5] (fun i => ∃ k : Nat, k ≤ n ∧ i = .int .i64 ((k : Int) - 1) ∧ findF l kind n = findF l kind k) (fun i => (intOf i + 1).toNat)
  case atStart => exact ⟨n, by omega, by go_num, rfl⟩
  case round =>
    obtain ⟨k, hk, rfl, hy⟩ := hrel
    have HY := Lib.hid hy
    clear hy
    cases k with
    | zero =>
      have HF := Lib.hid (show findF l kind n = (n : Int) by rw [HY.out]; show (l.length : Int) = _; rw [hn1])
      rw [show (((0 : Nat) : Int) - 1) = -1 from rfl]
      go_wp2
      (try rw [Exit.noGoto_ret])
      go_ret
      exact ⟨by rw [HF.out]; rfl, 0, rfl⟩
    | succ j =>
      rw [show (((j + 1 : Nat) : Int) - 1) = (j : Int) by omega]
      have hj : j < n := by omega
      have hj' : (j : Int) < n := by omega
      obtain ⟨g, rfl, hg, p0, p1⟩ := HC.out j hj
      obtain ⟨q, hq⟩ : ∃ q, frK l j = q := ⟨_, rfl⟩
      rw [hq] at p0
      by_cases h1 : q = kind
      · have d1 : (q == kind) = true := beq_iff_eq.2 h1
        have HF := Lib.hid (show findF l kind n = (j : Int) by rw [HY.out]; unfold findF; rw [hq, if_pos h1])
        clear h1 hq
        go_wp2
        (try rw [Exit.noGoto_ret])
        go_ret
        exact ⟨by rw [HF.out]; rfl, 0, rfl⟩
      · have d1 : (q == kind) = false := beq_eq_false_iff_ne.2 h1
        by_cases h2 : 6 ≤ q ∧ kind < q
        · have d2 : decide ((6 : Int) ≤ q) = true := decide_eq_true h2.1
          have d3 : decide (kind < q) = true := decide_eq_true h2.2
          have HF := Lib.hid (show findF l kind n = (n : Int) by rw [HY.out]; unfold findF; rw [hq, if_neg h1, if_pos h2, hn1])
          clear h1 h2 hq
          go_wp2
          (try rw [Exit.noGoto_normal])
          (try go_wp2)
          (try rw [Exit.noGoto_ret])
          go_ret
          exact ⟨by rw [HF.out]; rfl, 0, rfl⟩
        · have HN := Lib.hid (show findF l kind n = findF l kind j by
            rw [HY.out]
            conv => lhs; unfold findF
            rw [hq, if_neg h1, if_neg h2])
          by_cases h3 : 6 ≤ q
          · have d2 : decide ((6 : Int) ≤ q) = true := decide_eq_true h3
            have d3 : decide (kind < q) = false := decide_eq_false (fun h => h2 ⟨h3, h⟩)
            clear h1 h2 h3 hq
            go_wp2
            go_round
            case rel => exact ⟨j, by omega, by go_num, HN.out⟩
            case measure => simp [intOf]
          · have d2 : decide ((6 : Int) ≤ q) = false := decide_eq_false h3
            clear h1 h2 h3 hq
            go_wp2
            go_round
            case rel => exact ⟨j, by omega, by go_num, HN.out⟩
            case measure => simp [intOf]
def InnerPost (l : List Fr) (w : World) (e : Ending) (w' : World) : Prop := e = .returned (.tuple #[.int .i64 (innerF l l.length).1, .int .i64 (innerF l l.length).2]) ∧ ∃ m, w' = w.drewN m
theorem innerPost {l : List Fr} {a b : Int} {w w' : World} (h : innerF l l.length = (a, b)) (hw : ∃ m, w' = w.drewN m) : InnerPost l w (.returned (.tuple #[.int .i64 a, .int .i64 b])) w' := ⟨by rw [h], hw⟩
set_option maxHeartbeats 2000000 in
theorem inner_any (p : Nat) (v : Value) (l : List Fr) (hn : l.length ≤ 1000000000) (w : World) (hp : w.cell? ⟨p, 1, none⟩ = some v) (hv : ShowsF w v l) :
    Calls Tryz.prog 104 #[.pointer (some ⟨p, 0, none⟩)] w (InnerPost l w) := by
  obtain ⟨b, c, rfl, hc⟩ := hv
  obtain ⟨n, hn1⟩ : ∃ n, l.length = n := ⟨_, rfl⟩
  rw [hn1] at hc hn hp
  have HN := Lib.hid hn1
  have HC := Lib.hid hc
  clear hc hn1
  go_enter Tryz.func104, Tryz.ntmps104
  go_wp2_with fail
  (try go_step3)
  go_wp2_with fail
  (try go_step3)
  go_wp2_with fail
  go_loop [4, 5] (fun i cc => ∃ k : Nat, k ≤ n ∧ i = .int .i64 ((k : Int) - 1) ∧ cc = .int .i64 0 ∧ innerF l n = innerF l k) (fun i _ => (intOf i + 1).toNat)
  case atStart => exact ⟨n, by omega, by go_num, rfl, rfl⟩
  case round =>
    obtain ⟨k, hk, rfl, rfl, hy⟩ := hrel
    have HY := Lib.hid hy
    clear hy
    cases k with
    | zero =>
      have HF := Lib.hid (show innerF l l.length = (-1, 0) by rw [HN.out, HY.out]; rfl)
      rw [show (((0 : Nat) : Int) - 1) = -1 from rfl]
      go_wp2
      (try rw [Exit.noGoto_normal])
      (try go_wp2)
      (try rw [Exit.noGoto_ret])
      go_returns
      exact innerPost HF.out ⟨0, rfl⟩
    | succ j =>
      rw [show (((j + 1 : Nat) : Int) - 1) = (j : Int) by omega]
      have hj : j < n := by omega
      have hj' : (j : Int) < n := by omega
      obtain ⟨g, rfl, hg, p0, p1⟩ := HC.out j hj
      obtain ⟨q, hq⟩ : ∃ q, frK l j = q := ⟨_, rfl⟩
      obtain ⟨qc, hqc⟩ : ∃ q, frC l j = q := ⟨_, rfl⟩
      rw [hq] at p0
      rw [hqc] at p1
      by_cases h1 : q = 1
      · have d1 : (q == 1) = true := beq_iff_eq.2 h1
        have HF := Lib.hid (show innerF l l.length = ((j : Int), qc) by rw [HN.out, HY.out]; unfold innerF; rw [hq, hqc, if_pos (.inl h1)])
        clear h1 hq hqc
        go_wp2
        (try rw [Exit.noGoto_normal])
        (try go_wp2)
        (try rw [Exit.noGoto_ret])
        go_returns
        exact innerPost HF.out ⟨0, rfl⟩
      · have d1 : (q == 1) = false := beq_eq_false_iff_ne.2 h1
        by_cases h2 : q = 7
        · have d2 : (q == 7) = true := beq_iff_eq.2 h2
          have HF := Lib.hid (show innerF l l.length = ((j : Int), qc) by rw [HN.out, HY.out]; unfold innerF; rw [hq, hqc, if_pos (.inr h2)])
          clear h1 h2 hq hqc
          go_wp2
          (try rw [Exit.noGoto_normal])
          (try go_wp2)
          (try rw [Exit.noGoto_ret])
          go_returns
          exact innerPost HF.out ⟨0, rfl⟩
        · have d2 : (q == 7) = false := beq_eq_false_iff_ne.2 h2
          have HS := Lib.hid (show innerF l n = innerF l j by
            rw [HY.out]
            conv => lhs; unfold innerF
            rw [hq, if_neg (by rintro (h | h) <;> contradiction)])
          clear h1 h2 hq hqc
          go_wp2
          go_round
          case rel => exact ⟨j, by omega, by go_num, rfl, HS.out⟩
          case measure => simp [intOf]
end Go.Proofs.YtdajihpfedbihaaGreat.Ly
/-
  CONTRACTS of layer layout: a frame is put, a mark is made.
-/
namespace Go.Proofs.YtdajihpfedbihaaGreat.Ly
open Go.RowKit Pl Ar
set_option linter.unusedVariables false
set_option linter.unusedSimpArgs false
theorem Tfr : (Tryz.prog.info? 194).map (fun i => (i.zero, i.size, i.bytes)) = some (some (.agg #[.int .i64 0, .int .i64 0]), 2, 16) := by kernel_rfl
def frCells (f : Fr) : List Value := [.int .i64 f.kind, .int .i64 f.col]
def frsCells (l : List Fr) : List Value := l.flatMap frCells
abbrev OwnsF (w : World) (B : Nat) (v : Value) (l : List Fr) : Prop := w.ownsRow B 194 2 v l.length (frsCells l)
theorem news2 (Y : World) (v0 v1 : Value) (t : TypeId) : ∀ (j : Nat) u, [v0, v1][j]? = some u → (Y.alloc (.cells #[v0, v1] t)).cell? ((⟨Y.heap.size, 0, none⟩ : Addr).add j) = some u := by
  intro j u hj
  have e : ((⟨Y.heap.size, 0, none⟩ : Addr).add j) = ⟨Y.heap.size, j, none⟩ := by
    simp [Addr.add]
    try (intro e; exact e.symm)
  rw [e, World.cell?_alloc_at _ _ _ _ rfl]
  simpa using hj
end Go.Proofs.YtdajihpfedbihaaGreat.Ly
/-
  CONTRACTS of layer layout: the sheet; a mark is made, a frame is put.
-/
namespace Go.Proofs.YtdajihpfedbihaaGreat.Ly
open Go.RowKit Pl Ar Mm
set_option linter.unusedVariables false
set_option linter.unusedSimpArgs false
/-- a token, made or not -/
structure TokM where
  kind : Int
  text : ByteArray
  num : Int
  line : Int
  col : Int
  made : Bool
def tmCells (t : TokM) : List Value := [.int .i64 t.kind, .string t.text, .int .i64 t.num, .int .i64 t.line, .int .i64 t.col, .bool t.made]
def tmsCells (l : List TokM) : List Value := l.flatMap tmCells
abbrev TT : TypeId := 54
abbrev TF : TypeId := 194
abbrev TS : TypeId := 157
theorem Ttok : (Tryz.prog.info? 54).map (fun i => (i.zero, i.size, i.bytes)) = some (some (.agg #[.int .i64 0, .string ByteArray.empty, .int .i64 0, .int .i64 0, .int .i64 0, .bool false]), 6, 56) := by kernel_rfl
abbrev OwnsM (w : World) (B : Nat) (v : Value) (l : List TokM) : Prop := w.ownsRow B TT 6 v l.length (tmsCells l)
theorem tms_push (l : List TokM) (t : TokM) : tmsCells (l ++ [t]) = tmsCells l ++ tmCells t := by unfold tmsCells; rw [List.flatMap_append]; simp
/-- From w to w' the blocks of Z are kept; no block has gone. -/
structure Holds (Z : Nat → Prop) (w w' : World) : Prop where
  os : w'.os = w.os
  tape : w'.tape = w.tape
  output : w'.output = w.output
  size : w.heap.size ≤ w'.heap.size
  block : ∀ k, Z k → w'.heap[k]? = w.heap[k]?
section
variable {Z : Nat → Prop} {w w' w'' : World}
theorem Holds.refl (Z : Nat → Prop) (w : World) : Holds Z w w := ⟨rfl, rfl, rfl, Nat.le_refl _, fun _ _ => rfl⟩
theorem Holds.trans (h : Holds Z w w') (k : Holds Z w' w'') : Holds Z w w'' := ⟨k.os.trans h.os, k.tape.trans h.tape, k.output.trans h.output, Nat.le_trans h.size k.size, fun i hi => (k.block i hi).trans (h.block i hi)⟩
theorem Holds.drew (h : Holds Z w w') : Holds Z w w'.drew := ⟨h.os, h.tape, h.output, h.size, h.block⟩
theorem Holds.drewN (h : Holds Z w w') (n : Nat) : Holds Z w (w'.drewN n) := ⟨h.os, h.tape, h.output, h.size, h.block⟩
theorem Holds.alloc (h : Holds Z w w') (hz : ∀ k, Z k → k < w'.heap.size) (o : Obj) : Holds Z w (w'.alloc o) := ⟨h.os, h.tape, h.output, by simp; exact Nat.le_succ_of_le h.size, fun k hk => (Below.heap_alloc _ _ _ (hz k hk)).trans (h.block k hk)⟩
theorem Holds.setCell (h : Holds Z w w') {a : Addr} (ha : ¬ Z a.block) (u : Value) : Holds Z w (w'.setCell a u) := ⟨h.os, h.tape, h.output, by simpa [World.setCell] using h.size, fun k hk => (Below.heap_setCell _ _ _ _ (fun e => ha (e ▸ hk))).trans (h.block k hk)⟩
theorem Holds.grown (h : Holds Z w w') {row : Option Nat} (hg : w'.grownBy w'' row) (hz : ∀ k, Z k → k < w'.heap.size) (hr : ∀ k, row = some k → ¬ Z k) : Holds Z w w'' :=
  ⟨hg.os.trans h.os, hg.tape.trans h.tape, hg.output.trans h.output, Nat.le_trans h.size hg.size, fun k hk => (hg.block k (hz k hk) (fun e => hr k e.symm hk)).trans (h.block k hk)⟩
theorem Holds.box (h : Holds Z w w') {g : Nat} {t : TypeId} {cs : Array Value} (b : Box w g t cs) (hg : Z g) : Box w' g t cs := (h.block g hg).trans b
end
/-- The sheet lies at block p; neither it nor its rows lie in Z. -/
structure Sheet (Z : Nat → Prop) (w : World) (p : Nat) (T : List TokM) (F : List Fr) (due : Bool) (ln col : Int) (vt vf : Value) : Prop where
  box : Box w p TS #[vt, vf, .bool due, .int .i64 ln, .int .i64 col]
  toks : OwnsM w 0 vt T
  frames : OwnsF w 0 vf F
  zp : ¬ Z p
  zt : ∀ k, vt.ownBlock = some k → ¬ Z k
  zf : ∀ k, vf.ownBlock = some k → ¬ Z k
  zl : ∀ k, Z k → k < w.heap.size
section
variable {Z : Nat → Prop} {w w' : World} {p : Nat} {T : List TokM} {F : List Fr} {due : Bool} {ln col : Int} {vt vf : Value}
theorem Sheet.cells (h : Sheet Z w p T F due ln col vt vf) : (w.cell? ⟨p, 0, none⟩ = some vt ∧ w.cell? ⟨p, 1, none⟩ = some vf ∧ w.cell? ⟨p, 2, none⟩ = some (.bool due) ∧ w.cell? ⟨p, 3, none⟩ = some (.int .i64 ln) ∧ w.cell? ⟨p, 4, none⟩ = some (.int .i64 col)) ∧
    (w.frozen? ⟨p, 0, none⟩ = false ∧ w.frozen? ⟨p, 1, none⟩ = false ∧ w.frozen? ⟨p, 2, none⟩ = false ∧ w.frozen? ⟨p, 3, none⟩ = false ∧ w.frozen? ⟨p, 4, none⟩ = false) ∧ p < w.heap.size :=
  ⟨⟨h.box.cell 0, h.box.cell 1, h.box.cell 2, h.box.cell 3, h.box.cell 4⟩, ⟨h.box.free 0, h.box.free 1, h.box.free 2, h.box.free 3, h.box.free 4⟩, h.box.lt⟩
theorem Sheet.here (h : Sheet Z w p T F due ln col vt vf) (k : Below w.heap.size w w') : Sheet Z w' p T F due ln col vt vf :=
  ⟨h.box.below k h.box.lt, own_here h.toks k, own_here h.frames k, h.zp, h.zt, h.zf, fun i hi => Nat.lt_of_lt_of_le (h.zl i hi) k.size⟩
theorem Sheet.drew (h : Sheet Z w p T F due ln col vt vf) : Sheet Z w.drew p T F due ln col vt vf := ⟨h.box, h.toks, h.frames, h.zp, h.zt, h.zf, h.zl⟩
theorem Sheet.set {j : Nat} {u : Value} {w2 : World} (h : Sheet Z w p T F due ln col vt vf) : Sheet Z w p T F due ln col vt vf := h
end
theorem frames_kept {w w2 : World} {o : Obj} {v vf : Value} {T : List TokM} {F : List Fr} (ht : OwnsM w 0 v T) (hf : OwnsF w 0 vf F) (hg : (w.alloc o).grownBy w2 v.ownBlock) : OwnsF w2 0 vf F :=
  (hf.alloc o).kept hg (by
    cases hv : vf.ownBlock with
    | none => exact .inl rfl
    | some k =>
      refine .inr fun e => ?_
      rcases hf.2 with ⟨rfl, _⟩ | ⟨g', c', cur, rfl, _, hh, _⟩
      · simp [Value.ownBlock] at hv
      · obtain rfl : g' = k := by simpa [Value.ownBlock] using hv
        rcases ht.2 with ⟨rfl, _⟩ | ⟨g2, c2, cur2, rfl, _, hh2, _⟩
        · simp [Value.ownBlock] at e
        · obtain rfl : g2 = g' := by simpa [Value.ownBlock] using e.symm
          exact absurd (Box.same hh hh2) (by decide))
theorem toks_kept {w w2 : World} {o : Obj} {v vt : Value} {T : List TokM} {F : List Fr} (ht : OwnsM w 0 vt T) (hf : OwnsF w 0 v F) (hg : (w.alloc o).grownBy w2 v.ownBlock) : OwnsM w2 0 vt T :=
  (ht.alloc o).kept hg (by
    cases hv : vt.ownBlock with
    | none => exact .inl rfl
    | some k =>
      refine .inr fun e => ?_
      rcases ht.2 with ⟨rfl, _⟩ | ⟨g', c', cur, rfl, _, hh, _⟩
      · simp [Value.ownBlock] at hv
      · obtain rfl : g' = k := by simpa [Value.ownBlock] using hv
        rcases hf.2 with ⟨rfl, _⟩ | ⟨g2, c2, cur2, rfl, _, hh2, _⟩
        · simp [Value.ownBlock] at e
        · obtain rfl : g2 = g' := by simpa [Value.ownBlock] using e.symm
          exact absurd (Box.same hh hh2) (by decide))
theorem news6 (Y : World) (v0 v1 v2 v3 v4 v5 : Value) (t : TypeId) : ∀ (j : Nat) u, [v0, v1, v2, v3, v4, v5][j]? = some u → (Y.alloc (.cells #[v0, v1, v2, v3, v4, v5] t)).cell? ((⟨Y.heap.size, 0, none⟩ : Addr).add j) = some u := by
  intro j u hj
  have e : ((⟨Y.heap.size, 0, none⟩ : Addr).add j) = ⟨Y.heap.size, j, none⟩ := by
    simp [Addr.add]
    try (intro e; exact e.symm)
  rw [e, World.cell?_alloc_at _ _ _ _ rfl]
  simpa using hj
/-- What a call ends with that leaves the sheet so. -/
def SheetPost (Z : Nat → Prop) (p : Nat) (T : List TokM) (F : List Fr) (due : Bool) (ln col : Int) (w : World) (e : Ending) (w' : World) : Prop :=
  e = .returned (.tuple #[]) ∧ (∃ vt vf, Sheet Z w' p T F due ln col vt vf) ∧ Holds Z w w'
theorem drewG {w w2 : World} {o : Obj} {r : Option Nat} (h : (w.alloc o).drew.grownBy w2 r) : (w.alloc o).grownBy w2 r := ⟨h.os, h.tape, h.output, h.size, h.block⟩
theorem toldEnd {Z : Nat → Prop} {p : Nat} {T : List TokM} {F : List Fr} {due : Bool} {ln col : Int} {v vf : Value} {t : TokM} {w w2 : World} {o : Obj} {g cap : Nat} (h : Sheet Z w p T F due ln col v vf)
    (hown : w2.ownsRow 0 TT 6 (.slice (some ⟨g, 0, none⟩) (T.length + 1) cap) (T.length + 1) (tmsCells T ++ tmCells t)) (hg : (w.alloc o).grownBy w2 v.ownBlock) (hw : v.ownBlock = some g ∨ w.heap.size ≤ g) :
    Sheet Z (w2.setCell ⟨p, 0, none⟩ (.slice (some ⟨g, 0, none⟩) (T.length + 1) cap)) p (T ++ [t]) F due ln col (.slice (some ⟨g, 0, none⟩) (T.length + 1) cap) vf ∧ Holds Z w (w2.setCell ⟨p, 0, none⟩ (.slice (some ⟨g, 0, none⟩) (T.length + 1) cap)) := by
  have bx : Box w2 p TS #[v, vf, .bool due, .int .i64 ln, .int .i64 col] := (h.box.alloc o).grown hg (own_ne h.toks h.box (by decide))
  have hz1 : ∀ k, Z k → k < (w.alloc o).heap.size := fun k hk => by have := h.zl k hk; simp; omega
  have hb : Holds Z w w2 := ((Holds.refl Z w).alloc h.zl o).grown hg hz1 h.zt
  have hf := frames_kept h.toks h.frames hg
  refine ⟨⟨bx.put 0 _, ?_, own_far hf bx (by decide) 0 _, h.zp, fun k hk => ?_, h.zf, fun k hk => ?_⟩, hb.setCell h.zp _⟩
  · have e : OwnsM w2 0 (.slice (some ⟨g, 0, none⟩) (T.length + 1) cap) (T ++ [t]) := by
      unfold OwnsM
      rw [tms_push, List.length_append]
      exact hown
    exact own_far e bx (by decide) 0 (.slice (some ⟨g, 0, none⟩) (T.length + 1) cap)
  · obtain rfl : g = k := by simpa [Value.ownBlock] using hk
    rcases hw with e | e
    · exact h.zt _ e
    · exact fun hz => by have := h.zl _ hz; omega
  · have := h.zl k hk
    have := hb.size
    simp
    omega
set_option maxHeartbeats 4000000 in
theorem mark_any {Z : Nat → Prop} {p : Nat} {T : List TokM} {F : List Fr} {due : Bool} {ln col : Int} {vt vf : Value} (text : ByteArray) (w : World) (h : Sheet Z w p T F due ln col vt vf) (hn : T.length ≤ 1000000000) :
    Calls Tryz.prog 107 #[.pointer (some ⟨p, 0, none⟩), .string text] w (SheetPost Z p (T ++ [⟨5, text, 0, ln, col, true⟩]) F due ln col w) := by
  obtain ⟨i0, hi, hz0, hz1, hz2'⟩ := info_parts Ttok
  obtain ⟨⟨x0, x1, x2, x3, x4⟩, ⟨f0, f1, f2, f3, f4⟩, zx⟩ := h.cells
  have HS := Lib.hid h
  obtain ⟨a, c, rfl⟩ := own_slice h.toks
  clear h
  go_enter Tryz.func107, Tryz.ntmps107
  go_region_law (refine step_append_lies _ ?_ (.tmp 8) (.tmp 15) 104 ?_ 0 54 i0 _ 6 56 Tryz.underlying104 hi hz0 hz1 hz2' rfl (by decide) (.slice a T.length c) T.length (tmsCells T) ?_ (own_drew (HS.out.toks.alloc _)) ⟨w.heap.size, 0, none⟩ 1 1 [.int .i64 5, .string text, .int .i64 0, .int .i64 ln, .int .i64 col, .bool true] ?_ rfl ?_ ?_ (by decide) ?_ ?_ ?_ _ rfl ?_; exact rfl; exact rfl; exact rfl; exact rfl; exact news6 w _ _ _ _ _ _ _; (intro u hu; simp only [List.mem_cons, List.not_mem_nil, or_false] at hu; rcases hu with rfl | rfl | rfl | rfl | rfl | rfl <;> rfl); (unfold maxLen; omega); omega; (first | (simp; done) | omega); intro g cap w2 hown hgrow hg hlt; have bx := (HS.out.box.alloc (.cells #[.int .i64 5, .string text, .int .i64 0, .int .i64 ln, .int .i64 col, .bool true] TT)).drew.grown hgrow (own_ne (HS.out.toks) HS.out.box (by decide)); have y0 := bx.cell 0; have g0 := bx.free 0; have zy := bx.lt; have HX := Lib.hid bx; have HO := Lib.hid hown; have HG := Lib.hid hgrow; have HW := Lib.hid hg; clear bx hown hgrow hg)
  all_goals
    refine bodyPost_end (by simp [results, Tryz.results107, go_sem]; rfl) rfl ?_
    have hw2 : Value.ownBlock (.slice a T.length c) = some g ∨ w.heap.size ≤ g := HW.out.imp id (fun e => by rw [e]; simp)
    obtain ⟨q1, q2⟩ := toldEnd (t := ⟨5, text, 0, ln, col, true⟩) HS.out HO.out (drewG HG.out) hw2
    exact ⟨rfl, ⟨_, _, q1⟩, q2⟩
end Go.Proofs.YtdajihpfedbihaaGreat.Ly
/-
  CONTRACTS of layer layout: a frame is put; frames are closed up to a place.
-/
namespace Go.Proofs.YtdajihpfedbihaaGreat.Ly
open Go.RowKit Pl Ar Mm
set_option linter.unusedVariables false
set_option linter.unusedSimpArgs false
theorem frs_push (l : List Fr) (f : Fr) : frsCells (l ++ [f]) = frsCells l ++ frCells f := by unfold frsCells; rw [List.flatMap_append]; simp
theorem putEnd {Z : Nat → Prop} {p : Nat} {T : List TokM} {F : List Fr} {due : Bool} {ln col kind c : Int} {vt v : Value} {w w2 : World} {o : Obj} {g cap : Nat} (h : Sheet Z w p T F due ln col vt v)
    (hown : w2.ownsRow 0 TF 2 (.slice (some ⟨g, 0, none⟩) (F.length + 1) cap) (F.length + 1) (frsCells F ++ [.int .i64 kind, .int .i64 c])) (hg : (w.alloc o).grownBy w2 v.ownBlock) (hw : v.ownBlock = some g ∨ w.heap.size ≤ g) :
    SheetPost Z p T (F ++ [⟨kind, c⟩]) due ln col w (.returned (.tuple #[])) (w2.setCell ⟨p, 1, none⟩ (.slice (some ⟨g, 0, none⟩) (F.length + 1) cap)) := by
  have bx : Box w2 p TS #[vt, v, .bool due, .int .i64 ln, .int .i64 col] := (h.box.alloc o).grown hg (own_ne h.frames h.box (by decide))
  have hz1 : ∀ k, Z k → k < (w.alloc o).heap.size := fun k hk => by have := h.zl k hk; simp; omega
  have hb : Holds Z w w2 := ((Holds.refl Z w).alloc h.zl o).grown hg hz1 h.zf
  have ht := toks_kept h.toks h.frames hg
  refine ⟨rfl, ⟨vt, _, bx.put 1 _, own_far ht bx (by decide) 1 _, ?_, h.zp, h.zt, fun k hk => ?_, fun k hk => ?_⟩, hb.setCell h.zp _⟩
  · have e : OwnsF w2 0 (.slice (some ⟨g, 0, none⟩) (F.length + 1) cap) (F ++ [⟨kind, c⟩]) := by
      unfold OwnsF
      rw [frs_push, List.length_append]
      exact hown
    exact own_far e bx (by decide) 1 _
  · obtain rfl : g = k := by simpa [Value.ownBlock] using hk
    rcases hw with e | e
    · exact h.zf _ e
    · exact fun hz => by have := h.zl _ hz; omega
  · have := h.zl k hk
    have := hb.size
    simp
    omega
set_option maxHeartbeats 2000000 in
theorem putS_any {Z : Nat → Prop} {p : Nat} {T : List TokM} {F : List Fr} {due : Bool} {ln col : Int} {vt vf : Value} (kind c : Int) (w : World) (h : Sheet Z w p T F due ln col vt vf) (hn : F.length ≤ 1000000000) :
    Calls Tryz.prog 106 #[.pointer (some ⟨p, 0, none⟩), .int .i64 kind, .int .i64 c] w (SheetPost Z p T (F ++ [⟨kind, c⟩]) due ln col w) := by
  obtain ⟨i0, hi, hz0, hz1, hz2'⟩ := info_parts Tfr
  obtain ⟨⟨x0, x1, x2, x3, x4⟩, ⟨f0, f1, f2, f3, f4⟩, zx⟩ := h.cells
  have HS := Lib.hid h
  obtain ⟨a, cc, rfl⟩ := own_slice h.frames
  clear h
  go_enter Tryz.func106, Tryz.ntmps106
  go_wp2_with (at_builtin; refine wpList_append_lies _ rfl _ _ 155 rfl 0 194 i0 _ 2 16 Tryz.underlying155 hi hz0 hz1 hz2' rfl (by decide) _ _ _ rfl (HS.out.frames.alloc _) ⟨w.heap.size, 0, none⟩ 1 1 [.int .i64 kind, .int .i64 c] rfl rfl ?c1 ?c2 (by decide) ?c3 ?c4 ?c5 _ rfl ?_)
  case c1 => exact news2 _ _ _ _
  case c2 =>
    intro u hu
    simp only [List.mem_cons, List.not_mem_nil, or_false] at hu
    rcases hu with rfl | rfl <;> rfl
  case c3 => unfold maxLen; omega
  case c4 => omega
  all_goals try exact Nat.zero_le _
  intro g cap w2 hown hgrow hg hlt
  have bx := (HS.out.box.alloc (.cells #[.int .i64 kind, .int .i64 c] TF)).grown hgrow (own_ne HS.out.frames HS.out.box (by decide))
  have y1 := bx.cell 1
  have g1 := bx.free 1
  have zy := bx.lt
  have HO := Lib.hid hown
  have HG := Lib.hid hgrow
  have hw2 : Value.ownBlock (.slice a F.length cc) = some g ∨ w.heap.size ≤ g := hg.imp id (fun e => by rw [e]; simp)
  have HW := Lib.hid hw2
  clear bx hown hgrow hg hw2
  go_wp2
  refine bodyPost_end (by simp [results, Tryz.results106, go_sem]; rfl) rfl ?_
  exact putEnd HS.out HO.out HG.out HW.out
/-- how many laid out blocks -/
def laidN (F : List Fr) : Nat := (F.filter fun f => decide (f.kind = 1)).length
theorem laidN_le (F : List Fr) : laidN F ≤ F.length := List.length_filter_le _ _
theorem laidN_step {F : List Fr} {k : Nat} (hk : k < F.length) : laidN (F.drop k) = laidN (F.drop (k + 1)) + (if frK F k = 1 then 1 else 0) := by
  have e : F.drop k = F[k] :: F.drop (k + 1) := List.drop_eq_getElem_cons hk
  have e2 : frK F k = F[k].kind := by simp [frK, List.getD_eq_getElem?_getD, hk]
  rw [e, e2]
  unfold laidN
  rw [List.filter_cons]
  by_cases h : F[k].kind = 1 <;> simp [h]
/-- the mark that ends a block -/
def endM (ln col : Int) : TokM := ⟨5, ⟨#[125]⟩, 0, ln, col, true⟩
def closedT (T : List TokM) (F : List Fr) (place : Nat) (ln col : Int) : List TokM := T ++ List.replicate (laidN (F.drop place)) (endM ln col)
theorem closedT_len (T : List TokM) (F : List Fr) (place : Nat) (ln col : Int) : (closedT T F place ln col).length ≤ T.length + F.length := by
  have h1 := laidN_le (F.drop place)
  have h2 : (F.drop place).length ≤ F.length := by simp
  simp [closedT]
  omega
theorem closedT_one {T : List TokM} {F : List Fr} {k : Nat} {ln col : Int} (hk : k < F.length) (h : frK F k = 1) : closedT T F k ln col = closedT T F (k + 1) ln col ++ [endM ln col] := by
  unfold closedT
  rw [laidN_step hk, if_pos h, List.replicate_succ', List.append_assoc]
theorem closedT_none {T : List TokM} {F : List Fr} {k : Nat} {ln col : Int} (hk : k < F.length) (h : ¬ frK F k = 1) : closedT T F k ln col = closedT T F (k + 1) ln col := by
  unfold closedT
  rw [laidN_step hk, if_neg h, Nat.add_zero]
theorem frs_take (F : List Fr) (k : Nat) : (frsCells F).take (k * 2) = frsCells (F.take k) := by
  induction F generalizing k with
  | nil => simp [frsCells]
  | cons f F ih =>
    cases k with
    | zero => simp [frsCells]
    | succ k =>
      have e : (k + 1) * 2 = (k * 2) + 2 := by omega
      have := ih k
      unfold frsCells at this ⊢
      rw [List.take_succ_cons, List.flatMap_cons, List.flatMap_cons, e, ← this]
      simp [frCells]
theorem frs_get (F : List Fr) (k : Nat) (hk : k < F.length) : (frsCells F)[k * 2]? = some (.int .i64 (frK F k)) ∧ (frsCells F)[k * 2 + 1]? = some (.int .i64 (frC F k)) := by
  induction F generalizing k with
  | nil => simp at hk
  | cons f F ih =>
    cases k with
    | zero => simp [frsCells, frCells, frK, frC]
    | succ k =>
      have e : (k + 1) * 2 = (k * 2) + 2 := by omega
      have := ih k (by simpa using hk)
      unfold frsCells at this ⊢
      rw [List.flatMap_cons, e]
      simpa [frCells, frK, frC] using this
end Go.Proofs.YtdajihpfedbihaaGreat.Ly
/-
  CONTRACTS of layer layout: frames are closed up to a place; the end of all; what a line's column ends.
-/
namespace Go.Proofs.YtdajihpfedbihaaGreat.Ly
open Go.RowKit Pl Ar Mm
set_option linter.unusedVariables false
set_option linter.unusedSimpArgs false
theorem ownsF_cut {w : World} {B : Nat} {g c : Nat} {F : List Fr} {k : Nat} (h : OwnsF w B (.slice (some ⟨g, 0, none⟩) F.length c) F) (hk : k ≤ F.length) : OwnsF w B (.slice (some ⟨g, 0, none⟩) k c) (F.take k) := by
  have h1 := own_cut h hk
  rw [frs_take] at h1
  unfold OwnsF
  rw [List.length_take, Nat.min_eq_left hk]
  exact h1
/-- What holds ahead of each round of closeUpTo. -/
def CloseI (Z : Nat → Prop) (p : Nat) (T : List TokM) (F : List Fr) (place : Nat) (due : Bool) (ln col : Int) (w : World) (d : Nat) (i : Value) (wr : World) : Prop :=
  d ≤ F.length ∧ (place ≤ d ∨ d = F.length) ∧ i = .int .i64 ((d : Int) - 1) ∧ (∃ vt vf, Sheet Z wr p (closedT T F d ln col) (F.take d) due ln col vt vf) ∧ Holds Z w wr
theorem closeEnd {Z : Nat → Prop} {p : Nat} {T T2 : List TokM} {F : List Fr} {place k g c : Nat} {due : Bool} {ln col : Int} {vt : Value} {w wr : World} (h : Sheet Z wr p T2 (F.take (k + 1)) due ln col vt (.slice (some ⟨g, 0, none⟩) (k + 1) c)) (hb : Holds Z w wr) (hk : k < F.length) (hp : place ≤ k) (hT : T2 = closedT T F k ln col) (hlen : (F.take (k + 1)).length = k + 1) :
    CloseI Z p T F place due ln col w k (.int .i64 ((k : Int) - 1)) (wr.setCell ⟨p, 1, none⟩ (.slice (some ⟨g, 0, none⟩) k c)) := by
  have h1 := h.frames
  have e : (F.take (k + 1)).take k = F.take k := by rw [List.take_take, Nat.min_eq_left (by omega)]
  have h2 : OwnsF wr 0 (.slice (some ⟨g, 0, none⟩) k c) (F.take k) := by
    have h3 : OwnsF wr 0 (.slice (some ⟨g, 0, none⟩) (F.take (k + 1)).length c) (F.take (k + 1)) := by rw [hlen]; exact h1
    have := ownsF_cut h3 (k := k) (by rw [hlen]; omega)
    rw [e] at this
    exact this
  subst hT
  exact ⟨by omega, .inl hp, rfl, ⟨vt, _, h.box.put 1 _, own_far h.toks h.box (by decide) 1 _, own_far h2 h.box (by decide) 1 _, h.zp, h.zt, fun i hi => h.zf i (by simpa [Value.ownBlock] using hi), fun i hi => by simpa using h.zl i hi⟩, hb.setCell h.zp _⟩
set_option maxHeartbeats 4000000 in
theorem close_any {Z : Nat → Prop} {p : Nat} {T : List TokM} {F : List Fr} {due : Bool} {ln col : Int} {vt vf : Value} (place : Nat) (w : World) (h : Sheet Z w p T F due ln col vt vf) (hn : T.length + F.length ≤ 999999999) (hp : place ≤ 9223372036854775807) :
    Calls Tryz.prog 110 #[.pointer (some ⟨p, 0, none⟩), .int .i64 place] w (SheetPost Z p (closedT T F place ln col) (F.take place) due ln col w) := by
  obtain ⟨⟨x0, x1, x2, x3, x4⟩, ⟨f0, f1, f2, f3, f4⟩, zx⟩ := h.cells
  have HS := Lib.hid h
  obtain ⟨a, cc, rfl⟩ := own_slice h.frames
  clear h
  go_enter Tryz.func110, Tryz.ntmps110
  go_wp2_with fail
  go_loopg [4] F.length (fun d i wr => CloseI Z p T F place due ln col w d i wr)
  case atStart =>
    have e : closedT T F F.length ln col = T := by simp [closedT, laidN]
    refine ⟨Nat.le_refl _, .inr rfl, by go_num, ⟨vt, .slice a F.length cc, ?_⟩, .refl _ _⟩
    rw [e, List.take_length]
    exact HS.out
  case round =>
    obtain ⟨hd, hdp, rfl, ⟨vt', vf', hs⟩, hb⟩ := hrel
    have HD := Lib.hid hdp
    have HB := Lib.hid hb
    have HS2 := Lib.hid hs
    have hTn := closedT_len T F gk ln col
    clear x0 x1 x2 x3 x4 f0 f1 f2 f3 f4 zx
    obtain ⟨⟨x0, x1, x2, x3, x4⟩, ⟨f0, f1, f2, f3, f4⟩, zx⟩ := hs.cells
    clear hdp hb
    by_cases hge : (place : Int) ≤ (gk : Int) - 1
    · obtain ⟨k, rfl⟩ : ∃ k, gk = k + 1 := ⟨gk - 1, by omega⟩
      have hlen : (F.take (k + 1)).length = k + 1 := by rw [List.length_take]; omega
      have ho := hs.frames
      unfold OwnsF at ho
      rw [hlen] at ho
      obtain ⟨g, c, rfl, _, hg, _⟩ := own_form ho
      obtain ⟨g', e, _, _, _, hc⟩ := own_at ho (by omega)
      simp only [Option.some.injEq, Addr.mk.injEq, and_true] at e
      subst e
      obtain ⟨q1, q2⟩ := frs_get (F.take (k + 1)) k (by omega)
      have c0 := (hc (k * 2) (by omega)).trans q1
      have ek : frK (F.take (k + 1)) k = frK F k := by simp [frK, List.getD_eq_getElem?_getD, List.getElem?_take]
      rw [ek] at c0
      have HO := Lib.hid (show OwnsF wr 0 (.slice (some ⟨g, 0, none⟩) (k + 1) c) (F.take (k + 1)) by unfold OwnsF; rw [hlen]; exact ho)
      obtain ⟨kd, hkd⟩ : ∃ kd, frK F k = kd := ⟨_, rfl⟩
      rw [hkd] at c0
      have HKD := Lib.hid hkd
      clear hc q1 q2 ek ho hkd hs
      have ek1 : ((k + 1 : Nat) : Int) - 1 = (k : Int) := by omega
      rw [ek1] at hge ⊢
      have hpk : place ≤ k := by omega
      have hkF : k < F.length := by omega
      clear ek1
      by_cases h1 : kd = 1
      · subst h1
        go_wp2_with fail
        refine (mark_any ⟨#[125]⟩ wr HS2.out (by omega)).mono ?_
        rintro e w2 ⟨rfl, ⟨vt2, vf2, hs2⟩, hb2⟩
        obtain ⟨a2, c2, rfl⟩ := own_slice hs2.frames
        have ho2 := hs2.frames
        unfold OwnsF at ho2
        rw [hlen] at ho2 hs2
        obtain ⟨g2, e2, _, _, hkc, _⟩ := own_at ho2 (by omega)
        subst e2
        have HS3 := Lib.hid hs2
        have HB2 := Lib.hid (HB.out.trans hb2)
        clear x0 x1 x2 x3 x4 f0 f1 f2 f3 f4 zx c0 ho2
        obtain ⟨⟨x0, x1, x2, x3, x4⟩, ⟨f0, f1, f2, f3, f4⟩, zx⟩ := hs2.cells
        clear hs2 hb2
        go_wp2_with fail
        go_roundg k
        case measure => omega
        case rel => exact closeEnd HS3.out HB2.out hkF hpk (closedT_one hkF HKD.out).symm hlen
      · have hs2 := HS2.out
        go_wp2_with fail
        go_roundg k
        case measure => omega
        case rel => exact closeEnd HS2.out HB.out hkF hpk (closedT_none hkF (by rw [HKD.out]; exact h1)).symm hlen
    · have hend : closedT T F gk ln col = closedT T F place ln col ∧ F.take gk = F.take place := by
        rcases HD.out with h1 | h1
        · have e : gk = place := by omega
          rw [e]; exact ⟨rfl, rfl⟩
        · have h2 : F.length ≤ place := by omega
          rw [h1]
          unfold closedT
          rw [List.drop_length, List.drop_eq_nil_of_le h2, List.take_length, List.take_of_length_le h2]
          exact ⟨rfl, rfl⟩
      have HE := Lib.hid hend
      clear hend hs
      go_wp2_with fail
      refine bodyPost_end (by simp [results, Tryz.results110, go_sem]; rfl) rfl ?_
      exact ⟨rfl, ⟨_, _, by rw [← HE.out.1, ← HE.out.2]; exact HS2.out⟩, HB.out⟩
end Go.Proofs.YtdajihpfedbihaaGreat.Ly
/-
  CONTRACTS of layer layout: the end of all; what a line's column ends.
-/
namespace Go.Proofs.YtdajihpfedbihaaGreat.Ly
open Go.RowKit Pl Ar Mm
set_option linter.unusedVariables false
set_option linter.unusedSimpArgs false
def mkM (s : List UInt8) (ln col : Int) : TokM := ⟨5, ⟨s.toArray⟩, 0, ln, col, true⟩
theorem Sheet.shows {Z : Nat → Prop} {w : World} {p : Nat} {T : List TokM} {F : List Fr} {due : Bool} {ln col : Int} {vt vf : Value} (h : Sheet Z w p T F due ln col vt vf) : ShowsF w vf F := by
  obtain ⟨b, c, rfl⟩ := own_slice h.frames
  refine ⟨b, c, rfl, fun k hk => ?_⟩
  obtain ⟨g, rfl, _, hg, _, hc⟩ := own_at h.frames (by omega)
  obtain ⟨q1, q2⟩ := frs_get F k hk
  exact ⟨g, rfl, hg, (hc _ (by omega)).trans q1, (hc _ (by omega)).trans q2⟩
theorem Sheet.drewN {Z : Nat → Prop} {w : World} {p : Nat} {T : List TokM} {F : List Fr} {due : Bool} {ln col : Int} {vt vf : Value} (h : Sheet Z w p T F due ln col vt vf) (n : Nat) : Sheet Z (w.drewN n) p T F due ln col vt vf := ⟨h.box.drewN n, own_drewN h.toks n, own_drewN h.frames n, h.zp, h.zt, h.zf, h.zl⟩
theorem closedT_closedT {T : List TokM} {F : List Fr} {a b : Nat} {ln col : Int} (h : b ≤ a) : closedT (closedT T F a ln col) (F.take a) b ln col = closedT T F b ln col := by
  have e : F.drop b = (F.take a).drop b ++ F.drop a := by
    rw [List.drop_take]
    have h2 : F.drop a = (F.drop b).drop (a - b) := by rw [List.drop_drop]; congr 1; omega
    rw [h2, List.take_append_drop]
  have e2 : laidN (F.drop b) = laidN ((F.take a).drop b) + laidN (F.drop a) := by
    unfold laidN
    rw [e, List.filter_append, List.length_append]
  unfold closedT
  rw [e2, Nat.add_comm, ← List.replicate_append_replicate, List.append_assoc]
def endT (T : List TokM) (F : List Fr) (due : Bool) (ln col : Int) : List TokM := closedT (if due = true then T ++ [mkM [123] ln col] ++ [mkM [125] ln col] else T) F 0 ln col
set_option maxHeartbeats 2000000 in
theorem end_any {Z : Nat → Prop} {p : Nat} {T : List TokM} {F : List Fr} {due : Bool} {ln col : Int} {vt vf : Value} (w : World) (h : Sheet Z w p T F due ln col vt vf) (hn : T.length + F.length ≤ 999999990) :
    Calls Tryz.prog 82 #[.pointer (some ⟨p, 0, none⟩)] w (SheetPost Z p (endT T F due ln col) [] due ln col w) := by
  obtain ⟨⟨x0, x1, x2, x3, x4⟩, ⟨f0, f1, f2, f3, f4⟩, zx⟩ := h.cells
  have HS := Lib.hid h
  clear h
  cases due with
  | true =>
    go_enter Tryz.func82, Tryz.ntmps82
    go_wp2_with fail
    refine (mark_any ⟨#[123]⟩ w HS.out (by omega)).mono ?_
    rintro e w1 ⟨rfl, ⟨vt1, vf1, hs1⟩, hb1⟩
    go_wp2_with fail
    refine (mark_any ⟨#[125]⟩ w1 hs1 (by simp; omega)).mono ?_
    rintro e w2 ⟨rfl, ⟨vt2, vf2, hs2⟩, hb2⟩
    go_wp2_with fail
    refine (close_any 0 w2 hs2 (by simp; omega) (by omega)).mono ?_
    rintro e w3 ⟨rfl, ⟨vt3, vf3, hs3⟩, hb3⟩
    go_wp2_with fail
    refine bodyPost_end (by simp [results, Tryz.results82, go_sem]; rfl) rfl ?_
    exact ⟨rfl, ⟨vt3, vf3, hs3⟩, (hb1.trans hb2).trans hb3⟩
  | false =>
    go_enter Tryz.func82, Tryz.ntmps82
    go_wp2_with fail
    refine (close_any 0 w HS.out (by omega) (by omega)).mono ?_
    rintro e w3 ⟨rfl, ⟨vt3, vf3, hs3⟩, hb3⟩
    go_wp2_with fail
    refine bodyPost_end (by simp [results, Tryz.results82, go_sem]; rfl) rfl ?_
    exact ⟨rfl, ⟨vt3, vf3, hs3⟩, hb3⟩
theorem frK_take (F : List Fr) (q j : Nat) (h : j < q) : frK (F.take q) j = frK F j := by simp [frK, List.getD_eq_getElem?_getD, List.getElem?_take, h]
theorem frC_take (F : List Fr) (q j : Nat) (h : j < q) : frC (F.take q) j = frC F j := by simp [frC, List.getD_eq_getElem?_getD, List.getElem?_take, h]
theorem innerF_take (F : List Fr) (q : Nat) : ∀ i, i ≤ q → innerF (F.take q) i = innerF F i
  | 0, _ => rfl
  | i + 1, h => by
    unfold innerF
    rw [frK_take F q i (by omega), frC_take F q i (by omega), innerF_take F q i (by omega)]
theorem innerF_lt (F : List Fr) : ∀ i, (innerF F i).1 < i ∧ (-1 ≤ (innerF F i).1) ∧ ((innerF F i).1 < 0 → (innerF F i).2 = 0)
  | 0 => by simp [innerF]
  | i + 1 => by
    unfold innerF
    have := innerF_lt F i
    split
    · exact ⟨by show (i : Int) < ((i + 1 : Nat) : Int); omega, by show (-1 : Int) ≤ (i : Int); omega, fun h => by have h : (i : Int) < 0 := h; omega⟩
    · exact ⟨by omega, this.2⟩
/-- where the blocks that a line's column ends begin -/
def lineQ (F : List Fr) (c : Int) : Nat → Nat → Nat
  | 0, q => q
  | n + 1, q => if max c 0 < (innerF F q).2 then lineQ F c n (innerF F q).1.toNat else q
theorem inner_is {Z : Nat → Prop} {p : Nat} {T : List TokM} {F : List Fr} {due : Bool} {ln col : Int} {vt vf : Value} (w : World) (h : Sheet Z w p T F due ln col vt vf) (hn : F.length ≤ 1000000000) {i c : Int} (hi : innerF F F.length = (i, c)) :
    Calls Tryz.prog 104 #[.pointer (some ⟨p, 0, none⟩)] w fun e w' => e = .returned (.tuple #[.int .i64 i, .int .i64 c]) ∧ Sheet Z w' p T F due ln col vt vf ∧ Holds Z w w' := by
  refine (inner_any p vf F hn w (h.cells.1.2.1) h.shows).mono ?_
  rintro e w' ⟨he, m, rfl⟩
  rw [hi] at he
  exact ⟨he, h.drewN m, (Holds.refl _ _).drewN m⟩
theorem closedT_len2 (T : List TokM) (F : List Fr) {q : Nat} (hq : q ≤ F.length) (ln col : Int) : (closedT T F q ln col).length + (F.take q).length ≤ T.length + F.length := by
  have h1 := laidN_le (F.drop q)
  have h2 : (F.drop q).length = F.length - q := List.length_drop
  have h3 : (F.take q).length = q := by rw [List.length_take]; omega
  simp [closedT]
  omega
/-- What holds ahead of each round of line. -/
def LineI (Z : Nat → Prop) (p : Nat) (T : List TokM) (F : List Fr) (c : Int) (due : Bool) (ln col : Int) (w : World) (R : Nat) (d : Nat) (i : Value) (cl : Value) (wr : World) : Prop :=
  ∃ (q : Nat) (n : Nat) (a b : Int), d = q ∧ q ≤ F.length ∧ q ≤ n ∧ lineQ F c n q = R ∧ innerF F q = (a, b) ∧ i = .int .i64 a ∧ cl = .int .i64 b ∧ (∃ vt vf, Sheet Z wr p (closedT T F q ln col) (F.take q) due ln col vt vf) ∧ Holds Z w wr
def lineT (T : List TokM) (F : List Fr) (c ln col : Int) (R : Nat) : List TokM := closedT T F R ln col ++ (if 0 < (innerF F R).2 ∧ (innerF F R).2 = c then [mkM [59] ln col] else [])
set_option maxHeartbeats 4000000 in
theorem line_any {Z : Nat → Prop} {p : Nat} {T : List TokM} {F : List Fr} {due : Bool} {ln col : Int} {vt vf : Value} (c : Int) (w : World) (h : Sheet Z w p T F due ln col vt vf) (hn : T.length + F.length ≤ 999999990) {R : Nat} (hR : lineQ F c F.length F.length = R) :
    Calls Tryz.prog 108 #[.pointer (some ⟨p, 0, none⟩), .int .i64 c] w (SheetPost Z p (lineT T F c ln col R) (F.take R) due ln col w) := by
  obtain ⟨⟨a0, b0⟩, hab⟩ : ∃ x, innerF F F.length = x := ⟨_, rfl⟩
  have HS := Lib.hid h
  have HR := Lib.hid hR
  have HAB := Lib.hid hab
  clear h hR hab
  go_enter Tryz.func108, Tryz.ntmps108
  go_wp2_with fail
  refine (inner_is w HS.out (by omega) HAB.out).mono ?_
  rintro e w1 ⟨rfl, hs1, hb1⟩
  go_wp2_with fail
  go_loopg [4, 5] F.length (fun d i cl wr => LineI Z p T F c due ln col w R d i cl wr)
  case atStart =>
    have e : closedT T F F.length ln col = T := by simp [closedT, laidN]
    refine ⟨F.length, F.length, a0, b0, rfl, Nat.le_refl _, Nat.le_refl _, HR.out, HAB.out, rfl, rfl, ⟨vt, vf, ?_⟩, hb1⟩
    rw [e, List.take_length]
    exact hs1
  case round =>
    obtain ⟨q, n, a, b, rfl, hq, hqn, hl, hin, rfl, rfl, ⟨vt', vf', hs⟩, hb⟩ := hrel
    have HL := Lib.hid hl
    have HIN := Lib.hid hin
    have HS2 := Lib.hid hs
    have HB := Lib.hid hb
    have hlt := innerF_lt F gk
    rw [hin] at hlt
    have hTn := closedT_len T F gk ln col
    clear hl hin hs hb
    by_cases hgo : max c 0 < b
    · have hb0 : 0 < b := by omega
      have ha0 : 0 ≤ a := by
        have := hlt.2.2
        by_cases h : a < 0
        · have := this h; omega
        · omega
      obtain ⟨k, rfl⟩ : ∃ k : Nat, a = k := ⟨a.toNat, by omega⟩
      have hkq : k < gk := by have := hlt.1; omega
      obtain ⟨n', rfl⟩ : ∃ n', n = n' + 1 := ⟨n - 1, by omega⟩
      have hl2 : lineQ F c n' k = R := by
        have h1 := HL.out
        unfold lineQ at h1
        rw [HIN.out] at h1
        rw [if_pos hgo] at h1
        exact h1
      have HL2 := Lib.hid hl2
      have hlen : (F.take gk).length = gk := by rw [List.length_take]; omega
      obtain ⟨⟨a2, b2⟩, hab2⟩ : ∃ x, innerF F k = x := ⟨_, rfl⟩
      have HAB2 := Lib.hid hab2
      clear hlt hl2 hab2
      go_wp2_with fail
      refine (close_any k wr HS2.out (Nat.le_trans (closedT_len2 T F hq ln col) (by omega)) (by omega)).mono ?_
      rintro e w2 ⟨rfl, ⟨vt2, vf2, hs2⟩, hb2⟩
      rw [closedT_closedT (by omega), List.take_take, Nat.min_eq_left (by omega)] at hs2
      have hlk : (F.take k).length = k := by rw [List.length_take]; omega
      have hik : innerF (F.take k) (F.take k).length = (a2, b2) := by rw [hlk, innerF_take F k k (Nat.le_refl _)]; exact HAB2.out
      have HIK := Lib.hid hik
      clear hik
      go_wp2_with fail
      refine (inner_is w2 hs2 (by omega) HIK.out).mono ?_
      rintro e w3 ⟨rfl, hs3, hb3⟩
      go_wp2_with fail
      go_roundg k
      case measure => omega
      case rel => exact ⟨k, n', a2, b2, rfl, by omega, by omega, HL2.out, HAB2.out, rfl, rfl, ⟨_, _, hs3⟩, (HB.out.trans hb2).trans hb3⟩
    · have hqR : gk = R := by
        have h1 := HL.out
        cases n with
        | zero => exact h1
        | succ n =>
          unfold lineQ at h1
          rw [HIN.out, if_neg hgo] at h1
          exact h1
      have HQ := Lib.hid hqR
      clear hqR
      by_cases hm : 0 < b ∧ b = c
      · obtain ⟨h1, rfl⟩ := hm
        have hT : lineT T F b ln col R = closedT T F gk ln col ++ [mkM [59] ln col] := by
          unfold lineT
          rw [← HQ.out, HIN.out, if_pos ⟨h1, rfl⟩]
        have HT := Lib.hid hT
        clear hT
        go_wp2_with fail
        refine (mark_any ⟨#[59]⟩ wr HS2.out (by omega)).mono ?_
        rintro e w2 ⟨rfl, ⟨vt2, vf2, hs2⟩, hb2⟩
        go_wp2_with fail
        refine bodyPost_end (by simp [results, Tryz.results108, go_sem]; rfl) rfl ?_
        exact ⟨rfl, ⟨vt2, vf2, by rw [HT.out, ← HQ.out]; exact hs2⟩, HB.out.trans hb2⟩
      · have hT : lineT T F c ln col R = closedT T F gk ln col := by
          unfold lineT
          rw [← HQ.out, HIN.out, if_neg hm, List.append_nil]
        have HT := Lib.hid hT
        have hm2 : ¬ 0 < b ∨ 0 < b ∧ ¬ b = c := by omega
        clear hT hm
        rcases hm2 with h1 | ⟨h1, h2⟩
        all_goals
          go_wp2_with fail
          refine bodyPost_end (by simp [results, Tryz.results108, go_sem]; rfl) rfl ?_
          exact ⟨rfl, ⟨vt', vf', by rw [HT.out, ← HQ.out]; exact HS2.out⟩, HB.out⟩
end Go.Proofs.YtdajihpfedbihaaGreat.Ly
