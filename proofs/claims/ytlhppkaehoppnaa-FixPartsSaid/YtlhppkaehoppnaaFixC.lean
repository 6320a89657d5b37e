/-
  CONTRACTS of layer fix: how operators bind: Default, Find, and the document's own.
-/
import Derived.Test.YtlhppkaehoppnaaFixA
import Derived.Test.YtlhppkaehoppnaaMem
import Derived.Test.YtlhppkaehoppnaaOps
import Derived.Deep.LoopGhost
namespace Go.Proofs.Ytlhppkaehoppnaa.Fx
open Go.RowKit Fm Mm Nm
set_option linter.unusedVariables false

def defA (l : List UInt8) : Int := if 6 ≤ opOf l then 0 else 1
def defL (l : List UInt8) : Int := if opOf l = 1 ∨ opOf l = 2 then 6 else if 3 ≤ opOf l ∧ opOf l ≤ 5 then 7 else if 6 ≤ opOf l then 4 else 9
def defV (s : ByteArray) : Value := fixV s (defA s.data.toList) (defL s.data.toList) 0 0
def DefPost (s : ByteArray) (w : World) (e : Ending) (w' : World) : Prop := e = .returned (defV s) ∧ Below w.heap.size w w'
theorem defPost {s : ByteArray} {a l : Int} {w w' : World} (h1 : defA s.data.toList = a) (h2 : defL s.data.toList = l) (hb : Below w.heap.size w w') : DefPost s w (.returned (fixV s a l 0 0)) w' := by
  unfold DefPost defV; rw [h1, h2]; exact ⟨rfl, hb⟩
theorem op_is {s : ByteArray} {n : Int} (h : opOf s.data.toList = n) (w : World) : Calls Try.prog 24 #[.string s] w fun e w' => e = .returned (.int .i64 n) ∧ w = w' := by
  refine (op_any s w).mono ?_
  rintro e w' ⟨⟨he, _⟩, hw⟩
  exact ⟨by rw [he, h], hw⟩
theorem rop_is {s : ByteArray} {n : Int} (h : opOf s.data.toList = n) (w : World) : Calls Try.prog 25 #[.string s] w fun e w' => e = .returned (.int .i64 n) ∧ Below w.heap.size w w' := by
  refine (rop_any s w).mono ?_
  rintro e w' ⟨he, hb⟩
  exact ⟨by rw [he, h], hb⟩
theorem opOf_rng (l : List UInt8) : 0 ≤ opOf l ∧ opOf l ≤ 11 := by
  unfold opOf
  (repeat' split) <;> omega
theorem set_same {X : World} {p : Addr} {u v : Value} (h : X.cell? p = some u) : (X.setCell p v).cell? p = some v := World.cell?_setCell_same _ _ _ h
/-- a struct of five cells, written one behind the other, reads as written -/
theorem setFix {w2 : World} {b : Nat} {a0 a1 a2 a3 a4 : Value} (k0 : w2.cell? ⟨b, 0, none⟩ = some a0) (k1 : w2.cell? ⟨b, 1, none⟩ = some a1) (k2 : w2.cell? ⟨b, 2, none⟩ = some a2) (k3 : w2.cell? ⟨b, 3, none⟩ = some a3) (k4 : w2.cell? ⟨b, 4, none⟩ = some a4) :
    (∀ v0, (w2.setCell ⟨b, 0, none⟩ v0).cell? ⟨b, 0, none⟩ = some v0) ∧
    (∀ v0 v1, ((w2.setCell ⟨b, 0, none⟩ v0).setCell ⟨b, 1, none⟩ v1).cell? ⟨b, 1, none⟩ = some v1) ∧
    (∀ v0 v1 v2, (((w2.setCell ⟨b, 0, none⟩ v0).setCell ⟨b, 1, none⟩ v1).setCell ⟨b, 2, none⟩ v2).cell? ⟨b, 2, none⟩ = some v2) ∧
    (∀ v0 v1 v2 v3, ((((w2.setCell ⟨b, 0, none⟩ v0).setCell ⟨b, 1, none⟩ v1).setCell ⟨b, 2, none⟩ v2).setCell ⟨b, 3, none⟩ v3).cell? ⟨b, 3, none⟩ = some v3) ∧
    (∀ v0 v1 v2 v3 v4, (((((w2.setCell ⟨b, 0, none⟩ v0).setCell ⟨b, 1, none⟩ v1).setCell ⟨b, 2, none⟩ v2).setCell ⟨b, 3, none⟩ v3).setCell ⟨b, 4, none⟩ v4).cell? ⟨b, 4, none⟩ = some v4) := by
  refine ⟨fun v0 => World.cell?_setCell_same _ _ _ k0, fun v0 v1 => set_same (u := a1) ?_, fun v0 v1 v2 => set_same (u := a2) ?_, fun v0 v1 v2 v3 => set_same (u := a3) ?_, fun v0 v1 v2 v3 v4 => set_same (u := a4) ?_⟩
  all_goals
    (repeat rw [World.cell?_setCell_other _ _ _ _ (by simp)])
    assumption
theorem below5 {B : Nat} {w w2 : World} {g : Nat} (h : Below B w w2) (hg : B ≤ g) (v0 v1 v2 v3 v4 : Value) : Below B w (((((w2.setCell ⟨g, 0, none⟩ v0).setCell ⟨g, 1, none⟩ v1).setCell ⟨g, 2, none⟩ v2).setCell ⟨g, 3, none⟩ v3).setCell ⟨g, 4, none⟩ v4) :=
  ((((h.setCell (p := ⟨g, 0, none⟩) hg v0).setCell (p := ⟨g, 1, none⟩) hg v1).setCell (p := ⟨g, 2, none⟩) hg v2).setCell (p := ⟨g, 3, none⟩) hg v3).setCell (p := ⟨g, 4, none⟩) hg v4
theorem fixW {w2 : World} {g : Nat} {a0 a1 a2 a3 a4 : Value} (k0 : w2.cell? ⟨g, 0, none⟩ = some a0) (k1 : w2.cell? ⟨g, 1, none⟩ = some a1) (k2 : w2.cell? ⟨g, 2, none⟩ = some a2) (k3 : w2.cell? ⟨g, 3, none⟩ = some a3) (k4 : w2.cell? ⟨g, 4, none⟩ = some a4) (v0 v1 v2 v3 v4 : Value) :
    ∃ W, (((((w2.setCell ⟨g, 0, none⟩ v0).setCell ⟨g, 1, none⟩ v1).setCell ⟨g, 2, none⟩ v2).setCell ⟨g, 3, none⟩ v3).setCell ⟨g, 4, none⟩ v4) = W ∧
      W.cell? ⟨g, 0, none⟩ = some v0 ∧ W.cell? ⟨g, 1, none⟩ = some v1 ∧ W.cell? ⟨g, 2, none⟩ = some v2 ∧ W.cell? ⟨g, 3, none⟩ = some v3 ∧ W.cell? ⟨g, 4, none⟩ = some v4 ∧ W.heap.size = w2.heap.size ∧ ∀ B w, Below B w w2 → B ≤ g → Below B w W := by
  obtain ⟨q0, q1, q2, q3, q4⟩ := setFix k0 k1 k2 k3 k4
  refine ⟨_, rfl, ?_, ?_, ?_, ?_, q4 _ _ _ _ _, by simp, fun B w h hg => below5 h hg _ _ _ _ _⟩
  · rw [World.cell?_setCell_other _ _ _ _ (by simp), World.cell?_setCell_other _ _ _ _ (by simp), World.cell?_setCell_other _ _ _ _ (by simp), World.cell?_setCell_other _ _ _ _ (by simp)]; exact q0 _
  · rw [World.cell?_setCell_other _ _ _ _ (by simp), World.cell?_setCell_other _ _ _ _ (by simp), World.cell?_setCell_other _ _ _ _ (by simp)]; exact q1 _ _
  · rw [World.cell?_setCell_other _ _ _ _ (by simp), World.cell?_setCell_other _ _ _ _ (by simp)]; exact q2 _ _ _
  · rw [World.cell?_setCell_other _ _ _ _ (by simp)]; exact q3 _ _ _ _
abbrev zfix : Obj := .cells #[.string ByteArray.empty, .int .i64 0, .int .i64 0, .int .i64 0, .int .i64 0] 33
set_option maxHeartbeats 1000000 in
theorem rdef_any (s : ByteArray) (w : World) : Calls Try.prog 14 #[.string s] w (DefPost s w) := by
  obtain ⟨n, hn⟩ : ∃ n, opOf s.data.toList = n := ⟨_, rfl⟩
  have hr := opOf_rng s.data.toList
  rw [hn] at hr
  have H1 := Lib.hid (show defA s.data.toList = if 6 ≤ n then 0 else 1 by unfold defA; rw [hn])
  have H2 := Lib.hid (show defL s.data.toList = if n = 1 ∨ n = 2 then 6 else if 3 ≤ n ∧ n ≤ 5 then 7 else if 6 ≤ n then 4 else 9 by unfold defL; rw [hn])
  have HN := Lib.hid hn
  clear hn
  rcases (show n = 0 ∨ n = 1 ∨ n = 2 ∨ (3 ≤ n ∧ n ≤ 5) ∨ 6 ≤ n by omega) with hc | hc | hc | hc | hc
  · have HA := Lib.hid (show defA s.data.toList = 1 from H1.out.trans (by split <;> omega))
    have HL := Lib.hid (show defL s.data.toList = 9 from H2.out.trans (by (repeat' split) <;> omega))
    have d1 : (n == 1) = false := beq_eq_false_iff_ne.2 (by omega)
    have d2 : (n == 2) = false := beq_eq_false_iff_ne.2 (by omega)
    have d3 : decide (3 ≤ n) = false := decide_eq_false (by omega)
    have d5 : decide (6 ≤ n) = false := decide_eq_false (by omega)
    clear hr H1 H2 hc
    go_enter Try.func14, Try.ntmps14
    go_wp2_with fail
    refine (rop_is HN.out _).mono ?_
    rintro e w2 ⟨rfl, hb2⟩
    have HB := Lib.hid (((Below.refl w.heap.size w).alloc (Nat.le_refl _) zfix).trans (hb2.mono (by simp)))
    have HX := (Box.new w #[.string ByteArray.empty, .int .i64 0, .int .i64 0, .int .i64 0, .int .i64 0] 33).below hb2 (by simp)
    have x0 := HX.cell 0
    have x1 := HX.cell 1
    have x2 := HX.cell 2
    have x3 := HX.cell 3
    have x4 := HX.cell 4
    have y0 := HX.free 0
    have y1 := HX.free 1
    have y2 := HX.free 2
    have y3 := HX.free 3
    have y4 := HX.free 4
    simp only [List.getElem?_toArray, List.getElem?_cons_zero, List.getElem?_cons_succ] at x0 x1 x2 x3 x4
    have hz2 := hb2.size
    simp at hz2
    have hz3 : w.heap.size < w2.heap.size := by omega
    obtain ⟨W, hW, q0, q1, q2, q3, q4, qs, qb⟩ := fixW x0 x1 x2 x3 x4 (.string s) (.int .i64 1) (.int .i64 9) (.int .i64 0) (.int .i64 0)
    have HB2 := Lib.hid (qb _ _ HB.out (Nat.le_refl _))
    have hz4 : w.heap.size < W.heap.size := by omega
    have Q0 := Lib.hid q0
    have Q1 := Lib.hid q1
    have Q2 := Lib.hid q2
    have Q3 := Lib.hid q3
    have Q4 := Lib.hid q4
    clear hb2 HX qs qb q0 q1 q2 q3 q4
    go_wp2_with fail
    refine bodyPost_ret (v := fixV s 1 9 0 0) (by simp [results, Try.results14, go_sem, hz4, Q0.out, Q1.out, Q2.out, Q3.out, Q4.out]) rfl ?_
    exact defPost HA.out HL.out (HB2.out.alloc (by omega) _)
  · have HA := Lib.hid (show defA s.data.toList = 1 from H1.out.trans (by split <;> omega))
    have HL := Lib.hid (show defL s.data.toList = 6 from H2.out.trans (by (repeat' split) <;> omega))
    have d1 : (n == 1) = true := beq_iff_eq.2 (by omega)
    have d3 : decide (3 ≤ n) = false := decide_eq_false (by omega)
    have d5 : decide (6 ≤ n) = false := decide_eq_false (by omega)
    clear hr H1 H2 hc
    go_enter Try.func14, Try.ntmps14
    go_wp2_with fail
    refine (rop_is HN.out _).mono ?_
    rintro e w2 ⟨rfl, hb2⟩
    have HB := Lib.hid (((Below.refl w.heap.size w).alloc (Nat.le_refl _) zfix).trans (hb2.mono (by simp)))
    have HX := (Box.new w #[.string ByteArray.empty, .int .i64 0, .int .i64 0, .int .i64 0, .int .i64 0] 33).below hb2 (by simp)
    have x0 := HX.cell 0
    have x1 := HX.cell 1
    have x2 := HX.cell 2
    have x3 := HX.cell 3
    have x4 := HX.cell 4
    have y0 := HX.free 0
    have y1 := HX.free 1
    have y2 := HX.free 2
    have y3 := HX.free 3
    have y4 := HX.free 4
    simp only [List.getElem?_toArray, List.getElem?_cons_zero, List.getElem?_cons_succ] at x0 x1 x2 x3 x4
    have hz2 := hb2.size
    simp at hz2
    have hz3 : w.heap.size < w2.heap.size := by omega
    obtain ⟨W, hW, q0, q1, q2, q3, q4, qs, qb⟩ := fixW x0 x1 x2 x3 x4 (.string s) (.int .i64 1) (.int .i64 6) (.int .i64 0) (.int .i64 0)
    have HB2 := Lib.hid (qb _ _ HB.out (Nat.le_refl _))
    have hz4 : w.heap.size < W.heap.size := by omega
    have Q0 := Lib.hid q0
    have Q1 := Lib.hid q1
    have Q2 := Lib.hid q2
    have Q3 := Lib.hid q3
    have Q4 := Lib.hid q4
    clear hb2 HX qs qb q0 q1 q2 q3 q4
    go_wp2_with fail
    refine bodyPost_ret (v := fixV s 1 6 0 0) (by simp [results, Try.results14, go_sem, hz4, Q0.out, Q1.out, Q2.out, Q3.out, Q4.out]) rfl ?_
    exact defPost HA.out HL.out (HB2.out.alloc (by omega) _)
  · have HA := Lib.hid (show defA s.data.toList = 1 from H1.out.trans (by split <;> omega))
    have HL := Lib.hid (show defL s.data.toList = 6 from H2.out.trans (by (repeat' split) <;> omega))
    have d1 : (n == 1) = false := beq_eq_false_iff_ne.2 (by omega)
    have d2 : (n == 2) = true := beq_iff_eq.2 (by omega)
    have d3 : decide (3 ≤ n) = false := decide_eq_false (by omega)
    have d5 : decide (6 ≤ n) = false := decide_eq_false (by omega)
    clear hr H1 H2 hc
    go_enter Try.func14, Try.ntmps14
    go_wp2_with fail
    refine (rop_is HN.out _).mono ?_
    rintro e w2 ⟨rfl, hb2⟩
    have HB := Lib.hid (((Below.refl w.heap.size w).alloc (Nat.le_refl _) zfix).trans (hb2.mono (by simp)))
    have HX := (Box.new w #[.string ByteArray.empty, .int .i64 0, .int .i64 0, .int .i64 0, .int .i64 0] 33).below hb2 (by simp)
    have x0 := HX.cell 0
    have x1 := HX.cell 1
    have x2 := HX.cell 2
    have x3 := HX.cell 3
    have x4 := HX.cell 4
    have y0 := HX.free 0
    have y1 := HX.free 1
    have y2 := HX.free 2
    have y3 := HX.free 3
    have y4 := HX.free 4
    simp only [List.getElem?_toArray, List.getElem?_cons_zero, List.getElem?_cons_succ] at x0 x1 x2 x3 x4
    have hz2 := hb2.size
    simp at hz2
    have hz3 : w.heap.size < w2.heap.size := by omega
    obtain ⟨W, hW, q0, q1, q2, q3, q4, qs, qb⟩ := fixW x0 x1 x2 x3 x4 (.string s) (.int .i64 1) (.int .i64 6) (.int .i64 0) (.int .i64 0)
    have HB2 := Lib.hid (qb _ _ HB.out (Nat.le_refl _))
    have hz4 : w.heap.size < W.heap.size := by omega
    have Q0 := Lib.hid q0
    have Q1 := Lib.hid q1
    have Q2 := Lib.hid q2
    have Q3 := Lib.hid q3
    have Q4 := Lib.hid q4
    clear hb2 HX qs qb q0 q1 q2 q3 q4
    go_wp2_with fail
    refine bodyPost_ret (v := fixV s 1 6 0 0) (by simp [results, Try.results14, go_sem, hz4, Q0.out, Q1.out, Q2.out, Q3.out, Q4.out]) rfl ?_
    exact defPost HA.out HL.out (HB2.out.alloc (by omega) _)
  · have HA := Lib.hid (show defA s.data.toList = 1 from H1.out.trans (by split <;> omega))
    have HL := Lib.hid (show defL s.data.toList = 7 from H2.out.trans (by (repeat' split) <;> omega))
    have d1 : (n == 1) = false := beq_eq_false_iff_ne.2 (by omega)
    have d2 : (n == 2) = false := beq_eq_false_iff_ne.2 (by omega)
    have d3 : decide (3 ≤ n) = true := decide_eq_true (by omega)
    have d4 : decide (n ≤ 5) = true := decide_eq_true (by omega)
    have d5 : decide (6 ≤ n) = false := decide_eq_false (by omega)
    clear hr H1 H2 hc
    go_enter Try.func14, Try.ntmps14
    go_wp2_with fail
    refine (rop_is HN.out _).mono ?_
    rintro e w2 ⟨rfl, hb2⟩
    have HB := Lib.hid (((Below.refl w.heap.size w).alloc (Nat.le_refl _) zfix).trans (hb2.mono (by simp)))
    have HX := (Box.new w #[.string ByteArray.empty, .int .i64 0, .int .i64 0, .int .i64 0, .int .i64 0] 33).below hb2 (by simp)
    have x0 := HX.cell 0
    have x1 := HX.cell 1
    have x2 := HX.cell 2
    have x3 := HX.cell 3
    have x4 := HX.cell 4
    have y0 := HX.free 0
    have y1 := HX.free 1
    have y2 := HX.free 2
    have y3 := HX.free 3
    have y4 := HX.free 4
    simp only [List.getElem?_toArray, List.getElem?_cons_zero, List.getElem?_cons_succ] at x0 x1 x2 x3 x4
    have hz2 := hb2.size
    simp at hz2
    have hz3 : w.heap.size < w2.heap.size := by omega
    obtain ⟨W, hW, q0, q1, q2, q3, q4, qs, qb⟩ := fixW x0 x1 x2 x3 x4 (.string s) (.int .i64 1) (.int .i64 7) (.int .i64 0) (.int .i64 0)
    have HB2 := Lib.hid (qb _ _ HB.out (Nat.le_refl _))
    have hz4 : w.heap.size < W.heap.size := by omega
    have Q0 := Lib.hid q0
    have Q1 := Lib.hid q1
    have Q2 := Lib.hid q2
    have Q3 := Lib.hid q3
    have Q4 := Lib.hid q4
    clear hb2 HX qs qb q0 q1 q2 q3 q4
    go_wp2_with fail
    refine bodyPost_ret (v := fixV s 1 7 0 0) (by simp [results, Try.results14, go_sem, hz4, Q0.out, Q1.out, Q2.out, Q3.out, Q4.out]) rfl ?_
    exact defPost HA.out HL.out (HB2.out.alloc (by omega) _)
  · have HA := Lib.hid (show defA s.data.toList = 0 from H1.out.trans (by split <;> omega))
    have HL := Lib.hid (show defL s.data.toList = 4 from H2.out.trans (by (repeat' split) <;> omega))
    have d1 : (n == 1) = false := beq_eq_false_iff_ne.2 (by omega)
    have d2 : (n == 2) = false := beq_eq_false_iff_ne.2 (by omega)
    have d3 : decide (3 ≤ n) = true := decide_eq_true (by omega)
    have d4 : decide (n ≤ 5) = false := decide_eq_false (by omega)
    have d5 : decide (6 ≤ n) = true := decide_eq_true (by omega)
    clear hr H1 H2 hc
    go_enter Try.func14, Try.ntmps14
    go_wp2_with fail
    refine (rop_is HN.out _).mono ?_
    rintro e w2 ⟨rfl, hb2⟩
    have HB := Lib.hid (((Below.refl w.heap.size w).alloc (Nat.le_refl _) zfix).trans (hb2.mono (by simp)))
    have HX := (Box.new w #[.string ByteArray.empty, .int .i64 0, .int .i64 0, .int .i64 0, .int .i64 0] 33).below hb2 (by simp)
    have x0 := HX.cell 0
    have x1 := HX.cell 1
    have x2 := HX.cell 2
    have x3 := HX.cell 3
    have x4 := HX.cell 4
    have y0 := HX.free 0
    have y1 := HX.free 1
    have y2 := HX.free 2
    have y3 := HX.free 3
    have y4 := HX.free 4
    simp only [List.getElem?_toArray, List.getElem?_cons_zero, List.getElem?_cons_succ] at x0 x1 x2 x3 x4
    have hz2 := hb2.size
    simp at hz2
    have hz3 : w.heap.size < w2.heap.size := by omega
    obtain ⟨W, hW, q0, q1, q2, q3, q4, qs, qb⟩ := fixW x0 x1 x2 x3 x4 (.string s) (.int .i64 0) (.int .i64 4) (.int .i64 0) (.int .i64 0)
    have HB2 := Lib.hid (qb _ _ HB.out (Nat.le_refl _))
    have hz4 : w.heap.size < W.heap.size := by omega
    have Q0 := Lib.hid q0
    have Q1 := Lib.hid q1
    have Q2 := Lib.hid q2
    have Q3 := Lib.hid q3
    have Q4 := Lib.hid q4
    clear hb2 HX qs qb q0 q1 q2 q3 q4
    go_wp2_with fail
    refine bodyPost_ret (v := fixV s 0 4 0 0) (by simp [results, Try.results14, go_sem, hz4, Q0.out, Q1.out, Q2.out, Q3.out, Q4.out]) rfl ?_
    exact defPost HA.out HL.out (HB2.out.alloc (by omega) _)
end Go.Proofs.Ytlhppkaehoppnaa.Fx
