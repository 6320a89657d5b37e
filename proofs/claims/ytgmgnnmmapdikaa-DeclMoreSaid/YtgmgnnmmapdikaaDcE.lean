/-
  CONTRACT of layer decl: a type once more, in new memory.
-/
import Derived.Test.YtgmgnnmmapdikaaDcD
namespace Go.Proofs.Ytgmgnnmmapdikaa.Dc
open Go.RowKit Mm Tm Mv Go.Maps Go.ChangeMaps Go.MapKept Go.WideMaps
set_option linter.unusedVariables false
set_option linter.unusedSimpArgs false
theorem again_end {x : Ty} {w w1 w3 W1 W : World} {a3 : Option Addr} {c3 : Nat} (hl : w1.heap.size = w.heap.size + 1 + 1) (ho : OwnT w1.heap.size TT w3 (.slice a3 x.args.len c3) x.args.toL) (hb : Below w.heap.size w w3) (h1 : Wrote w3 W1 w.heap.size) (h2 : Wrote W1 W (w.heap.size + 1)) :
    BecomePost id x w (.returned (tyV x a3 c3)) W := by
  refine ⟨a3, c3, rfl, ?_, h2.below (h1.below hb (Nat.le_refl _)) (by omega)⟩
  have h := ho.reads
  rw [Tys.ofL_toL] at h
  exact h.frame (fun b o hZ => (h2.cell _ (by show b ≠ _; omega)).trans (h1.cell _ (by show b ≠ _; omega))) (fun ad hZ => (h2.cell _ (by omega)).trans (h1.cell _ (by omega))) (fun b hZ => ⟨by omega, hZ.2.same ((h2.block b (by omega)).trans (h1.block b (by omega)))⟩)
set_option maxRecDepth 100000 in
theorem again_of {x : Ty} {a : Option Addr} {c : Nat} (w : World) (hr : RdT (· < w.heap.size) w a x.args 0) (hl : x.args.len * 56 ≤ 140737488355328)
    (hC : ∀ y ∈ x.args.toL, ∀ a2 c2 w', Below w.heap.size w w' → RdT (· < w'.heap.size) w' a2 y.args 0 → y.args.len * 56 ≤ 140737488355328 → Calls Try.prog 29 #[tyV y a2 c2] w' (BecomePost id y w')) :
    Calls Try.prog 29 #[tyV x a c] w (BecomePost id x w) := by
  obtain ⟨kd, nn, nm, args⟩ := x
  have HB0 := Lib.hid (((Below.refl w.heap.size w).alloc (Nat.le_refl _) (.cells #[.int .i64 kd, .int .i64 nn, .string nm, .slice a args.len c] TT)).alloc (by simp) (.cells #[.int .i64 0, .int .i64 0, .string ByteArray.empty, .slice none 0 0] TT))
  have HX0 := Lib.hid ((Box.new w #[.int .i64 kd, .int .i64 nn, .string nm, .slice a args.len c] TT).alloc (.cells #[.int .i64 0, .int .i64 0, .string ByteArray.empty, .slice none 0 0] TT))
  have HY0 := Lib.hid (Box.at_ (w := w.alloc (.cells #[.int .i64 kd, .int .i64 nn, .string nm, .slice a args.len c] TT)) #[.int .i64 0, .int .i64 0, .string ByteArray.empty, .slice none 0 0] TT (k := w.heap.size + 1) (by simp))
  have hr1 : RdT (· < w.heap.size) ((w.alloc (.cells #[.int .i64 kd, .int .i64 nn, .string nm, .slice a args.len c] TT)).alloc (.cells #[.int .i64 0, .int .i64 0, .string ByteArray.empty, .slice none 0 0] TT)) a (Tys.ofL args.toL) 0 := by rw [Tys.ofL_toL]; exact hr.below HB0.out fun b h => h
  have hfit := fits_of hr1
  have HE := Lib.hid (each_again_any (G := id) (a := a) (c := c) (l := args.toL) _ (hr1.mono fun b h => by simp; omega) (by rw [Tys.toL_len]; exact hl) (fun y hy => hfit y hy)
    (fun y hy a2 c2 w' hb' hrd hs ha => hC y hy a2 c2 w' (HB0.out.trans (hb'.mono (by simp; omega))) (hrd.mono fun b h => Nat.lt_of_lt_of_le h hb'.size) ha))
  rw [Tys.toL_len] at HE
  clear hr hr1 hfit hC
  go_enter Try.func29, Try.ntmps29
  go_wp2_with fail
  refine HE.out.mono ?_
  rintro e w3 ⟨a3, c3, rfl, ho3, hb3⟩
  have HB := Lib.hid (HB0.out.trans (hb3.mono (by simp; omega)))
  have hX := HX0.out.below hb3 (by simp; omega)
  have hY := HY0.out.below hb3 (by simp)
  have e1 : args.toL.length = args.len := Tys.toL_len args
  rw [e1] at ho3 ⊢
  rw [List.map_id] at ho3
  have HO := Lib.hid ho3
  obtain ⟨x0, x1, x2, x3, y0, y1, y2, y3⟩ := hX.cells4
  have hX1 := hX.put 3 (.slice a3 args.len c3)
  have HW1 := (Wrote.refl w3 w.heap.size).set 3 (.slice a3 args.len c3)
  obtain ⟨W1, hW1⟩ : ∃ W, w3.setCell ⟨w.heap.size, 3, none⟩ (.slice a3 args.len c3) = W := ⟨_, rfl⟩
  rw [hW1] at hX1 HW1
  have hY1 := hY.wrote HW1 (by omega)
  replace hX1 : Box W1 w.heap.size TT #[.int .i64 kd, .int .i64 nn, .string nm, .slice a3 args.len c3] := hX1
  obtain ⟨p0, p1, p2, p3, _⟩ := hX1.cells4
  obtain ⟨r0, r1, r2, r3, s0, s1, s2, s3⟩ := hY1.cells4
  obtain ⟨W, hW, hbx, hwr⟩ := hY1.write4 (.int .i64 kd) (.int .i64 nn) (.string nm) (.slice a3 args.len c3)
  obtain ⟨q0, q1, q2, q3, _⟩ := hbx.cells4
  have HW := Lib.hid hwr
  have HWW := Lib.hid HW1
  have Q0 := Lib.hid q0
  have Q1 := Lib.hid q1
  have Q2 := Lib.hid q2
  have Q3 := Lib.hid q3
  clear hb3 hX hY ho3 hX1 hY1 HW1 hbx hwr q0 q1 q2 q3 e1
  go_wp2_with fail
  refine bodyPost_ret (v := .agg #[.int .i64 kd, .int .i64 nn, .string nm, .slice a3 args.len c3]) (by simp [results, Try.results29, go_sem, Q0.out, Q1.out, Q2.out, Q3.out]) rfl ?_
  exact again_end (x := ⟨kd, nn, nm, args⟩) (w1 := (w.alloc (.cells #[.int .i64 kd, .int .i64 nn, .string nm, .slice a args.len c] TT)).alloc (.cells #[.int .i64 0, .int .i64 0, .string ByteArray.empty, .slice none 0 0] TT)) (by simp) HO.out HB.out HWW.out HW.out
theorem again_any : ∀ (q : Nat) (x : Ty), x.args.nodes < q → ∀ (a : Option Addr) (c : Nat) (w : World), RdT (· < w.heap.size) w a x.args 0 → x.args.len * 56 ≤ 140737488355328 →
    Calls Try.prog 29 #[tyV x a c] w (BecomePost id x w) := by
  intro q
  induction q with
  | zero => intro x hx; omega
  | succ q ih =>
    intro x hx a c w hr hl
    refine again_of w hr hl fun y hy a2 c2 w' hb hrd hl2 => ?_
    obtain ⟨i, hi⟩ := List.getElem?_of_mem hy
    have := Tys.nodes_get x.args i y hi
    exact ih y (by omega) a2 c2 w' hrd hl2
/-- a row of types once more -/
theorem copies_any {a : Option Addr} {c : Nat} {l : List Ty} (w : World) (hr : RdT (· < w.heap.size) w a (Tys.ofL l) 0) (hl : l.length * 56 ≤ 140737488355328) :
    Calls Try.prog 27 #[.slice a l.length c, .func (.func 29) #[] #[]] w (EachPost id l w) :=
  each_again_any w hr hl (fun y hy => fits_of hr y hy) fun y hy a2 c2 w' hb hrd hs ha => again_any _ y (Nat.lt_succ_self _) a2 c2 w' (hrd.mono fun b h => Nat.lt_of_lt_of_le h hb.size) ha
end Go.Proofs.Ytgmgnnmmapdikaa.Dc
