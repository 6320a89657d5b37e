/-
  CONTRACT of layer unify: Unify, where one of the types may not be.
-/
import Derived.Test.YtcaioffdcbjbjaaGE

namespace Go.Proofs.Ytcaioffdcbjbjaa.Un
open Go.RowKit Go.Shelf Mm Tm Mk Go.Maps Go.ChangeMaps Go.MapKept Go.WideMaps Rg
set_option linter.unusedVariables false
set_option linter.unusedSimpArgs false
set_option maxRecDepth 100000 in
set_option maxHeartbeats 8000000 in
theorem unify_no {base s cx cy : Nat} {x y : Ty} {ax ay : Option Addr} (w : World) (hx : TyR base w x ax) (hy : TyR base w y ay) (hno : (okTy x && okTy y) = false) :
    Calls Try.prog 7 #[.pointer (some ⟨s, 0, none⟩), .agg #[.int .i64 x.kd, .int .i64 x.n, .string x.nm, .slice ax x.args.len cx], .agg #[.int .i64 y.kd, .int .i64 y.n, .string y.nm, .slice ay y.args.len cy]] w (ValB (.int .i64 1) w) := by
  obtain ⟨W0, hW0⟩ : ∃ W0, (w.alloc (.cells #[.int .i64 x.kd, .int .i64 x.n, .string x.nm, .slice ax x.args.len cx] TT)).alloc (.cells #[.int .i64 y.kd, .int .i64 y.n, .string y.nm, .slice ay y.args.len cy] TT) = W0 := ⟨_, rfl⟩
  have hB0 : Below w.heap.size w W0 := by rw [← hW0]; exact ((Below.refl w.heap.size w).alloc (Nat.le_refl _) _).alloc (by simp) _
  have hX0 : Box W0 w.heap.size TT #[.int .i64 x.kd, .int .i64 x.n, .string x.nm, .slice ax x.args.len cx] := by rw [← hW0]; exact (Box.new w _ _).alloc _
  have hY0 : Box W0 (w.heap.size + 1) TT #[.int .i64 y.kd, .int .i64 y.n, .string y.nm, .slice ay y.args.len cy] := by rw [← hW0]; exact Box.at_ _ _ (by simp)
  have HRX := Lib.hid (right_any x.args.nodes x (Nat.le_refl _) ax cx W0 (hx.below hB0).1 (fun b hz => hz.lt) hx.2.1)
  unfold tyV at HRX
  obtain ⟨x0, x1, x2, x3, _⟩ := hX0.cells4
  have HY := Lib.hid (And.intro hY0 (hy.below hB0))
  have HB0 := Lib.hid hB0
  clear hx hy hB0 hX0 hY0
  go_enter Try.func7, Try.ntmps7
  cases hox : okTy x with
  | false =>
    rw [hox] at HRX
    clear hox hno
    go_wp2_with fail
    refine HRX.out.mono ?_
    rintro e W1 ⟨rfl, hb1⟩
    have HB1 := Lib.hid (HB0.out.trans (hb1.mono HB0.out.size))
    clear hb1 hW0
    go_wp2_with fail
    go_ret
    exact ⟨rfl, HB1.out⟩
  | true =>
    have hoy : okTy y = false := by rw [hox, Bool.true_and] at hno; exact hno
    rw [hox] at HRX
    clear hox hno
    go_wp2_with fail
    refine HRX.out.mono ?_
    rintro e W1 ⟨rfl, hb1⟩
    have HB1 := Lib.hid (HB0.out.trans (hb1.mono HB0.out.size))
    have hY1 := HY.out.1.below hb1 HY.out.1.lt
    have hy1 := HY.out.2.below hb1
    have HRY := Lib.hid (right_any y.args.nodes y (Nat.le_refl _) ay cy W1 hy1.1 (fun b hz => hz.lt) hy1.2.1)
    unfold tyV at HRY
    rw [hoy] at HRY
    clear hb1 hW0 x0 x1 x2 x3 hoy hy1
    obtain ⟨y0, y1, y2, y3, _⟩ := hY1.cells4
    clear hY1
    go_wp2_with fail
    refine HRY.out.mono ?_
    rintro e W2 ⟨rfl, hb2⟩
    have HB2 := Lib.hid (HB1.out.trans (hb2.mono HB1.out.size))
    clear hb2
    go_wp2_with fail
    go_ret
    exact ⟨rfl, HB2.out⟩
end Go.Proofs.Ytcaioffdcbjbjaa.Un
