/-
  CONTRACTS of layer heap: Get of a heap that is not there.
-/
import Derived.Test.YtbkklnihgejeoaaHpN
namespace Go.Proofs.Ytbkklnihgejeoaa.Hp
open Go.RowKit Mm Tm
set_option linter.unusedVariables false
set_option linter.unusedSimpArgs false
theorem HpI.less {B : Nat} {X Y : Nat → Prop} {w : World} {h : Nat} {S : Hs} (hm : HpI B X w h S) (hXY : ∀ b, b < w.heap.size → Y b → X b) : HpI B Y w h S := by
  obtain ⟨v, n, pb, hm⟩ := hm
  exact ⟨v, n, pb, hm.less hXY⟩
theorem HpI.aside {B : Nat} {X P : Nat → Prop} {w w' : World} {h : Nat} {S : Hs} (hm : HpI B X w h S) (hk : Kept P w w') (hP : ∀ b, P b → X b ∧ TyB TI w b) : HpI B X w' h S := by
  obtain ⟨v, n, pb, hm⟩ := hm
  exact ⟨v, n, pb, hm.aside hk hP⟩
set_option maxRecDepth 100000 in
set_option maxHeartbeats 4000000 in
theorem holds_zero {g d : Nat} (w : World) (hx : Box w g TH zeroH) (hy : Box w d TI #[.int .i64 0]) :
    Calls Try.prog 30 #[.pointer (some ⟨g, 0, none⟩), .slice (some ⟨d, 0, none⟩) 1 1] w (IsV (.bool false) w) := by
  have x2 : w.cell? ⟨g, 2, none⟩ = some (.int .i64 0) := hx.cell 2
  have y0 : w.cell? ⟨d, 0, none⟩ = some (.int .i64 0) := hy.cell 0
  clear hx hy
  go_enter Try.func30, Try.ntmps30
  go_wp2_with fail
  go_loop [9] (fun i => i = .int .i64 0) (fun i => 1)
  case atStart => rfl
  case round =>
    obtain rfl := hrel
    go_wp2_with fail
    go_ret
    exact ⟨rfl, rfl⟩
set_option maxRecDepth 100000 in
set_option maxHeartbeats 4000000 in
theorem get_nil (w : World) : Calls Try.prog 19 #[.pointer none, .int .i64 0] w (RetB (.tuple #[.agg #[.int .i64 0, .int .i64 0, .slice none 0 0], .bool false]) w) := by
  obtain ⟨W0, hW0⟩ : ∃ W0, w.alloc (.cells #[.int .i64 0, .int .i64 0, .slice none 0 0] TN) = W0 := ⟨_, rfl⟩
  have hz0 : W0.heap.size = w.heap.size + 1 := by rw [← hW0]; simp
  have hB0 : Below w.heap.size w W0 := by rw [← hW0]; exact (Below.refl w.heap.size w).alloc (Nat.le_refl _) _
  have hX0 : Box W0 w.heap.size TN #[.int .i64 0, .int .i64 0, .slice none 0 0] := by rw [← hW0]; exact Box.new w _ _
  obtain ⟨W1, hW1⟩ : ∃ W1, W0.alloc (.cells zeroH TH) = W1 := ⟨_, rfl⟩
  have hB1 : Below W0.heap.size W0 W1 := by rw [← hW1]; exact (Below.refl W0.heap.size W0).alloc (Nat.le_refl _) _
  have hX1 := hX0.below hB1 hX0.lt
  have hG1 : Box W1 W0.heap.size TH zeroH := by rw [← hW1]; exact Box.new _ _ _
  obtain ⟨W2, hW2⟩ : ∃ W2, W1.alloc (.cells #[.int .i64 0] TI) = W2 := ⟨_, rfl⟩
  have hB2 : Below W1.heap.size W1 W2 := by rw [← hW2]; exact (Below.refl W1.heap.size W1).alloc (Nat.le_refl _) _
  have hX2 := hX1.below hB2 hX1.lt
  have hG2 := hG1.below hB2 hG1.lt
  have hY2 : Box W2 W1.heap.size TI #[.int .i64 0] := by rw [← hW2]; exact Box.new _ _ _
  have HG := Lib.hid (by have := given_nil W0; rw [hW1] at this; exact this)
  have HH := Lib.hid (holds_zero W2 hG2 hY2)
  have HB2 := Lib.hid (hB0.trans ((hB1.mono hB0.size).trans (hB2.mono (Nat.le_trans hB0.size hB1.size))))
  obtain ⟨W3, hW3, hX3, hw3⟩ : ∃ W3, ((W2.setCell ⟨w.heap.size, 0, none⟩ (.int .i64 0)).setCell ⟨w.heap.size, 1, none⟩ (.int .i64 0)).setCell ⟨w.heap.size, 2, none⟩ (.slice none 0 0) = W3 ∧ Box W3 w.heap.size TN #[.int .i64 0, .int .i64 0, .slice none 0 0] ∧ Wrote W2 W3 w.heap.size := ⟨_, rfl, ((hX2.put 0 _).put 1 _).put 2 _, (((Wrote.refl W2 _).set 0 _).set 1 _).set 2 _⟩
  have HX3 := Lib.hid hX3
  have HB3 := Lib.hid (hw3.below HB2.out (Nat.le_refl _))
  have x0 := hX2.cell 0
  have x1 := hX2.cell 1
  have x2 := hX2.cell 2
  have f0 := hX2.free 0
  have f1 := hX2.free 1
  have f2 := hX2.free 2
  clear hB0 hX0 hB1 hX1 hG1 hB2 hX2 hG2 hY2 hX3 hw3 hz0
  go_enter Try.func19, Try.ntmps19
  go_wp2_with fail
  refine HG.out.mono ?_
  rintro e w' ⟨rfl, rfl⟩
  go_wp2_with fail
  refine HH.out.mono ?_
  rintro e w' ⟨rfl, rfl⟩
  clear hW0 hW1 hW2
  go_wp2_with fail
  have z0 := HX3.out.cell 0
  have z1 := HX3.out.cell 1
  have z2 := HX3.out.cell 2
  refine bodyPost_ret (v := .tuple #[.agg #[.int .i64 0, .int .i64 0, .slice none 0 0], .bool false]) (by simp [results, Try.results19, go_sem, z0, z1, z2]) rfl ?_
  exact ⟨rfl, HB3.out⟩
end Go.Proofs.Ytbkklnihgejeoaa.Hp
