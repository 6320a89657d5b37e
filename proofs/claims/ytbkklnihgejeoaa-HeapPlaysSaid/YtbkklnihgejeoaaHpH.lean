/-
  CONTRACTS of layer heap: Set, Get, Live, Cap, Allocs.
-/
import Derived.Test.YtbkklnihgejeoaaHpG
namespace Go.Proofs.Ytbkklnihgejeoaa.Hp
open Go.RowKit Mm Tm
set_option linter.unusedVariables false
set_option linter.unusedSimpArgs false
/-- a row of one number in new memory -/
theorem one_rd (w : World) (a : Int) : RdI (· < (w.alloc (.cells #[.int .i64 a] TI)).heap.size) (w.alloc (.cells #[.int .i64 a] TI)) (some ⟨w.heap.size, 0, none⟩) [a] := by
  intro i x hx
  match i, hx with
  | 0, hx =>
    injection hx with hx
    subst hx
    exact ⟨_, rfl, by simp, (Box.new w #[.int .i64 a] TI).cell 0⟩
theorem holds_one {S : Hs} {a : Int} : S.holds [a] = S.held a := by
  unfold Hs.holds
  simp
theorem set_nil {x : Nd} {p : Int} {a : Option Addr} {c : Nat} (w : World) : Calls Try.prog 24 #[.pointer none, .int .i64 p, .agg #[.int .i64 x.tag, .int .i64 x.n, .slice a x.l.length c]] w (RetB (.int .i64 3) w) := by
  have HB := Lib.hid (((Below.refl w.heap.size w).alloc (Nat.le_refl _) (.cells #[.int .i64 x.tag, .int .i64 x.n, .slice a x.l.length c] TN)).alloc (by simp) (.cells zeroH TH))
  have HG := Lib.hid (given_nil (w.alloc (.cells #[.int .i64 x.tag, .int .i64 x.n, .slice a x.l.length c] TN)))
  go_enter Try.func24, Try.ntmps24
  go_wp2_with fail
  refine HG.out.mono ?_
  rintro e w' ⟨rfl, rfl⟩
  go_wp2_with fail
  go_ret
  exact ⟨rfl, HB.out⟩
set_option maxRecDepth 100000 in
set_option maxHeartbeats 4000000 in
theorem set_no {B : Nat} {X : Nat → Prop} {h : Nat} {S : Hs} {x : Nd} {p : Int} {a : Option Addr} {c : Nat} (w : World) (hm : HpI B X w h S) (hx : NdA B w x a) (hh : S.held p = false ∨ S.holds x.l = false) :
    Calls Try.prog 24 #[.pointer (some ⟨h, 0, none⟩), .int .i64 p, .agg #[.int .i64 x.tag, .int .i64 x.n, .slice a x.l.length c]] w (RetB (.int .i64 161) w) := by
  obtain ⟨v, n, pb, hm⟩ := hm
  obtain ⟨W0, hW0⟩ : ∃ W0, w.alloc (.cells #[.int .i64 x.tag, .int .i64 x.n, .slice a x.l.length c] TN) = W0 := ⟨_, rfl⟩
  have hB0 : Below w.heap.size w W0 := by rw [← hW0]; exact (Below.refl w.heap.size w).alloc (Nat.le_refl _) _
  have hX0 : Box W0 w.heap.size TN #[.int .i64 x.tag, .int .i64 x.n, .slice a x.l.length c] := by rw [← hW0]; exact Box.new w _ _
  obtain ⟨W1, hW1⟩ : ∃ W1, W0.alloc (.cells #[.int .i64 p] TI) = W1 := ⟨_, rfl⟩
  have hB1 : Below W0.heap.size W0 W1 := by rw [← hW1]; exact (Below.refl W0.heap.size W0).alloc (Nat.le_refl _) _
  have hm0 := hm.below hB0
  have hx0 := hx.below hB0
  have hm1 := hm0.below hB1
  have hx1 := hx0.below hB1
  have hX1 := hX0.below hB1 hX0.lt
  have HG := Lib.hid (given_any W0 hm0.box)
  have HH1 := Lib.hid (by have := holds_any (c := 1) W1 hm1 (by have := one_rd W0 p; rw [hW1] at this; exact this) (by simp); rw [holds_one] at this; exact this)
  have HH2 := Lib.hid (holds_any (c := c) W1 hm1 hx1.rd (by have := hx1.len; omega))
  have HB1 := Lib.hid (hB0.trans (hB1.mono hB0.size))
  have x2 := hX1.cell 2
  have e1 := hW1
  clear hm hx hB0 hX0 hm0 hx0 hB1 hm1 hx1 hX1 hW1
  go_enter Try.func24, Try.ntmps24
  by_cases h1 : S.held p = true
  · have h2 : S.holds x.l = false := hh.elim (fun q => by rw [h1] at q; cases q) id
    rw [h1] at HH1
    rw [h2] at HH2
    clear h1 h2 hh
    go_wp2_with fail
    refine HG.out.mono ?_
    rintro e w' ⟨rfl, rfl⟩
    go_wp2_with fail
    refine HH1.out.mono ?_
    rintro e w' ⟨rfl, rfl⟩
    go_wp2_with fail
    refine HH2.out.mono ?_
    rintro e w' ⟨rfl, rfl⟩
    go_wp2_with fail
    go_ret
    exact ⟨rfl, HB1.out⟩
  · have h1 : S.held p = false := by simpa using h1
    rw [h1] at HH1
    clear h1 hh HH2
    go_wp2_with fail
    refine HG.out.mono ?_
    rintro e w' ⟨rfl, rfl⟩
    go_wp2_with fail
    refine HH1.out.mono ?_
    rintro e w' ⟨rfl, rfl⟩
    go_wp2_with fail
    go_ret
    exact ⟨rfl, HB1.out⟩
/-- a node that is told: its pointers are in new memory -/
def GetP (x : Nd) (w : World) (e : Ending) (w' : World) : Prop := ∃ a c, e = .returned (.tuple #[.agg #[.int .i64 x.tag, .int .i64 x.n, .slice a x.l.length c], .bool true]) ∧ OwnI w.heap.size TI w' (.slice a x.l.length c) x.l ∧ Below w.heap.size w w'
set_option maxRecDepth 100000 in
set_option maxHeartbeats 4000000 in
theorem get_no {B : Nat} {X : Nat → Prop} {h : Nat} {S : Hs} {p : Int} (w : World) (hm : HpI B X w h S) (hh : S.held p = false) :
    Calls Try.prog 19 #[.pointer (some ⟨h, 0, none⟩), .int .i64 p] w (RetB (.tuple #[.agg #[.int .i64 0, .int .i64 0, .slice none 0 0], .bool false]) w) := by
  obtain ⟨v, n, pb, hm⟩ := hm
  obtain ⟨W0, hW0⟩ : ∃ W0, w.alloc (.cells #[.int .i64 0, .int .i64 0, .slice none 0 0] TN) = W0 := ⟨_, rfl⟩
  have hB0 : Below w.heap.size w W0 := by rw [← hW0]; exact (Below.refl w.heap.size w).alloc (Nat.le_refl _) _
  have hX0 : Box W0 w.heap.size TN #[.int .i64 0, .int .i64 0, .slice none 0 0] := by rw [← hW0]; exact Box.new w _ _
  obtain ⟨W1, hW1⟩ : ∃ W1, W0.alloc (.cells #[.int .i64 p] TI) = W1 := ⟨_, rfl⟩
  have hB1 : Below W0.heap.size W0 W1 := by rw [← hW1]; exact (Below.refl W0.heap.size W0).alloc (Nat.le_refl _) _
  have hm0 := hm.below hB0
  have hm1 := hm0.below hB1
  have hX1 := hX0.below hB1 hX0.lt
  have HG := Lib.hid (given_any W0 hm0.box)
  have HH1 := Lib.hid (by have := holds_any (c := 1) W1 hm1 (by have := one_rd W0 p; rw [hW1] at this; exact this) (by simp); rw [holds_one, hh] at this; exact this)
  have HB1 := Lib.hid (hB0.trans (hB1.mono hB0.size))
  obtain ⟨W2, hW2, hX2, hw2⟩ : ∃ W2, ((W1.setCell ⟨w.heap.size, 0, none⟩ (.int .i64 0)).setCell ⟨w.heap.size, 1, none⟩ (.int .i64 0)).setCell ⟨w.heap.size, 2, none⟩ (.slice none 0 0) = W2 ∧ Box W2 w.heap.size TN #[.int .i64 0, .int .i64 0, .slice none 0 0] ∧ Wrote W1 W2 w.heap.size := ⟨_, rfl, ((hX1.put 0 _).put 1 _).put 2 _, (((Wrote.refl W1 _).set 0 _).set 1 _).set 2 _⟩
  have HX2 := Lib.hid hX2
  have HB2 := Lib.hid (hw2.below HB1.out (Nat.le_refl _))
  have x0 := hX1.cell 0
  have x1 := hX1.cell 1
  have x2 := hX1.cell 2
  have f0 := hX1.free 0
  have f1 := hX1.free 1
  have f2 := hX1.free 2
  clear hm hB0 hX0 hm0 hB1 hm1 hX1 hX2 hw2 hh
  go_enter Try.func19, Try.ntmps19
  go_wp2_with fail
  refine HG.out.mono ?_
  rintro e w' ⟨rfl, rfl⟩
  go_wp2_with fail
  refine HH1.out.mono ?_
  rintro e w' ⟨rfl, rfl⟩
  clear hW0 hW1
  go_wp2_with fail
  have z0 := HX2.out.cell 0
  have z1 := HX2.out.cell 1
  have z2 := HX2.out.cell 2
  refine bodyPost_ret (v := .tuple #[.agg #[.int .i64 0, .int .i64 0, .slice none 0 0], .bool false]) (by simp [results, Try.results19, go_sem, z0, z1, z2]) rfl ?_
  exact ⟨rfl, HB2.out⟩
set_option maxRecDepth 100000 in
set_option maxHeartbeats 4000000 in
theorem get_ok {B : Nat} {X : Nat → Prop} {h : Nat} {S : Hs} {k : Nat} (w : World) (hm : HpI B X w h S) (hh : S.held k = true) :
    Calls Try.prog 19 #[.pointer (some ⟨h, 0, none⟩), .int .i64 k] w (GetP (S.nd k) w) := by
  obtain ⟨v, n, pb, hm⟩ := hm
  obtain ⟨q0, q1, q2⟩ := Hs.held_iff.1 hh
  have hkk : k < n * 256 := by have := hm.room; omega
  obtain ⟨W0, hW0⟩ : ∃ W0, w.alloc (.cells #[.int .i64 0, .int .i64 0, .slice none 0 0] TN) = W0 := ⟨_, rfl⟩
  have hB0 : Below w.heap.size w W0 := by rw [← hW0]; exact (Below.refl w.heap.size w).alloc (Nat.le_refl _) _
  have hX0 : Box W0 w.heap.size TN #[.int .i64 0, .int .i64 0, .slice none 0 0] := by rw [← hW0]; exact Box.new w _ _
  obtain ⟨W1, hW1⟩ : ∃ W1, W0.alloc (.cells #[.int .i64 k] TI) = W1 := ⟨_, rfl⟩
  have hB1 : Below W0.heap.size W0 W1 := by rw [← hW1]; exact (Below.refl W0.heap.size W0).alloc (Nat.le_refl _) _
  have hm0 := hm.below hB0
  have hm1 := hm0.below hB1
  have hX1 := hX0.below hB1 hX0.lt
  have HG := Lib.hid (given_any W0 hm0.box)
  have HH1 := Lib.hid (by have := holds_any (c := 1) W1 hm1 (by have := one_rd W0 (k : Int); rw [hW1] at this; exact this) (by simp); rw [holds_one, hh] at this; exact this)
  have HAT := Lib.hid (at_any W1 hm1 k hkk)
  obtain ⟨la, lc, c0, c1, c2, hr, hl⟩ := (hm1.cells k hkk).node (by simpa using q2)
  have HOW := Lib.hid (own_any (c := lc) W1 hr (fun y hy => hy.2.1.lt) hl.1)
  have HB1 := Lib.hid (hB0.trans (hB1.mono hB0.size))
  have HX1 := Lib.hid hX1
  generalize S.nd k = x at *
  clear hm hB0 hX0 hm0 hB1 hm1 hX1 hh hr hl q0 q1 q2
  go_enter Try.func19, Try.ntmps19
  go_wp2_with fail
  refine HG.out.mono ?_
  rintro e w' ⟨rfl, rfl⟩
  go_wp2_with fail
  refine HH1.out.mono ?_
  rintro e w' ⟨rfl, rfl⟩
  clear hW0 hW1
  go_wp2_with fail
  refine HAT.out.mono ?_
  rintro e w' ⟨rfl, rfl⟩
  go_wp2_with fail
  refine HOW.out.mono ?_
  rintro e W3 ⟨v3, rfl, ho3, hb3⟩
  obtain ⟨va, vc, rfl⟩ := ho3.slice
  have hX3 := HX1.out.below hb3 HX1.out.lt
  obtain ⟨W4, hW4, hX4, hw4⟩ : ∃ W4, ((W3.setCell ⟨w.heap.size, 0, none⟩ (.int .i64 x.tag)).setCell ⟨w.heap.size, 1, none⟩ (.int .i64 x.n)).setCell ⟨w.heap.size, 2, none⟩ (.slice va x.l.length vc) = W4 ∧ Box W4 w.heap.size TN #[.int .i64 x.tag, .int .i64 x.n, .slice va x.l.length vc] ∧ Wrote W3 W4 w.heap.size := ⟨_, rfl, ((hX3.put 0 _).put 1 _).put 2 _, (((Wrote.refl W3 _).set 0 _).set 1 _).set 2 _⟩
  have ho4 : OwnI W1.heap.size TI W4 (.slice va x.l.length vc) x.l := by
    rw [← hW4]
    exact own_far (own_far (own_far ho3 hX3 (by decide) 0 _) (hX3.put 0 _) (by decide) 1 _) ((hX3.put 0 _).put 1 _) (by decide) 2 _
  have HX4 := Lib.hid hX4
  have HO4 := Lib.hid (OwnI.base ho4 HB1.out.size)
  have HB4 := Lib.hid (hw4.below (HB1.out.trans (hb3.mono HB1.out.size)) (Nat.le_refl _))
  have x0 := hX3.cell 0
  have x1 := hX3.cell 1
  have x2 := hX3.cell 2
  have f0 := hX3.free 0
  have f1 := hX3.free 1
  have f2 := hX3.free 2
  clear ho3 hb3 hX3 hX4 hw4 ho4 c0 c1 c2
  go_wp2_with fail
  have z0 := HX4.out.cell 0
  have z1 := HX4.out.cell 1
  have z2 := HX4.out.cell 2
  refine bodyPost_ret (v := .tuple #[.agg #[.int .i64 x.tag, .int .i64 x.n, .slice va x.l.length vc], .bool true]) (by simp [results, Try.results19, go_sem, z0, z1, z2]) rfl ?_
  exact ⟨va, vc, rfl, HO4.out, HB4.out⟩
theorem live_any {B : Nat} {X : Nat → Prop} {h : Nat} {S : Hs} (w : World) (hm : HpI B X w h S) : Calls Try.prog 14 #[.pointer (some ⟨h, 0, none⟩)] w (IsV (.int .i64 S.live) w) := by
  obtain ⟨v, n, pb, hm⟩ := hm
  have HG := Lib.hid (given_any w hm.box)
  have x4 : w.cell? ⟨h, 4, none⟩ = some (.int .i64 S.live) := hm.box.cell 4
  clear hm
  go_enter Try.func14, Try.ntmps14
  go_wp2_with fail
  refine HG.out.mono ?_
  rintro e w' ⟨rfl, rfl⟩
  go_wp2_with fail
  go_ret
  exact ⟨rfl, rfl⟩
theorem cap_any {B : Nat} {X : Nat → Prop} {h : Nat} {S : Hs} (w : World) (hm : HpI B X w h S) : Calls Try.prog 15 #[.pointer (some ⟨h, 0, none⟩)] w (IsV (.int .i64 S.cap) w) := by
  obtain ⟨v, n, pb, hm⟩ := hm
  have HG := Lib.hid (given_any w hm.box)
  have x4 : w.cell? ⟨h, 1, none⟩ = some (.int .i64 S.cap) := hm.box.cell 1
  clear hm
  go_enter Try.func15, Try.ntmps15
  go_wp2_with fail
  refine HG.out.mono ?_
  rintro e w' ⟨rfl, rfl⟩
  go_wp2_with fail
  go_ret
  exact ⟨rfl, rfl⟩
theorem allocs_any {B : Nat} {X : Nat → Prop} {h : Nat} {S : Hs} (w : World) (hm : HpI B X w h S) : Calls Try.prog 16 #[.pointer (some ⟨h, 0, none⟩)] w (IsV (.int .i64 S.allocs) w) := by
  obtain ⟨v, n, pb, hm⟩ := hm
  have HG := Lib.hid (given_any w hm.box)
  have x4 : w.cell? ⟨h, 5, none⟩ = some (.int .i64 S.allocs) := hm.box.cell 5
  clear hm
  go_enter Try.func16, Try.ntmps16
  go_wp2_with fail
  refine HG.out.mono ?_
  rintro e w' ⟨rfl, rfl⟩
  go_wp2_with fail
  go_ret
  exact ⟨rfl, rfl⟩
theorem live_nil (w : World) : Calls Try.prog 14 #[.pointer none] w (RetB (.int .i64 0) w) := by
  have HG := Lib.hid (given_nil w)
  have HB := Lib.hid ((Below.refl w.heap.size w).alloc (Nat.le_refl _) (.cells zeroH TH))
  go_enter Try.func14, Try.ntmps14
  go_wp2_with fail
  refine HG.out.mono ?_
  rintro e w' ⟨rfl, rfl⟩
  go_wp2_with fail
  go_ret
  exact ⟨rfl, HB.out⟩
theorem cap_nil (w : World) : Calls Try.prog 15 #[.pointer none] w (RetB (.int .i64 0) w) := by
  have HG := Lib.hid (given_nil w)
  have HB := Lib.hid ((Below.refl w.heap.size w).alloc (Nat.le_refl _) (.cells zeroH TH))
  go_enter Try.func15, Try.ntmps15
  go_wp2_with fail
  refine HG.out.mono ?_
  rintro e w' ⟨rfl, rfl⟩
  go_wp2_with fail
  go_ret
  exact ⟨rfl, HB.out⟩
theorem allocs_nil (w : World) : Calls Try.prog 16 #[.pointer none] w (RetB (.int .i64 0) w) := by
  have HG := Lib.hid (given_nil w)
  have HB := Lib.hid ((Below.refl w.heap.size w).alloc (Nat.le_refl _) (.cells zeroH TH))
  go_enter Try.func16, Try.ntmps16
  go_wp2_with fail
  refine HG.out.mono ?_
  rintro e w' ⟨rfl, rfl⟩
  go_wp2_with fail
  go_ret
  exact ⟨rfl, HB.out⟩
end Go.Proofs.Ytbkklnihgejeoaa.Hp
