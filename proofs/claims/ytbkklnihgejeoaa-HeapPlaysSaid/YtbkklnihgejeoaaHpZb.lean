/-
  CONTRACTS of layer heap: the law's same.
-/
import Derived.Test.YtbkklnihgejeoaaHpZa
import Derived.Test.YtbkklnihgejeoaaHpI
namespace Go.Proofs.Ytbkklnihgejeoaa.Hp
open Go.RowKit Mm Tm
set_option linter.unusedVariables false
set_option linter.unusedSimpArgs false
def GP (x : Nd) (b : Bool) (w : World) (e : Ending) (w' : World) : Prop := ∃ a c, e = .returned (.tuple #[.agg #[.int .i64 x.tag, .int .i64 x.n, .slice a x.l.length c], .bool b]) ∧ RdI (· < w'.heap.size) w' a x.l ∧ x.l.length ≤ 9223372036854775807 ∧ Below w.heap.size w w'
theorem both_get {B h cap allocs c : Nat} {X : Nat → Prop} {a : Option Addr} {l : List Rc} {S : Hs} (p : Int) (w : World) (hm : HpI B X w h S) (ho : OwnC B w (.slice a l.length c) l) (hB : B ≤ w.heap.size) (hn : l.length ≤ 1000000) (hs : Sim S l) :
    ∃ x b, (∀ w', Below w.heap.size w w' → Calls Try.prog 19 #[.pointer (some ⟨h, 0, none⟩), .int .i64 p] w' (GP x b w')) ∧ (∀ w', Below w.heap.size w w' → Calls Try.prog 29 #[hpV cap (.slice a l.length c) allocs, .int .i64 p] w' (GP x b w')) := by
  by_cases hh : S.held p = true
  · obtain ⟨k, rfl⟩ : ∃ k : Nat, p = k := ⟨p.toNat, by have := (Hs.held_iff.1 hh).1; omega⟩
    have hhas : hasAt l k = true := by rw [hs.at_]; exact hh
    obtain ⟨fi, r, e1, e2, e3⟩ := findV_has hhas
    have hnd : S.nd k = r.x := by have := hs.nd r (List.mem_of_getElem? e2); rw [e3] at this; exact this
    refine ⟨S.nd k, true, fun w' hb => (get_ok w' (hm.below hb) hh).mono ?_, fun w' hb => ?_⟩
    · rintro e w2 ⟨va, vc, rfl, ho2, hb2⟩
      exact ⟨va, vc, rfl, own_rd ho2, len_own ho2, hb2⟩
    · have := rget_ok (cap := cap) (allocs := allocs) (p := (k : Int)) w' (ho.below hB hb) (Nat.le_trans hB hb.size) hn e2 e1
      rw [← hnd] at this
      refine this.mono ?_
      rintro e w2 ⟨va, vc, rfl, hr2, hl2, hb2⟩
      exact ⟨va, vc, rfl, hr2.mono fun b q => Nat.lt_of_lt_of_le q (Nat.le_trans hB (Nat.le_trans hb.size hb2.size)), by omega, hb2⟩
  · have hh : S.held p = false := by simpa using hh
    have hno : hasAt l p = false := by rw [hs.at_]; exact hh
    refine ⟨⟨0, 0, []⟩, false, fun w' hb => (get_no w' (hm.below hb) hh).mono ?_, fun w' hb => (rget_no w' (ho.below hB hb) (Nat.le_trans hB hb.size) hn (findV_not hno)).mono ?_⟩
    · rintro e w2 ⟨rfl, hb2⟩
      exact ⟨none, 0, rfl, fun i y hy => by simp at hy, by simp, hb2⟩
    · rintro e w2 ⟨rfl, hb2⟩
      exact ⟨none, 0, rfl, fun i y hy => by simp at hy, by simp, hb2⟩
set_option maxRecDepth 100000 in
set_option maxHeartbeats 4000000 in
theorem lsame_any {B h cap allocs c : Nat} {X : Nat → Prop} {a : Option Addr} {l : List Rc} {S : Hs} (p : Int) (w : World) (hm : HpI B X w h S) (ho : OwnC B w (.slice a l.length c) l) (hB : B ≤ w.heap.size) (hn : l.length ≤ 1000000) (hs : Sim S l) :
    Calls Try.prog 17 #[.pointer (some ⟨h, 0, none⟩), hpV cap (.slice a l.length c) allocs, .int .i64 p] w (RetB (.bool true) w) := by
  obtain ⟨x, b, h1, h2⟩ := both_get (cap := cap) (allocs := allocs) p w hm ho hB hn hs
  obtain ⟨W0, hW0⟩ : ∃ W0, w.alloc (.cells #[.int .i64 cap, .slice a l.length c, .int .i64 allocs] RH) = W0 := ⟨_, rfl⟩
  have hb0 : Below w.heap.size w W0 := by rw [← hW0]; exact (Below.refl w.heap.size w).alloc (Nat.le_refl _) _
  have hx0 : Box W0 w.heap.size RH #[.int .i64 cap, .slice a l.length c, .int .i64 allocs] := by rw [← hW0]; exact Box.new _ _ _
  have H1 := Lib.hid (h1 W0 hb0)
  have H2 := Lib.hid h2
  have HB0 := Lib.hid hb0
  have HX0 := Lib.hid hx0
  have heqb : (b == b) = true := by cases b <;> rfl
  clear hm ho hB hn hs h1 h2 hb0 hx0
  go_enter Try.func17, Try.ntmps17
  go_wp2_with fail
  clear hW0
  with_reducible refine H1.out.mono ?_
  rintro e w1 ⟨va, vc, rfl, hr1, hl1, hb1⟩
  obtain ⟨W1, hW1⟩ : ∃ W1, w1.alloc (.cells #[.int .i64 x.tag, .int .i64 x.n, .slice va x.l.length vc] TN) = W1 := ⟨_, rfl⟩
  have hbW1 : Below w1.heap.size w1 W1 := by rw [← hW1]; exact (Below.refl w1.heap.size w1).alloc (Nat.le_refl _) _
  have hxW1 : Box W1 w1.heap.size TN #[.int .i64 x.tag, .int .i64 x.n, .slice va x.l.length vc] := by rw [← hW1]; exact Box.new _ _ _
  have hb01 : Below W0.heap.size W0 W1 := hb1.trans (hbW1.mono hb1.size)
  have HRD1 := Lib.hid (hr1.below hbW1 fun q h => h)
  have HX1 := Lib.hid hxW1
  have HLT1 := Lib.hid (show w1.heap.size < W1.heap.size from hxW1.lt)
  have HB1 := Lib.hid hbW1
  have HBW1 := Lib.hid (HB0.out.trans (hb01.mono HB0.out.size))
  have H2' := Lib.hid (H2.out W1 HBW1.out)
  obtain ⟨x0, x1, x2⟩ : W1.cell? ⟨w.heap.size, 0, none⟩ = some (.int .i64 cap) ∧ W1.cell? ⟨w.heap.size, 1, none⟩ = some (.slice a l.length c) ∧ W1.cell? ⟨w.heap.size, 2, none⟩ = some (.int .i64 allocs) := by
    have := HX0.out.below hb01 HX0.out.lt
    exact ⟨this.cell 0, this.cell 1, this.cell 2⟩
  clear hr1 hb1 hbW1 hxW1 hb01
  go_wp2_with fail
  clear hW1
  with_reducible refine H2'.out.mono ?_
  rintro e w2 ⟨ua, uc, rfl, hr2, hl2, hb2⟩
  obtain ⟨W2, hW2⟩ : ∃ W2, w2.alloc (.cells #[.int .i64 x.tag, .int .i64 x.n, .slice ua x.l.length uc] TN) = W2 := ⟨_, rfl⟩
  have hbW2 : Below w2.heap.size w2 W2 := by rw [← hW2]; exact (Below.refl w2.heap.size w2).alloc (Nat.le_refl _) _
  have hxW2 : Box W2 w2.heap.size TN #[.int .i64 x.tag, .int .i64 x.n, .slice ua x.l.length uc] := by rw [← hW2]; exact Box.new _ _ _
  have hb12 : Below W1.heap.size W1 W2 := hb2.trans (hbW2.mono hb2.size)
  have hx12 := HX1.out.below hb12 HX1.out.lt
  have y0 : W2.cell? ⟨w1.heap.size, 0, none⟩ = some (.int .i64 x.tag) := hx12.cell 0
  have y1 : W2.cell? ⟨w1.heap.size, 1, none⟩ = some (.int .i64 x.n) := hx12.cell 1
  have y2 : W2.cell? ⟨w1.heap.size, 2, none⟩ = some (.slice va x.l.length vc) := hx12.cell 2
  have z0 : W2.cell? ⟨w2.heap.size, 0, none⟩ = some (.int .i64 x.tag) := hxW2.cell 0
  have z1 : W2.cell? ⟨w2.heap.size, 1, none⟩ = some (.int .i64 x.n) := hxW2.cell 1
  have z2 : W2.cell? ⟨w2.heap.size, 2, none⟩ = some (.slice ua x.l.length uc) := hxW2.cell 2
  have hlw1 := HLT1.out
  have HSM := Lib.hid (same_node (c := vc) (d := uc) W2 (HRD1.out.below hb12 fun q h => Nat.lt_trans h hlw1) (hr2.below hbW2 fun q h => h) (fun q h => Nat.lt_of_lt_of_le h (Nat.le_trans HB1.out.size hb12.size)) (fun q h => Nat.lt_of_lt_of_le h hbW2.size) hl1)
  have HBW2 := Lib.hid (HBW1.out.trans (hb12.mono HBW1.out.size))
  clear hr2 hb2 hbW2 hxW2 hb12 hx12 x0 x1 x2 hlw1
  go_wp2_with fail
  with_reducible refine HSM.out.mono ?_
  rintro e w3 ⟨rfl, hb3⟩
  have HBE := Lib.hid (HBW2.out.trans (hb3.mono HBW2.out.size))
  clear hb3
  go_wp2_with fail
  go_ret
  exact ⟨rfl, HBE.out⟩
end Go.Proofs.Ytbkklnihgejeoaa.Hp
