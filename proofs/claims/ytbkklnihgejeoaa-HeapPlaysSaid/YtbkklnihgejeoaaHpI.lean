/-
  CONTRACTS of layer heap: Set.
-/
import Derived.Test.YtbkklnihgejeoaaHpH
namespace Go.Proofs.Ytbkklnihgejeoaa.Hp
open Go.RowKit Mm Tm
set_option linter.unusedVariables false
set_option linter.unusedSimpArgs false
def SetP (B : Nat) (X : Nat → Prop) (w : World) (h : Nat) (S : Hs) (k : Nat) (x : Nd) (e : Ending) (w' : World) : Prop := e = .returned (.int .i64 0) ∧ HpI B X w' h (S.set k x) ∧ KH B w w'
set_option maxRecDepth 100000 in
set_option maxHeartbeats 4000000 in
theorem set_ok {B : Nat} {X : Nat → Prop} {h : Nat} {S : Hs} {x : Nd} {k : Nat} {a : Option Addr} {c : Nat} (w : World) (hm : HpI B X w h S) (hx : NdA B w x a) (h1 : S.held k = true) (h2 : S.holds x.l = true) (hXw : ∀ b, X b → b < w.heap.size) :
    Calls Try.prog 24 #[.pointer (some ⟨h, 0, none⟩), .int .i64 k, .agg #[.int .i64 x.tag, .int .i64 x.n, .slice a x.l.length c]] w (SetP B X w h S k x) := by
  obtain ⟨v, n, pb, hm⟩ := hm
  obtain ⟨q0, q1, q2⟩ := Hs.held_iff.1 h1
  have hkk : k < n * 256 := by have := hm.room; omega
  obtain ⟨W0, hW0⟩ : ∃ W0, w.alloc (.cells #[.int .i64 x.tag, .int .i64 x.n, .slice a x.l.length c] TN) = W0 := ⟨_, rfl⟩
  have hB0 : Below w.heap.size w W0 := by rw [← hW0]; exact (Below.refl w.heap.size w).alloc (Nat.le_refl _) _
  have hX0 : Box W0 w.heap.size TN #[.int .i64 x.tag, .int .i64 x.n, .slice a x.l.length c] := by rw [← hW0]; exact Box.new w _ _
  obtain ⟨W2, hW2⟩ : ∃ W2, W0.alloc (.cells #[.int .i64 k] TI) = W2 := ⟨_, rfl⟩
  have hB2 : Below W0.heap.size W0 W2 := by rw [← hW2]; exact (Below.refl W0.heap.size W0).alloc (Nat.le_refl _) _
  have hm0 := hm.below hB0
  have hA0 := hx.below hB0
  have hm2 := hm0.below hB2
  have hA2 := hA0.below hB2
  have hX2 := hX0.below hB2 hX0.lt
  have HG := Lib.hid (given_any W0 hm0.box)
  have HH1 := Lib.hid (by have := holds_any (c := 1) W2 hm2 (by have := one_rd W0 (k : Int); rw [hW2] at this; exact this) (by simp); rw [holds_one, h1] at this; exact this)
  have HH2 := Lib.hid (by have := holds_any (c := c) W2 hm2 hA2.rd (by have := hA2.len; omega); rw [h2] at this; exact this)
  have HAT := Lib.hid (at_any W2.drew hm2.drew k hkk)
  have HB2 := Lib.hid (show B ≤ W2.drew.heap.size from Nat.le_trans hm2.base (Nat.le_of_lt hm2.box.lt))
  have HS2 := Lib.hid (show w.heap.size ≤ W2.drew.heap.size from Nat.le_trans hB0.size hB2.size)
  have HOW := Lib.hid (own_any (c := c) W2.drew (hA2.below (Below.drew (Below.refl _ W2))).rd (fun y hy => hy.1) hA2.len)
  have HM2 := Lib.hid hm2
  have HX2 := Lib.hid hX2
  have HA0 := Lib.hid hA2
  have HXW := Lib.hid hXw
  have HK2 := Lib.hid (KG.of_below (base := B) (hB0.trans (hB2.mono hB0.size)) (Nat.le_refl _) : KH B w W2)
  have HNE := Lib.hid (show w.heap.size ≠ pb (k / 256) from fun e => by
    obtain ⟨_, cs, hb, _⟩ := hm2.page hkk
    rw [← e] at hb
    exact absurd (Box.same hX2 hb) (by decide))
  have HKK := Lib.hid hkk
  have hsl := hX2.cell 2
  obtain ⟨u0, u1, u2⟩ : W2.cell? ⟨w.heap.size, 0, none⟩ = some (.int .i64 x.tag) ∧ W2.cell? ⟨w.heap.size, 1, none⟩ = some (.int .i64 x.n) ∧ W2.cell? ⟨w.heap.size, 2, none⟩ = some (.slice a x.l.length c) := ⟨hX2.cell 0, hX2.cell 1, hX2.cell 2⟩
  have e2 := hW2
  clear hm hx hB0 hX0 hm0 hA0 hB2 hm2 hA2 hX2 hXw h1 h2 q0 q1 q2 hkk hsl hW2
  go_enter Try.func24, Try.ntmps24
  go_wp2_with fail
  refine HG.out.mono ?_
  rintro e w' ⟨rfl, rfl⟩
  go_wp2_with fail
  refine HH1.out.mono ?_
  rintro e w' ⟨rfl, rfl⟩
  go_wp2_with fail
  refine HH2.out.mono ?_
  rintro e w' ⟨rfl, rfl⟩
  clear e2 hW0
  go_wp2_with fail
  go_region_held3 (fun w' => w'.cell? ⟨w.heap.size, 0, none⟩ = some (.int .i64 x.tag) ∧ w'.cell? ⟨w.heap.size, 1, none⟩ = some (.int .i64 x.n) ∧ w'.cell? ⟨w.heap.size, 2, none⟩ = some (.slice a x.l.length c))
    (first
      | exact ⟨u0, u1, u2⟩
      | exact ⟨m0, m1, m2⟩
      | exact ⟨n0, n1, n2⟩
      | (rw [hW8]; exact ⟨n0, n1, n2⟩)
      | go_keep)
    (first
      | (go_at_call 32; refine HAT.out.mono ?_; rintro e w' ⟨rfl, rfl⟩)
      | (go_at_call 31; refine HOW.out.mono ?_; rintro e w7 ⟨v7, rfl, ho7, hb7⟩; obtain ⟨va7, vc7, rfl⟩ := ho7.slice; have hX7 := HX2.out.drew.below hb7 HX2.out.lt; have m0 : w7.cell? ⟨w.heap.size, 0, none⟩ = some (.int .i64 x.tag) := hX7.cell 0; have m1 : w7.cell? ⟨w.heap.size, 1, none⟩ = some (.int .i64 x.n) := hX7.cell 1; have m2 : w7.cell? ⟨w.heap.size, 2, none⟩ = some (.slice a x.l.length c) := hX7.cell 2; have hm7 := HM2.out.drew.below hb7; obtain ⟨c0, c1, c2, z0, z1, z2, zf⟩ := hm7.there HKK.out; have z3 := (hm7.cells k HKK.out).mark; have f0 := zf (k % 256 * 4); have f1 := zf (k % 256 * 4 + 1); have f2 := zf (k % 256 * 4 + 2); have f3 := zf (k % 256 * 4 + 3); have HZ := Lib.hid zf; clear zf; have hr7 : RdI (ZL B X w7) w7 va7 x.l := (OwnI.readsT ho7).mono (fun b q => ⟨Nat.le_trans HB2.out q.1, q.2.1, fun e => by have := HXW.out b e; have := HS2.out; have := q.1; omega⟩); obtain ⟨hp8, hk8⟩ := hm7.node3 (lc := vc7) HKK.out hr7 ⟨HA0.out.len, OwnI.nilcap ho7⟩; obtain ⟨W8, hW8⟩ : ∃ W8, (((w7.setCell ⟨pb (k / 256), k % 256 * 4, none⟩ (.int .i64 x.tag)).setCell ⟨pb (k / 256), k % 256 * 4 + 1, none⟩ (.int .i64 x.n)).setCell ⟨pb (k / 256), k % 256 * 4 + 2, none⟩ (.slice va7 x.l.length vc7)) = W8 := ⟨_, rfl⟩; replace hp8 : HpM B X W8 h _ v n pb := by { rw [← hW8]; exact hp8 }; replace hk8 : Kept (fun b => b = pb (k / 256)) w7 W8 := by { rw [← hW8]; exact hk8 }; have hX8 : Box W8 w.heap.size TN #[.int .i64 x.tag, .int .i64 x.n, .slice a x.l.length c] := hk8.box hX7 HNE.out; have n0 : W8.cell? ⟨w.heap.size, 0, none⟩ = some (.int .i64 x.tag) := hX8.cell 0; have n1 : W8.cell? ⟨w.heap.size, 1, none⟩ = some (.int .i64 x.n) := hX8.cell 1; have n2 : W8.cell? ⟨w.heap.size, 2, none⟩ = some (.slice a x.l.length c) := hX8.cell 2; have HP8 := Lib.hid hp8; have HK8 := Lib.hid ((HK2.out.drew.trans (KG.of_below (hb7) (Nat.le_refl _))).trans (kh_page hm7 HKK.out hk8)); clear hX7 hX8 hm7 hr7 hp8 hk8 ho7 hb7))
  have hp8 := HP8.out
  have HW := Lib.hid hW8
  clear hp8 n0 n1 n2 m0 m1 m2 u0 u1 u2 z0 z1 z2 z3 f0 f1 f2 f3
  try rw [hW8]
  clear hW8
  go_wp2_with fail
  go_ret
  exact ⟨rfl, ⟨_, _, _, HP8.out⟩, HK8.out⟩
end Go.Proofs.Ytbkklnihgejeoaa.Hp
