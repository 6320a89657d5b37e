/-
  CONTRACTS of layer heap: the law's step.
-/
import Derived.Test.YtbkklnihgejeoaaHpZc
import Derived.Deep.RegionHeld3
namespace Go.Proofs.Ytbkklnihgejeoaa.Hp
open Go.RowKit Mm Tm Ha
set_option linter.unusedVariables false
set_option linter.unusedSimpArgs false
abbrev TO : TypeId := 39
def StP (B h c n : Nat) (w : World) (e : Ending) (w' : World) : Prop := ∃ S' l' v', e = .returned (.tuple #[hpV c v' S'.allocs, .bool true]) ∧ Tw B h c (n + 1) w' S' l' v' ∧ KH B w w'
/-- the boxes that the law's step makes -/
structure SBx (c : Nat) (hv : Value) (al : Nat) (kd oa tag nn : Int) (lv : Value) (w W0 : World) : Prop where
  eq : ((w.alloc (.cells #[.int .i64 c, hv, .int .i64 al] RH)).alloc (.cells #[.int .i64 kd, .int .i64 oa, .int .i64 tag, .int .i64 nn, lv] TO)).alloc (.cells #[.int .i64 0, .slice none 0 0, .int .i64 0] RH) = W0
  below : Below w.heap.size w W0
  b0 : Box W0 w.heap.size RH #[.int .i64 c, hv, .int .i64 al]
  b1 : Box W0 (w.heap.size + 1) TO #[.int .i64 kd, .int .i64 oa, .int .i64 tag, .int .i64 nn, lv]
  b2 : Box W0 (w.heap.size + 2) RH #[.int .i64 0, .slice none 0 0, .int .i64 0]
  size : W0.heap.size = w.heap.size + 3
theorem SBx.mk' (c : Nat) (hv : Value) (al : Nat) (kd oa tag nn : Int) (lv : Value) (w : World) : ∃ W0, SBx c hv al kd oa tag nn lv w W0 :=
  ⟨_, rfl, (((Below.refl w.heap.size w).alloc (Nat.le_refl _) _).alloc (by simp) _).alloc (by simp; omega) _, ((Box.new _ _ _).alloc _).alloc _, (Box.at_ _ _ (by simp)).alloc _, Box.at_ _ _ (by simp), by simp⟩
theorem not_TP_TO : ¬ TP TO := by unfold TP; decide
theorem box_kh {B : Nat} {w w' : World} {g : Nat} {t : TypeId} {cs : Array Value} (h : Box w g t cs) (hk : KH B w w') (ht : ¬ TP t) : Box w' g t cs := KG.box hk h (fun q => q) ht
theorem HpI.far {B h g : Nat} {X : Nat → Prop} {w w' : World} {S : Hs} {t : TypeId} {cs : Array Value} (hm : HpI B X w h S) (hb : Box w g t cs) (h1 : t ≠ TC) (h2 : t ≠ TR) (h3 : t ≠ TI) (h4 : t ≠ TH) (hk : Kept (fun b => b = g) w w') : HpI B X w' h S := by
  obtain ⟨v, n, pb, hm⟩ := hm
  exact ⟨v, n, pb, hm.keep hk (fun b e => by
    subst e
    exact ⟨fun q => h1 (tyB_ne q hb).symm, fun q => h2 (tyB_ne q hb).symm, fun q => h3 (tyB_ne q hb).symm⟩) (hk.box hm.box (fun e => by
    subst e
    exact h4 (Box.same hb hm.box))) hm.room rfl rfl⟩
theorem Tw.fin {B h c n al : Nat} {w w3 : World} {S : Hs} {l : List Rc} {a : Option Addr} {k cc : Nat} {cs : Array Value} (t : Tw B h c n w3 S l (.slice a k cc)) (hB : B ≤ w.heap.size) (hk : KH B w w3) (hz : Box w3 (w.heap.size + 1 + 1) RH cs) (hcs : ∃ u0 u1 u2, cs = #[u0, u1, u2]) :
    ∃ W3, ((w3.setCell ⟨w.heap.size + 1 + 1, 0, none⟩ (.int .i64 c)).setCell ⟨w.heap.size + 1 + 1, 1, none⟩ (.slice a k cc)).setCell ⟨w.heap.size + 1 + 1, 2, none⟩ (.int .i64 al) = W3 ∧ Box W3 (w.heap.size + 1 + 1) RH #[.int .i64 c, .slice a k cc, .int .i64 al] ∧ Tw B h c n W3 S l (.slice a k cc) ∧ KH B w W3 := by
  obtain ⟨u0, u1, u2, rfl⟩ := hcs
  have hx := ((hz.put 0 (.int .i64 c)).put 1 (.slice a k cc)).put 2 (.int .i64 al)
  have hkk : Kept (fun b => b = w.heap.size + 1 + 1) w3 (((w3.setCell ⟨w.heap.size + 1 + 1, 0, none⟩ (.int .i64 c)).setCell ⟨w.heap.size + 1 + 1, 1, none⟩ (.slice a k cc)).setCell ⟨w.heap.size + 1 + 1, 2, none⟩ (.int .i64 al)) := kept_set (kept_set (kept_set (Kept.refl _ w3) 0 _) 1 _) 2 _
  obtain ⟨vs, ho, hrow⟩ := t.own
  refine ⟨_, rfl, hx, ⟨t.hp.far hz (by decide) (by decide) (by decide) (by decide) hkk, t.pl, ⟨vs, own_far (own_far (own_far ho hz (by decide) 0 _) (hz.put 0 _) (by decide) 1 _) ((hz.put 0 _).put 1 _) (by decide) 2 _, hrow.keep fun ad hl => World.cell?_of_block (hkk.block ad.block (Nat.lt_of_lt_of_le hl t.le) (by intro e; omega))⟩, t.sim, Nat.le_trans t.le hkk.size⟩, ?_⟩
  exact ((hk.setCell (a := ⟨w.heap.size + 1 + 1, 0, none⟩) (by show B ≤ w.heap.size + 1 + 1; omega) (fun q => by exact absurd q (by show ¬ w.heap.size + 1 + 1 < w.heap.size; omega)) _).setCell (a := ⟨w.heap.size + 1 + 1, 1, none⟩) (by show B ≤ w.heap.size + 1 + 1; omega) (fun q => by exact absurd q (by show ¬ w.heap.size + 1 + 1 < w.heap.size; omega)) _).setCell (a := ⟨w.heap.size + 1 + 1, 2, none⟩) (by show B ≤ w.heap.size + 1 + 1; omega) (fun q => by exact absurd q (by show ¬ w.heap.size + 1 + 1 < w.heap.size; omega)) _
set_option maxRecDepth 100000 in
set_option maxHeartbeats 16000000 in
theorem step1 {B h c n cc : Nat} {S : Hs} {l : List Rc} {a : Option Addr} {oa : Int} {x : Nd} {na : Option Addr} {nc : Nat} (w : World) (t : Tw B h c n w S l (.slice a l.length cc)) (hn : n + 1 ≤ 400) (hr : RdI (· < B) w na x.l) (hl : x.l.length ≤ 20) :
    Calls Try.prog 13 #[.pointer (some ⟨h, 0, none⟩), hpV c (.slice a l.length cc) S.allocs, .agg #[.int .i64 1, .int .i64 oa, .int .i64 x.tag, .int .i64 x.n, .slice na x.l.length nc]] w (StP B h c n w) := by
  obtain ⟨W0, hR⟩ := SBx.mk' c (.slice a l.length cc) S.allocs 1 oa x.tag x.n (.slice na x.l.length nc) w
  have HR := Lib.hid hR
  have HBW := Lib.hid t.le
  have ht0 := t.below hR.below
  have hr0 := hr.below hR.below fun b q => Nat.lt_of_lt_of_le q t.le
  have HT := Lib.hid ht0
  have HRD := Lib.hid hr0
  have hW0 := hR.eq
  have HK0 := Lib.hid (KG.of_below hR.below (Nat.le_refl _) : KH B w W0)
  obtain ⟨x0, x1, x2⟩ : W0.cell? ⟨w.heap.size, 0, none⟩ = some (.int .i64 c) ∧ W0.cell? ⟨w.heap.size, 1, none⟩ = some (.slice a l.length cc) ∧ W0.cell? ⟨w.heap.size, 2, none⟩ = some (.int .i64 S.allocs) := ⟨hR.b0.cell 0, hR.b0.cell 1, hR.b0.cell 2⟩
  obtain ⟨y0, y1, y2, y3, y4⟩ : W0.cell? ⟨w.heap.size + 1, 0, none⟩ = some (.int .i64 1) ∧ W0.cell? ⟨w.heap.size + 1, 1, none⟩ = some (.int .i64 oa) ∧ W0.cell? ⟨w.heap.size + 1, 2, none⟩ = some (.int .i64 x.tag) ∧ W0.cell? ⟨w.heap.size + 1, 3, none⟩ = some (.int .i64 x.n) ∧ W0.cell? ⟨w.heap.size + 1, 4, none⟩ = some (.slice na x.l.length nc) := ⟨hR.b1.cell 0, hR.b1.cell 1, hR.b1.cell 2, hR.b1.cell 3, hR.b1.cell 4⟩
  have HAL := Lib.hid (alloc_two (nc := nc) W0 ht0 (by omega) hr0 hl)
  clear t hr hR ht0 hr0
  go_enter Try.func13, Try.ntmps13
  go_wp2_with fail
  with_reducible refine HAL.out.mono ?_
  rintro e w1 ⟨k, eno, S', l', rfl, hp1, hpl1, hs1, hkh1, hcall⟩
  clear hW0 x0 x1 x2 y0 y1 y2 y3 y4
  have hb0 := box_kh HR.out.b0 hkh1 not_TP_RH
  have hb1 := box_kh HR.out.b1 hkh1 not_TP_TO
  have hb2 := box_kh HR.out.b2 hkh1 not_TP_RH
  obtain ⟨x0, x1, x2⟩ : w1.cell? ⟨w.heap.size, 0, none⟩ = some (.int .i64 c) ∧ w1.cell? ⟨w.heap.size, 1, none⟩ = some (.slice a l.length cc) ∧ w1.cell? ⟨w.heap.size, 2, none⟩ = some (.int .i64 S.allocs) := ⟨hb0.cell 0, hb0.cell 1, hb0.cell 2⟩
  obtain ⟨y1, y2, y3, y4⟩ : w1.cell? ⟨w.heap.size + 1, 1, none⟩ = some (.int .i64 oa) ∧ w1.cell? ⟨w.heap.size + 1, 2, none⟩ = some (.int .i64 x.tag) ∧ w1.cell? ⟨w.heap.size + 1, 3, none⟩ = some (.int .i64 x.n) ∧ w1.cell? ⟨w.heap.size + 1, 4, none⟩ = some (.slice na x.l.length nc) := ⟨hb1.cell 1, hb1.cell 2, hb1.cell 3, hb1.cell 4⟩
  have HC := Lib.hid (hcall w1 (Below.refl _ _))
  have HP1 := Lib.hid hp1
  have HPL1 := Lib.hid hpl1
  have HS1 := Lib.hid hs1
  have HK1 := Lib.hid (HK0.out.trans hkh1)
  have HB1 := Lib.hid hb1
  have HB2 := Lib.hid hb2
  have HLE := Lib.hid (Nat.le_trans HT.out.le (KG.size hkh1) : B ≤ w1.heap.size)
  clear hp1 hpl1 hs1 hkh1 hcall hb0 hb1 hb2
  go_wp2_with fail
  with_reducible refine HC.out.mono ?_
  rintro e w2 ⟨v', rfl, ho2, hbw2⟩
  obtain ⟨a', cc', rfl⟩ := ho2.slice
  obtain ⟨W2, hW2⟩ : ∃ W2, w2.alloc (.cells #[.int .i64 c, .slice a' l'.length cc', .int .i64 S'.allocs] RH) = W2 := ⟨_, rfl⟩
  have hbW2 : Below w2.heap.size w2 W2 := by rw [← hW2]; exact (Below.refl w2.heap.size w2).alloc (Nat.le_refl _) _
  have hxW2 : Box W2 w2.heap.size RH #[.int .i64 c, .slice a' l'.length cc', .int .i64 S'.allocs] := by rw [← hW2]; exact Box.new _ _ _
  have hb12 : Below w1.heap.size w1 W2 := hbw2.trans (hbW2.mono hbw2.size)
  have hle2 : B ≤ w2.heap.size := Nat.le_trans HLE.out hbw2.size
  have ht2 : Tw B h c (n + 1) W2 S' l' (.slice a' l'.length cc') := ⟨HP1.out.below hb12, HPL1.out, ho2.below hle2 hbW2, HS1.out, Nat.le_trans hle2 hbW2.size⟩
  have HT2 := Lib.hid ht2
  have HK2 := Lib.hid (HK1.out.trans (KG.of_below hb12 (Nat.le_refl _)))
  have HX2 := Lib.hid hxW2
  have HZ2 := Lib.hid (HB2.out.below hb12 HB2.out.lt)
  have HY2 := Lib.hid (HB1.out.below hb12 HB1.out.lt)
  obtain ⟨m0, m1, m2⟩ : W2.cell? ⟨w2.heap.size, 0, none⟩ = some (.int .i64 c) ∧ W2.cell? ⟨w2.heap.size, 1, none⟩ = some (.slice a' l'.length cc') ∧ W2.cell? ⟨w2.heap.size, 2, none⟩ = some (.int .i64 S'.allocs) := ⟨hxW2.cell 0, hxW2.cell 1, hxW2.cell 2⟩
  have hlt2 : w2.heap.size < W2.heap.size := hxW2.lt
  have hne : w2.heap.size ≠ w.heap.size + 2 := by have := HB2.out.lt; have := hbw2.size; omega
  have hney : w.heap.size + 1 ≠ w.heap.size + 2 := by omega
  have HSM := Lib.hid (by
    have ht3 := ht2.below (Below.refl W2.heap.size W2).drew
    exact lsame_any (cap := c) (allocs := S'.allocs) k W2.drew ht3.hp ht3.own ht3.le (by have := ht3.llen (by omega); omega) ht3.sim)
  clear ho2 hbw2 hbW2 hxW2 hb12 ht2 hle2 x0 x1 x2 y1 y2 y3 y4
  go_wp2_with fail
  clear hW2
  go_region_held3 (fun w' => w'.cell? ⟨w2.heap.size, 0, none⟩ = some (.int .i64 c) ∧ w'.cell? ⟨w2.heap.size, 1, none⟩ = some (.slice a' l'.length cc') ∧ w'.cell? ⟨w2.heap.size, 2, none⟩ = some (.int .i64 S'.allocs))
    (first
      | exact ⟨m0, m1, m2⟩
      | exact ⟨n0, n1, n2⟩
      | exact ⟨q0, q1, q2⟩
      | go_keep)
    (first
      | (go_at_call 17; refine HSM.out.mono ?_; rintro e w3 ⟨rfl, hb3⟩; replace hb3 : Below W2.heap.size W2 w3 := (Below.refl W2.heap.size W2).drew.trans hb3; have hx3 := HX2.out.below hb3 HX2.out.lt; have hz3 := HZ2.out.below hb3 HZ2.out.lt; have n0 : w3.cell? ⟨w2.heap.size, 0, none⟩ = some (.int .i64 c) := hx3.cell 0; have n1 : w3.cell? ⟨w2.heap.size, 1, none⟩ = some (.slice a' l'.length cc') := hx3.cell 1; have n2 : w3.cell? ⟨w2.heap.size, 2, none⟩ = some (.int .i64 S'.allocs) := hx3.cell 2; have z0 := hz3.cell 0; have z1 := hz3.cell 1; have z2 := hz3.cell 2; have g0 := hz3.free 0; have g1 := hz3.free 1; have g2 := hz3.free 2; have hq : ∀ p : Addr, p.block ≠ w.heap.size + 2 → (((w3.setCell ⟨w.heap.size + 2, 0, none⟩ (.int .i64 c)).setCell ⟨w.heap.size + 2, 1, none⟩ (.slice a' l'.length cc')).setCell ⟨w.heap.size + 2, 2, none⟩ (.int .i64 S'.allocs)).cell? p = w3.cell? p := fun p h => ((((Wrote.refl w3 _).set 0 _).set 1 _).set 2 _).cell p h; have q0 := (hq ⟨w2.heap.size, 0, none⟩ hne).trans n0; have q1 := (hq ⟨w2.heap.size, 1, none⟩ hne).trans n1; have q2 := (hq ⟨w2.heap.size, 2, none⟩ hne).trans n2; clear hq; have HB3 := Lib.hid hb3; have HZ3 := Lib.hid hz3; clear hb3 hx3 hz3))
  go_wp2_with fail
  obtain ⟨W9, hW9, hX9, hT9, hK9⟩ := Tw.fin (al := (S').allocs) (HT2.out.below HB3.out) HBW.out (HK2.out.trans (KG.of_below HB3.out (Nat.le_refl _))) HZ3.out ⟨_, _, _, rfl⟩
  have hT9 := Lib.hid hT9
  have hK9 := Lib.hid hK9
  rw [hW9]
  have v0 := hX9.cell 0
  have v1 := hX9.cell 1
  have v2 := hX9.cell 2
  refine bodyPost_ret (v := .tuple #[.agg #[.int .i64 c, .slice a' l'.length cc', .int .i64 (S').allocs], .bool true]) (by simp [results, Try.results13, go_sem, v0, v1, v2]) rfl ?_
  exact ⟨_, l', _, rfl, hT9.out, hK9.out⟩
set_option maxRecDepth 100000 in
set_option maxHeartbeats 16000000 in
theorem step2 {B h c n cc : Nat} {S : Hs} {l : List Rc} {a : Option Addr} {oa : Int} {x : Nd} {na : Option Addr} {nc : Nat} (w : World) (t : Tw B h c n w S l (.slice a l.length cc)) (hn : n + 1 ≤ 400) (hr : RdI (· < B) w na x.l) (hl : x.l.length ≤ 20) :
    Calls Try.prog 13 #[.pointer (some ⟨h, 0, none⟩), hpV c (.slice a l.length cc) S.allocs, .agg #[.int .i64 2, .int .i64 oa, .int .i64 x.tag, .int .i64 x.n, .slice na x.l.length nc]] w (StP B h c n w) := by
  obtain ⟨W0, hR⟩ := SBx.mk' c (.slice a l.length cc) S.allocs 2 oa x.tag x.n (.slice na x.l.length nc) w
  have HR := Lib.hid hR
  have HBW := Lib.hid t.le
  have ht0 := t.below hR.below
  have hr0 := hr.below hR.below fun b q => Nat.lt_of_lt_of_le q t.le
  have HT := Lib.hid ht0
  have HRD := Lib.hid hr0
  have hW0 := hR.eq
  have HK0 := Lib.hid (KG.of_below hR.below (Nat.le_refl _) : KH B w W0)
  obtain ⟨x0, x1, x2⟩ : W0.cell? ⟨w.heap.size, 0, none⟩ = some (.int .i64 c) ∧ W0.cell? ⟨w.heap.size, 1, none⟩ = some (.slice a l.length cc) ∧ W0.cell? ⟨w.heap.size, 2, none⟩ = some (.int .i64 S.allocs) := ⟨hR.b0.cell 0, hR.b0.cell 1, hR.b0.cell 2⟩
  obtain ⟨y0, y1, y2, y3, y4⟩ : W0.cell? ⟨w.heap.size + 1, 0, none⟩ = some (.int .i64 2) ∧ W0.cell? ⟨w.heap.size + 1, 1, none⟩ = some (.int .i64 oa) ∧ W0.cell? ⟨w.heap.size + 1, 2, none⟩ = some (.int .i64 x.tag) ∧ W0.cell? ⟨w.heap.size + 1, 3, none⟩ = some (.int .i64 x.n) ∧ W0.cell? ⟨w.heap.size + 1, 4, none⟩ = some (.slice na x.l.length nc) := ⟨hR.b1.cell 0, hR.b1.cell 1, hR.b1.cell 2, hR.b1.cell 3, hR.b1.cell 4⟩
  have HAL := Lib.hid (set_two (nc := nc) (p := oa) W0 ht0 (by omega) hr0 hl)
  clear t hr hR ht0 hr0
  go_enter Try.func13, Try.ntmps13
  go_wp2_with fail
  with_reducible refine HAL.out.mono ?_
  rintro e w1 ⟨eno, S', l', rfl, hp1, hpl1, hs1, hkh1, hcall⟩
  clear hW0 x0 x1 x2 y0 y1 y2 y3 y4
  have hb0 := box_kh HR.out.b0 hkh1 not_TP_RH
  have hb1 := box_kh HR.out.b1 hkh1 not_TP_TO
  have hb2 := box_kh HR.out.b2 hkh1 not_TP_RH
  obtain ⟨x0, x1, x2⟩ : w1.cell? ⟨w.heap.size, 0, none⟩ = some (.int .i64 c) ∧ w1.cell? ⟨w.heap.size, 1, none⟩ = some (.slice a l.length cc) ∧ w1.cell? ⟨w.heap.size, 2, none⟩ = some (.int .i64 S.allocs) := ⟨hb0.cell 0, hb0.cell 1, hb0.cell 2⟩
  obtain ⟨y1, y2, y3, y4⟩ : w1.cell? ⟨w.heap.size + 1, 1, none⟩ = some (.int .i64 oa) ∧ w1.cell? ⟨w.heap.size + 1, 2, none⟩ = some (.int .i64 x.tag) ∧ w1.cell? ⟨w.heap.size + 1, 3, none⟩ = some (.int .i64 x.n) ∧ w1.cell? ⟨w.heap.size + 1, 4, none⟩ = some (.slice na x.l.length nc) := ⟨hb1.cell 1, hb1.cell 2, hb1.cell 3, hb1.cell 4⟩
  have HC := Lib.hid (hcall w1 (Below.refl _ _))
  have HP1 := Lib.hid hp1
  have HPL1 := Lib.hid hpl1
  have HS1 := Lib.hid hs1
  have HK1 := Lib.hid (HK0.out.trans hkh1)
  have HB1 := Lib.hid hb1
  have HB2 := Lib.hid hb2
  have HLE := Lib.hid (Nat.le_trans HT.out.le (KG.size hkh1) : B ≤ w1.heap.size)
  clear hp1 hpl1 hs1 hkh1 hcall hb0 hb1 hb2
  go_wp2_with fail
  with_reducible refine HC.out.mono ?_
  rintro e w2 ⟨v', rfl, ho2, hbw2⟩
  obtain ⟨a', cc', rfl⟩ := ho2.slice
  obtain ⟨W2, hW2⟩ : ∃ W2, w2.alloc (.cells #[.int .i64 c, .slice a' l'.length cc', .int .i64 S'.allocs] RH) = W2 := ⟨_, rfl⟩
  have hbW2 : Below w2.heap.size w2 W2 := by rw [← hW2]; exact (Below.refl w2.heap.size w2).alloc (Nat.le_refl _) _
  have hxW2 : Box W2 w2.heap.size RH #[.int .i64 c, .slice a' l'.length cc', .int .i64 S'.allocs] := by rw [← hW2]; exact Box.new _ _ _
  have hb12 : Below w1.heap.size w1 W2 := hbw2.trans (hbW2.mono hbw2.size)
  have hle2 : B ≤ w2.heap.size := Nat.le_trans HLE.out hbw2.size
  have ht2 : Tw B h c (n + 1) W2 S' l' (.slice a' l'.length cc') := ⟨HP1.out.below hb12, HPL1.out, ho2.below hle2 hbW2, HS1.out, Nat.le_trans hle2 hbW2.size⟩
  have HT2 := Lib.hid ht2
  have HK2 := Lib.hid (HK1.out.trans (KG.of_below hb12 (Nat.le_refl _)))
  have HX2 := Lib.hid hxW2
  have HZ2 := Lib.hid (HB2.out.below hb12 HB2.out.lt)
  have HY2 := Lib.hid (HB1.out.below hb12 HB1.out.lt)
  obtain ⟨m0, m1, m2⟩ : W2.cell? ⟨w2.heap.size, 0, none⟩ = some (.int .i64 c) ∧ W2.cell? ⟨w2.heap.size, 1, none⟩ = some (.slice a' l'.length cc') ∧ W2.cell? ⟨w2.heap.size, 2, none⟩ = some (.int .i64 S'.allocs) := ⟨hxW2.cell 0, hxW2.cell 1, hxW2.cell 2⟩
  have hlt2 : w2.heap.size < W2.heap.size := hxW2.lt
  have hne : w2.heap.size ≠ w.heap.size + 2 := by have := HB2.out.lt; have := hbw2.size; omega
  have hney : w.heap.size + 1 ≠ w.heap.size + 2 := by omega
  have HSM := Lib.hid (by
    have ht3 := ht2.below (Below.refl W2.heap.size W2).drew
    exact lsame_any (cap := c) (allocs := S'.allocs) oa W2.drew ht3.hp ht3.own ht3.le (by have := ht3.llen (by omega); omega) ht3.sim)
  have m3 : W2.cell? ⟨w.heap.size + 1, 1, none⟩ = some (.int .i64 oa) := HY2.out.cell 1
  clear ho2 hbw2 hbW2 hxW2 hb12 ht2 hle2 x0 x1 x2 y1 y2 y3 y4
  go_wp2_with fail
  clear hW2
  go_region_held3 (fun w' => (w'.cell? ⟨w2.heap.size, 0, none⟩ = some (.int .i64 c) ∧ w'.cell? ⟨w2.heap.size, 1, none⟩ = some (.slice a' l'.length cc') ∧ w'.cell? ⟨w2.heap.size, 2, none⟩ = some (.int .i64 S'.allocs)) ∧ w'.cell? ⟨w.heap.size + 1, 1, none⟩ = some (.int .i64 oa))
    (first
      | exact ⟨⟨m0, m1, m2⟩, m3⟩
      | exact ⟨⟨n0, n1, n2⟩, n3⟩
      | exact ⟨⟨q0, q1, q2⟩, q3⟩
      | go_keep)
    (first
      | (go_at_call 17; refine HSM.out.mono ?_; rintro e w3 ⟨rfl, hb3⟩; replace hb3 : Below W2.heap.size W2 w3 := (Below.refl W2.heap.size W2).drew.trans hb3; have hx3 := HX2.out.below hb3 HX2.out.lt; have hz3 := HZ2.out.below hb3 HZ2.out.lt; have hy3 := HY2.out.below hb3 HY2.out.lt; have n3 : w3.cell? ⟨w.heap.size + 1, 1, none⟩ = some (.int .i64 oa) := hy3.cell 1; have n0 : w3.cell? ⟨w2.heap.size, 0, none⟩ = some (.int .i64 c) := hx3.cell 0; have n1 : w3.cell? ⟨w2.heap.size, 1, none⟩ = some (.slice a' l'.length cc') := hx3.cell 1; have n2 : w3.cell? ⟨w2.heap.size, 2, none⟩ = some (.int .i64 S'.allocs) := hx3.cell 2; have z0 := hz3.cell 0; have z1 := hz3.cell 1; have z2 := hz3.cell 2; have g0 := hz3.free 0; have g1 := hz3.free 1; have g2 := hz3.free 2; have hq : ∀ p : Addr, p.block ≠ w.heap.size + 2 → (((w3.setCell ⟨w.heap.size + 2, 0, none⟩ (.int .i64 c)).setCell ⟨w.heap.size + 2, 1, none⟩ (.slice a' l'.length cc')).setCell ⟨w.heap.size + 2, 2, none⟩ (.int .i64 S'.allocs)).cell? p = w3.cell? p := fun p h => ((((Wrote.refl w3 _).set 0 _).set 1 _).set 2 _).cell p h; have q0 := (hq ⟨w2.heap.size, 0, none⟩ hne).trans n0; have q1 := (hq ⟨w2.heap.size, 1, none⟩ hne).trans n1; have q2 := (hq ⟨w2.heap.size, 2, none⟩ hne).trans n2; have q3 := (hq ⟨w.heap.size + 1, 1, none⟩ hney).trans n3; clear hq; have HB3 := Lib.hid hb3; have HZ3 := Lib.hid hz3; clear hb3 hx3 hz3))
  go_wp2_with fail
  obtain ⟨W9, hW9, hX9, hT9, hK9⟩ := Tw.fin (al := (S').allocs) (HT2.out.below HB3.out) HBW.out (HK2.out.trans (KG.of_below HB3.out (Nat.le_refl _))) HZ3.out ⟨_, _, _, rfl⟩
  have hT9 := Lib.hid hT9
  have hK9 := Lib.hid hK9
  rw [hW9]
  have v0 := hX9.cell 0
  have v1 := hX9.cell 1
  have v2 := hX9.cell 2
  refine bodyPost_ret (v := .tuple #[.agg #[.int .i64 c, .slice a' l'.length cc', .int .i64 (S').allocs], .bool true]) (by simp [results, Try.results13, go_sem, v0, v1, v2]) rfl ?_
  exact ⟨_, l', _, rfl, hT9.out, hK9.out⟩
set_option maxRecDepth 100000 in
set_option maxHeartbeats 16000000 in
theorem step3 {B h c n cc : Nat} {S : Hs} {l : List Rc} {a : Option Addr} {oa : Int} {x : Nd} {na : Option Addr} {nc : Nat} (w : World) (t : Tw B h c n w S l (.slice a l.length cc)) (hn : n + 1 ≤ 400) (hr : RdI (· < B) w na x.l) (hl : x.l.length ≤ 20) :
    Calls Try.prog 13 #[.pointer (some ⟨h, 0, none⟩), hpV c (.slice a l.length cc) S.allocs, .agg #[.int .i64 3, .int .i64 oa, .int .i64 x.tag, .int .i64 x.n, .slice na x.l.length nc]] w (StP B h c n w) := by
  obtain ⟨W0, hR⟩ := SBx.mk' c (.slice a l.length cc) S.allocs 3 oa x.tag x.n (.slice na x.l.length nc) w
  have HR := Lib.hid hR
  have HBW := Lib.hid t.le
  have ht0 := t.below hR.below
  have hr0 := hr.below hR.below fun b q => Nat.lt_of_lt_of_le q t.le
  have HT := Lib.hid ht0
  have HRD := Lib.hid hr0
  have hW0 := hR.eq
  have HK0 := Lib.hid (KG.of_below hR.below (Nat.le_refl _) : KH B w W0)
  obtain ⟨x0, x1, x2⟩ : W0.cell? ⟨w.heap.size, 0, none⟩ = some (.int .i64 c) ∧ W0.cell? ⟨w.heap.size, 1, none⟩ = some (.slice a l.length cc) ∧ W0.cell? ⟨w.heap.size, 2, none⟩ = some (.int .i64 S.allocs) := ⟨hR.b0.cell 0, hR.b0.cell 1, hR.b0.cell 2⟩
  obtain ⟨y0, y1, y2, y3, y4⟩ : W0.cell? ⟨w.heap.size + 1, 0, none⟩ = some (.int .i64 3) ∧ W0.cell? ⟨w.heap.size + 1, 1, none⟩ = some (.int .i64 oa) ∧ W0.cell? ⟨w.heap.size + 1, 2, none⟩ = some (.int .i64 x.tag) ∧ W0.cell? ⟨w.heap.size + 1, 3, none⟩ = some (.int .i64 x.n) ∧ W0.cell? ⟨w.heap.size + 1, 4, none⟩ = some (.slice na x.l.length nc) := ⟨hR.b1.cell 0, hR.b1.cell 1, hR.b1.cell 2, hR.b1.cell 3, hR.b1.cell 4⟩
  have HSM := Lib.hid (by
    have ht3 := ht0.below (Below.refl W0.heap.size W0).drew
    exact lsame_any (cap := c) (allocs := S.allocs) oa W0.drew ht3.hp ht3.own ht3.le (by have := ht3.llen (by omega); omega) ht3.sim)
  have HX0 := Lib.hid hR.b0
  have HY0 := Lib.hid hR.b1
  have HZ0 := Lib.hid hR.b2
  have hne : w.heap.size ≠ w.heap.size + 2 := by omega
  have hney : w.heap.size + 1 ≠ w.heap.size + 2 := by omega
  clear t hr hR ht0 hr0
  go_enter Try.func13, Try.ntmps13
  go_wp2_with fail
  clear hW0
  have m3 := y1
  go_region_held3 (fun w' => (w'.cell? ⟨w.heap.size, 0, none⟩ = some (.int .i64 c) ∧ w'.cell? ⟨w.heap.size, 1, none⟩ = some (.slice a l.length cc) ∧ w'.cell? ⟨w.heap.size, 2, none⟩ = some (.int .i64 S.allocs)) ∧ w'.cell? ⟨w.heap.size + 1, 1, none⟩ = some (.int .i64 oa))
    (first
      | exact ⟨⟨x0, x1, x2⟩, m3⟩
      | exact ⟨⟨n0, n1, n2⟩, n3⟩
      | exact ⟨⟨q0, q1, q2⟩, q3⟩
      | go_keep)
    (first
      | (go_at_call 17; refine HSM.out.mono ?_; rintro e w3 ⟨rfl, hb3⟩; replace hb3 : Below W0.heap.size W0 w3 := (Below.refl W0.heap.size W0).drew.trans hb3; have hx3 := HX0.out.below hb3 HX0.out.lt; have hz3 := HZ0.out.below hb3 HZ0.out.lt; have hy3 := HY0.out.below hb3 HY0.out.lt; have n3 : w3.cell? ⟨w.heap.size + 1, 1, none⟩ = some (.int .i64 oa) := hy3.cell 1; have n0 : w3.cell? ⟨w.heap.size, 0, none⟩ = some (.int .i64 c) := hx3.cell 0; have n1 : w3.cell? ⟨w.heap.size, 1, none⟩ = some (.slice a l.length cc) := hx3.cell 1; have n2 : w3.cell? ⟨w.heap.size, 2, none⟩ = some (.int .i64 S.allocs) := hx3.cell 2; have z0 := hz3.cell 0; have z1 := hz3.cell 1; have z2 := hz3.cell 2; have g0 := hz3.free 0; have g1 := hz3.free 1; have g2 := hz3.free 2; have hq : ∀ p : Addr, p.block ≠ w.heap.size + 2 → (((w3.setCell ⟨w.heap.size + 2, 0, none⟩ (.int .i64 c)).setCell ⟨w.heap.size + 2, 1, none⟩ (.slice a l.length cc)).setCell ⟨w.heap.size + 2, 2, none⟩ (.int .i64 S.allocs)).cell? p = w3.cell? p := fun p h => ((((Wrote.refl w3 _).set 0 _).set 1 _).set 2 _).cell p h; have q0 := (hq ⟨w.heap.size, 0, none⟩ hne).trans n0; have q1 := (hq ⟨w.heap.size, 1, none⟩ hne).trans n1; have q2 := (hq ⟨w.heap.size, 2, none⟩ hne).trans n2; have q3 := (hq ⟨w.heap.size + 1, 1, none⟩ hney).trans n3; clear hq; have HB3 := Lib.hid hb3; have HZ3 := Lib.hid hz3; clear hb3 hx3 hz3))
  go_wp2_with fail
  obtain ⟨W9, hW9, hX9, hT9, hK9⟩ := Tw.fin (al := (S).allocs) ((HT.out.below HB3.out).more (Nat.le_succ n)) HBW.out (HK0.out.trans (KG.of_below HB3.out (Nat.le_refl _))) HZ3.out ⟨_, _, _, rfl⟩
  have hT9 := Lib.hid hT9
  have hK9 := Lib.hid hK9
  rw [hW9]
  have v0 := hX9.cell 0
  have v1 := hX9.cell 1
  have v2 := hX9.cell 2
  refine bodyPost_ret (v := .tuple #[.agg #[.int .i64 c, .slice a l.length cc, .int .i64 (S).allocs], .bool true]) (by simp [results, Try.results13, go_sem, v0, v1, v2]) rfl ?_
  exact ⟨_, l, _, rfl, hT9.out, hK9.out⟩
set_option maxRecDepth 100000 in
set_option maxHeartbeats 16000000 in
theorem step4 {B h c n cc : Nat} {S : Hs} {l : List Rc} {a : Option Addr} {oa : Int} {x : Nd} {na : Option Addr} {nc : Nat} (w : World) (t : Tw B h c n w S l (.slice a l.length cc)) (hn : n + 1 ≤ 400) (hr : RdI (· < B) w na x.l) (hl : x.l.length ≤ 20) :
    Calls Try.prog 13 #[.pointer (some ⟨h, 0, none⟩), hpV c (.slice a l.length cc) S.allocs, .agg #[.int .i64 4, .int .i64 oa, .int .i64 x.tag, .int .i64 x.n, .slice na x.l.length nc]] w (StP B h c n w) := by
  obtain ⟨W0, hR⟩ := SBx.mk' c (.slice a l.length cc) S.allocs 4 oa x.tag x.n (.slice na x.l.length nc) w
  have HR := Lib.hid hR
  have HBW := Lib.hid t.le
  have ht0 := t.below hR.below
  have hr0 := hr.below hR.below fun b q => Nat.lt_of_lt_of_le q t.le
  have HT := Lib.hid ht0
  have HRD := Lib.hid hr0
  have hW0 := hR.eq
  have HK0 := Lib.hid (KG.of_below hR.below (Nat.le_refl _) : KH B w W0)
  obtain ⟨x0, x1, x2⟩ : W0.cell? ⟨w.heap.size, 0, none⟩ = some (.int .i64 c) ∧ W0.cell? ⟨w.heap.size, 1, none⟩ = some (.slice a l.length cc) ∧ W0.cell? ⟨w.heap.size, 2, none⟩ = some (.int .i64 S.allocs) := ⟨hR.b0.cell 0, hR.b0.cell 1, hR.b0.cell 2⟩
  obtain ⟨y0, y1, y2, y3, y4⟩ : W0.cell? ⟨w.heap.size + 1, 0, none⟩ = some (.int .i64 4) ∧ W0.cell? ⟨w.heap.size + 1, 1, none⟩ = some (.int .i64 oa) ∧ W0.cell? ⟨w.heap.size + 1, 2, none⟩ = some (.int .i64 x.tag) ∧ W0.cell? ⟨w.heap.size + 1, 3, none⟩ = some (.int .i64 x.n) ∧ W0.cell? ⟨w.heap.size + 1, 4, none⟩ = some (.slice na x.l.length nc) := ⟨hR.b1.cell 0, hR.b1.cell 1, hR.b1.cell 2, hR.b1.cell 3, hR.b1.cell 4⟩
  have HAL := Lib.hid (collect_two (rc := nc) W0 ht0 (by omega) hr0 hl)
  clear t hr hR ht0 hr0
  go_enter Try.func13, Try.ntmps13
  go_wp2_with fail
  with_reducible refine HAL.out.mono ?_
  rintro e w1 ⟨k, eno, S', l0, rfl, hp1, hpl1, hkh1, hcall⟩
  clear hW0 x0 x1 x2 y0 y1 y2 y3 y4
  have hb0 := box_kh HR.out.b0 hkh1 not_TP_RH
  have hb1 := box_kh HR.out.b1 hkh1 not_TP_TO
  have hb2 := box_kh HR.out.b2 hkh1 not_TP_RH
  obtain ⟨x0, x1, x2⟩ : w1.cell? ⟨w.heap.size, 0, none⟩ = some (.int .i64 c) ∧ w1.cell? ⟨w.heap.size, 1, none⟩ = some (.slice a l.length cc) ∧ w1.cell? ⟨w.heap.size, 2, none⟩ = some (.int .i64 S.allocs) := ⟨hb0.cell 0, hb0.cell 1, hb0.cell 2⟩
  obtain ⟨y1, y2, y3, y4⟩ : w1.cell? ⟨w.heap.size + 1, 1, none⟩ = some (.int .i64 oa) ∧ w1.cell? ⟨w.heap.size + 1, 2, none⟩ = some (.int .i64 x.tag) ∧ w1.cell? ⟨w.heap.size + 1, 3, none⟩ = some (.int .i64 x.n) ∧ w1.cell? ⟨w.heap.size + 1, 4, none⟩ = some (.slice na x.l.length nc) := ⟨hb1.cell 1, hb1.cell 2, hb1.cell 3, hb1.cell 4⟩
  have HC := Lib.hid (hcall w1 (Below.refl _ _))
  have HP1 := Lib.hid hp1
  have HPL1 := Lib.hid hpl1
  have HK1 := Lib.hid (HK0.out.trans hkh1)
  have HB1 := Lib.hid hb1
  have HB2 := Lib.hid hb2
  have HLE := Lib.hid (Nat.le_trans HT.out.le (KG.size hkh1) : B ≤ w1.heap.size)
  clear hp1 hpl1 hkh1 hcall hb0 hb1 hb2
  go_wp2_with fail
  with_reducible refine HC.out.mono ?_
  rintro e w2 ⟨l', hs2, v', rfl, ho2, hbw2⟩
  obtain ⟨a', cc', rfl⟩ := ho2.slice
  obtain ⟨W2, hW2⟩ : ∃ W2, w2.alloc (.cells #[.int .i64 c, .slice a' l'.length cc', .int .i64 S'.allocs] RH) = W2 := ⟨_, rfl⟩
  have hbW2 : Below w2.heap.size w2 W2 := by rw [← hW2]; exact (Below.refl w2.heap.size w2).alloc (Nat.le_refl _) _
  have hxW2 : Box W2 w2.heap.size RH #[.int .i64 c, .slice a' l'.length cc', .int .i64 S'.allocs] := by rw [← hW2]; exact Box.new _ _ _
  have hb12 : Below w1.heap.size w1 W2 := hbw2.trans (hbW2.mono hbw2.size)
  have hle2 : B ≤ w2.heap.size := Nat.le_trans HLE.out hbw2.size
  have ht2 : Tw B h c (n + 1) W2 S' l' (.slice a' l'.length cc') := ⟨HP1.out.below hb12, HPL1.out, ho2.below hle2 hbW2, hs2, Nat.le_trans hle2 hbW2.size⟩
  have HT2 := Lib.hid ht2
  have HK2 := Lib.hid (HK1.out.trans (KG.of_below hb12 (Nat.le_refl _)))
  have HX2 := Lib.hid hxW2
  have HZ2 := Lib.hid (HB2.out.below hb12 HB2.out.lt)
  have HY2 := Lib.hid (HB1.out.below hb12 HB1.out.lt)
  obtain ⟨m0, m1, m2⟩ : W2.cell? ⟨w2.heap.size, 0, none⟩ = some (.int .i64 c) ∧ W2.cell? ⟨w2.heap.size, 1, none⟩ = some (.slice a' l'.length cc') ∧ W2.cell? ⟨w2.heap.size, 2, none⟩ = some (.int .i64 S'.allocs) := ⟨hxW2.cell 0, hxW2.cell 1, hxW2.cell 2⟩
  have hlt2 : w2.heap.size < W2.heap.size := hxW2.lt
  have hne : w2.heap.size ≠ w.heap.size + 2 := by have := HB2.out.lt; have := hbw2.size; omega
  have hney : w.heap.size + 1 ≠ w.heap.size + 2 := by omega
  have z0 := HZ2.out.cell 0
  have z1 := HZ2.out.cell 1
  have z2 := HZ2.out.cell 2
  have g0 := HZ2.out.free 0
  have g1 := HZ2.out.free 1
  have g2 := HZ2.out.free 2
  clear ho2 hbw2 hbW2 hxW2 hb12 ht2 hle2 x0 x1 x2 y1 y2 y3 y4
  go_wp2_with fail
  obtain ⟨W9, hW9, hX9, hT9, hK9⟩ := Tw.fin (al := (S').allocs) HT2.out HBW.out HK2.out HZ2.out ⟨_, _, _, rfl⟩
  have hT9 := Lib.hid hT9
  have hK9 := Lib.hid hK9
  rw [hW9]
  have v0 := hX9.cell 0
  have v1 := hX9.cell 1
  have v2 := hX9.cell 2
  refine bodyPost_ret (v := .tuple #[.agg #[.int .i64 c, .slice a' l'.length cc', .int .i64 (S').allocs], .bool true]) (by simp [results, Try.results13, go_sem, v0, v1, v2]) rfl ?_
  exact ⟨_, l', _, rfl, hT9.out, hK9.out⟩
set_option maxRecDepth 100000 in
set_option maxHeartbeats 16000000 in
theorem step5 {B h c n cc : Nat} {S : Hs} {l : List Rc} {a : Option Addr} {kd oa : Int} {x : Nd} {na : Option Addr} {nc : Nat} (w : World) (t : Tw B h c n w S l (.slice a l.length cc)) (hn : n + 1 ≤ 400) (hr : RdI (· < B) w na x.l) (q1 : (kd == 1) = false) (q2 : (kd == 2) = false) (q3 : (kd == 3) = false) (q4 : (kd == 4) = false) (hl : x.l.length ≤ 20) :
    Calls Try.prog 13 #[.pointer (some ⟨h, 0, none⟩), hpV c (.slice a l.length cc) S.allocs, .agg #[.int .i64 kd, .int .i64 oa, .int .i64 x.tag, .int .i64 x.n, .slice na x.l.length nc]] w (StP B h c n w) := by
  obtain ⟨W0, hR⟩ := SBx.mk' c (.slice a l.length cc) S.allocs kd oa x.tag x.n (.slice na x.l.length nc) w
  have HR := Lib.hid hR
  have HBW := Lib.hid t.le
  have ht0 := t.below hR.below
  have hr0 := hr.below hR.below fun b q => Nat.lt_of_lt_of_le q t.le
  have HT := Lib.hid ht0
  have HRD := Lib.hid hr0
  have hW0 := hR.eq
  have HK0 := Lib.hid (KG.of_below hR.below (Nat.le_refl _) : KH B w W0)
  obtain ⟨x0, x1, x2⟩ : W0.cell? ⟨w.heap.size, 0, none⟩ = some (.int .i64 c) ∧ W0.cell? ⟨w.heap.size, 1, none⟩ = some (.slice a l.length cc) ∧ W0.cell? ⟨w.heap.size, 2, none⟩ = some (.int .i64 S.allocs) := ⟨hR.b0.cell 0, hR.b0.cell 1, hR.b0.cell 2⟩
  obtain ⟨y0, y1, y2, y3, y4⟩ : W0.cell? ⟨w.heap.size + 1, 0, none⟩ = some (.int .i64 kd) ∧ W0.cell? ⟨w.heap.size + 1, 1, none⟩ = some (.int .i64 oa) ∧ W0.cell? ⟨w.heap.size + 1, 2, none⟩ = some (.int .i64 x.tag) ∧ W0.cell? ⟨w.heap.size + 1, 3, none⟩ = some (.int .i64 x.n) ∧ W0.cell? ⟨w.heap.size + 1, 4, none⟩ = some (.slice na x.l.length nc) := ⟨hR.b1.cell 0, hR.b1.cell 1, hR.b1.cell 2, hR.b1.cell 3, hR.b1.cell 4⟩
  have HZ0 := Lib.hid hR.b2
  have z0 := hR.b2.cell 0
  have z1 := hR.b2.cell 1
  have z2 := hR.b2.cell 2
  have g0 := hR.b2.free 0
  have g1 := hR.b2.free 1
  have g2 := hR.b2.free 2
  clear t hr hR ht0 hr0
  go_enter Try.func13, Try.ntmps13
  go_wp2_with fail
  clear hW0
  obtain ⟨W9, hW9, hX9, hT9, hK9⟩ := Tw.fin (al := (S).allocs) (HT.out.more (Nat.le_succ n)) HBW.out HK0.out HZ0.out ⟨_, _, _, rfl⟩
  have hT9 := Lib.hid hT9
  have hK9 := Lib.hid hK9
  rw [hW9]
  have v0 := hX9.cell 0
  have v1 := hX9.cell 1
  have v2 := hX9.cell 2
  refine bodyPost_ret (v := .tuple #[.agg #[.int .i64 c, .slice a l.length cc, .int .i64 (S).allocs], .bool true]) (by simp [results, Try.results13, go_sem, v0, v1, v2]) rfl ?_
  exact ⟨_, l, _, rfl, hT9.out, hK9.out⟩
theorem step_any {B h c n cc : Nat} {S : Hs} {l : List Rc} {a : Option Addr} {kd oa : Int} {x : Nd} {na : Option Addr} {nc : Nat} (w : World) (t : Tw B h c n w S l (.slice a l.length cc)) (hn : n + 1 ≤ 400) (hr : RdI (· < B) w na x.l) (hl : x.l.length ≤ 20) :
    Calls Try.prog 13 #[.pointer (some ⟨h, 0, none⟩), hpV c (.slice a l.length cc) S.allocs, .agg #[.int .i64 kd, .int .i64 oa, .int .i64 x.tag, .int .i64 x.n, .slice na x.l.length nc]] w (StP B h c n w) := by
  by_cases h1 : kd = 1
  · subst h1; exact step1 w t hn hr hl
  by_cases h2 : kd = 2
  · subst h2; exact step2 w t hn hr hl
  by_cases h3 : kd = 3
  · subst h3; exact step3 w t hn hr hl
  by_cases h4 : kd = 4
  · subst h4; exact step4 w t hn hr hl
  exact step5 w t hn hr (beq_eq_false_iff_ne.2 h1) (beq_eq_false_iff_ne.2 h2) (beq_eq_false_iff_ne.2 h3) (beq_eq_false_iff_ne.2 h4) hl
end Go.Proofs.Ytbkklnihgejeoaa.Hp
