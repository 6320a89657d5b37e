/-
  CONTRACT of layer unify: Unify.
-/
import Derived.Test.YtcaioffdcbjbjaaGA
import Derived.Test.YtcaioffdcbjbjaaGU
import Derived.Test.YtcaioffdcbjbjaaGZb

namespace Go.Proofs.Ytcaioffdcbjbjaa.Un
open Go.RowKit Go.Shelf Mm Tm Mk Go.Maps Go.ChangeMaps Go.MapKept Go.WideMaps Rg
set_option linter.unusedVariables false
set_option linter.unusedSimpArgs false
/-- A store in memory. -/
structure StoreI (base : Nat) (w : World) (s m : Nat) (nx : Int) (K : PS) (cnt : Nat) : Prop where
  box : Box w s TSt #[.map (some m), .int .i64 nx]
  kn : KnI (ZT base N0 w) w m K cnt
  bs : base ≤ s
  bm : base ≤ m
/-- what a store's calls may turn -/
abbrev KU (base s m : Nat) (w w' : World) : Prop := KG base (fun t => t = TCh ∨ t = TP2) (fun b => b = s ∨ b = m) w w'
theorem StoreI.below {base : Nat} {w w' : World} {s m : Nat} {nx : Int} {K : PS} {cnt : Nat} (h : StoreI base w s m nx K cnt) (hb : Below w.heap.size w w') : StoreI base w' s m nx K cnt :=
  ⟨h.box.below hb h.box.lt, h.kn.below hb, h.bs, h.bm⟩
theorem StoreI.ne {base : Nat} {w : World} {s m : Nat} {nx : Int} {K : PS} {cnt : Nat} (h : StoreI base w s m nx K cnt) : s ≠ m := fun e => h.kn.ne h.box e.symm
/-- another number is fresh -/
theorem StoreI.given {base : Nat} {w w' : World} {s m : Nat} {nx nx' : Int} {K : PS} {cnt : Nat} (h : StoreI base w s m nx K cnt) (hb : Box w' s TSt #[.map (some m), .int .i64 nx']) (hk : Kept (fun b => b = s) w w') : StoreI base w' s m nx' K cnt :=
  ⟨hb, h.kn.kept hk (fun e => h.ne e.symm) (fun b e => by rw [e]; exact Box.notTyB h.box (by decide)), h.bs, h.bm⟩
theorem TyR.below {base : Nat} {w w' : World} {x : Ty} {a : Option Addr} (h : TyR base w x a) (hb : Below w.heap.size w w') : TyR base w' x a := ⟨(h.1.below hb fun b hz => hz.lt).mono fun b hz => zu_below hb hz, h.2⟩
theorem TyR.kept {base : Nat} {w w' : World} {x : Ty} {a : Option Addr} {X : Nat → Prop} (h : TyR base w x a) (hk : Kept X w w') (hX : ∀ b, X b → base ≤ b ∧ ¬ TyB TT w b) : TyR base w' x a := by
  have hz : ∀ b, ZU base N0 w b → ¬ X b := fun b hz e => hz.elim (fun q => by have := (hX b e).1; omega) fun q => (hX b e).2 q.2.1
  exact ⟨h.1.frame (fun b o hZ => World.cell?_of_block (hk.block b hZ.lt (hz b hZ))) (fun ad hZ => World.cell?_of_block (hk.block _ hZ.lt (hz _ hZ))) fun b hZ => hZ.elim (fun q => .inl ⟨q.1, Nat.lt_of_lt_of_le q.2 hk.size⟩) fun q => .inr ⟨q.1, q.2.1.same (hk.block b hZ.lt (hz b hZ)), q.2.2⟩, h.2⟩
def UnifyPost (base s m : Nat) (nx : Int) (r : Int × PS × Nat) (w : World) (e : Ending) (w' : World) : Prop := e = .returned (.int .i64 r.1) ∧ StoreI base w' s m nx r.2.1 r.2.2 ∧ KU base s m w w'
/-- a making behind a store -/
theorem making_of {base : Nat} {w : World} {s m : Nat} {nx : Int} {K : PS} {cnt : Nat} (h : StoreI base w s m nx K cnt) (hb : base ≤ w.heap.size) {W1 : World} (hW1 : (w.alloc (.map #[] 0)).alloc (.cells #[.pointer (some ⟨s, 0, none⟩), .slice none 0 0, .map (some w.heap.size), .slice none 0 0] TMg) = W1) :
    MkI base W1 (w.heap.size + 1) s m w.heap.size nx (.slice none 0 0) (.slice none 0 0) ⟨K, cnt, []⟩ (fun _ _ => 0) 0 ∧ Below w.heap.size w W1 := by
  have hB : Below w.heap.size w W1 := by rw [← hW1]; exact ((Below.refl w.heap.size w).alloc (Nat.le_refl _) _).alloc (by simp) _
  have hX : Box W1 (w.heap.size + 1) TMg #[.pointer (some ⟨s, 0, none⟩), .slice none 0 0, .map (some w.heap.size), .slice none 0 0] := by rw [← hW1]; exact Box.at_ _ _ (by simp)
  have hP : MapK W1 Try.prog T2I w.heap.size (fun _ => none) 0 := by rw [← hW1]; exact (MapK.made w Try.prog T2I).alloc _
  have hs := h.below hB
  refine ⟨⟨⟨hX, hs.box, hs.kn, ⟨[], World.ownsRow_nil _ _ _ _, rfl⟩, by omega, h.bm⟩, ⟨_, hP, fun a b _ _ => rfl⟩, ?_, hb⟩, hB⟩
  have := h.kn.lt
  omega
set_option maxRecDepth 100000 in
set_option maxHeartbeats 8000000 in
theorem unify_any {base s m q d k cnt cx cy : Nat} {nx : Int} {K : PS} {x y : Ty} {ax ay : Option Addr} {r : Int × PS × Nat} (w : World) (hS : StoreI base w s m nx K cnt) (hb : base ≤ w.heap.size) (hx : TyR base w x ax) (hy : TyR base w y ay) (okx : okTy x = true) (oky : okTy y = true) (hd : d ≤ 1000000000) (hk : k ≤ 999999999) (hc : cnt ≤ 100000000000) (hq : unifyQ q d k K cnt x y = some r) :
    Calls Try.prog 7 #[.pointer (some ⟨s, 0, none⟩), .agg #[.int .i64 x.kd, .int .i64 x.n, .string x.nm, .slice ax x.args.len cx], .agg #[.int .i64 y.kd, .int .i64 y.n, .string y.nm, .slice ay y.args.len cy]] w (UnifyPost base s m (given1 (given1 nx x) y) r w) := by
  obtain ⟨rs, hsm, hr⟩ := Option.map_eq_some_iff.1 hq
  have hsmall : Small rs.2 := Small.same (s := ⟨K, cnt, []⟩) ⟨Nat.zero_le _, hc, fun x hx => by simp at hx⟩ hsm
  have hhist : Hist K cnt rs.2 := Hist.same (s := ⟨K, cnt, []⟩) (Hist.start K cnt) hsm
  obtain ⟨W0, hW0⟩ : ∃ W0, (w.alloc (.cells #[.int .i64 x.kd, .int .i64 x.n, .string x.nm, .slice ax x.args.len cx] TT)).alloc (.cells #[.int .i64 y.kd, .int .i64 y.n, .string y.nm, .slice ay y.args.len cy] TT) = W0 := ⟨_, rfl⟩
  have hB0 : Below w.heap.size w W0 := by rw [← hW0]; exact ((Below.refl w.heap.size w).alloc (Nat.le_refl _) _).alloc (by simp) _
  have hX0 : Box W0 w.heap.size TT #[.int .i64 x.kd, .int .i64 x.n, .string x.nm, .slice ax x.args.len cx] := by rw [← hW0]; exact (Box.new w _ _).alloc _
  have hY0 : Box W0 (w.heap.size + 1) TT #[.int .i64 y.kd, .int .i64 y.n, .string y.nm, .slice ay y.args.len cy] := by rw [← hW0]; exact Box.at_ _ _ (by simp)
  have hS0 := hS.below hB0
  have hb0 : base ≤ W0.heap.size := Nat.le_trans hb hB0.size
  have hx0 := hx.below hB0
  have hy0 := hy.below hB0
  have HRX := Lib.hid (right_any x.args.nodes x (Nat.le_refl _) ax cx W0 hx0.1 (fun b hz => hz.lt) hx0.2.1)
  unfold tyV at HRX
  rw [okx] at HRX
  obtain ⟨x0, x1, x2, x3, _⟩ := hX0.cells4
  obtain ⟨y0, y1, y2, y3, _⟩ := hY0.cells4
  have HX := Lib.hid (And.intro hX0 (And.intro hx0 okx))
  have HY := Lib.hid (And.intro hY0 (And.intro hy0 oky))
  have HS := Lib.hid hS0
  have HB0 := Lib.hid hB0
  have HQ := Lib.hid (And.intro hsm (And.intro hr (And.intro hsmall hhist)))
  clear hS hx hy okx oky hq hsm hr hsmall hhist hB0 hX0 hY0 hS0 hx0 hy0
  go_enter Try.func7, Try.ntmps7
  go_wp2_with fail
  refine HRX.out.mono ?_
  rintro e W1 ⟨rfl, hb1⟩
  have HB1 := Lib.hid hb1
  have HX1 := Lib.hid (And.intro (HX.out.1.below hb1 HX.out.1.lt) (HX.out.2.1.below hb1))
  have HY1 := Lib.hid (And.intro (HY.out.1.below hb1 HY.out.1.lt) (HY.out.2.1.below hb1))
  have HS1 := Lib.hid (HS.out.below hb1)
  have HRY := Lib.hid (right_any y.args.nodes y (Nat.le_refl _) ay cy W1 HY1.out.2.1 (fun b hz => hz.lt) HY1.out.2.2.1)
  unfold tyV at HRY
  rw [HY.out.2.2] at HRY
  clear hb1 hW0 x0 x1 x2 x3 y0 y1 y2 y3
  obtain ⟨x0, x1, x2, x3, _⟩ := HX1.out.1.cells4
  obtain ⟨y0, y1, y2, y3, _⟩ := HY1.out.1.cells4
  go_wp2_with fail
  refine HRY.out.mono ?_
  rintro e W2 ⟨rfl, hb2⟩
  have HB2 := Lib.hid (HB0.out.trans ((HB1.out.trans (hb2.mono HB1.out.size)).mono HB0.out.size))
  have HX2 := Lib.hid (And.intro (HX1.out.1.below hb2 HX1.out.1.lt) (HX1.out.2.below hb2))
  have HY2 := Lib.hid (And.intro (HY1.out.1.below hb2 HY1.out.1.lt) (HY1.out.2.below hb2))
  have HS2 := Lib.hid (HS1.out.below hb2)
  have HGX := Lib.hid (given_any (a := ax) (c := cx) W2 HS2.out.box HX2.out.2.1 (fun b hz => ⟨hz.lt, fun e => hz.elim (fun q => by have := HS2.out.bs; omega) fun q => Box.notTyB (u := TT) HS2.out.box (by decide) (by rw [← e]; exact q.2.1)⟩) HX2.out.2.2.1)
  clear hb2 x0 x1 x2 x3 y0 y1 y2 y3
  obtain ⟨x0, x1, x2, x3, _⟩ := HX2.out.1.cells4
  obtain ⟨y0, y1, y2, y3, _⟩ := HY2.out.1.cells4
  go_wp2_with fail
  refine HGX.out.mono ?_
  rintro e W3 ⟨rfl, hbx3, hk3⟩
  have hsx : ∀ b, b = s → base ≤ b ∧ ¬ TyB TT W2 b := fun b e => by rw [e]; exact ⟨HS2.out.bs, Box.notTyB HS2.out.box (by decide)⟩
  have hns : ∀ g cs, Box W2 g TT cs → ¬ g = s := fun g cs hg e => absurd ((show Box W2 s TT cs by rw [← e]; exact hg).same HS2.out.box) (by decide)
  have HX3 := Lib.hid (And.intro (hk3.box HX2.out.1 (hns _ _ HX2.out.1)) (HX2.out.2.kept hk3 hsx))
  have HY3 := Lib.hid (And.intro (hk3.box HY2.out.1 (hns _ _ HY2.out.1)) (HY2.out.2.kept hk3 hsx))
  have HS3 := Lib.hid (HS2.out.given hbx3 hk3)
  have HK3 := Lib.hid hk3
  have HGY := Lib.hid (given_any (a := ay) (c := cy) W3 HS3.out.box HY3.out.2.1 (fun b hz => ⟨hz.lt, fun e => hz.elim (fun q => by have := HS3.out.bs; omega) fun q => Box.notTyB (u := TT) HS3.out.box (by decide) (by rw [← e]; exact q.2.1)⟩) HY3.out.2.2.1)
  clear hk3 hbx3 hsx hns x0 x1 x2 x3 y0 y1 y2 y3
  obtain ⟨x0, x1, x2, x3, _⟩ := HX3.out.1.cells4
  obtain ⟨y0, y1, y2, y3, _⟩ := HY3.out.1.cells4
  go_wp2_with fail
  refine HGY.out.mono ?_
  rintro e W4 ⟨rfl, hbx4, hk4⟩
  have hsx : ∀ b, b = s → base ≤ b ∧ ¬ TyB TT W3 b := fun b e => by rw [e]; exact ⟨HS3.out.bs, Box.notTyB HS3.out.box (by decide)⟩
  have hns : ∀ g cs, Box W3 g TT cs → ¬ g = s := fun g cs hg e => absurd ((show Box W3 s TT cs by rw [← e]; exact hg).same HS3.out.box) (by decide)
  have HX4 := Lib.hid (And.intro (hk4.box HX3.out.1 (hns _ _ HX3.out.1)) (HX3.out.2.kept hk4 hsx))
  have HY4 := Lib.hid (And.intro (hk4.box HY3.out.1 (hns _ _ HY3.out.1)) (HY3.out.2.kept hk4 hsx))
  have HS4 := Lib.hid (HS3.out.given hbx4 hk4)
  have hkk : Kept (fun b => b = s) W2 W4 := HK3.out.trans hk4
  have HKW : Hid (KU base s m w W4) := Lib.hid (KG.trans (KG.of_below HB2.out (Nat.le_refl _)) (Kept.mono hkk fun b _ e => ⟨by rw [e]; exact HS2.out.bs, .inl (.inl e)⟩))
  clear hk4 hbx4 hsx hns hkk x0 x1 x2 x3 y0 y1 y2 y3
  have hb4 : base ≤ W4.heap.size := Nat.le_trans hb HKW.out.size
  obtain ⟨W5, hW5⟩ : ∃ W5, (W4.alloc (.map #[] 0)).alloc (.cells #[.pointer (some ⟨s, 0, none⟩), .slice none 0 0, .map (some W4.heap.size), .slice none 0 0] TMg) = W5 := ⟨_, rfl⟩
  obtain ⟨hM5, hB5⟩ := making_of HS4.out hb4 hW5
  have hX5 := HX4.out.1.below hB5 HX4.out.1.lt
  have hY5 := HY4.out.1.below hB5 HY4.out.1.lt
  have HSM := Lib.hid (same_any (cx := cx) (cy := cy) W5 hM5 (Nat.le_trans hb4 hB5.size) hd (by omega) (HX4.out.2.below hB5) (HY4.out.2.below hB5) HQ.out.1)
  have HM5 := Lib.hid hM5
  have HB5 := Lib.hid hB5
  have hmm := @run_makeMap Try.prog
  obtain ⟨x0, x1, x2, x3, _⟩ := hX5.cells4
  obtain ⟨y0, y1, y2, y3, _⟩ := hY5.cells4
  clear hM5 hB5 hX5 hY5
  go_wp2_with fail
  refine HSM.out.mono ?_
  rintro e W6 ⟨rfl, tv6, ov6, M6, cp6, hM6, hK6⟩
  have HM6 := Lib.hid hM6
  have HK6 : Hid (KU base s m w W6) := Lib.hid (KG.trans HKW.out (KG.trans (KG.of_below HB5.out (Nat.le_refl _)) hK6 |> fun h => KG.mono h (fun t ht => ht) (fun b hb e => e.elim (fun e => by omega) fun e => e.elim (fun e => .inr e) fun e => by omega)))
  clear hM6 hK6 hW5 hmm x0 x1 x2 x3 y0 y1 y2 y3
  by_cases he : rs.1 = 0
  · have q9 : (rs.1 != 0) = false := by simpa using he
    have hr := HQ.out.2.1
    rw [if_pos he] at hr
    have HR := Lib.hid hr
    have HE := Lib.hid he
    clear hr he
    go_wp2_with fail
    go_ret
    refine ⟨?_, ?_, HK6.out⟩
    · rw [← HR.out, ← HE.out]; rfl
    · rw [← HR.out]; exact ⟨HM6.out.si.sbox, HM6.out.si.kn, HS4.out.bs, HS4.out.bm⟩
  · have q9 : (rs.1 != 0) = true := by simpa using he
    have hr := HQ.out.2.1
    rw [if_neg he] at hr
    have HR := Lib.hid hr
    have HUN := Lib.hid (undo_any W6 HM6.out.si (Nat.le_trans hb HK6.out.size) HQ.out.2.2.1.2.2 HQ.out.2.2.1.1 HQ.out.2.2.1.2.1)
    clear hr he
    go_wp2_with fail
    refine HUN.out.mono ?_
    rintro e W7 ⟨rfl, hk7, hs7, hkk7⟩
    have HN7 := Lib.hid (And.intro hk7 (And.intro hs7 hkk7))
    clear hk7 hs7 hkk7
    go_wp2_with fail
    go_ret
    obtain ⟨hk7, hs7, hkk7⟩ := HN7.out
    have hh : undoS (rs.2.K, rs.2.cnt) rs.2.old = (K, cnt) := HQ.out.2.2.2
    rw [hh] at hk7
    refine ⟨?_, ?_, KG.trans HK6.out (Kept.mono hkk7 fun b _ e => ⟨by rw [e]; exact HS4.out.bm, .inl (.inr e)⟩)⟩
    · rw [← HR.out]; rfl
    · rw [← HR.out]; exact ⟨hs7, hk7, HS4.out.bs, HS4.out.bm⟩
end Go.Proofs.Ytcaioffdcbjbjaa.Un
/-
  CONTRACTS of layer unify: what a store is asked of; a variable that is new.
-/
namespace Go.Proofs.Ytcaioffdcbjbjaa.Un
open Go.RowKit Go.Shelf Mm Tm Mk Go.Maps Go.ChangeMaps Go.MapKept Go.WideMaps Rg
set_option linter.unusedVariables false
set_option linter.unusedSimpArgs false
/-- a store was given a type -/
def AskPost (base s m : Nat) (nx : Int) (K : PS) (cnt : Nat) (v : Value) (w : World) (e : Ending) (w' : World) : Prop := e = .returned v ∧ StoreI base w' s m nx K cnt ∧ Kept (fun b => b = s) w w'
set_option maxRecDepth 100000 in
set_option maxHeartbeats 4000000 in
theorem asked_ok {base s m cnt cx : Nat} {nx : Int} {K : PS} {x : Ty} {ax : Option Addr} (w : World) (hS : StoreI base w s m nx K cnt) (hx : TyR base w x ax) (okx : okTy x = true) :
    Calls Try.prog 19 #[.pointer (some ⟨s, 0, none⟩), .agg #[.int .i64 x.kd, .int .i64 x.n, .string x.nm, .slice ax x.args.len cx]] w (AskPost base s m (given1 nx x) K cnt (.int .i64 0) w) := by
  obtain ⟨W0, hW0⟩ : ∃ W0, w.alloc (.cells #[.int .i64 x.kd, .int .i64 x.n, .string x.nm, .slice ax x.args.len cx] TT) = W0 := ⟨_, rfl⟩
  have hB0 : Below w.heap.size w W0 := by rw [← hW0]; exact (Below.refl w.heap.size w).alloc (Nat.le_refl _) _
  have hX0 : Box W0 w.heap.size TT #[.int .i64 x.kd, .int .i64 x.n, .string x.nm, .slice ax x.args.len cx] := by rw [← hW0]; exact Box.new w _ _
  have HRX := Lib.hid (right_any x.args.nodes x (Nat.le_refl _) ax cx W0 (hx.below hB0).1 (fun b hz => hz.lt) hx.2.1)
  unfold tyV at HRX
  rw [okx] at HRX
  have HB0 := Lib.hid hB0
  have HX := Lib.hid (And.intro hX0 (And.intro (hx.below hB0) (hS.below hB0)))
  obtain ⟨x0, x1, x2, x3, _⟩ := hX0.cells4
  clear hS hx okx hB0 hX0
  go_enter Try.func19, Try.ntmps19
  go_wp2_with fail
  refine HRX.out.mono ?_
  rintro e W1 ⟨rfl, hb1⟩
  have hS1 := HX.out.2.2.below hb1
  have hx1 := HX.out.2.1.below hb1
  have hX1 := HX.out.1.below hb1 HX.out.1.lt
  have HGX := Lib.hid (given_any (a := ax) (c := cx) W1 hS1.box hx1.1 (fun b hz => ⟨hz.lt, fun e => hz.elim (fun q => by have := hS1.bs; omega) fun q => Box.notTyB (u := TT) hS1.box (by decide) (by rw [← e]; exact q.2.1)⟩) hx1.2.1)
  have HS1 := Lib.hid hS1
  have HB1 := Lib.hid (HB0.out.trans (hb1.mono HB0.out.size))
  clear hS1 hx1 hb1 hW0 x0 x1 x2 x3
  obtain ⟨x0, x1, x2, x3, _⟩ := hX1.cells4
  go_wp2_with fail
  refine HGX.out.mono ?_
  rintro e W2 ⟨rfl, hb2, hk2⟩
  have H2 := Lib.hid (And.intro (HS1.out.given hb2 hk2) ((Kept.of_below HB1.out (Nat.le_refl _) (fun b => b = s)).trans hk2))
  clear hb2 hk2
  go_wp2_with fail
  go_ret
  exact ⟨rfl, H2.out.1, H2.out.2⟩
set_option maxRecDepth 100000 in
set_option maxHeartbeats 4000000 in
theorem asked_no {base s m cnt cx : Nat} {nx : Int} {K : PS} {x : Ty} {ax : Option Addr} (w : World) (hx : TyR base w x ax) (okx : okTy x = false) :
    Calls Try.prog 19 #[.pointer (some ⟨s, 0, none⟩), .agg #[.int .i64 x.kd, .int .i64 x.n, .string x.nm, .slice ax x.args.len cx]] w (ValB (.int .i64 1) w) := by
  obtain ⟨W0, hW0⟩ : ∃ W0, w.alloc (.cells #[.int .i64 x.kd, .int .i64 x.n, .string x.nm, .slice ax x.args.len cx] TT) = W0 := ⟨_, rfl⟩
  have hB0 : Below w.heap.size w W0 := by rw [← hW0]; exact (Below.refl w.heap.size w).alloc (Nat.le_refl _) _
  have hX0 : Box W0 w.heap.size TT #[.int .i64 x.kd, .int .i64 x.n, .string x.nm, .slice ax x.args.len cx] := by rw [← hW0]; exact Box.new w _ _
  have HRX := Lib.hid (right_any x.args.nodes x (Nat.le_refl _) ax cx W0 (hx.below hB0).1 (fun b hz => hz.lt) hx.2.1)
  unfold tyV at HRX
  rw [okx] at HRX
  have HB0 := Lib.hid hB0
  obtain ⟨x0, x1, x2, x3, _⟩ := hX0.cells4
  clear hx okx hB0 hX0
  go_enter Try.func19, Try.ntmps19
  go_wp2_with fail
  refine HRX.out.mono ?_
  rintro e W1 ⟨rfl, hb1⟩
  have HB1 := Lib.hid (HB0.out.trans (hb1.mono HB0.out.size))
  clear hb1
  go_wp2_with fail
  go_ret
  exact ⟨rfl, HB1.out⟩
theorem asked_nil {x : Ty} {ax : Option Addr} {cx : Nat} (w : World) :
    Calls Try.prog 19 #[.pointer none, .agg #[.int .i64 x.kd, .int .i64 x.n, .string x.nm, .slice ax x.args.len cx]] w (ValB (.int .i64 3) w) := by
  have HB0 := Lib.hid ((Below.refl w.heap.size w).alloc (Nat.le_refl _) (.cells #[.int .i64 x.kd, .int .i64 x.n, .string x.nm, .slice ax x.args.len cx] TT))
  go_enter Try.func19, Try.ntmps19
  go_wp2_with fail
  go_ret
  exact ⟨rfl, HB0.out⟩
abbrev varV (n : Int) : Value := .agg #[.int .i64 1, .int .i64 n, .string noN, .slice none 0 0]
set_option maxRecDepth 100000 in
set_option maxHeartbeats 4000000 in
theorem fresh_nil (w : World) : Calls Try.prog 14 #[.pointer none] w (ValB (varV 0) w) := by
  obtain ⟨W0, hW0⟩ : ∃ W0, w.alloc (.cells zeroT TT) = W0 := ⟨_, rfl⟩
  have hB0 : Below w.heap.size w W0 := by rw [← hW0]; exact (Below.refl w.heap.size w).alloc (Nat.le_refl _) _
  have hX0 : Box W0 w.heap.size TT zeroT := by rw [← hW0]; exact Box.new w _ _
  have HB0 := Lib.hid hB0
  have HX0 := Lib.hid hX0
  have HV := Lib.hid (variable_any 0 W0)
  clear hB0 hX0
  go_enter Try.func14, Try.ntmps14
  go_wp2_with fail
  refine HV.out.mono ?_
  rintro e W3 ⟨rfl, hb3⟩
  have hX3 := HX0.out.below hb3 HX0.out.lt
  obtain ⟨W4, hW4, hbx, hwr⟩ := hX3.write4 (.int .i64 1) (.int .i64 0) (.string noN) (.slice none 0 0)
  obtain ⟨q0, q1, q2, q3, _⟩ := hbx.cells4
  have HQ := Lib.hid (And.intro q0 (And.intro q1 (And.intro q2 q3)))
  have HB4 := Lib.hid (hwr.below (HB0.out.trans (hb3.mono HB0.out.size)) (Nat.le_refl _))
  obtain ⟨s0, s1, s2, s3, sf0, sf1, sf2, sf3⟩ := hX3.cells4
  clear hb3 hX3 hbx hwr q0 q1 q2 q3
  go_wp2_with fail
  obtain ⟨q0, q1, q2, q3⟩ := HQ.out
  refine bodyPost_ret (v := varV 0) (by simp [results, Try.results14, go_sem, q0, q1, q2, q3]) rfl ?_
  exact ⟨rfl, HB4.out⟩
set_option maxRecDepth 100000 in
set_option maxHeartbeats 4000000 in
theorem fresh_any {base s m cnt : Nat} {nx : Int} {K : PS} (w : World) (hS : StoreI base w s m nx K cnt) (h0 : 0 ≤ nx) (h1 : nx ≤ 1000000000000) :
    Calls Try.prog 14 #[.pointer (some ⟨s, 0, none⟩)] w (AskPost base s m (nx + 1) K cnt (varV nx) w) := by
  obtain ⟨W0, hW0⟩ : ∃ W0, w.alloc (.cells zeroT TT) = W0 := ⟨_, rfl⟩
  have hB0 : Below w.heap.size w W0 := by rw [← hW0]; exact (Below.refl w.heap.size w).alloc (Nat.le_refl _) _
  have hX0 : Box W0 w.heap.size TT zeroT := by rw [← hW0]; exact Box.new w _ _
  have hS0 := hS.below hB0
  have hne : w.heap.size ≠ s := by have := hS.box.lt; omega
  obtain ⟨W1, hW1⟩ : ∃ W1, W0.setCell ⟨s, 1, none⟩ (.int .i64 (nx + 1)) = W1 := ⟨_, rfl⟩
  have hbx1 : Box W1 s TSt #[.map (some m), .int .i64 (nx + 1)] := by rw [← hW1]; exact hS0.box.put 1 _
  have hk1 : Kept (fun b => b = s) W0 W1 := by rw [← hW1]; exact Kept.setCell (X := fun b => b = s) (Kept.refl _ _) (a := ⟨s, 1, none⟩) (fun _ => rfl) _
  have hX1 : Box W1 w.heap.size TT zeroT := by rw [← hW1]; exact hX0.far (fun e => hne e.symm) _
  have hS1 := hS0.given hbx1 hk1
  have hkw : Kept (fun b => b = s) w W1 := (Kept.of_below hB0 (Nat.le_refl _) _).trans hk1
  obtain ⟨s0, s1, f0, f1⟩ := hS0.box.cells2
  obtain ⟨t0, t1, _⟩ := hbx1.cells2
  have hw1 : wrap64 (nx + 1) = nx + 1 := IntWalk.wrap64_in _ (by omega)
  have hw2 : wrap64 (nx + 1 - 1) = nx := by rw [show nx + 1 - 1 = nx by omega]; exact IntWalk.wrap64_in _ (by omega)
  have hw3 : wrap64 nx = nx := IntWalk.wrap64_in _ (by omega)
  have HX1 := Lib.hid hX1
  have HS1 := Lib.hid hS1
  have HKW := Lib.hid hkw
  have HV := Lib.hid (variable_any nx W1)
  have HNE := Lib.hid hne
  have HSO := Lib.hid hS
  clear hS hB0 hX0 hS0 hne hbx1 hk1 hX1 hS1 hkw
  go_enter Try.func14, Try.ntmps14
  go_wp2_with fail
  refine HV.out.mono ?_
  rintro e W3 ⟨rfl, hb3⟩
  have hX3 := HX1.out.below hb3 HX1.out.lt
  obtain ⟨W4, hW4, hbx, hwr⟩ := hX3.write4 (.int .i64 1) (.int .i64 nx) (.string noN) (.slice none 0 0)
  obtain ⟨q0, q1, q2, q3, _⟩ := hbx.cells4
  have HQ := Lib.hid (And.intro q0 (And.intro q1 (And.intro q2 q3)))
  have HS3 := Lib.hid (HS1.out.below hb3)
  have hkr : Kept (fun b => b = w.heap.size) W3 W4 := by
    rw [← hW4]
    exact (((((Kept.refl (fun b => b = w.heap.size) W3).setCell (a := ⟨w.heap.size, 0, none⟩) (fun _ => rfl) _).setCell (a := ⟨w.heap.size, 1, none⟩) (fun _ => rfl) _).setCell (a := ⟨w.heap.size, 2, none⟩) (fun _ => rfl) _).setCell (a := ⟨w.heap.size, 3, none⟩) (fun _ => rfl) _)
  have HKR := Lib.hid hkr
  have HB3 := Lib.hid hb3
  have HX3 := Lib.hid hX3
  obtain ⟨u0, u1, u2, u3, sf0, sf1, sf2, sf3⟩ := hX3.cells4
  clear hb3 hX3 hbx hwr hkr q0 q1 q2 q3
  go_wp2_with fail
  obtain ⟨q0, q1, q2, q3⟩ := HQ.out
  refine bodyPost_ret (v := varV nx) (by simp [results, Try.results14, go_sem, q0, q1, q2, q3]) rfl ?_
  have h1 : Kept (fun b => b = s ∨ w.heap.size ≤ b) w W4 := ((HKW.out.mono (fun k _ e => .inl e)).trans (Kept.of_below HB3.out (Nat.le_refl _) _)).trans (HKR.out.mono fun k _ e => .inr (by rw [e]; exact Nat.le_refl _))
  have h2 : Kept (fun b => b = s) w W4 := h1.mono fun k hk q => q.elim id fun q => by omega
  exact ⟨rfl, HSO.out.given (HKR.out.box HS3.out.box (fun e => HNE.out e.symm)) h2, h2⟩
end Go.Proofs.Ytcaioffdcbjbjaa.Un
/-
  CONTRACT of layer unify: a type as it is known, as long as there is room.
-/
namespace Go.Proofs.Ytcaioffdcbjbjaa.Un
open Go.RowKit Go.Shelf Mm Tm Mk Go.Maps Go.ChangeMaps Go.MapKept Go.WideMaps Rg
set_option linter.unusedVariables false
set_option linter.unusedSimpArgs false
attribute [-go_sem] Builtin.append_
abbrev zeroTV : Value := .agg #[.int .i64 0, .int .i64 0, .string ⟨#[]⟩, .slice none 0 0]
/-- blocks of types of the call's own -/
def ZN (B : Nat) (w : World) (b : Nat) : Prop := B ≤ b ∧ TyB TT w b
def WholeV (B : Nat) (o : Option Ty) (w' : World) (e : Ending) : Prop := match o with
  | none => e = .returned (.tuple #[zeroTV, .bool false])
  | some y => ∃ a c, e = .returned (.tuple #[.agg #[.int .i64 y.kd, .int .i64 y.n, .string y.nm, .slice a y.args.len c], .bool true]) ∧ RdT (ZN B w') w' a y.args 0 ∧ y.args.len * 56 ≤ 140737488355328 ∧ y.nm.size ≤ 9223372036854775807
/-- the type, and the room that is left -/
def WholePost (rb : Nat) (r : Nat × Option Ty) (w : World) (e : Ending) (w' : World) : Prop := WholeV w.heap.size r.2 w' e ∧ Box w' rb TI #[.int .i64 r.1] ∧ Kept (fun b => b = rb) w w'
theorem StoreI.room {base : Nat} {w w' : World} {s m rb cnt : Nat} {nx : Int} {K : PS} {v : Value} (h : StoreI base w s m nx K cnt) (hb : Box w rb TI #[v]) (hk : Kept (fun b => b = rb ∨ w.heap.size ≤ b) w w') : StoreI base w' s m nx K cnt := by
  have hk' : Kept (fun b => b = rb) w w' := hk.mono fun k hk q => q.elim id fun q => by omega
  exact ⟨hk'.box h.box (fun e => absurd ((show Box w s TI _ by rw [e]; exact hb).same h.box) (by decide)), h.kn.kept hk' (fun e => h.kn.ne hb e) (fun b e => by rw [e]; exact Box.notTyB hb (by decide)), h.bs, h.bm⟩
theorem TyR.room {base : Nat} {w w' : World} {rb : Nat} {x : Ty} {a : Option Addr} {v : Value} (h : TyR base w x a) (hb : Box w rb TI #[v]) (hl : base ≤ rb) (hk : Kept (fun b => b = rb ∨ w.heap.size ≤ b) w w') : TyR base w' x a :=
  h.kept (hk.mono (Y := fun b => b = rb) fun k hk q => q.elim id fun q => by omega) fun b e => by rw [e]; exact ⟨hl, Box.notTyB hb (by decide)⟩
/-- a row of types of the call's own, with its parts in blocks of the call's own, none of which is the row's -/
def OwnW (B : Nat) (w : World) (v : Value) (l : List Ty) : Prop := ∃ vs, w.ownsRow B TT 4 v l.length vs ∧ RowT (fun b => ZN B w b ∧ v.ownBlock ≠ some b) w vs l
theorem OwnW.nil (B : Nat) (w : World) : OwnW B w (.slice none 0 0) [] := ⟨[], World.ownsRow_nil _ _ _ _, rfl⟩
theorem OwnW.kept {B : Nat} {w w' : World} {v : Value} {l : List Ty} {X : Nat → Prop} (h : OwnW B w v l) (hk : Kept X w w') (hX : ∀ b, X b → ¬ TyB TT w b) : OwnW B w' v l := by
  obtain ⟨vs, h1, h2⟩ := h
  refine ⟨vs, kept_own hk h1 (fun g e q => hX g q (own_tyB h1 e).2), h2.frame (fun b o hz => World.cell?_of_block (hk.block b hz.1.2.lt fun e => hX b e hz.1.2)) (fun ad hz => World.cell?_of_block (hk.block _ hz.1.2.lt fun e => hX _ e hz.1.2)) fun b hz => ⟨⟨hz.1.1, hz.1.2.same (hk.block b hz.1.2.lt fun e => hX b e hz.1.2)⟩, hz.2⟩⟩
theorem OwnW.reads {B : Nat} {w : World} {v : Value} {l : List Ty} (h : OwnW B w v l) : ∃ a c, v = .slice a l.length c ∧ RdT (ZN B w) w a (Tys.ofL l) 0 := by
  obtain ⟨vs, h1, h2⟩ := h
  obtain ⟨b, d, hv⟩ := own_slice h1
  refine ⟨b, d, hv, RdT.mk fun i x hx => ?_⟩
  rw [Tys.toL_ofL] at hx
  have hi : i < l.length := (List.getElem?_eq_some_iff.1 hx).1
  have h1' := h1
  rw [hv] at h1'
  obtain ⟨g, rfl, hg1, hg2, _, hc⟩ := own_at h1' (by omega)
  obtain ⟨a2, c2, g0, g1, g2, g3, g4, g5, g6⟩ := h2.get i x hx
  have hadd : ((⟨g, 0, none⟩ : Addr).add ((0 + i) * 4)) = ⟨g, i * 4, none⟩ := by
    rw [Nat.zero_add]
    simp [Addr.add]
    try (intro e; omega)
  refine ⟨⟨g, 0, none⟩, a2, c2, rfl, ⟨hg1, (own_tyB h1' rfl).2⟩, ?_, ?_, ?_, ?_, g4, g5, g6.mono fun b hZ => hZ.1⟩
  · rw [hadd, hc _ (by omega)]; exact g0
  · rw [hadd]; show w.cell? ⟨g, i * 4 + 1, none⟩ = _; rw [hc _ (by omega)]; exact g1
  · rw [hadd]; show w.cell? ⟨g, i * 4 + 2, none⟩ = _; rw [hc _ (by omega)]; exact g2
  · rw [hadd]; show w.cell? ⟨g, i * 4 + 3, none⟩ = _; rw [hc _ (by omega)]; exact g3
/-- what a round of the parts goes by -/
def WholeL (rb P9 : Nat) (K : PS) (k q : Nat) (kd : Int) (nm : ByteArray) (parts : List Ty) (rr : Nat × Option (List Ty)) (w5 : World) (i : Nat) (wr : World) : Prop :=
  ∃ (ro : Nat) (v : Value) (ys : List Ty), foldW (wholeP q K k) ro (parts.drop i) ys = some rr ∧ ro ≤ 256 ∧ ys.length = i ∧ Box wr rb TI #[.int .i64 ro] ∧ Box wr P9 TT #[.int .i64 kd, .int .i64 0, .string nm, v] ∧ OwnW w5.heap.size wr v ys ∧ Kept (fun b => b = rb ∨ b = P9 ∨ w5.heap.size ≤ b) w5 wr
theorem foldW_le {f : Nat → Ty → Option (Nat × Option Ty)} (hf : ∀ n x r, f n x = some r → r.1 ≤ n) : ∀ (l : List Ty) (n : Nat) (ac : List Ty) (r : Nat × Option (List Ty)), foldW f n l ac = some r → r.1 ≤ n
  | [], n, ac, r, h => by unfold foldW at h; injection h with h; rw [← h]; exact Nat.le_refl _
  | x :: l, n, ac, r, h => by
    unfold foldW at h
    cases hx : f n x with
    | none => rw [hx] at h; cases h
    | some p =>
      obtain ⟨n', o⟩ := p
      rw [hx] at h
      have h1 := hf n x _ hx
      cases o with
      | none => simp only [Option.some.injEq] at h; rw [← h]; exact h1
      | some y => exact Nat.le_trans (foldW_le hf l n' _ r h) h1
theorem wholeP_le {q : Nat} {K : PS} : ∀ (k room : Nat) (x : Ty) (r : Nat × Option Ty), wholeP q K k room x = some r → r.1 ≤ room
  | 0, room, x, r, h => by
    unfold wholeP at h
    split at h
    · injection h with h; rw [← h]; exact Nat.zero_le _
    · cases h
  | k + 1, room, x, r, h => by
    unfold wholeP at h
    split at h
    · injection h with h; rw [← h]; exact Nat.zero_le _
    · split at h
      · cases h
      · injection h with h; rw [← h]; exact Nat.sub_le _ _
      · obtain ⟨p, hp, rfl⟩ := Option.map_eq_some_iff.1 h
        exact Nat.le_trans (foldW_le (fun n x r => wholeP_le k n x r) _ _ _ _ hp) (Nat.sub_le _ _)
set_option maxRecDepth 100000 in
set_option maxHeartbeats 8000000 in
theorem whole_zero {base s m rb cnt cx : Nat} {nx : Int} {K : PS} {x : Ty} {ax : Option Addr} (w : World) (hR : Box w rb TI #[.int .i64 0]) :
    Calls Try.prog 20 #[.pointer (some ⟨s, 0, none⟩), .agg #[.int .i64 x.kd, .int .i64 x.n, .string x.nm, .slice ax x.args.len cx], .pointer (some ⟨rb, 0, none⟩)] w (WholePost rb (0, none) w) := by
  obtain ⟨W0, hW0⟩ : ∃ W0, (w.alloc (.cells #[.int .i64 x.kd, .int .i64 x.n, .string x.nm, .slice ax x.args.len cx] TT)).alloc (.cells zeroT TT) = W0 := ⟨_, rfl⟩
  have hB0 : Below w.heap.size w W0 := by rw [← hW0]; exact ((Below.refl w.heap.size w).alloc (Nat.le_refl _) _).alloc (by simp) _
  have hX6 : Box W0 (w.heap.size + 1) TT zeroT := by rw [← hW0]; exact Box.at_ _ _ (by simp)
  have hR0 := hR.below hB0 hR.lt
  have r0 : W0.cell? ⟨rb, 0, none⟩ = some (.int .i64 0) := hR0.cell 0
  obtain ⟨W4, hW4, hbx, hwr⟩ := hX6.write4 (.int .i64 0) (.int .i64 0) (.string ⟨#[]⟩) (.slice none 0 0)
  obtain ⟨q0, q1, q2, q3, _⟩ := hbx.cells4
  have HQ := Lib.hid (And.intro q0 (And.intro q1 (And.intro q2 q3)))
  have HB4 := Lib.hid (hwr.below hB0 (Nat.le_succ _))
  have HRR := Lib.hid (hR0.wrote hwr (by have := hR.lt; omega))
  obtain ⟨s0, s1, s2, s3, sf0, sf1, sf2, sf3⟩ := hX6.cells4
  clear hR hB0 hX6 hR0 hbx hwr q0 q1 q2 q3
  go_enter Try.func20, Try.ntmps20
  go_wp2_with fail
  obtain ⟨q0, q1, q2, q3⟩ := HQ.out
  refine bodyPost_ret (v := .tuple #[zeroTV, .bool false]) (by simp [results, Try.results20, go_sem, q0, q1, q2, q3]) rfl ?_
  exact ⟨rfl, HRR.out, Kept.of_below HB4.out (Nat.le_refl _) _⟩
end Go.Proofs.Ytcaioffdcbjbjaa.Un
/-
  CONTRACT of layer unify: a type as it is known: a variable of which nothing is known.
-/
namespace Go.Proofs.Ytcaioffdcbjbjaa.Un
open Go.RowKit Go.Shelf Mm Tm Mk Go.Maps Go.ChangeMaps Go.MapKept Go.WideMaps Rg
set_option linter.unusedVariables false
set_option linter.unusedSimpArgs false
attribute [-go_sem] Builtin.append_
/-- what lies there when a type's side is taken: one room less -/
structure TookR (base s m rb cnt j : Nat) (nx : Int) (K : PS) (w W1 : World) : Prop where
  st : StoreI base W1 s m nx K cnt
  rm : Box W1 rb TI #[.int .i64 j]
  x6 : Box W1 (w.heap.size + 1) TT zeroT
  kp : Kept (fun b => b = rb ∨ w.heap.size ≤ b) w W1
theorem took_of {base s m rb cnt cx j : Nat} {nx : Int} {K : PS} {x : Ty} {ax : Option Addr} {w W0 W1 : World} (hS : StoreI base w s m nx K cnt) (hR : Box w rb TI #[.int .i64 ((j : Int) + 1)]) (hW0 : (w.alloc (.cells #[.int .i64 x.kd, .int .i64 x.n, .string x.nm, .slice ax x.args.len cx] TT)).alloc (.cells zeroT TT) = W0) (hW1 : W0.setCell ⟨rb, 0, none⟩ (.int .i64 j) = W1) :
    TookR base s m rb cnt j nx K w W1 ∧ Box W1 w.heap.size TT #[.int .i64 x.kd, .int .i64 x.n, .string x.nm, .slice ax x.args.len cx] ∧ Box W0 rb TI #[.int .i64 ((j : Int) + 1)] := by
  have hB0 : Below w.heap.size w W0 := by rw [← hW0]; exact ((Below.refl w.heap.size w).alloc (Nat.le_refl _) _).alloc (by simp) _
  have hX0 : Box W0 w.heap.size TT #[.int .i64 x.kd, .int .i64 x.n, .string x.nm, .slice ax x.args.len cx] := by rw [← hW0]; exact (Box.new w _ _).alloc _
  have hX6 : Box W0 (w.heap.size + 1) TT zeroT := by rw [← hW0]; exact Box.at_ _ _ (by simp)
  have hR0 := hR.below hB0 hR.lt
  have hk : Kept (fun b => b = rb ∨ w.heap.size ≤ b) w W1 := by rw [← hW1]; exact Kept.setCell (X := fun b => b = rb ∨ w.heap.size ≤ b) (Kept.of_below hB0 (Nat.le_refl _) _) (a := ⟨rb, 0, none⟩) (fun _ => .inl rfl) _
  have hl := hR.lt
  exact ⟨⟨hS.room hR hk, by rw [← hW1]; exact hR0.put 0 _, by rw [← hW1]; exact hX6.far (by show rb ≠ w.heap.size + 1; omega) _, hk⟩, by rw [← hW1]; exact hX0.far (by show rb ≠ w.heap.size; omega) _, hR0⟩
set_option maxRecDepth 100000 in
set_option maxHeartbeats 8000000 in
theorem whole_open {base s m rb cnt cx j q : Nat} {nx n l d : Int} {h : Bool} {K : PS} {x : Ty} {ax : Option Addr} (w : World) (hS : StoreI base w s m nx K cnt) (hR : Box w rb TI #[.int .i64 ((j : Int) + 1)]) (hj : j ≤ 1000) (ht : takenP q K x = some (.var n (.opn l d h))) :
    Calls Try.prog 20 #[.pointer (some ⟨s, 0, none⟩), .agg #[.int .i64 x.kd, .int .i64 x.n, .string x.nm, .slice ax x.args.len cx], .pointer (some ⟨rb, 0, none⟩)] w (WholePost rb (j, some (vrT l)) w) := by
  obtain ⟨W0, hW0⟩ : ∃ W0, (w.alloc (.cells #[.int .i64 x.kd, .int .i64 x.n, .string x.nm, .slice ax x.args.len cx] TT)).alloc (.cells zeroT TT) = W0 := ⟨_, rfl⟩
  obtain ⟨W1, hW1⟩ : ∃ W1, W0.setCell ⟨rb, 0, none⟩ (.int .i64 j) = W1 := ⟨_, rfl⟩
  obtain ⟨hT, hX1, hR0⟩ := took_of hS hR hW0 hW1
  obtain ⟨sd, hsd, HTK⟩ := taken_side (a := ax) (c := cx) hT.st.box hT.st.kn ht
  obtain ⟨hiv, hin, hef, _⟩ := hsd
  have hko : (sd.f.kd == 0) = true := by rw [hef.1]; rfl
  have hle : sd.f.least = l := hef.2.2.1
  have r0 : W0.cell? ⟨rb, 0, none⟩ = some (.int .i64 ((j : Int) + 1)) := hR0.cell 0
  have rf := hR0.free 0
  have hw1 : wrap64 ((j : Int) + 1 - 1) = j := by rw [show (j : Int) + 1 - 1 = j by omega]; exact IntWalk.wrap64_in _ (by omega)
  have hw2 : wrap64 (j : Int) = j := IntWalk.wrap64_in _ (by omega)
  have hne : ((j : Int) + 1 == 0) = false := by simp; omega
  obtain ⟨x0, x1, x2, x3, _⟩ := hX1.cells4
  have HT := Lib.hid hT
  have HTK := Lib.hid (HTK W1 (Below.refl _ _))
  have HLE := Lib.hid hle
  have zx := hX1.lt
  clear hS hR hT hX1 hR0 hiv hin hef hle ht
  go_enter Try.func20, Try.ntmps20
  go_wp2_with fail
  refine HTK.out.mono ?_
  rintro e w2 ⟨rfl, hb2⟩
  obtain ⟨W3, hW3⟩ : ∃ W3, w2.alloc (.cells (sideC' sd) TSide) = W3 := ⟨_, rfl⟩
  have hB3 : Below W1.heap.size W1 W3 := by rw [← hW3]; exact hb2.alloc hb2.size _
  have hX8 : Box W3 w2.heap.size TSide (sideC' sd) := by rw [← hW3]; exact Box.new _ _ _
  have HX8 := Lib.hid hX8
  have HB3 := Lib.hid hB3
  obtain ⟨v0, v1, v2, v3, v4, v5, v6, v7, v8⟩ := hX8.cells9
  have HIS := Lib.hid (isOpen_any sd W3)
  clear hb2 hB3 hX8 hW0 hW1 x0 x1 x2 x3 r0 rf
  go_wp2_with fail
  refine HIS.out.mono ?_
  rintro e w4 ⟨rfl, hb4⟩
  rw [hko]
  have hX8 := HX8.out.below hb4 HX8.out.lt
  have HB4 := Lib.hid (HB3.out.trans (hb4.mono HB3.out.size))
  have HVA := Lib.hid (variable_any l w4)
  clear v0 v1 v2 v3 v4 v5 v6 v7 v8 hb4 hW3
  obtain ⟨v0, v1, v2, v3, v4, v5, v6, v7, v8⟩ := hX8.cells9
  rw [HLE.out] at v4
  go_wp2_with fail
  refine HVA.out.mono ?_
  rintro e w5 ⟨rfl, hb5⟩
  have HB5 := Lib.hid (HB4.out.trans (hb5.mono HB4.out.size))
  have hX6 := HT.out.x6.below HB5.out HT.out.x6.lt
  obtain ⟨W6, hW6, hbx, hwr⟩ := hX6.write4 (.int .i64 1) (.int .i64 l) (.string noN) (.slice none 0 0)
  obtain ⟨q0, q1, q2, q3, _⟩ := hbx.cells4
  have HQ := Lib.hid (And.intro q0 (And.intro q1 (And.intro q2 q3)))
  have hk6 : Kept (fun b => b = w.heap.size + 1) w5 W6 := by
    rw [← hW6]
    exact (((((Kept.refl (fun b => b = w.heap.size + 1) w5).setCell (a := ⟨w.heap.size + 1, 0, none⟩) (fun _ => rfl) _).setCell (a := ⟨w.heap.size + 1, 1, none⟩) (fun _ => rfl) _).setCell (a := ⟨w.heap.size + 1, 2, none⟩) (fun _ => rfl) _).setCell (a := ⟨w.heap.size + 1, 3, none⟩) (fun _ => rfl) _)
  have HK6 := Lib.hid hk6
  obtain ⟨s0, s1, s2, s3, sf0, sf1, sf2, sf3⟩ := hX6.cells4
  have HRR := Lib.hid (hk6.box (HT.out.rm.below HB5.out HT.out.rm.lt) (fun e => absurd ((show Box w5 rb TT _ by rw [e]; exact hX6).same (HT.out.rm.below HB5.out HT.out.rm.lt)) (by decide)))
  clear hb5 hX6 hbx hwr hk6 q0 q1 q2 q3 v0 v1 v2 v3 v4 v5 v6 v7 v8 hX8
  go_wp2_with fail
  obtain ⟨q0, q1, q2, q3⟩ := HQ.out
  refine bodyPost_ret (v := .tuple #[.agg #[.int .i64 1, .int .i64 l, .string noN, .slice none 0 0], .bool true]) (by simp [results, Try.results20, go_sem, q0, q1, q2, q3]) rfl ?_
  refine ⟨⟨none, 0, rfl, trivial, by simp [Tys.len], Nat.zero_le _⟩, HRR.out, ?_⟩
  exact (((HT.out.kp.trans (Kept.of_below HB5.out (Nat.le_refl _) _)).trans (HK6.out.mono fun k _ e => .inr (by rw [e]; exact Nat.le_succ _)))).mono fun k hk q => q.elim id fun q => by omega
end Go.Proofs.Ytcaioffdcbjbjaa.Un
/-
  CONTRACT of layer unify: a type as it is known: its parts.
-/
namespace Go.Proofs.Ytcaioffdcbjbjaa.Un
open Go.RowKit Go.Shelf Mm Tm Mk Go.Maps Go.ChangeMaps Go.MapKept Go.WideMaps Rg
set_option linter.unusedVariables false
set_option linter.unusedSimpArgs false
attribute [-go_sem] Builtin.append_
/-- the contract of a call within -/
def WholeC (base s m rb cnt q k : Nat) (nx : Int) (K : PS) : Prop := ∀ (x : Ty) (a : Option Addr) (c : Nat) (w : World) (room : Nat) (r : Nat × Option Ty), StoreI base w s m nx K cnt → Box w rb TI #[.int .i64 room] → TyR base w x a → room ≤ 256 → wholeP q K k room x = some r →
  Calls Try.prog 20 #[.pointer (some ⟨s, 0, none⟩), .agg #[.int .i64 x.kd, .int .i64 x.n, .string x.nm, .slice a x.args.len c], .pointer (some ⟨rb, 0, none⟩)] w (WholePost rb r w)
/-- a type behind the row -/
theorem whole_push {B P9 : Nat} {kd : Int} {nm : ByteArray} {v v' : Value} {vs : List Value} {ys : List Ty} {y : Ty} {a : Option Addr} {c : Nat} {wB wE : World} {o o' : Obj} (h1 : wB.ownsRow B TT 4 v ys.length vs) (h2 : RowT (fun b => ZN B wB b ∧ v.ownBlock ≠ some b) wB vs ys) (hB : B ≤ wB.heap.size) (hP : P9 < B) (hP9 : Box wB P9 TT #[.int .i64 kd, .int .i64 0, .string nm, v])
    (hy : RdT (fun b => ZN B wB b ∧ v.ownBlock ≠ some b) wB a y.args 0) (hl : y.args.len * 56 ≤ 140737488355328) (hn : y.nm.size ≤ 9223372036854775807)
    (hown : wE.ownsRow B TT 4 v' (ys.length + 1) (vs ++ [.int .i64 y.kd, .int .i64 y.n, .string y.nm, .slice a y.args.len c])) (hg : ((wB.alloc o).alloc o').grownBy wE v.ownBlock) (hat : v'.ownBlock = v.ownBlock ∨ v'.ownBlock = some (wB.heap.size + 2)) :
    Box (wE.setCell ⟨P9, 3, none⟩ v') P9 TT #[.int .i64 kd, .int .i64 0, .string nm, v'] ∧ OwnW B (wE.setCell ⟨P9, 3, none⟩ v') v' (ys ++ [y]) ∧ Kept (fun b => b = P9 ∨ B ≤ b) wB (wE.setCell ⟨P9, 3, none⟩ v') := by
  have hkE : Kept (fun b => v.ownBlock = some b) wB wE := (((Kept.refl _ wB).alloc o).alloc o').grown hg (fun k e _ => e)
  have hvB : ∀ b, v.ownBlock = some b → B ≤ b ∧ b < wB.heap.size := fun b e => ⟨(own_tyB h1 e).1, (own_tyB h1 e).2.lt⟩
  have hPE : Box wE P9 TT #[.int .i64 kd, .int .i64 0, .string nm, v] := hkE.box hP9 (fun e => by have := (hvB _ e).1; omega)
  have hz : ∀ b, (ZN B wB b ∧ v.ownBlock ≠ some b) → (wE.setCell ⟨P9, 3, none⟩ v').heap[b]? = wB.heap[b]? := fun b q => (Below.heap_setCell _ _ _ _ (by show b ≠ P9; have := q.1.1; omega)).trans (hkE.block b q.1.2.lt q.2)
  have hz2 : ∀ b, (ZN B wB b ∧ v.ownBlock ≠ some b) → ZN B (wE.setCell ⟨P9, 3, none⟩ v') b ∧ v'.ownBlock ≠ some b := fun b q => ⟨⟨q.1.1, q.1.2.same (hz b q)⟩, fun e => hat.elim (fun r => q.2 (by rw [← r]; exact e)) fun r => by
    have h9 : some b = some (wB.heap.size + 2) := e.symm.trans r
    injection h9 with h9
    have := q.1.2.lt
    omega⟩
  refine ⟨hPE.put 3 v', ⟨vs ++ [.int .i64 y.kd, .int .i64 y.n, .string y.nm, .slice a y.args.len c], ?_, ?_⟩, ?_⟩
  · rw [List.length_append]
    have hne : v'.ownBlock ≠ some P9 := fun e => hat.elim (fun r => by have := (hvB P9 (by rw [← r]; exact e)).1; omega) fun r => by
      have h9 : some P9 = some (wB.heap.size + 2) := e.symm.trans r
      injection h9 with h9
      omega
    exact kept_own (X := fun b => b = P9) (Kept.setCell (X := fun b => b = P9) (Kept.refl _ wE) (a := ⟨P9, 3, none⟩) (fun _ => rfl) v') hown (fun g e q => hne (by rw [← q]; exact e))
  · exact RowT.snoc (c2 := c) hn hl (hy.frame (fun b o hZ => World.cell?_of_block (hz b hZ)) (fun ad hZ => World.cell?_of_block (hz _ hZ)) hz2) (h2.frame (fun b o hZ => World.cell?_of_block (hz b hZ)) (fun ad hZ => World.cell?_of_block (hz _ hZ)) hz2)
  · exact Kept.setCell (X := fun b => b = P9 ∨ B ≤ b) (hkE.mono fun b _ e => .inr (hvB b e).1) (a := ⟨P9, 3, none⟩) (fun _ => .inl rfl) v'
set_option maxRecDepth 100000 in
set_option maxHeartbeats 8000000 in
theorem whole_parts {base s m rb cnt cx j q k : Nat} {nx : Int} {K : PS} {x : Ty} {ax : Option Addr} {sdp : Sd} {rr : Nat × Option (List Ty)} (w : World) (hS : StoreI base w s m nx K cnt) (hR : Box w rb TI #[.int .i64 ((j : Int) + 1)]) (hx : TyR base w x ax) (hbr : base ≤ rb) (hj : j ≤ 256) (ht : takenP q K x = some sdp) (ho : sdp.isOpn = false)
    (hC : WholeC base s m rb cnt q k nx K) (hf : foldW (wholeP q K k) j sdp.parts [] = some rr) :
    Calls Try.prog 20 #[.pointer (some ⟨s, 0, none⟩), .agg #[.int .i64 x.kd, .int .i64 x.n, .string x.nm, .slice ax x.args.len cx], .pointer (some ⟨rb, 0, none⟩)] w (WholePost rb (rr.1, rr.2.map fun ys => ⟨sdp.kd, 0, sdp.nm, Tys.ofL ys⟩) w) := by
  obtain ⟨W0, hW0⟩ : ∃ W0, (w.alloc (.cells #[.int .i64 x.kd, .int .i64 x.n, .string x.nm, .slice ax x.args.len cx] TT)).alloc (.cells zeroT TT) = W0 := ⟨_, rfl⟩
  obtain ⟨W1, hW1⟩ : ∃ W1, W0.setCell ⟨rb, 0, none⟩ (.int .i64 j) = W1 := ⟨_, rfl⟩
  obtain ⟨hT, hX1, hR0⟩ := took_of hS hR hW0 hW1
  obtain ⟨sd, hsd, HTK⟩ := taken_side (a := ax) (c := cx) hT.st.box hT.st.kn ht
  have hcl := closed_of hsd ho (hx.room hR hbr hT.kp).1 hx.2.1 hx.2.2
  have hko : (sd.f.kd == 0) = false := by simpa using hcl.k0
  have r0 : W0.cell? ⟨rb, 0, none⟩ = some (.int .i64 ((j : Int) + 1)) := hR0.cell 0
  have rf := hR0.free 0
  have hw1 : wrap64 ((j : Int) + 1 - 1) = j := by rw [show (j : Int) + 1 - 1 = j by omega]; exact IntWalk.wrap64_in _ (by omega)
  have hw2 : wrap64 (j : Int) = j := IntWalk.wrap64_in _ (by omega)
  have hne : ((j : Int) + 1 == 0) = false := by simp; omega
  obtain ⟨x0, x1, x2, x3, _⟩ := hX1.cells4
  have HT := Lib.hid hT
  have HTK := Lib.hid (HTK W1 (Below.refl _ _))
  have HCL := Lib.hid hcl
  have HF := Lib.hid (And.intro hf hC)
  have HRL := Lib.hid hR.lt
  have zx := hX1.lt
  clear hS hR hT hX1 hR0 hsd ht hcl hx hf hC
  go_enter Try.func20, Try.ntmps20
  go_wp2_with fail
  refine HTK.out.mono ?_
  rintro e w2 ⟨rfl, hb2⟩
  obtain ⟨W3, hW3⟩ : ∃ W3, w2.alloc (.cells (sideC' sd) TSide) = W3 := ⟨_, rfl⟩
  have hB3 : Below W1.heap.size W1 W3 := by rw [← hW3]; exact hb2.alloc hb2.size _
  have hX8 : Box W3 w2.heap.size TSide (sideC' sd) := by rw [← hW3]; exact Box.new _ _ _
  have HX8 := Lib.hid hX8
  have HB3 := Lib.hid hB3
  have zw2 : W1.heap.size ≤ w2.heap.size := hb2.size
  obtain ⟨v0, v1, v2, v3, v4, v5, v6, v7, v8⟩ := hX8.cells9
  have HIS := Lib.hid (isOpen_any sd W3)
  clear hb2 hB3 hX8 hW0 hW1 x0 x1 x2 x3 r0 rf
  go_wp2_with fail
  refine HIS.out.mono ?_
  rintro e w4 ⟨rfl, hb4⟩
  rw [hko]
  have hX8 := HX8.out.below hb4 HX8.out.lt
  have HB4 := Lib.hid (HB3.out.trans (hb4.mono HB3.out.size))
  clear v0 v1 v2 v3 v4 v5 v6 v7 v8 hb4 hW3
  obtain ⟨W5, hW5⟩ : ∃ W5, w4.alloc (.cells #[.int .i64 sd.f.kd, .int .i64 0, .string sd.f.nm, .slice none 0 0] TT) = W5 := ⟨_, rfl⟩
  have hB5 : Below w4.heap.size w4 W5 := by rw [← hW5]; exact (Below.refl _ w4).alloc (Nat.le_refl _) _
  have hz5 : W5.heap.size = w4.heap.size + 1 := by rw [← hW5]; simp
  have hX9 : Box W5 w4.heap.size TT #[.int .i64 sd.f.kd, .int .i64 0, .string sd.f.nm, .slice none 0 0] := by rw [← hW5]; exact Box.new _ _ _
  have hX85 := hX8.below hB5 hX8.lt
  have HB5 := Lib.hid (HB4.out.trans (hB5.mono HB4.out.size))
  have HX9 := Lib.hid hX9
  have HZ5 := Lib.hid hz5
  obtain ⟨v0, v1, v2, v3, v4, v5, v6, v7, v8⟩ := hX8.cells9
  obtain ⟨z0, z1, z2, z3, z4, z5, z6, z7, z8⟩ := hX85.cells9
  obtain ⟨P9, hP9⟩ : ∃ P9, w4.heap.size = P9 := ⟨_, rfl⟩
  have hRB5 : Box W5 rb TI #[.int .i64 j] := HT.out.rm.below HB5.out HT.out.rm.lt
  have HST : Hid (WholeL rb P9 K k q sd.f.kd sd.f.nm sdp.parts rr W5 0 W5) := Lib.hid ⟨j, _, [], by rw [List.drop_zero]; exact HF.out.1, hj, rfl, hRB5, by rw [← hP9]; exact HX9.out, OwnW.nil _ _, Kept.refl _ _⟩
  have zW1 : w.heap.size + 1 < W1.heap.size := HT.out.x6.lt
  have zP9 : W1.heap.size < P9 := by rw [← hP9]; have := hX8.lt; omega
  have HPP := Lib.hid hP9
  have HW5 := Lib.hid hW5
  have zX8 : w2.heap.size < w4.heap.size := hX8.lt
  have hlen : sd.f.args.len ≤ 140737488355328 := by have := HCL.out.ln; omega
  have zP5 : P9 < W5.heap.size := by have := HX9.out.lt; rw [HPP.out] at this; exact this
  clear hX8 hB5 hz5 hX9 hX85 hRB5 hW5 hP9 z0 z1 z2 z3 z4 z5 z6 z7 z8
  go_wp2_with fail
  rw [HW5.out, HPP.out]
  clear v0 v1 v2 v3 v4 v5 v6 v7 v8
  go_loopg [47] sd.f.args.len (fun dm v47 wr => ∃ i : Nat, i + dm = sd.f.args.len ∧ v47 = .int .i64 i ∧ WholeL rb P9 K k q sd.f.kd sd.f.nm sdp.parts rr W5 i wr)
  case atStart => exact ⟨0, by omega, rfl, HST.out⟩
  case round =>
    obtain ⟨i, hid, rfl, ro, v, ys, hfo, hro, hyl, hrb, hp9, how, hkp⟩ := hrel
    obtain ⟨va, vc, rfl, hor⟩ := how.reads
    have HOR := Lib.hid hor
    clear hor
    have HID := Lib.hid hid
    have hile : i ≤ sd.f.args.len := by omega
    have HFO := Lib.hid hfo
    have HYL := Lib.hid hyl
    have HRB := Lib.hid hrb
    have HP9 := Lib.hid hp9
    have HOW := Lib.hid how
    have HKP := Lib.hid hkp
    have hk1 : Kept (fun b => b = rb ∨ W1.heap.size ≤ b) W1 wr := (Kept.of_below HB5.out (Nat.le_refl _) _).trans (hkp.mono fun b _ e => e.imp id fun e => e.elim (fun e => by omega) fun e => by have := HB5.out.size; omega)
    have HK1 := Lib.hid hk1
    have h6r := Kept.box hk1 HT.out.x6 (fun e => e.elim (fun e => by have := HRL.out; omega) fun e => by omega)
    have H6R := Lib.hid h6r
    clear hid hfo hyl hrb hp9 how hkp hk1 h6r
    by_cases hlt : i < sd.f.args.len
    · have hlt' : (i : Int) < sd.f.args.len := by omega
      have hge0 : (0 : Int) ≤ (i : Int) := by omega
      obtain ⟨el, hel⟩ : ∃ el, sd.f.args.toL[i]? = some el := ⟨_, List.getElem?_eq_getElem (by rw [Tys.toL_len]; exact hlt)⟩
      have hzr : ∀ b, ZU base N0 W1 b → b < W1.heap.size ∧ ¬ (b = rb ∨ W1.heap.size ≤ b) := fun b hz => ⟨hz.lt, fun e => e.elim (fun e => hz.elim (fun q => by omega) fun q => Box.notTyB (u := TT) HT.out.rm (by decide) (by rw [← e]; exact q.2.1)) fun q => by have := hz.lt; omega⟩
      have hrd := (Kept.types HK1.out HCL.out.rd hzr).at_ i el hel
      rw [Nat.zero_add] at hrd
      obtain ⟨ad, a2, c2, had, _, p0, p1, p2, p3, h5, h6, h7⟩ := hrd
      have hdr : sdp.parts.drop i = el :: sdp.parts.drop (i + 1) := by
        have e1 : sdp.parts[i]? = some el := by rw [← HCL.out.pt]; exact hel
        have h9 : i < sdp.parts.length := (List.getElem?_eq_some_iff.1 e1).1
        rw [List.getElem?_eq_getElem h9] at e1
        injection e1 with e1
        rw [List.drop_eq_getElem_cons h9, e1]
      have hfo := HFO.out
      rw [hdr] at hfo
      unfold foldW at hfo
      cases hwp : wholeP q K k ro el with
      | none => rw [hwp] at hfo; simp at hfo
      | some pr =>
      obtain ⟨ro', o⟩ := pr
      rw [hwp] at hfo
      obtain ⟨wA, hwA⟩ : ∃ wA, wr.alloc (.cells #[.int .i64 el.kd, .int .i64 el.n, .string el.nm, .slice a2 el.args.len c2] TT) = wA := ⟨_, rfl⟩
      have hBA : Below wr.heap.size wr wA := by rw [← hwA]; exact (Below.refl _ wr).alloc (Nat.le_refl _) _
      have hzA : wA.heap.size = wr.heap.size + 1 := by rw [← hwA]; simp
      have hkA : Kept (fun b => b = rb ∨ W1.heap.size ≤ b) W1 wA := HK1.out.trans (Kept.of_below hBA (Nat.le_refl _) _)
      have hSA := HT.out.st.room HT.out.rm hkA
      have hTA : TyR base wA el a2 := ⟨(h7.below hBA fun b hz => by have := hz.lt; have := HK1.out.size; omega).mono fun b hz => hz.elim (fun q => .inl ⟨q.1, by have := q.2; have := hkA.size; omega⟩) fun q => .inr ⟨q.1, q.2.1.same (hkA.block b q.2.1.lt (hzr b (.inr q)).2), q.2.2⟩, h6, h5⟩
      have hrA : Box wA rb TI #[.int .i64 ro] := HRB.out.below hBA HRB.out.lt
      have HCC := Lib.hid (HF.out.2 el a2 c2 wA ro (ro', o) hSA hrA hTA hro hwp)
      have hle := wholeP_le k ro el _ hwp
      simp only at hle
      have h11 : Box wA wr.heap.size TT #[.int .i64 el.kd, .int .i64 el.n, .string el.nm, .slice a2 el.args.len c2] := by rw [← hwA]; exact Box.new _ _ _
      have HBA := Lib.hid hBA
      have HZA := Lib.hid hzA
      have HFN := Lib.hid hfo
      have HWA := Lib.hid hwA
      have HEL := Lib.hid had
      have HRL5 : Hid (P9 < W5.heap.size ∧ W5.heap.size ≤ wr.heap.size ∧ w.heap.size + 1 < wr.heap.size ∧ rb < w.heap.size) := Lib.hid ⟨by have := HX9.out.lt; rw [HPP.out] at this; exact this, HKP.out.size, by have := HK1.out.size; omega, HRL.out⟩
      obtain ⟨u0, u1, u2, u3, _⟩ := h11.cells4
      have had2 : sd.f.a = some ad := had
      clear hel hdr hfo hwp hBA hzA hkA hSA hTA hrA h5 h6 h7 hzr h11 had hwA
      rw [had2]
      go_wp2_with fail
      rw [HWA.out]
      refine HCC.out.mono ?_
      rintro e wB ⟨hV, hrB, hkB⟩
      have HRB2 := Lib.hid hrB
      have HKB := Lib.hid hkB
      clear hrB hkB p0 p1 p2 p3 u0 u1 u2 u3
      cases o with
      | none =>
        have he : e = .returned (.tuple #[zeroTV, .bool false]) := hV
        subst he
        have hfo := HFN.out
        simp only [Option.some.injEq] at hfo
        have HRR := Lib.hid hfo
        clear hV hfo
        have h6 : Box wB (w.heap.size + 1) TT zeroT := HKB.out.box (H6R.out.below HBA.out H6R.out.lt) (by have := HRL5.out; omega)
        obtain ⟨W6, hW6, hbx, hwr⟩ := (h6.alloc (.cells zeroT TT)).write4 (.int .i64 0) (.int .i64 0) (.string ⟨#[]⟩) (.slice none 0 0)
        obtain ⟨q0, q1, q2, q3, _⟩ := hbx.cells4
        have HQ := Lib.hid (And.intro q0 (And.intro q1 (And.intro q2 q3)))
        have HW6 : Hid (Kept (fun b => b = w.heap.size + 1) (wB.alloc (.cells zeroT TT)) W6) := Lib.hid (by
          rw [← hW6]
          exact (((((Kept.refl (fun b => b = w.heap.size + 1) (wB.alloc (.cells zeroT TT))).setCell (a := ⟨w.heap.size + 1, 0, none⟩) (fun _ => rfl) _).setCell (a := ⟨w.heap.size + 1, 1, none⟩) (fun _ => rfl) _).setCell (a := ⟨w.heap.size + 1, 2, none⟩) (fun _ => rfl) _).setCell (a := ⟨w.heap.size + 1, 3, none⟩) (fun _ => rfl) _))
        obtain ⟨s0, s1, s2, s3, sf0, sf1, sf2, sf3⟩ := (h6.alloc (.cells zeroT TT)).cells4
        clear h6 hbx hwr q0 q1 q2 q3
        go_wp2_with fail
        obtain ⟨q0, q1, q2, q3⟩ := HQ.out
        refine bodyPost_ret (v := .tuple #[zeroTV, .bool false]) (by simp [results, Try.results20, go_sem, q0, q1, q2, q3]) rfl ?_
        rw [← HRR.out]
        refine ⟨rfl, HW6.out.box (HRB2.out.alloc _) (by have := HRL5.out; omega), ?_⟩
        have k1 : Kept (fun b => b = rb ∨ w.heap.size ≤ b) w wr := HT.out.kp.trans (HK1.out.mono fun b _ e => e.imp id fun e => by omega)
        have k2 := ((k1.trans (Kept.of_below HBA.out (Nat.le_refl _) _)).trans (HKB.out.mono fun b _ e => .inl e)).alloc (.cells zeroT TT)
        exact (k2.trans (HW6.out.mono fun b _ e => .inr (by omega))).mono fun b hb e => e.elim id fun e => by omega
      | some y =>
        obtain ⟨a9, c9, rfl, hy1, hy2, hy3⟩ := hV
        have hfo := HFN.out
        simp only at hfo
        have HFO2 := Lib.hid hfo
        have hnb : ¬ P9 = rb := by have := HRL5.out; omega
        have hp9B : Box wB P9 TT #[.int .i64 sd.f.kd, .int .i64 0, .string sd.f.nm, .slice va ys.length vc] := HKB.out.box (HP9.out.below HBA.out HP9.out.lt) hnb
        have hrbt : ∀ b, b = rb → ¬ TyB TT wA b := fun b e => by rw [e]; exact Box.notTyB (HRB.out.below HBA.out HRB.out.lt) (by decide)
        have howB : OwnW W5.heap.size wB (.slice va ys.length vc) ys := (HOW.out.kept (X := fun _ => False) (Kept.of_below HBA.out (Nat.le_refl _) _) (fun _ e => e.elim)).kept HKB.out hrbt
        obtain ⟨vs, o1, o2⟩ := howB
        obtain ⟨i0, hi0, hi1, hi2, hi3⟩ := info_parts Ttype
        obtain ⟨wC, hwC⟩ : ∃ wC, wB.alloc (.cells #[.int .i64 y.kd, .int .i64 y.n, .string y.nm, .slice a9 y.args.len c9] TT) = wC := ⟨_, rfl⟩
        obtain ⟨wD, hwD⟩ : ∃ wD, wC.alloc (.cells #[.int .i64 y.kd, .int .i64 y.n, .string y.nm, .slice a9 y.args.len c9] TT) = wD := ⟨_, rfl⟩
        have hzC : wC.heap.size = wB.heap.size + 1 := by rw [← hwC]; simp
        have hzD : wD.heap.size = wB.heap.size + 2 := by rw [← hwD]; simp [hzC]
        have hBD : Below wB.heap.size wB wD := by rw [← hwD, ← hwC]; exact ((Below.refl _ wB).alloc (Nat.le_refl _) _).alloc (by simp) _
        have hN : Box wD wC.heap.size TT #[.int .i64 y.kd, .int .i64 y.n, .string y.nm, .slice a9 y.args.len c9] := by rw [← hwD]; exact Box.new _ _ _
        have hWB : wr.heap.size + 1 ≤ wB.heap.size := by have := HKB.out.size; have := HZA.out; omega
        have hyle : ys.length < sd.f.args.len := by have := HYL.out; omega
        have hb1 : ys.length + 1 ≤ maxLen := by unfold maxLen; omega
        have hb2 : (ys.length + 1) * 56 ≤ 140737488355328 := by have := HCL.out.ln; omega
        obtain ⟨v9, wE, hr9, hown, hgrow, _, hlies⟩ := run_append_own_at (P := Try.prog) (w := wD) W5.heap.size TTs TTs TT i0 _ 4 56 Try.underlying27 hi0 hi1 hi2 hi3 rfl (by decide) (.slice va ys.length vc) ys.length vs (own_here o1 hBD) ⟨wC.heap.size, 0, none⟩ 1 1 [.int .i64 y.kd, .int .i64 y.n, .string y.nm, .slice a9 y.args.len c9] rfl
          (news_of_box hN) (by simp [Value.oneCell']) hb1 hb2 (by have := HRL5.out; omega)
        obtain ⟨g9, cap9, rfl⟩ := ownsRow_succ hown
        have hgr : ((wB.alloc (.cells #[.int .i64 y.kd, .int .i64 y.n, .string y.nm, .slice a9 y.args.len c9] TT)).alloc (.cells #[.int .i64 y.kd, .int .i64 y.n, .string y.nm, .slice a9 y.args.len c9] TT)).grownBy wE (Value.slice va ys.length vc).ownBlock := by rw [hwC, hwD]; exact hgrow
        have hzy : RdT (fun b => ZN W5.heap.size wB b ∧ (Value.slice va ys.length vc).ownBlock ≠ some b) wB a9 y.args 0 := hy1.mono fun b q => ⟨⟨by have := q.1; have := HZA.out; have := HRL5.out; omega, q.2⟩, fun e => by
          obtain ⟨vs0, o0, _⟩ := HOW.out
          have := (own_tyB o0 e).2.lt
          have := q.1
          have := HZA.out
          omega⟩
        have HPU := Lib.hid (whole_push o1 o2 (by have := HRL5.out; omega) HRL5.out.1 hp9B hzy hy2 hy3 hown hgr (hlies.imp id fun e => e.trans (by rw [hzD])))
        have hpE : Box wE P9 TT #[.int .i64 sd.f.kd, .int .i64 0, .string sd.f.nm, .slice va ys.length vc] := ((hp9B.alloc _).alloc _).grown hgr (fun e => by have := (own_tyB o1 e.symm).1; have := HRL5.out.1; omega)
        have k3 : wC.cell? ⟨P9, 3, none⟩ = some (.slice va ys.length vc) := by rw [← hwC]; exact (hp9B.alloc _).cell 3
        have m3 := hpE.cell 3
        have f3 := hpE.free 3
        have hX12 : Box wC wB.heap.size TT #[.int .i64 y.kd, .int .i64 y.n, .string y.nm, .slice a9 y.args.len c9] := by rw [← hwC]; exact Box.new _ _ _
        obtain ⟨t0, t1, t2, t3, _⟩ := hX12.cells4
        have HLE2 := Lib.hid hle
        have zPB := hp9B.lt
        have HBW := Lib.hid (And.intro hWB hyle)
        clear hfo hnb hp9B hrbt o1 o2 hi0 hi1 hi2 hi3 hzC hzD hBD hN hb1 hb2 hown hgrow hgr hlies hzy hpE hX12 hy1 hy2 hy3 hWB hyle hle
        go_wp2_with fail
        obtain ⟨W9, hW9⟩ : ∃ W9, wE.setCell ⟨P9, 3, none⟩ (.slice (some ⟨g9, 0, none⟩) (ys.length + 1) cap9) = W9 := ⟨_, rfl⟩
        rw [hW9] at HPU
        rw [hW9]
        clear hW9 hwC hwD hr9 k3 m3 f3 t0 t1 t2 t3
        go_wp2_with fail
        clear had2
        rw [← HEL.out]
        go_roundg (sd.f.args.len - (i + 1))
        case measure => have := HID.out; omega
        case rel =>
          have kB : Kept (fun b => b = rb ∨ b = P9 ∨ W5.heap.size ≤ b) W5 W9 := (((HKP.out.trans (Kept.of_below HBA.out (Nat.le_refl _) _)).trans (HKB.out.mono fun b _ e => .inl e))).trans (HPU.out.2.2.mono fun b _ e => .inr e)
          exact ⟨i + 1, by have := HID.out; omega, by go_num, ro', _, ys ++ [y], HFO2.out, by have := HLE2.out; omega, by rw [List.length_append, HYL.out]; rfl, HPU.out.2.2.box HRB2.out (fun e => by have := HRL5.out; omega), HPU.out.1, HPU.out.2.1, kB⟩
    · have hge : ¬ (i : Int) < sd.f.args.len := by omega
      have hil : i = sd.f.args.len := by omega
      have hfo := HFO.out
      rw [List.drop_of_length_le (by rw [hil, HCL.out.len]; exact Nat.le_refl _)] at hfo
      unfold foldW at hfo
      simp only [Option.some.injEq] at hfo
      have HRR := Lib.hid hfo
      have HIL := Lib.hid hil
      obtain ⟨p0, p1, p2, p3, _⟩ := HP9.out.cells4
      obtain ⟨W6, hW6, hbx, hwr⟩ := H6R.out.write4 (.int .i64 sd.f.kd) (.int .i64 0) (.string sd.f.nm) (.slice va ys.length vc)
      obtain ⟨q0, q1, q2, q3, _⟩ := hbx.cells4
      have HQ := Lib.hid (And.intro q0 (And.intro q1 (And.intro q2 q3)))
      have HW6 : Hid (Kept (fun b => b = w.heap.size + 1) wr W6) := Lib.hid (by
        rw [← hW6]
        exact (((((Kept.refl (fun b => b = w.heap.size + 1) wr).setCell (a := ⟨w.heap.size + 1, 0, none⟩) (fun _ => rfl) _).setCell (a := ⟨w.heap.size + 1, 1, none⟩) (fun _ => rfl) _).setCell (a := ⟨w.heap.size + 1, 2, none⟩) (fun _ => rfl) _).setCell (a := ⟨w.heap.size + 1, 3, none⟩) (fun _ => rfl) _))
      obtain ⟨s0, s1, s2, s3, sf0, sf1, sf2, sf3⟩ := H6R.out.cells4
      clear hfo hil hbx hwr q0 q1 q2 q3
      go_wp2_with fail
      obtain ⟨q0, q1, q2, q3⟩ := HQ.out
      refine bodyPost_ret (v := .tuple #[.agg #[.int .i64 sd.f.kd, .int .i64 0, .string sd.f.nm, .slice va ys.length vc], .bool true]) (by simp [results, Try.results20, go_sem, q0, q1, q2, q3]) rfl ?_
      rw [← HRR.out]
      have k1 : Kept (fun b => b = rb ∨ w.heap.size ≤ b) w wr := HT.out.kp.trans (HK1.out.mono fun b _ e => e.imp id fun e => by omega)
      have hle2 : ys.length ≤ sd.f.args.len := by have := HYL.out; omega
      refine ⟨⟨va, vc, ?_, ?_, ?_, ?_⟩, HW6.out.box HRB.out (by have := HRL.out; omega), (k1.trans (HW6.out.mono fun b _ e => .inr (by omega))).mono fun b hb e => e.elim id fun e => by omega⟩
      · rw [HCL.out.kd, HCL.out.nm, show (Tys.ofL ys).len = ys.length by rw [← Tys.toL_len, Tys.toL_ofL]]
      · have hz : ∀ b, ZN W5.heap.size wr b → W6.heap[b]? = wr.heap[b]? := fun b q => HW6.out.block b q.2.lt (by have := q.1; omega)
        exact HOR.out.frame (fun b o q => World.cell?_of_block (hz b q)) (fun ad q => World.cell?_of_block (hz _ q)) fun b q => ⟨by have := q.1; omega, q.2.same (hz b q)⟩
      · rw [show (Tys.ofL ys).len = ys.length by rw [← Tys.toL_len, Tys.toL_ofL]]
        have := HCL.out.ln
        omega
      · rw [← HCL.out.nm]; exact HCL.out.sz
end Go.Proofs.Ytcaioffdcbjbjaa.Un
/-
  CONTRACTS of layer unify: a type as it is known, whole; Resolve.
-/
namespace Go.Proofs.Ytcaioffdcbjbjaa.Un
open Go.RowKit Go.Shelf Mm Tm Mk Go.Maps Go.ChangeMaps Go.MapKept Go.WideMaps Rg
set_option linter.unusedVariables false
set_option linter.unusedSimpArgs false
theorem whole_any {base s m rb cnt q : Nat} {nx : Int} {K : PS} (hbr : base ≤ rb) : ∀ k, WholeC base s m rb cnt q k nx K := by
  intro k
  induction k with
  | zero =>
    intro x a c w room r hS hR hx hro hw
    unfold wholeP at hw
    split at hw
    · rename_i h0
      subst h0
      injection hw with hw
      subst hw
      exact whole_zero (cnt := cnt) (base := base) (m := m) (nx := nx) (K := K) w hR
    · cases hw
  | succ k ih =>
    intro x a c w room r hS hR hx hro hw
    unfold wholeP at hw
    split at hw
    · rename_i h0
      subst h0
      injection hw with hw
      subst hw
      exact whole_zero (cnt := cnt) (base := base) (m := m) (nx := nx) (K := K) w hR
    · rename_i h0
      obtain ⟨j, rfl⟩ : ∃ j, room = j + 1 := ⟨room - 1, by omega⟩
      have hR' : Box w rb TI #[.int .i64 ((j : Int) + 1)] := by rw [show (j : Int) + 1 = ((j + 1 : Nat) : Int) by omega]; exact hR
      rw [Nat.add_sub_cancel] at hw
      split at hw
      · cases hw
      · rename_i n l d h ht
        injection hw with hw
        subst hw
        exact whole_open w hS hR' (by omega) ht
      · rename_i sd hno ht
        obtain ⟨rr, hf, rfl⟩ := Option.map_eq_some_iff.1 hw
        have ho : sd.isOpn = false := by
          cases sd with
          | typ y => rfl
          | var n f =>
            cases f with
            | link r => rfl
            | typ kd nm xs => rfl
            | opn l d h => exact absurd rfl (hno n l d h)
        exact whole_parts w hS hR' hx hbr (by omega) ht ho ih hf
/-- what Resolve tells -/
def ResV (base : Nat) (o : Option Ty) (w' : World) (e : Ending) : Prop := match o with
  | none => e = .returned (.tuple #[zeroTV, .int .i64 102])
  | some y => ∃ a c, e = .returned (.tuple #[.agg #[.int .i64 y.kd, .int .i64 y.n, .string y.nm, .slice a y.args.len c], .int .i64 0]) ∧ RdT (ZN base w') w' a y.args 0 ∧ y.args.len * 56 ≤ 140737488355328 ∧ y.nm.size ≤ 9223372036854775807
def ResPost (base s m : Nat) (nx : Int) (K : PS) (cnt : Nat) (o : Option Ty) (w : World) (e : Ending) (w' : World) : Prop := ResV w.heap.size o w' e ∧ StoreI base w' s m nx K cnt ∧ Kept (fun b => b = s) w w'
set_option maxRecDepth 100000 in
set_option maxHeartbeats 8000000 in
theorem resolve_ok {base s m cnt cx q k : Nat} {nx : Int} {K : PS} {x : Ty} {ax : Option Addr} {r : Nat × Option Ty} (w : World) (hS : StoreI base w s m nx K cnt) (hb : base ≤ w.heap.size) (hx : TyR base w x ax) (okx : okTy x = true) (hw : wholeP q K k 256 x = some r) :
    Calls Try.prog 8 #[.pointer (some ⟨s, 0, none⟩), .agg #[.int .i64 x.kd, .int .i64 x.n, .string x.nm, .slice ax x.args.len cx]] w (ResPost base s m (given1 nx x) K cnt r.2 w) := by
  obtain ⟨W0, hW0⟩ : ∃ W0, (w.alloc (.cells #[.int .i64 x.kd, .int .i64 x.n, .string x.nm, .slice ax x.args.len cx] TT)).alloc (.cells zeroT TT) = W0 := ⟨_, rfl⟩
  have hB0 : Below w.heap.size w W0 := by rw [← hW0]; exact ((Below.refl w.heap.size w).alloc (Nat.le_refl _) _).alloc (by simp) _
  have hX0 : Box W0 w.heap.size TT #[.int .i64 x.kd, .int .i64 x.n, .string x.nm, .slice ax x.args.len cx] := by rw [← hW0]; exact (Box.new w _ _).alloc _
  have hR0 : Box W0 (w.heap.size + 1) TT zeroT := by rw [← hW0]; exact Box.at_ _ _ (by simp)
  have HAS := Lib.hid (asked_ok (cx := cx) W0 (hS.below hB0) (hx.below hB0) okx)
  have HB0 := Lib.hid hB0
  have HX0 := Lib.hid (And.intro hX0 (And.intro hR0 (hx.below hB0)))
  have HW := Lib.hid hw
  have HSS := Lib.hid (And.intro hS.box.lt (And.intro hS.bs hS.box))
  have HSO := Lib.hid hS
  obtain ⟨x0, x1, x2, x3, _⟩ := hX0.cells4
  clear hS hx okx hw hB0 hX0 hR0
  go_enter Try.func8, Try.ntmps8
  go_wp2_with fail
  refine HAS.out.mono ?_
  rintro e W1 ⟨rfl, hS1, hk1⟩
  have hX1 : Box W1 w.heap.size TT _ := hk1.box HX0.out.1 (fun e => by have := HSS.out.1; omega)
  have hR1 : Box W1 (w.heap.size + 1) TT zeroT := hk1.box HX0.out.2.1 (fun e => by have := HSS.out.1; omega)
  have hx1 : TyR base W1 x ax := HX0.out.2.2.kept hk1 (fun b e => by rw [e]; exact ⟨HSS.out.2.1, Box.notTyB (HSS.out.2.2.below HB0.out HSS.out.1) (by decide)⟩)
  obtain ⟨W2, hW2⟩ : ∃ W2, W1.alloc (.cells #[.int .i64 256] TI) = W2 := ⟨_, rfl⟩
  have hB2 : Below W1.heap.size W1 W2 := by rw [← hW2]; exact (Below.refl _ W1).alloc (Nat.le_refl _) _
  have hrb : Box W2 W1.heap.size TI #[.int .i64 ((256 : Nat) : Int)] := by rw [← hW2]; exact Box.new _ _ _
  have hz1 : w.heap.size + 1 < W1.heap.size := hR1.lt
  have HWH := Lib.hid (whole_any (base := base) (s := s) (m := m) (rb := W1.heap.size) (cnt := cnt) (q := q) (nx := given1 nx x) (K := K) (by have := HB0.out.size; omega) k x ax cx W2 256 r (hS1.below hB2) hrb (hx1.below hB2) (Nat.le_refl _) HW.out)
  have HS2 := Lib.hid (And.intro (hS1.below hB2) hrb)
  have HK2 : Hid (Kept (fun b => b = s ∨ w.heap.size ≤ b) w W2) := Lib.hid (((Kept.of_below HB0.out (Nat.le_refl _) _).trans (hk1.mono fun b _ e => .inl e)).trans (Kept.of_below hB2 (Nat.le_refl _) _))
  have HR1 := Lib.hid (hR1.below hB2 hR1.lt)
  have hX2 := hX1.below hB2 hX1.lt
  have zX1 := hX1.lt
  have HZ2 : Hid (W2.heap.size = W1.heap.size + 1) := Lib.hid (by rw [← hW2]; simp)
  have HW2 := Lib.hid hW2
  have HBB := Lib.hid (And.intro hb HB0.out.size)
  clear hS1 hk1 hx1 hB2 hrb hR1 x0 x1 x2 x3 hW0
  obtain ⟨x0, x1, x2, x3, _⟩ := hX1.cells4
  obtain ⟨y0, y1, y2, y3, _⟩ := hX2.cells4
  clear hX1 hX2
  go_wp2_with fail
  refine HWH.out.mono ?_
  rintro e W3 ⟨hV, hr3, hk3⟩
  have HK3 := Lib.hid hk3
  have HS3 := Lib.hid (HS2.out.1.room HS2.out.2 (hk3.mono fun b _ e => .inl e))
  have HR3 := Lib.hid (hk3.box HR1.out (fun e => by omega))
  have zW3 : W1.heap.size < W3.heap.size := hr3.lt
  clear hr3 hk3 x0 x1 x2 x3 y0 y1 y2 y3 hW2
  obtain ⟨ro, o⟩ := r
  cases o with
  | none =>
    have he : e = .returned (.tuple #[zeroTV, .bool false]) := hV
    subst he
    clear hV
    obtain ⟨W6, hW6, hbx, hwr⟩ := (HR3.out.alloc (.cells zeroT TT)).write4 (.int .i64 0) (.int .i64 0) (.string ⟨#[]⟩) (.slice none 0 0)
    obtain ⟨q0, q1, q2, q3, _⟩ := hbx.cells4
    have HQ := Lib.hid (And.intro q0 (And.intro q1 (And.intro q2 q3)))
    have HW6 : Hid (Kept (fun b => b = w.heap.size + 1) (W3.alloc (.cells zeroT TT)) W6) := Lib.hid (by
      rw [← hW6]
      exact (((((Kept.refl (fun b => b = w.heap.size + 1) (W3.alloc (.cells zeroT TT))).setCell (a := ⟨w.heap.size + 1, 0, none⟩) (fun _ => rfl) _).setCell (a := ⟨w.heap.size + 1, 1, none⟩) (fun _ => rfl) _).setCell (a := ⟨w.heap.size + 1, 2, none⟩) (fun _ => rfl) _).setCell (a := ⟨w.heap.size + 1, 3, none⟩) (fun _ => rfl) _))
    obtain ⟨s0, s1, s2, s3, sf0, sf1, sf2, sf3⟩ := (HR3.out.alloc (.cells zeroT TT)).cells4
    clear hbx hwr q0 q1 q2 q3
    go_wp2_with fail
    obtain ⟨q0, q1, q2, q3⟩ := HQ.out
    refine bodyPost_ret (v := .tuple #[zeroTV, .int .i64 102]) (by simp [results, Try.results8, go_sem, q0, q1, q2, q3]) rfl ?_
    have k1 : Kept (fun b => b = s ∨ w.heap.size ≤ b) w W6 := (((HK2.out.trans (HK3.out.mono fun b _ e => .inr (by omega))).alloc _).trans (HW6.out.mono fun b _ e => .inr (by omega)))
    have k2 : Kept (fun b => b = s) w W6 := k1.mono fun b hb e => e.elim id fun e => by omega
    have hbs : Box W6 s TSt #[.map (some m), .int .i64 (given1 nx x)] := HW6.out.box (HS3.out.box.alloc _) (fun e => by have := HSS.out.1; omega)
    exact ⟨rfl, HSO.out.given hbs k2, k2⟩
  | some y =>
    obtain ⟨a9, c9, rfl, hy1, hy2, hy3⟩ := hV
    obtain ⟨W4, hW4⟩ : ∃ W4, W3.alloc (.cells #[.int .i64 y.kd, .int .i64 y.n, .string y.nm, .slice a9 y.args.len c9] TT) = W4 := ⟨_, rfl⟩
    have h6 : Box W4 (w.heap.size + 1) TT zeroT := by rw [← hW4]; exact HR3.out.alloc _
    have h8 : Box W4 W3.heap.size TT #[.int .i64 y.kd, .int .i64 y.n, .string y.nm, .slice a9 y.args.len c9] := by rw [← hW4]; exact Box.new _ _ _
    obtain ⟨W6, hW6, hbx, hwr⟩ := h6.write4 (.int .i64 y.kd) (.int .i64 y.n) (.string y.nm) (.slice a9 y.args.len c9)
    obtain ⟨q0, q1, q2, q3, _⟩ := hbx.cells4
    have HQ := Lib.hid (And.intro q0 (And.intro q1 (And.intro q2 q3)))
    have HW6 : Hid (Kept (fun b => b = w.heap.size + 1) (W3.alloc (.cells #[.int .i64 y.kd, .int .i64 y.n, .string y.nm, .slice a9 y.args.len c9] TT)) W6) := Lib.hid (by
      rw [← hW6, ← hW4]
      exact (((((Kept.refl (fun b => b = w.heap.size + 1) (W3.alloc (.cells #[.int .i64 y.kd, .int .i64 y.n, .string y.nm, .slice a9 y.args.len c9] TT))).setCell (a := ⟨w.heap.size + 1, 0, none⟩) (fun _ => rfl) _).setCell (a := ⟨w.heap.size + 1, 1, none⟩) (fun _ => rfl) _).setCell (a := ⟨w.heap.size + 1, 2, none⟩) (fun _ => rfl) _).setCell (a := ⟨w.heap.size + 1, 3, none⟩) (fun _ => rfl) _))
    obtain ⟨s0, s1, s2, s3, sf0, sf1, sf2, sf3⟩ := h6.cells4
    obtain ⟨t0, t1, t2, t3, _⟩ := h8.cells4
    have HY := Lib.hid (And.intro hy1 (And.intro hy2 hy3))
    clear hbx hwr q0 q1 q2 q3 hy1 hy2 hy3 h6 h8
    go_wp2_with fail
    obtain ⟨q0, q1, q2, q3⟩ := HQ.out
    refine bodyPost_ret (v := .tuple #[.agg #[.int .i64 y.kd, .int .i64 y.n, .string y.nm, .slice a9 y.args.len c9], .int .i64 0]) (by simp [results, Try.results8, go_sem, q0, q1, q2, q3]) rfl ?_
    have k1 : Kept (fun b => b = s ∨ w.heap.size ≤ b) w W6 := (((HK2.out.trans (HK3.out.mono fun b _ e => .inr (by omega))).alloc _).trans (HW6.out.mono fun b _ e => .inr (by omega)))
    have k2 : Kept (fun b => b = s) w W6 := k1.mono fun b hb e => e.elim id fun e => by omega
    have hbs : Box W6 s TSt #[.map (some m), .int .i64 (given1 nx x)] := HW6.out.box (HS3.out.box.alloc _) (fun e => by have := HSS.out.1; omega)
    have hz : ∀ b, ZN W2.heap.size W3 b → W6.heap[b]? = W3.heap[b]? := fun b q => (HW6.out.block b (by have := q.2.lt; simp; omega) (by have := q.1; have := HZ2.out; omega)).trans (Below.heap_alloc _ _ _ q.2.lt)
    refine ⟨⟨a9, c9, rfl, HY.out.1.frame (fun b o q => World.cell?_of_block (hz b q)) (fun ad q => World.cell?_of_block (hz _ q)) (fun b q => ⟨by have := q.1; have := HZ2.out; omega, q.2.same (hz b q)⟩), HY.out.2.1, HY.out.2.2⟩, HSO.out.given hbs k2, k2⟩
end Go.Proofs.Ytcaioffdcbjbjaa.Un
/-
  CONTRACTS: the types that the fixed calls are made of: a variable, a constructor, a function.
-/
namespace Go.Proofs.Ytcaioffdcbjbjaa.Un
open Go.RowKit Go.Shelf Mm Tm Mk Go.Maps Go.ChangeMaps Go.MapKept Go.WideMaps Rg
set_option linter.unusedVariables false
set_option linter.unusedSimpArgs false
/-- a type that is made: its parts lie in blocks of the call's own -/
def NewT (y : Ty) (w : World) (e : Ending) (w' : World) : Prop := ∃ a c, e = .returned (.agg #[.int .i64 y.kd, .int .i64 y.n, .string y.nm, .slice a y.args.len c]) ∧ RdT (ZN w.heap.size w') w' a y.args 0 ∧ Below w.heap.size w w'
theorem rvar_any (n : Int) (w : World) : Calls Try.prog 11 #[.int .i64 n] w (NewT (vrT n) w) := by
  have HB0 := Lib.hid ((Below.refl w.heap.size w).alloc (Nat.le_refl _) (.cells #[.int .i64 1, .int .i64 n, .string ⟨#[]⟩, .slice none 0 0] TT))
  have HX := Lib.hid (Box.new w #[.int .i64 1, .int .i64 n, .string ⟨#[]⟩, .slice none 0 0] TT)
  go_enter Try.func11, Try.ntmps11
  go_wp2_with fail
  obtain ⟨q0, q1, q2, q3, _⟩ := HX.out.cells4
  refine bodyPost_ret (v := .agg #[.int .i64 1, .int .i64 n, .string ⟨#[]⟩, .slice none 0 0]) (by simp [results, Try.results11, go_sem, q0, q1, q2, q3]) rfl ?_
  exact ⟨none, 0, rfl, trivial, HB0.out⟩
theorem named_any (nm : ByteArray) (w : World) : Calls Try.prog 13 #[.string nm] w (NewT (conT nm) w) := by
  have HB0 := Lib.hid ((Below.refl w.heap.size w).alloc (Nat.le_refl _) (.cells #[.int .i64 2, .int .i64 0, .string nm, .slice none 0 0] TT))
  have HX := Lib.hid (Box.new w #[.int .i64 2, .int .i64 0, .string nm, .slice none 0 0] TT)
  go_enter Try.func13, Try.ntmps13
  go_wp2_with fail
  obtain ⟨q0, q1, q2, q3, _⟩ := HX.out.cells4
  refine bodyPost_ret (v := .agg #[.int .i64 2, .int .i64 0, .string nm, .slice none 0 0]) (by simp [results, Try.results13, go_sem, q0, q1, q2, q3]) rfl ?_
  exact ⟨none, 0, rfl, trivial, HB0.out⟩
set_option maxRecDepth 100000 in
theorem to_any {x y : Ty} {ax ay : Option Addr} {cx cy B : Nat} (w : World) (hB : B ≤ w.heap.size) (hx : RdT (ZN B w) w ax x.args 0) (hy : RdT (ZN B w) w ay y.args 0) (lx : x.args.len * 56 ≤ 140737488355328) (ly : y.args.len * 56 ≤ 140737488355328) (nx : x.nm.size ≤ 9223372036854775807) (ny : y.nm.size ≤ 9223372036854775807) :
    Calls Try.prog 12 #[.agg #[.int .i64 x.kd, .int .i64 x.n, .string x.nm, .slice ax x.args.len cx], .agg #[.int .i64 y.kd, .int .i64 y.n, .string y.nm, .slice ay y.args.len cy]] w (fun e w' => ∃ a c, e = .returned (.agg #[.int .i64 3, .int .i64 0, .string ⟨#[]⟩, .slice a (toT x y).args.len c]) ∧ RdT (ZN B w') w' a (toT x y).args 0 ∧ Below w.heap.size w w') := by
  obtain ⟨W0, hW0⟩ : ∃ W0, ((w.alloc (.cells #[.int .i64 x.kd, .int .i64 x.n, .string x.nm, .slice ax x.args.len cx] TT)).alloc (.cells #[.int .i64 y.kd, .int .i64 y.n, .string y.nm, .slice ay y.args.len cy] TT)).alloc (.cells zeroT TT) = W0 := ⟨_, rfl⟩
  have hB0 : Below w.heap.size w W0 := by rw [← hW0]; exact (((Below.refl w.heap.size w).alloc (Nat.le_refl _) _).alloc (by simp) _).alloc (by simp; omega) _
  have hX0 : Box W0 w.heap.size TT #[.int .i64 x.kd, .int .i64 x.n, .string x.nm, .slice ax x.args.len cx] := by rw [← hW0]; exact ((Box.new w _ _).alloc _).alloc _
  have hY0 : Box W0 (w.heap.size + 1) TT #[.int .i64 y.kd, .int .i64 y.n, .string y.nm, .slice ay y.args.len cy] := by rw [← hW0]; exact (Box.at_ _ _ (by simp)).alloc _
  have hR0 : Box W0 (w.heap.size + 2) TT zeroT := by rw [← hW0]; exact Box.at_ _ _ (by simp)
  obtain ⟨W1, hW1⟩ : ∃ W1, W0.alloc (.cells #[.int .i64 x.kd, .int .i64 x.n, .string x.nm, .slice ax x.args.len cx, .int .i64 y.kd, .int .i64 y.n, .string y.nm, .slice ay y.args.len cy] TT) = W1 := ⟨_, rfl⟩
  have hB1 : Below W0.heap.size W0 W1 := by rw [← hW1]; exact (Below.refl _ W0).alloc (Nat.le_refl _) _
  have hN : Box W1 W0.heap.size TT #[.int .i64 x.kd, .int .i64 x.n, .string x.nm, .slice ax x.args.len cx, .int .i64 y.kd, .int .i64 y.n, .string y.nm, .slice ay y.args.len cy] := by rw [← hW1]; exact Box.new _ _ _
  have hR1 := hR0.below hB1 hR0.lt
  obtain ⟨W2, hW2, hbx, hwr⟩ := hR1.write4 (.int .i64 3) (.int .i64 0) (.string ⟨#[]⟩) (.slice (some ⟨W0.heap.size, 0, none⟩) 2 2)
  obtain ⟨q0, q1, q2, q3, _⟩ := hbx.cells4
  have hBW : Below w.heap.size w W2 := hwr.below (hB0.trans (hB1.mono hB0.size)) (by omega)
  have hN2 : Box W2 W0.heap.size TT _ := hN.wrote hwr (by have := hR0.lt; omega)
  have hzz : ∀ b, ZN B w b → ZN B W2 b := fun b q => ⟨q.1, q.2.below hBW⟩
  have hx2 : RdT (ZN B W2) W2 ax x.args 0 := (hx.below hBW fun b q => q.2.lt).mono hzz
  have hy2 : RdT (ZN B W2) W2 ay y.args 0 := (hy.below hBW fun b q => q.2.lt).mono hzz
  have HFIN : Hid (RdT (ZN B W2) W2 (some ⟨W0.heap.size, 0, none⟩) (toT x y).args 0) := Lib.hid (by
    refine RdT.mk fun i z hz => ?_
    have hzb : ZN B W2 W0.heap.size := ⟨Nat.le_trans hB hB0.size, ⟨_, hN2⟩⟩
    match i, hz with
    | 0, hz =>
      have e : x = z := by simpa [toT, Tys.toL_ofL] using hz
      subst e
      exact ⟨⟨W0.heap.size, 0, none⟩, ax, cx, rfl, hzb, hN2.cell 0, hN2.cell 1, hN2.cell 2, hN2.cell 3, nx, lx, hx2⟩
    | 1, hz =>
      have e : y = z := by simpa [toT, Tys.toL_ofL] using hz
      subst e
      exact ⟨⟨W0.heap.size, 0, none⟩, ay, cy, rfl, hzb, hN2.cell 4, hN2.cell 5, hN2.cell 6, hN2.cell 7, ny, ly, hy2⟩
    | i + 2, hz => simp [toT, Tys.toL_ofL] at hz)
  have HQ := Lib.hid (And.intro q0 (And.intro q1 (And.intro q2 q3)))
  have HBW := Lib.hid hBW
  obtain ⟨x0, x1, x2, x3, _⟩ := hX0.cells4
  obtain ⟨y0, y1, y2, y3, _⟩ := hY0.cells4
  obtain ⟨s0, s1, s2, s3, sf0, sf1, sf2, sf3⟩ := hR1.cells4
  clear hx hy hB0 hX0 hY0 hR0 hB1 hN hR1 hbx hwr q0 q1 q2 q3 hBW hN2 hzz hx2 hy2 lx ly nx ny
  go_enter Try.func12, Try.ntmps12
  go_wp2_with fail
  obtain ⟨q0, q1, q2, q3⟩ := HQ.out
  refine bodyPost_ret (v := .agg #[.int .i64 3, .int .i64 0, .string ⟨#[]⟩, .slice (some ⟨W0.heap.size, 0, none⟩) 2 2]) (by simp [results, Try.results12, go_sem, q0, q1, q2, q3]) rfl ?_
  exact ⟨_, _, rfl, HFIN.out, HBW.out⟩
end Go.Proofs.Ytcaioffdcbjbjaa.Un
/-
  CONTRACT: what must come of fixed calls: known.
-/
namespace Go.Proofs.Ytcaioffdcbjbjaa.Un
open Go.RowKit Go.Shelf Mm Tm Mk Go.Maps Go.ChangeMaps Go.MapKept Go.WideMaps Rg
set_option linter.unusedVariables false
set_option linter.unusedSimpArgs false
abbrev K0 : PS := fun _ => none
theorem storeF_none (l : Lit) : (fun _ => none : FK) l = storeF (fun _ => none) l := by
  cases l <;> try rfl
  rename_i k x
  cases k <;> rfl
/-- a new store -/
def NewS (base : Nat) (w : World) (e : Ending) (w' : World) : Prop := ∃ s m, e = .returned (.pointer (some ⟨s, 0, none⟩)) ∧ w.heap.size ≤ s ∧ w.heap.size ≤ m ∧ StoreI base w' s m 0 K0 0 ∧ Below w.heap.size w w'
theorem new_store {base : Nat} (w : World) (hb : base ≤ w.heap.size) : Calls Try.prog 6 #[] w (NewS base w) := (new_any w).mono fun e w' ⟨s, m, h1, h2, h3, h4, h5, h6⟩ =>
  ⟨s, m, h1, h2, h3, ⟨h4, ⟨fun _ => none, h5.congr storeF_none, fun n => trivial⟩, Nat.le_trans hb h2, Nat.le_trans hb h3⟩, h6⟩
theorem tyR_var (base : Nat) (w : World) (n : Int) : TyR base w (vrT n) none := ⟨trivial, by simp [Tys.len], Nat.zero_le _⟩
theorem tyR_zn {base B : Nat} {w : World} {x : Ty} {a : Option Addr} (h : RdT (ZN B w) w a x.args 0) (hB : base ≤ B) (h1 : x.args.len * 56 ≤ 140737488355328) (h2 : x.nm.size ≤ 9223372036854775807) : TyR base w x a :=
  ⟨h.mono fun b q => .inr ⟨Nat.le_trans hB q.1, q.2, fun e => e⟩, h1, h2⟩
/-- another store's calls leave a store -/
theorem StoreI.other {base s m s2 m2 cnt cnt2 : Nat} {nx nx2 : Int} {K K2 : PS} {w w' : World} (h : StoreI base w s m nx K cnt) (h2 : StoreI base w s2 m2 nx2 K2 cnt2) (hs : s ≠ s2) (hm : m ≠ m2) (hk : KU base s2 m2 w w') : StoreI base w' s m nx K cnt := by
  have hD : ∀ b, (b = s2 ∨ b = m2) → ¬ TyB TT w b := by
    rintro b (rfl | rfl)
    · exact Box.notTyB h2.box (by decide)
    · obtain ⟨KS, q, _⟩ := h2.kn
      exact map_notTyB q
  obtain ⟨z1, z2⟩ := KG.zt (Y := N0) hk hD (by decide)
  refine ⟨hk.box h.box (fun e => e.elim hs fun e => h2.kn.ne h.box e.symm) (by decide), h.kn.frame (hk.block m h.kn.lt ?_) z1 z2, h.bs, h.bm⟩
  rintro ⟨_, (e | e) | ⟨t, _, q⟩⟩
  · exact h.kn.ne h2.box e
  · exact hm e
  · obtain ⟨KS, q', _⟩ := h.kn
    exact map_notTyB q' q
theorem TyR.ku {base s2 m2 cnt2 : Nat} {nx2 : Int} {K2 : PS} {w w' : World} {x : Ty} {a : Option Addr} (h : TyR base w x a) (h2 : StoreI base w s2 m2 nx2 K2 cnt2) (hk : KU base s2 m2 w w') : TyR base w' x a := by
  have hD : ∀ b, (b = s2 ∨ b = m2) → ¬ TyB TT w b := by
    rintro b (rfl | rfl)
    · exact Box.notTyB h2.box (by decide)
    · obtain ⟨KS, q, _⟩ := h2.kn
      exact map_notTyB q
  obtain ⟨z1, z2⟩ := KG.zu (Y := N0) hk hD (by decide)
  exact ⟨h.1.frame (fun b o hz => z1 ⟨b, o, none⟩ hz) z1 z2, h.2⟩
end Go.Proofs.Ytcaioffdcbjbjaa.Un
/-
  CONTRACT: what must come of fixed calls: known: the function.
-/
namespace Go.Proofs.Ytcaioffdcbjbjaa.Un
open Go.RowKit Go.Shelf Mm Tm Mk Go.Maps Go.ChangeMaps Go.MapKept Go.WideMaps Rg
set_option linter.unusedVariables false
set_option linter.unusedSimpArgs false
theorem nx1 : given1 (given1 0 (vrT 0)) (toT (conT nmI) (vrT 1)) = 2 := by kernel_rfl
theorem nx2 : given1 (given1 2 (vrT 0)) (toT (vrT 2) (conT nmB)) = 3 := by kernel_rfl
theorem nx3 : given1 3 (vrT 0) = 3 := by kernel_rfl
theorem cn1 : u1.2.2 ≤ 100000000000 := by rw [u1_cnt]; decide
theorem okv (n : Int) (h : headV n noN 0 = true) : okTy (vrT n) = true := by unfold okTy; rw [if_pos rfl]; exact h
set_option maxRecDepth 100000 in
set_option maxHeartbeats 16000000 in
theorem known_any (w : World) : Calls Try.prog 5 #[] w (fun e w' => e = .returned (.bool true) ∧ Below w.heap.size w w') := by
  obtain ⟨base, hbase⟩ : ∃ base, w.heap.size = base := ⟨_, rfl⟩
  rw [hbase]
  have HBA := Lib.hid hbase
  have HB0 : Hid (Below base w w) := Lib.hid (Below.refl _ w)
  clear hbase
  go_enter Try.func5, Try.ntmps5
  go_wp2_with fail
  refine (new_store (base := base) w (by have := HB0.out.size; have := HBA.out; omega)).mono ?_
  rintro e w1 ⟨s, m, rfl, hs, hm, hS, hb⟩
  have HB1 : Hid (Below base w w1) := Lib.hid (HB0.out.trans (hb.mono (by have := HB0.out.size; have := HBA.out; omega)))
  have S_1 := Lib.hid hS
  have HSM := Lib.hid (And.intro hs hm)
  clear hs hm hS hb
  go_wp2_with fail
  refine (rvar_any 0 w1).mono ?_
  rintro e w2 ⟨a2, c2, rfl, _, hb⟩
  have HB2 : Hid (Below base w w2) := Lib.hid (HB1.out.trans (hb.mono (by have := HB1.out.size; have := HBA.out; omega)))
  have S_2 := Lib.hid (S_1.out.below hb)
  clear hb
  go_wp2_with fail
  refine (named_any nmI w2).mono ?_
  rintro e w3 ⟨a3, c3, rfl, _, hb⟩
  have HB3 : Hid (Below base w w3) := Lib.hid (HB2.out.trans (hb.mono (by have := HB2.out.size; have := HBA.out; omega)))
  have S_3 := Lib.hid (S_2.out.below hb)
  clear hb
  go_wp2_with fail
  refine (rvar_any 1 w3).mono ?_
  rintro e w4 ⟨a4, c4, rfl, _, hb⟩
  have HB4 : Hid (Below base w w4) := Lib.hid (HB3.out.trans (hb.mono (by have := HB3.out.size; have := HBA.out; omega)))
  have S_4 := Lib.hid (S_3.out.below hb)
  clear hb
  go_wp2_with fail
  refine (to_any (x := conT nmI) (y := vrT 1) (B := base) w4 (by have := HB4.out.size; have := HBA.out; omega) trivial trivial (by decide) (by decide) (by decide) (by decide)).mono ?_
  rintro e w5 ⟨a5, c5, rfl, hrd, hb⟩
  have HB5 : Hid (Below base w w5) := Lib.hid (HB4.out.trans (hb.mono (by have := HB4.out.size; have := HBA.out; omega)))
  have S_5 := Lib.hid (S_4.out.below hb)
  have HT5 := Lib.hid (tyR_zn (base := base) hrd (Nat.le_refl _) (by decide) (by decide))
  clear hrd
  clear hb
  have HU6 := Lib.hid (unify_any (q := 10) (d := 100) (k := 100) (x := vrT 0) (cx := c2) (cy := c5) (ax := a2) w5 S_5.out (by have := HB5.out.size; have := HBA.out; omega) (by exact ⟨trivial, by decide, by decide⟩) HT5.out (okv 0 (by decide)) (by kernel_rfl) (by decide) (by decide) (by decide) u1_is)
  rw [nx1] at HU6
  go_wp2_with fail
  refine HU6.out.mono ?_
  rintro e w6 ⟨rfl, hS, hk⟩
  rw [u1_ok]
  have HB6 : Hid (Below base w w6) := Lib.hid (HB5.out.trans (hk.below (by have := HB5.out.size; have := HBA.out; omega)))
  have HK6 := Lib.hid hk
  have S_6 := Lib.hid hS
  clear hS hk
  go_wp2_with fail
  refine (rvar_any 0 w6).mono ?_
  rintro e w7 ⟨a7, c7, rfl, _, hb⟩
  have HB7 : Hid (Below base w w7) := Lib.hid (HB6.out.trans (hb.mono (by have := HB6.out.size; have := HBA.out; omega)))
  have S_7 := Lib.hid (S_6.out.below hb)
  clear hb
  go_wp2_with fail
  refine (rvar_any 2 w7).mono ?_
  rintro e w8 ⟨a8, c8, rfl, _, hb⟩
  have HB8 : Hid (Below base w w8) := Lib.hid (HB7.out.trans (hb.mono (by have := HB7.out.size; have := HBA.out; omega)))
  have S_8 := Lib.hid (S_7.out.below hb)
  clear hb
  go_wp2_with fail
  refine (named_any nmB w8).mono ?_
  rintro e w9 ⟨a9, c9, rfl, _, hb⟩
  have HB9 : Hid (Below base w w9) := Lib.hid (HB8.out.trans (hb.mono (by have := HB8.out.size; have := HBA.out; omega)))
  have S_9 := Lib.hid (S_8.out.below hb)
  clear hb
  go_wp2_with fail
  refine (to_any (x := vrT 2) (y := conT nmB) (B := base) w9 (by have := HB9.out.size; have := HBA.out; omega) trivial trivial (by decide) (by decide) (by decide) (by decide)).mono ?_
  rintro e w10 ⟨a10, c10, rfl, hrd, hb⟩
  have HB10 : Hid (Below base w w10) := Lib.hid (HB9.out.trans (hb.mono (by have := HB9.out.size; have := HBA.out; omega)))
  have S_10 := Lib.hid (S_9.out.below hb)
  have HT10 := Lib.hid (tyR_zn (base := base) hrd (Nat.le_refl _) (by decide) (by decide))
  clear hrd
  clear hb
  have HU11 := Lib.hid (unify_any (q := 10) (d := 100) (k := 100) (x := vrT 0) (cx := c7) (cy := c10) (ax := a7) w10 S_10.out (by have := HB10.out.size; have := HBA.out; omega) (by exact ⟨trivial, by decide, by decide⟩) HT10.out (okv 0 (by decide)) (by kernel_rfl) (by decide) (by decide) cn1 u2_is)
  rw [nx2] at HU11
  go_wp2_with fail
  refine HU11.out.mono ?_
  rintro e w11 ⟨rfl, hS, hk⟩
  rw [u2_ok]
  have HB11 : Hid (Below base w w11) := Lib.hid (HB10.out.trans (hk.below (by have := HB10.out.size; have := HBA.out; omega)))
  have HK11 := Lib.hid hk
  have S_11 := Lib.hid hS
  clear hS hk
  go_wp2_with fail
  refine (rvar_any 0 w11).mono ?_
  rintro e w12 ⟨a12, c12, rfl, _, hb⟩
  have HB12 : Hid (Below base w w12) := Lib.hid (HB11.out.trans (hb.mono (by have := HB11.out.size; have := HBA.out; omega)))
  have S_12 := Lib.hid (S_11.out.below hb)
  clear hb
  have HRS := Lib.hid (resolve_ok (q := 10) (k := 300) (x := vrT 0) (cx := c12) (ax := a12) w12 S_12.out (by have := HB12.out.size; have := HBA.out; omega) (by exact ⟨trivial, by decide, by decide⟩) (okv 0 (by decide)) w2_is)
  rw [w2_ok, nx3] at HRS
  go_wp2_with fail
  refine HRS.out.mono ?_
  rintro e w13 ⟨⟨a13, c13, rfl, hrd, _, _⟩, hS, hk⟩
  have HT13 := Lib.hid (tyR_zn (base := base) hrd (by have := HB12.out.size; have := HBA.out; omega) (by decide) (by decide))
  have HB13 : Hid (Below base w w13) := Lib.hid (HB12.out.trans (Kept.below hk (by have := HB12.out.size; have := HBA.out; omega) (fun k e => by rw [e]; exact S_12.out.bs)))
  have S_13 := Lib.hid hS
  clear hrd hS hk
  obtain ⟨w14, hw14⟩ : ∃ w14, w13.alloc (.cells #[.int .i64 (toT (conT nmI) (conT nmB)).kd, .int .i64 (toT (conT nmI) (conT nmB)).n, .string (toT (conT nmI) (conT nmB)).nm, .slice a13 (toT (conT nmI) (conT nmB)).args.len c13] TT) = w14 := ⟨_, rfl⟩
  have hb : Below w13.heap.size w13 w14 := by rw [← hw14]; exact (Below.refl _ w13).alloc (Nat.le_refl _) _
  have hX : Box w14 w13.heap.size TT #[.int .i64 (toT (conT nmI) (conT nmB)).kd, .int .i64 (toT (conT nmI) (conT nmB)).n, .string (toT (conT nmI) (conT nmB)).nm, .slice a13 (toT (conT nmI) (conT nmB)).args.len c13] := by rw [← hw14]; exact Box.new _ _ _
  have X_14 := Lib.hid hX
  have HB14 : Hid (Below base w w14) := Lib.hid (HB13.out.trans (hb.mono (by have := HB13.out.size; have := HBA.out; omega)))
  have S_14 := Lib.hid (S_13.out.below hb)
  have T_14 := Lib.hid (HT13.out.below hb)
  have HW14 := Lib.hid hw14
  clear hb hX hw14
  go_wp2_with fail
  rw [HW14.out]
  refine (new_store (base := base) w14 (by have := HB14.out.size; have := HBA.out; omega)).mono ?_
  rintro e w15 ⟨s2, m2, rfl, hs, hm, hS, hb⟩
  have HB15 : Hid (Below base w w15) := Lib.hid (HB14.out.trans (hb.mono (by have := HB14.out.size; have := HBA.out; omega)))
  have S_15 := Lib.hid (S_14.out.below hb)
  have X_15 := Lib.hid (X_14.out.below hb X_14.out.lt)
  have T_15 := Lib.hid (T_14.out.below hb)
  have R_15 := Lib.hid hS
  have HRM := Lib.hid (And.intro hs hm)
  clear hs hm hS hb
  go_wp2_with fail
  refine (rvar_any 0 w15).mono ?_
  rintro e w16 ⟨a16, c16, rfl, _, hb⟩
  have HB16 : Hid (Below base w w16) := Lib.hid (HB15.out.trans (hb.mono (by have := HB15.out.size; have := HBA.out; omega)))
  have S_16 := Lib.hid (S_15.out.below hb)
  have R_16 := Lib.hid (R_15.out.below hb)
  have X_16 := Lib.hid (X_15.out.below hb X_15.out.lt)
  have T_16 := Lib.hid (T_15.out.below hb)
  clear hb
  go_wp2_with fail
  refine (rvar_any 0 w16).mono ?_
  rintro e w17 ⟨a17, c17, rfl, _, hb⟩
  have HB17 : Hid (Below base w w17) := Lib.hid (HB16.out.trans (hb.mono (by have := HB16.out.size; have := HBA.out; omega)))
  have S_17 := Lib.hid (S_16.out.below hb)
  have R_17 := Lib.hid (R_16.out.below hb)
  have X_17 := Lib.hid (X_16.out.below hb X_16.out.lt)
  have T_17 := Lib.hid (T_16.out.below hb)
  clear hb
  go_wp2_with fail
  refine (named_any nmI w17).mono ?_
  rintro e w18 ⟨a18, c18, rfl, _, hb⟩
  have HB18 : Hid (Below base w w18) := Lib.hid (HB17.out.trans (hb.mono (by have := HB17.out.size; have := HBA.out; omega)))
  have S_18 := Lib.hid (S_17.out.below hb)
  have R_18 := Lib.hid (R_17.out.below hb)
  have X_18 := Lib.hid (X_17.out.below hb X_17.out.lt)
  have T_18 := Lib.hid (T_17.out.below hb)
  clear hb
  go_wp2_with fail
  refine (to_any (x := vrT 0) (y := conT nmI) (B := base) w18 (by have := HB18.out.size; have := HBA.out; omega) trivial trivial (by decide) (by decide) (by decide) (by decide)).mono ?_
  rintro e w19 ⟨a19, c19, rfl, hrd, hb⟩
  have HB19 : Hid (Below base w w19) := Lib.hid (HB18.out.trans (hb.mono (by have := HB18.out.size; have := HBA.out; omega)))
  have S_19 := Lib.hid (S_18.out.below hb)
  have R_19 := Lib.hid (R_18.out.below hb)
  have X_19 := Lib.hid (X_18.out.below hb X_18.out.lt)
  have T_19 := Lib.hid (T_18.out.below hb)
  have HT19 := Lib.hid (tyR_zn (base := base) hrd (Nat.le_refl _) (by decide) (by decide))
  clear hrd
  clear hb
  have HU20 := Lib.hid (unify_any (q := 10) (d := 100) (k := 100) (x := vrT 0) (cx := c16) (cy := c19) (ax := a16) w19 R_19.out (by have := HB19.out.size; have := HBA.out; omega) (by exact ⟨trivial, by decide, by decide⟩) HT19.out (okv 0 (by decide)) (by kernel_rfl) (by decide) (by decide) (by decide) u3_is)
  go_wp2_with fail
  refine HU20.out.mono ?_
  rintro e w20 ⟨rfl, hS, hk⟩
  rw [u3_no]
  have HB20 : Hid (Below base w w20) := Lib.hid (HB19.out.trans (hk.below (by have := HB19.out.size; have := HBA.out; omega)))
  have HK20 := Lib.hid hk
  have S_20 := Lib.hid (S_19.out.other R_19.out (by intro e; have := S_14.out.box.lt; have := HRM.out.1; omega) (by intro e; have := S_14.out.kn.lt; have := HRM.out.2; omega) hk)
  have X_20 := Lib.hid (hk.box X_19.out (fun e => e.elim (fun e => absurd ((show Box _ _ TSt _ by rw [e]; exact R_19.out.box).same X_19.out) (by decide)) fun e => R_19.out.kn.ne X_19.out e.symm) (by decide))
  have T_20 := Lib.hid (T_19.out.ku R_19.out hk)
  have R_20 := Lib.hid hS
  clear hS hk
  obtain ⟨p20_0, p20_1, p20_2, p20_3, _⟩ := X_20.out.cells4
  go_wp2_with fail
  go_region_held3 (fun w' => w'.cell? ⟨w13.heap.size, 0, none⟩ = some (.int .i64 (toT (conT nmI) (conT nmB)).kd) ∧ w'.cell? ⟨w13.heap.size, 1, none⟩ = some (.int .i64 (toT (conT nmI) (conT nmB)).n) ∧ w'.cell? ⟨w13.heap.size, 2, none⟩ = some (.string (toT (conT nmI) (conT nmB)).nm) ∧ w'.cell? ⟨w13.heap.size, 3, none⟩ = some (.slice a13 (toT (conT nmI) (conT nmB)).args.len c13))
    (first
      | exact ⟨p20_0, p20_1, p20_2, p20_3⟩
      | exact ⟨p21_0, p21_1, p21_2, p21_3⟩
      | exact ⟨p22_0, p22_1, p22_2, p22_3⟩
      | exact ⟨p23_0, p23_1, p23_2, p23_3⟩
      | exact ⟨p24_0, p24_1, p24_2, p24_3⟩
      | exact ⟨p25_0, p25_1, p25_2, p25_3⟩
      | exact ⟨p26_0, p26_1, p26_2, p26_3⟩
      | exact ⟨p27_0, p27_1, p27_2, p27_3⟩
      | go_keep)
    (first
      | (have h := G6; clear h; go_at_call 9; refine (rsame_any (Z := fun b => b < w26.heap.size) (Z' := fun b => b < w26.heap.size) 0 (vrT 3) (vrT 3) (Nat.le_refl _) none a26 0 c26 w26 trivial trivial (fun b hz => hz) (fun b hz => hz) (by decide)).mono ?_; rintro e w27 ⟨v, rfl, hv, hb⟩; obtain rfl : v = true := hv.2 rfl; have HB27 := Lib.hid (HB26.out.trans (hb.mono (by have := HB26.out.size; have := HBA.out; omega))); have X_27 := Lib.hid (X_26.out.below hb X_26.out.lt); clear hb hv; obtain ⟨p27_0, p27_1, p27_2, p27_3, _⟩ := X_27.out.cells4)
      | (have h := G5; clear h; go_at_call 11; refine (rvar_any 3 w25).mono ?_; rintro e w26 ⟨a26, c26, rfl, _, hb⟩; have HB26 := Lib.hid (HB25.out.trans (hb.mono (by have := HB25.out.size; have := HBA.out; omega))); have X_26 := Lib.hid (X_25.out.below hb X_25.out.lt); have G6 := Lib.hid True.intro; clear hb; obtain ⟨p26_0, p26_1, p26_2, p26_3, _⟩ := X_26.out.cells4)
      | (have h := G4; clear h; go_at_call 14; refine (fresh_any (nx := 3) w24 S_24.out (by decide) (by decide)).mono ?_; rintro e w25 ⟨rfl, hS, hk⟩; have HB25 : Hid (Below base w w25) := Lib.hid (HB24.out.trans (Kept.below hk (by have := HB24.out.size; have := HBA.out; omega) (fun k e => by rw [e]; exact S_24.out.bs))); have X_25 := Lib.hid (hk.box X_24.out (fun e => absurd ((show Box w24 s TT _ by rw [← show w13.heap.size = s from e]; exact X_24.out).same S_24.out.box) (by decide))); have G5 := Lib.hid True.intro; clear hS hk; obtain ⟨p25_0, p25_1, p25_2, p25_3, _⟩ := X_25.out.cells4)
      | (have h := G3; clear h; go_at_call 9; refine (rsame_any (toT (conT nmI) (conT nmB)).args.nodes (toT (conT nmI) (conT nmB)) (toT (conT nmI) (conT nmB)) (Nat.le_refl _) a13 a23 c13 c23 w23 T_23.out.1 HT23.out.1 (fun b hz => hz.lt) (fun b hz => hz.lt) (by decide)).mono ?_; rintro e w24 ⟨v, rfl, hv, hb⟩; obtain rfl : v = true := hv.2 rfl; have HB24 := Lib.hid (HB23.out.trans (hb.mono (by have := HB23.out.size; have := HBA.out; omega))); have X_24 := Lib.hid (X_23.out.below hb X_23.out.lt); have T_24 := Lib.hid (T_23.out.below hb); have S_24 := Lib.hid (S_23.out.below hb); obtain ⟨p24_0, p24_1, p24_2, p24_3, _⟩ := X_24.out.cells4; have G4 := Lib.hid True.intro; clear hb hv)
      | (have h := G2; clear h; go_at_call 12; refine (to_any (x := conT nmI) (y := conT nmB) (B := base) w22 (by have := HB22.out.size; have := HBA.out; omega) trivial trivial (by decide) (by decide) (by decide) (by decide)).mono ?_; rintro e w23 ⟨a23, c23, rfl, hrd, hb⟩; have HT23 := Lib.hid (tyR_zn (base := base) hrd (Nat.le_refl _) (by decide) (by decide)); have HB23 := Lib.hid (HB22.out.trans (hb.mono (by have := HB22.out.size; have := HBA.out; omega))); have X_23 := Lib.hid (X_22.out.below hb X_22.out.lt); have T_23 := Lib.hid (T_22.out.below hb); have S_23 := Lib.hid (S_22.out.below hb); obtain ⟨p23_0, p23_1, p23_2, p23_3, _⟩ := X_23.out.cells4; have G3 := Lib.hid True.intro; clear hb hrd)
      | (have h := G1; clear h; go_at_call 13; refine (named_any nmB w21).mono ?_; rintro e w22 ⟨a22, c22, rfl, _, hb⟩; have HB22 := Lib.hid (HB21.out.trans (hb.mono (by have := HB21.out.size; have := HBA.out; omega))); have X_22 := Lib.hid (X_21.out.below hb X_21.out.lt); have T_22 := Lib.hid (T_21.out.below hb); have S_22 := Lib.hid (S_21.out.below hb); obtain ⟨p22_0, p22_1, p22_2, p22_3, _⟩ := X_22.out.cells4; have G2 := Lib.hid True.intro; clear hb)
      | (go_at_call 13; refine (named_any nmI w20.drew).mono ?_; rintro e w21 ⟨a21, c21, rfl, _, hb⟩; replace hb : Below w20.heap.size w20 w21 := ⟨hb.os, hb.tape, hb.output, hb.size, hb.block⟩; have HB21 := Lib.hid (HB20.out.trans (hb.mono (by have := HB20.out.size; have := HBA.out; omega))); have X_21 := Lib.hid (X_20.out.below hb X_20.out.lt); have T_21 := Lib.hid (T_20.out.below hb); have S_21 := Lib.hid (S_20.out.below hb); obtain ⟨p21_0, p21_1, p21_2, p21_3, _⟩ := X_21.out.cells4; have G1 := Lib.hid True.intro; clear hb))
  go_wp2_with fail
  go_ret
  exact ⟨rfl, HB27.out⟩
end Go.Proofs.Ytcaioffdcbjbjaa.Un
