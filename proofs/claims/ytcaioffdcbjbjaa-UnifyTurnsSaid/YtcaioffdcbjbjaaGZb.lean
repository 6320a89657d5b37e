/-
  CONTRACTS of layer unify: two types are made the same but for their parts: the cases in which both are known.
-/
import Derived.Test.YtcaioffdcbjbjaaGA
import Derived.Test.YtcaioffdcbjbjaaGUnZ
import Derived.BigRegion
import Derived.Maps.AppendAt
namespace Go.Proofs.Ytcaioffdcbjbjaa.Un
open Go.RowKit Go.Shelf Mm Tm Mk Go.Maps Go.ChangeMaps Go.MapKept Go.WideMaps Rg
set_option linter.unusedVariables false
set_option linter.unusedSimpArgs false
theorem news_of_box {w : World} {g : Nat} {cs : Array Value} {t : TypeId} (h : Box w g t cs) : ∀ j u, cs.toList[j]? = some u → w.cell? ((⟨g, 0, none⟩ : Addr).add j) = some u := World.news_of_block h
attribute [-go_sem] Builtin.append_
def UnlikeC (xf yf : Fact) (v : Bool) : Prop := ∀ wq, Calls Try.prog 31 #[.agg #[.int .i64 xf.kd, .int .i64 xf.n, .string xf.nm, .slice xf.a xf.args.len xf.c], .agg #[.int .i64 yf.kd, .int .i64 yf.n, .string yf.nm, .slice yf.a yf.args.len yf.c]] wq (BoolB v wq)
theorem unlikeC (xf yf : Fact) {v : Bool} (h : decide (xf.kd ≠ yf.kd ∨ xf.nm ≠ yf.nm ∨ xf.args.len ≠ yf.args.len) = v) : UnlikeC xf yf v := fun wq => by
  have q := unlike_any (x := xf.ty) (y := yf.ty) (a := xf.a) (b := yf.a) (c := xf.c) (d := yf.c) wq
  rw [show decide (xf.ty.kd ≠ yf.ty.kd ∨ xf.ty.nm ≠ yf.ty.nm ∨ xf.ty.args.len ≠ yf.ty.args.len) = v from h] at q
  exact q
set_option maxRecDepth 100000 in
set_option maxHeartbeats 8000000 in
theorem pair_unlike_tt {base mk s m pm cp : Nat} {nx xn yn : Int} {tv ov : Value} {st : St} {M : PM} {td : List (Ty × Ty)} {xf yf : Fact} {sa sb : Sd} (w : World) (hM : MkI base w mk s m pm nx tv ov st M cp) (hT : TodoI base w tv td) (hb : base ≤ w.heap.size) (hx : Closed (ZU base N0 w) w xf sa) (hy : Closed (ZU base N0 w) w yf sb) (hn : xn ≠ yn) (hu : xf.kd ≠ yf.kd ∨ xf.nm ≠ yf.nm ∨ xf.args.len ≠ yf.args.len) :
    Calls Try.prog 25 #[.pointer (some ⟨mk, 0, none⟩), sideV ⟨xf, true, xn⟩, sideV ⟨yf, true, yn⟩] w (PairPost base mk s m pm cp nx tv td ⟨100, st, M, []⟩ w) := by
  obtain ⟨W0, hW0⟩ : ∃ W0, (w.alloc (.cells (boxC xf true xn) TSide)).alloc (.cells (boxC yf true yn) TSide) = W0 := ⟨_, rfl⟩
  have hB0 : Below w.heap.size w W0 := by rw [← hW0]; exact ((Below.refl w.heap.size w).alloc (Nat.le_refl _) _).alloc (by simp) _
  have hX0 : Box W0 w.heap.size TSide (boxC xf true xn) := by rw [← hW0]; exact (Box.new w _ _).alloc _
  have hY0 : Box W0 (w.heap.size + 1) TSide (boxC yf true yn) := by rw [← hW0]; exact Box.at_ _ _ (by simp)
  have HB0 := Lib.hid hB0
  have HX0 := Lib.hid hX0
  have HY0 := Lib.hid hY0
  have HM := Lib.hid hM
  have HT := Lib.hid hT
  obtain ⟨x0, x1, x2, x3, x4, x5, x6, x7, x8⟩ := hX0.cells9
  obtain ⟨y0, y1, y2, y3, y4, y5, y6, y7, y8⟩ := hY0.cells9
  have hxo : (xf.kd == 0) = false := by simpa using hx.k0
  have hyo : (yf.kd == 0) = false := by simpa using hy.k0
  have HU := Lib.hid (unlikeC xf yf (v := true) (decide_eq_true hu))
  have HXC := Lib.hid hx
  have HYC := Lib.hid hy
  have hq : (xn == yn) = false := by simpa using hn
  clear hM hT hX0 hY0 hB0 hx hy hu hn
  go_enter Try.func25, Try.ntmps25
  go_wp2_with fail
  refine (isOpen_any ⟨xf, true, xn⟩ W0).mono ?_
  rintro e W1 ⟨rfl, hb1⟩
  rw [hxo]
  have HB1 := Lib.hid (HB0.out.trans (hb1.mono HB0.out.size))
  have HX1 := Lib.hid (HX0.out.below hb1 HX0.out.lt)
  have HY1 := Lib.hid (HY0.out.below hb1 HY0.out.lt)
  clear hb1 x0 x1 x2 x3 x4 x5 x6 x7 x8 y0 y1 y2 y3 y4 y5 y6 y7 y8 hW0
  obtain ⟨x0, x1, x2, x3, x4, x5, x6, x7, x8⟩ := HX1.out.cells9
  obtain ⟨y0, y1, y2, y3, y4, y5, y6, y7, y8⟩ := HY1.out.cells9
  go_wp2_with fail
  refine (isOpen_any ⟨xf, true, xn⟩ W1).mono ?_
  rintro e W2 ⟨rfl, hb2⟩
  rw [hxo]
  have HB2 := Lib.hid (HB1.out.trans (hb2.mono HB1.out.size))
  have HX2 := Lib.hid (HX1.out.below hb2 HX1.out.lt)
  have HY2 := Lib.hid (HY1.out.below hb2 HY1.out.lt)
  clear hb2 x0 x1 x2 x3 x4 x5 x6 x7 x8 y0 y1 y2 y3 y4 y5 y6 y7 y8
  obtain ⟨x0, x1, x2, x3, x4, x5, x6, x7, x8⟩ := HX2.out.cells9
  obtain ⟨y0, y1, y2, y3, y4, y5, y6, y7, y8⟩ := HY2.out.cells9
  go_wp2_with fail
  refine (isOpen_any ⟨yf, true, yn⟩ W2).mono ?_
  rintro e W3 ⟨rfl, hb3⟩
  rw [hyo]
  have HB3 := Lib.hid (HB2.out.trans (hb3.mono HB2.out.size))
  have HX3 := Lib.hid (HX2.out.below hb3 HX2.out.lt)
  have HY3 := Lib.hid (HY2.out.below hb3 HY2.out.lt)
  clear hb3 x0 x1 x2 x3 x4 x5 x6 x7 x8 y0 y1 y2 y3 y4 y5 y6 y7 y8
  obtain ⟨x0, x1, x2, x3, x4, x5, x6, x7, x8⟩ := HX3.out.cells9
  obtain ⟨y0, y1, y2, y3, y4, y5, y6, y7, y8⟩ := HY3.out.cells9
  go_wp2_with fail
  refine (HU.out W3).mono ?_
  rintro e W4 ⟨rfl, hb4⟩
  have HB4 := Lib.hid (HB3.out.trans (hb4.mono HB3.out.size))
  have HX4 := Lib.hid (HX3.out.below hb4 HX3.out.lt)
  have HY4 := Lib.hid (HY3.out.below hb4 HY3.out.lt)
  clear hb4 x0 x1 x2 x3 x4 x5 x6 x7 x8 y0 y1 y2 y3 y4 y5 y6 y7 y8
  obtain ⟨x0, x1, x2, x3, x4, x5, x6, x7, x8⟩ := HX4.out.cells9
  obtain ⟨y0, y1, y2, y3, y4, y5, y6, y7, y8⟩ := HY4.out.cells9
  go_wp2_with fail
  go_ret
  exact ⟨rfl, tv, ov, cp, by omega, HM.out.below HB4.out, HT.out.below HB4.out, KG.of_below HB4.out (Nat.le_refl _), KeepP.below HB4.out⟩
set_option maxRecDepth 100000 in
set_option maxHeartbeats 8000000 in
theorem pair_unlike_tf {base mk s m pm cp : Nat} {nx xn yn : Int} {tv ov : Value} {st : St} {M : PM} {td : List (Ty × Ty)} {xf yf : Fact} {sa sb : Sd} (w : World) (hM : MkI base w mk s m pm nx tv ov st M cp) (hT : TodoI base w tv td) (hb : base ≤ w.heap.size) (hx : Closed (ZU base N0 w) w xf sa) (hy : Closed (ZU base N0 w) w yf sb) (hu : xf.kd ≠ yf.kd ∨ xf.nm ≠ yf.nm ∨ xf.args.len ≠ yf.args.len) :
    Calls Try.prog 25 #[.pointer (some ⟨mk, 0, none⟩), sideV ⟨xf, true, xn⟩, sideV ⟨yf, false, yn⟩] w (PairPost base mk s m pm cp nx tv td ⟨100, st, M, []⟩ w) := by
  obtain ⟨W0, hW0⟩ : ∃ W0, (w.alloc (.cells (boxC xf true xn) TSide)).alloc (.cells (boxC yf false yn) TSide) = W0 := ⟨_, rfl⟩
  have hB0 : Below w.heap.size w W0 := by rw [← hW0]; exact ((Below.refl w.heap.size w).alloc (Nat.le_refl _) _).alloc (by simp) _
  have hX0 : Box W0 w.heap.size TSide (boxC xf true xn) := by rw [← hW0]; exact (Box.new w _ _).alloc _
  have hY0 : Box W0 (w.heap.size + 1) TSide (boxC yf false yn) := by rw [← hW0]; exact Box.at_ _ _ (by simp)
  have HB0 := Lib.hid hB0
  have HX0 := Lib.hid hX0
  have HY0 := Lib.hid hY0
  have HM := Lib.hid hM
  have HT := Lib.hid hT
  obtain ⟨x0, x1, x2, x3, x4, x5, x6, x7, x8⟩ := hX0.cells9
  obtain ⟨y0, y1, y2, y3, y4, y5, y6, y7, y8⟩ := hY0.cells9
  have hxo : (xf.kd == 0) = false := by simpa using hx.k0
  have hyo : (yf.kd == 0) = false := by simpa using hy.k0
  have HU := Lib.hid (unlikeC xf yf (v := true) (decide_eq_true hu))
  have HXC := Lib.hid hx
  have HYC := Lib.hid hy
  clear hM hT hX0 hY0 hB0 hx hy hu
  go_enter Try.func25, Try.ntmps25
  go_wp2_with fail
  refine (isOpen_any ⟨xf, true, xn⟩ W0).mono ?_
  rintro e W1 ⟨rfl, hb1⟩
  rw [hxo]
  have HB1 := Lib.hid (HB0.out.trans (hb1.mono HB0.out.size))
  have HX1 := Lib.hid (HX0.out.below hb1 HX0.out.lt)
  have HY1 := Lib.hid (HY0.out.below hb1 HY0.out.lt)
  clear hb1 x0 x1 x2 x3 x4 x5 x6 x7 x8 y0 y1 y2 y3 y4 y5 y6 y7 y8 hW0
  obtain ⟨x0, x1, x2, x3, x4, x5, x6, x7, x8⟩ := HX1.out.cells9
  obtain ⟨y0, y1, y2, y3, y4, y5, y6, y7, y8⟩ := HY1.out.cells9
  go_wp2_with fail
  refine (isOpen_any ⟨xf, true, xn⟩ W1).mono ?_
  rintro e W2 ⟨rfl, hb2⟩
  rw [hxo]
  have HB2 := Lib.hid (HB1.out.trans (hb2.mono HB1.out.size))
  have HX2 := Lib.hid (HX1.out.below hb2 HX1.out.lt)
  have HY2 := Lib.hid (HY1.out.below hb2 HY1.out.lt)
  clear hb2 x0 x1 x2 x3 x4 x5 x6 x7 x8 y0 y1 y2 y3 y4 y5 y6 y7 y8
  obtain ⟨x0, x1, x2, x3, x4, x5, x6, x7, x8⟩ := HX2.out.cells9
  obtain ⟨y0, y1, y2, y3, y4, y5, y6, y7, y8⟩ := HY2.out.cells9
  go_wp2_with fail
  refine (isOpen_any ⟨yf, false, yn⟩ W2).mono ?_
  rintro e W3 ⟨rfl, hb3⟩
  rw [hyo]
  have HB3 := Lib.hid (HB2.out.trans (hb3.mono HB2.out.size))
  have HX3 := Lib.hid (HX2.out.below hb3 HX2.out.lt)
  have HY3 := Lib.hid (HY2.out.below hb3 HY2.out.lt)
  clear hb3 x0 x1 x2 x3 x4 x5 x6 x7 x8 y0 y1 y2 y3 y4 y5 y6 y7 y8
  obtain ⟨x0, x1, x2, x3, x4, x5, x6, x7, x8⟩ := HX3.out.cells9
  obtain ⟨y0, y1, y2, y3, y4, y5, y6, y7, y8⟩ := HY3.out.cells9
  go_wp2_with fail
  refine (HU.out W3).mono ?_
  rintro e W4 ⟨rfl, hb4⟩
  have HB4 := Lib.hid (HB3.out.trans (hb4.mono HB3.out.size))
  have HX4 := Lib.hid (HX3.out.below hb4 HX3.out.lt)
  have HY4 := Lib.hid (HY3.out.below hb4 HY3.out.lt)
  clear hb4 x0 x1 x2 x3 x4 x5 x6 x7 x8 y0 y1 y2 y3 y4 y5 y6 y7 y8
  obtain ⟨x0, x1, x2, x3, x4, x5, x6, x7, x8⟩ := HX4.out.cells9
  obtain ⟨y0, y1, y2, y3, y4, y5, y6, y7, y8⟩ := HY4.out.cells9
  go_wp2_with fail
  go_ret
  exact ⟨rfl, tv, ov, cp, by omega, HM.out.below HB4.out, HT.out.below HB4.out, KG.of_below HB4.out (Nat.le_refl _), KeepP.below HB4.out⟩
set_option maxRecDepth 100000 in
set_option maxHeartbeats 8000000 in
theorem pair_unlike_f {base mk s m pm cp : Nat} {nx xn yn : Int} {tv ov : Value} {st : St} {M : PM} {td : List (Ty × Ty)} {xf yf : Fact} {sa sb : Sd} {yv : Bool} (w : World) (hM : MkI base w mk s m pm nx tv ov st M cp) (hT : TodoI base w tv td) (hb : base ≤ w.heap.size) (hx : Closed (ZU base N0 w) w xf sa) (hy : Closed (ZU base N0 w) w yf sb) (hu : xf.kd ≠ yf.kd ∨ xf.nm ≠ yf.nm ∨ xf.args.len ≠ yf.args.len) :
    Calls Try.prog 25 #[.pointer (some ⟨mk, 0, none⟩), sideV ⟨xf, false, xn⟩, sideV ⟨yf, yv, yn⟩] w (PairPost base mk s m pm cp nx tv td ⟨100, st, M, []⟩ w) := by
  obtain ⟨W0, hW0⟩ : ∃ W0, (w.alloc (.cells (boxC xf false xn) TSide)).alloc (.cells (boxC yf yv yn) TSide) = W0 := ⟨_, rfl⟩
  have hB0 : Below w.heap.size w W0 := by rw [← hW0]; exact ((Below.refl w.heap.size w).alloc (Nat.le_refl _) _).alloc (by simp) _
  have hX0 : Box W0 w.heap.size TSide (boxC xf false xn) := by rw [← hW0]; exact (Box.new w _ _).alloc _
  have hY0 : Box W0 (w.heap.size + 1) TSide (boxC yf yv yn) := by rw [← hW0]; exact Box.at_ _ _ (by simp)
  have HB0 := Lib.hid hB0
  have HX0 := Lib.hid hX0
  have HY0 := Lib.hid hY0
  have HM := Lib.hid hM
  have HT := Lib.hid hT
  obtain ⟨x0, x1, x2, x3, x4, x5, x6, x7, x8⟩ := hX0.cells9
  obtain ⟨y0, y1, y2, y3, y4, y5, y6, y7, y8⟩ := hY0.cells9
  have hxo : (xf.kd == 0) = false := by simpa using hx.k0
  have hyo : (yf.kd == 0) = false := by simpa using hy.k0
  have HU := Lib.hid (unlikeC xf yf (v := true) (decide_eq_true hu))
  have HXC := Lib.hid hx
  have HYC := Lib.hid hy
  clear hM hT hX0 hY0 hB0 hx hy hu
  go_enter Try.func25, Try.ntmps25
  go_wp2_with fail
  refine (isOpen_any ⟨xf, false, xn⟩ W0).mono ?_
  rintro e W1 ⟨rfl, hb1⟩
  rw [hxo]
  have HB1 := Lib.hid (HB0.out.trans (hb1.mono HB0.out.size))
  have HX1 := Lib.hid (HX0.out.below hb1 HX0.out.lt)
  have HY1 := Lib.hid (HY0.out.below hb1 HY0.out.lt)
  clear hb1 x0 x1 x2 x3 x4 x5 x6 x7 x8 y0 y1 y2 y3 y4 y5 y6 y7 y8 hW0
  obtain ⟨x0, x1, x2, x3, x4, x5, x6, x7, x8⟩ := HX1.out.cells9
  obtain ⟨y0, y1, y2, y3, y4, y5, y6, y7, y8⟩ := HY1.out.cells9
  go_wp2_with fail
  refine (isOpen_any ⟨xf, false, xn⟩ W1).mono ?_
  rintro e W2 ⟨rfl, hb2⟩
  rw [hxo]
  have HB2 := Lib.hid (HB1.out.trans (hb2.mono HB1.out.size))
  have HX2 := Lib.hid (HX1.out.below hb2 HX1.out.lt)
  have HY2 := Lib.hid (HY1.out.below hb2 HY1.out.lt)
  clear hb2 x0 x1 x2 x3 x4 x5 x6 x7 x8 y0 y1 y2 y3 y4 y5 y6 y7 y8
  obtain ⟨x0, x1, x2, x3, x4, x5, x6, x7, x8⟩ := HX2.out.cells9
  obtain ⟨y0, y1, y2, y3, y4, y5, y6, y7, y8⟩ := HY2.out.cells9
  go_wp2_with fail
  refine (isOpen_any ⟨yf, yv, yn⟩ W2).mono ?_
  rintro e W3 ⟨rfl, hb3⟩
  rw [hyo]
  have HB3 := Lib.hid (HB2.out.trans (hb3.mono HB2.out.size))
  have HX3 := Lib.hid (HX2.out.below hb3 HX2.out.lt)
  have HY3 := Lib.hid (HY2.out.below hb3 HY2.out.lt)
  clear hb3 x0 x1 x2 x3 x4 x5 x6 x7 x8 y0 y1 y2 y3 y4 y5 y6 y7 y8
  obtain ⟨x0, x1, x2, x3, x4, x5, x6, x7, x8⟩ := HX3.out.cells9
  obtain ⟨y0, y1, y2, y3, y4, y5, y6, y7, y8⟩ := HY3.out.cells9
  go_wp2_with fail
  refine (HU.out W3).mono ?_
  rintro e W4 ⟨rfl, hb4⟩
  have HB4 := Lib.hid (HB3.out.trans (hb4.mono HB3.out.size))
  have HX4 := Lib.hid (HX3.out.below hb4 HX3.out.lt)
  have HY4 := Lib.hid (HY3.out.below hb4 HY3.out.lt)
  clear hb4 x0 x1 x2 x3 x4 x5 x6 x7 x8 y0 y1 y2 y3 y4 y5 y6 y7 y8
  obtain ⟨x0, x1, x2, x3, x4, x5, x6, x7, x8⟩ := HX4.out.cells9
  obtain ⟨y0, y1, y2, y3, y4, y5, y6, y7, y8⟩ := HY4.out.cells9
  go_wp2_with fail
  go_ret
  exact ⟨rfl, tv, ov, cp, by omega, HM.out.below HB4.out, HT.out.below HB4.out, KG.of_below HB4.out (Nat.le_refl _), KeepP.below HB4.out⟩
theorem MkI.met {base : Nat} {w w' : World} {mk s m pm cp cp' : Nat} {nx : Int} {tv ov : Value} {st : St} {M M' : PM} {td : List (Ty × Ty)} (h : MkI base w mk s m pm nx tv ov st M cp) (hT : TodoI base w tv td) (hk : Kept (fun b => b = pm) w w') (hp : PrI w' pm M' cp') :
    MkI base w' mk s m pm nx tv ov st M' cp' ∧ TodoI base w' tv td ∧ KP base mk m pm w w' ∧ ∀ tvx, KeepP tvx w w' := by
  have hn : ∀ t b, b = pm → ¬ TyB t w b := fun t b e => by rw [e]; exact pr_notTyB h.pr
  have hKP : KP base mk m pm w w' := Kept.mono hk fun b _ e => ⟨by rw [e]; exact h.bp, .inl (.inr (.inr e))⟩
  obtain ⟨vs, h1, h2⟩ := hT
  obtain ⟨z1, z2⟩ := KG.zu (Y := N0) hKP (h.notD (t := TT) (by decide)) (by decide)
  refine ⟨⟨h.si.kept hk (fun e => h.pr.nbox h.si.box e.symm) (fun e => h.pr.nbox h.si.sbox e.symm) (fun e => h.ne e.symm) (fun b hb => ⟨hn _ b hb, hn _ b hb⟩), hp, h.ne, h.bp⟩, ⟨vs, kept_own hk h1 (fun g e q => hn _ g q (own_tyB h1 e).2), h2.frame (fun b o hz => z1 ⟨b, o, none⟩ hz) z1 z2⟩, hKP, fun _ b hb _ => hk.block b hb.lt fun e => hn _ b e hb⟩
set_option maxRecDepth 100000 in
set_option maxHeartbeats 8000000 in
theorem pair_met {base mk s m pm cp : Nat} {nx xn yn : Int} {tv ov : Value} {st : St} {M : PM} {td : List (Ty × Ty)} {xf yf : Fact} {sa sb : Sd} (w : World) (hM : MkI base w mk s m pm nx tv ov st M cp) (hT : TodoI base w tv td) (hb : base ≤ w.heap.size) (hx : Closed (ZU base N0 w) w xf sa) (hy : Closed (ZU base N0 w) w yf sb) (hn : xn ≠ yn) (hu : ¬ (xf.kd ≠ yf.kd ∨ xf.nm ≠ yf.nm ∨ xf.args.len ≠ yf.args.len)) (hc : cp < 1000000000) (hix : inI xn = true) (hiy : inI yn = true) (hah : (aheadP M xn yn).2 = true) :
    Calls Try.prog 25 #[.pointer (some ⟨mk, 0, none⟩), sideV ⟨xf, true, xn⟩, sideV ⟨yf, true, yn⟩] w (PairPost base mk s m pm cp nx tv td ⟨0, st, (aheadP M xn yn).1, []⟩ w) := by
  obtain ⟨W0, hW0⟩ : ∃ W0, (w.alloc (.cells (boxC xf true xn) TSide)).alloc (.cells (boxC yf true yn) TSide) = W0 := ⟨_, rfl⟩
  have hB0 : Below w.heap.size w W0 := by rw [← hW0]; exact ((Below.refl w.heap.size w).alloc (Nat.le_refl _) _).alloc (by simp) _
  have hX0 : Box W0 w.heap.size TSide (boxC xf true xn) := by rw [← hW0]; exact (Box.new w _ _).alloc _
  have hY0 : Box W0 (w.heap.size + 1) TSide (boxC yf true yn) := by rw [← hW0]; exact Box.at_ _ _ (by simp)
  have HB0 := Lib.hid hB0
  have HX0 := Lib.hid hX0
  have HY0 := Lib.hid hY0
  have HM := Lib.hid hM
  have HT := Lib.hid hT
  obtain ⟨x0, x1, x2, x3, x4, x5, x6, x7, x8⟩ := hX0.cells9
  obtain ⟨y0, y1, y2, y3, y4, y5, y6, y7, y8⟩ := hY0.cells9
  have hxo : (xf.kd == 0) = false := by simpa using hx.k0
  have hyo : (yf.kd == 0) = false := by simpa using hy.k0
  have HU := Lib.hid (unlikeC xf yf (v := false) (decide_eq_false hu))
  have HXC := Lib.hid hx
  have HYC := Lib.hid hy
  have hq : (xn == yn) = false := by simpa using hn
  clear hM hT hX0 hY0 hB0 hx hy hu hn
  go_enter Try.func25, Try.ntmps25
  go_wp2_with fail
  refine (isOpen_any ⟨xf, true, xn⟩ W0).mono ?_
  rintro e W1 ⟨rfl, hb1⟩
  rw [hxo]
  have HB1 := Lib.hid (HB0.out.trans (hb1.mono HB0.out.size))
  have HX1 := Lib.hid (HX0.out.below hb1 HX0.out.lt)
  have HY1 := Lib.hid (HY0.out.below hb1 HY0.out.lt)
  clear hb1 x0 x1 x2 x3 x4 x5 x6 x7 x8 y0 y1 y2 y3 y4 y5 y6 y7 y8 hW0
  obtain ⟨x0, x1, x2, x3, x4, x5, x6, x7, x8⟩ := HX1.out.cells9
  obtain ⟨y0, y1, y2, y3, y4, y5, y6, y7, y8⟩ := HY1.out.cells9
  go_wp2_with fail
  refine (isOpen_any ⟨xf, true, xn⟩ W1).mono ?_
  rintro e W2 ⟨rfl, hb2⟩
  rw [hxo]
  have HB2 := Lib.hid (HB1.out.trans (hb2.mono HB1.out.size))
  have HX2 := Lib.hid (HX1.out.below hb2 HX1.out.lt)
  have HY2 := Lib.hid (HY1.out.below hb2 HY1.out.lt)
  clear hb2 x0 x1 x2 x3 x4 x5 x6 x7 x8 y0 y1 y2 y3 y4 y5 y6 y7 y8
  obtain ⟨x0, x1, x2, x3, x4, x5, x6, x7, x8⟩ := HX2.out.cells9
  obtain ⟨y0, y1, y2, y3, y4, y5, y6, y7, y8⟩ := HY2.out.cells9
  go_wp2_with fail
  refine (isOpen_any ⟨yf, true, yn⟩ W2).mono ?_
  rintro e W3 ⟨rfl, hb3⟩
  rw [hyo]
  have HB3 := Lib.hid (HB2.out.trans (hb3.mono HB2.out.size))
  have HX3 := Lib.hid (HX2.out.below hb3 HX2.out.lt)
  have HY3 := Lib.hid (HY2.out.below hb3 HY2.out.lt)
  clear hb3 x0 x1 x2 x3 x4 x5 x6 x7 x8 y0 y1 y2 y3 y4 y5 y6 y7 y8
  obtain ⟨x0, x1, x2, x3, x4, x5, x6, x7, x8⟩ := HX3.out.cells9
  obtain ⟨y0, y1, y2, y3, y4, y5, y6, y7, y8⟩ := HY3.out.cells9
  go_wp2_with fail
  refine (HU.out W3).mono ?_
  rintro e W4 ⟨rfl, hb4⟩
  have HB4 := Lib.hid (HB3.out.trans (hb4.mono HB3.out.size))
  have HX4 := Lib.hid (HX3.out.below hb4 HX3.out.lt)
  have HY4 := Lib.hid (HY3.out.below hb4 HY3.out.lt)
  clear hb4 x0 x1 x2 x3 x4 x5 x6 x7 x8 y0 y1 y2 y3 y4 y5 y6 y7 y8
  obtain ⟨x0, x1, x2, x3, x4, x5, x6, x7, x8⟩ := HX4.out.cells9
  obtain ⟨y0, y1, y2, y3, y4, y5, y6, y7, y8⟩ := HY4.out.cells9
  go_wp2_with fail
  refine (ahead_any W4 (HM.out.si.below HB4.out).box (HM.out.pr.below HB4.out) hc hix hiy).mono ?_
  rintro e W5 ⟨rfl, ⟨c5, hc5, hp5⟩, hk5⟩
  rw [hah]
  have HA := Lib.hid ((HM.out.below HB4.out).met (HT.out.below HB4.out) hk5 hp5)
  have HX5 := Lib.hid (hk5.box HX4.out ((HM.out.pr.below HB4.out).nbox HX4.out ∘ Eq.symm))
  have HY5 := Lib.hid (hk5.box HY4.out ((HM.out.pr.below HB4.out).nbox HY4.out ∘ Eq.symm))
  clear hp5 hk5 x0 x1 x2 x3 x4 x5 x6 x7 x8 y0 y1 y2 y3 y4 y5 y6 y7 y8
  obtain ⟨x0, x1, x2, x3, x4, x5, x6, x7, x8⟩ := HX5.out.cells9
  obtain ⟨y0, y1, y2, y3, y4, y5, y6, y7, y8⟩ := HY5.out.cells9
  go_wp2_with fail
  go_ret
  obtain ⟨q1, q2, q3, q4⟩ := HA.out
  exact ⟨rfl, tv, ov, c5, hc5, q1, q2, KG.trans (KG.of_below HB4.out (Nat.le_refl _)) q3, (KeepP.below HB4.out).trans (q4 _)⟩
/-- the cells that a round of the push reads -/
def SPush (xb : Nat) (adx ady : Addr) (xf yf : Fact) (ex ey : Ty) (ax ay : Option Addr) (cx cy j : Nat) (w' : World) : Prop := w'.cell? ⟨xb, 3, none⟩ = some (.slice (some adx) xf.args.len xf.c) ∧ w'.cell? ⟨xb + 1, 3, none⟩ = some (.slice (some ady) yf.args.len yf.c) ∧ w'.cell? (adx.add (j * 4)) = some (.int .i64 ex.kd) ∧ w'.cell? ⟨(adx.add (j * 4)).block, (adx.add (j * 4)).off + 1, none⟩ = some (.int .i64 ex.n) ∧ w'.cell? ⟨(adx.add (j * 4)).block, (adx.add (j * 4)).off + 2, none⟩ = some (.string ex.nm) ∧ w'.cell? ⟨(adx.add (j * 4)).block, (adx.add (j * 4)).off + 3, none⟩ = some (.slice ax ex.args.len cx) ∧ w'.cell? (ady.add (j * 4)) = some (.int .i64 ey.kd) ∧ w'.cell? ⟨(ady.add (j * 4)).block, (ady.add (j * 4)).off + 1, none⟩ = some (.int .i64 ey.n) ∧ w'.cell? ⟨(ady.add (j * 4)).block, (ady.add (j * 4)).off + 2, none⟩ = some (.string ey.nm) ∧ w'.cell? ⟨(ady.add (j * 4)).block, (ady.add (j * 4)).off + 3, none⟩ = some (.slice ay ey.args.len cy)
/-- what a round of the push goes by -/
def PushL (base mk s m pm cp : Nat) (nx : Int) (ov : Value) (st : St) (M : PM) (tv : Value) (ps td : List (Ty × Ty)) (Wl : World) (k : Nat) (wr : World) : Prop := ∃ tv', MkI base wr mk s m pm nx tv' ov st M cp ∧ TodoI base wr tv' (ps.drop k ++ td) ∧ KP base mk m pm Wl wr ∧ KeepP tv Wl wr ∧ ∀ b, tv'.ownBlock = some b → tv.ownBlock = some b ∨ Wl.heap.size ≤ b
set_option maxRecDepth 100000 in
set_option maxHeartbeats 8000000 in
theorem pair_push_tt {base mk s m pm cp : Nat} {nx xn yn : Int} {tv ov : Value} {st : St} {M : PM} {td : List (Ty × Ty)} {xf yf : Fact} {sa sb : Sd} (w : World) (hM : MkI base w mk s m pm nx tv ov st M cp) (hT : TodoI base w tv td) (hb : base ≤ w.heap.size) (hx : Closed (ZU base N0 w) w xf sa) (hy : Closed (ZU base N0 w) w yf sb) (hn : xn ≠ yn) (hu : ¬ (xf.kd ≠ yf.kd ∨ xf.nm ≠ yf.nm ∨ xf.args.len ≠ yf.args.len)) (hc : cp < 1000000000) (hix : inI xn = true) (hiy : inI yn = true) (hah : (aheadP M xn yn).2 = false) (hlim : (sa.parts.zip sb.parts).length + td.length < limT) :
    Calls Try.prog 25 #[.pointer (some ⟨mk, 0, none⟩), sideV ⟨xf, true, xn⟩, sideV ⟨yf, true, yn⟩] w (PairPost base mk s m pm cp nx tv td ⟨0, st, (aheadP M xn yn).1, sa.parts.zip sb.parts⟩ w) := by
  have HNU := Lib.hid hu
  obtain ⟨W0, hW0⟩ : ∃ W0, (w.alloc (.cells (boxC xf true xn) TSide)).alloc (.cells (boxC yf true yn) TSide) = W0 := ⟨_, rfl⟩
  have hB0 : Below w.heap.size w W0 := by rw [← hW0]; exact ((Below.refl w.heap.size w).alloc (Nat.le_refl _) _).alloc (by simp) _
  have hX0 : Box W0 w.heap.size TSide (boxC xf true xn) := by rw [← hW0]; exact (Box.new w _ _).alloc _
  have hY0 : Box W0 (w.heap.size + 1) TSide (boxC yf true yn) := by rw [← hW0]; exact Box.at_ _ _ (by simp)
  have HB0 := Lib.hid hB0
  have HX0 := Lib.hid hX0
  have HY0 := Lib.hid hY0
  have HM := Lib.hid hM
  have HT := Lib.hid hT
  obtain ⟨x0, x1, x2, x3, x4, x5, x6, x7, x8⟩ := hX0.cells9
  obtain ⟨y0, y1, y2, y3, y4, y5, y6, y7, y8⟩ := hY0.cells9
  have hxo : (xf.kd == 0) = false := by simpa using hx.k0
  have hyo : (yf.kd == 0) = false := by simpa using hy.k0
  have HU := Lib.hid (unlikeC xf yf (v := false) (decide_eq_false hu))
  have HXC := Lib.hid hx
  have HYC := Lib.hid hy
  have hq : (xn == yn) = false := by simpa using hn
  clear hM hT hX0 hY0 hB0 hx hy hu hn
  have HLN := Lib.hid (show xf.args.len * 56 ≤ 140737488355328 ∧ xf.args.len = sa.parts.length ∧ yf.args.len = sb.parts.length ∧ xf.args.len = yf.args.len from ⟨HXC.out.ln, by rw [← Tys.toL_len, HXC.out.pt], by rw [← Tys.toL_len, HYC.out.pt], by have := HNU.out; exact Classical.byContradiction fun e => this (.inr (.inr e))⟩)
  go_enter Try.func25, Try.ntmps25
  go_wp2_with fail
  refine (isOpen_any ⟨xf, true, xn⟩ W0).mono ?_
  rintro e W1 ⟨rfl, hb1⟩
  rw [hxo]
  have HB1 := Lib.hid (HB0.out.trans (hb1.mono HB0.out.size))
  have HX1 := Lib.hid (HX0.out.below hb1 HX0.out.lt)
  have HY1 := Lib.hid (HY0.out.below hb1 HY0.out.lt)
  clear hb1 x0 x1 x2 x3 x4 x5 x6 x7 x8 y0 y1 y2 y3 y4 y5 y6 y7 y8 hW0
  obtain ⟨x0, x1, x2, x3, x4, x5, x6, x7, x8⟩ := HX1.out.cells9
  obtain ⟨y0, y1, y2, y3, y4, y5, y6, y7, y8⟩ := HY1.out.cells9
  go_wp2_with fail
  refine (isOpen_any ⟨xf, true, xn⟩ W1).mono ?_
  rintro e W2 ⟨rfl, hb2⟩
  rw [hxo]
  have HB2 := Lib.hid (HB1.out.trans (hb2.mono HB1.out.size))
  have HX2 := Lib.hid (HX1.out.below hb2 HX1.out.lt)
  have HY2 := Lib.hid (HY1.out.below hb2 HY1.out.lt)
  clear hb2 x0 x1 x2 x3 x4 x5 x6 x7 x8 y0 y1 y2 y3 y4 y5 y6 y7 y8
  obtain ⟨x0, x1, x2, x3, x4, x5, x6, x7, x8⟩ := HX2.out.cells9
  obtain ⟨y0, y1, y2, y3, y4, y5, y6, y7, y8⟩ := HY2.out.cells9
  go_wp2_with fail
  refine (isOpen_any ⟨yf, true, yn⟩ W2).mono ?_
  rintro e W3 ⟨rfl, hb3⟩
  rw [hyo]
  have HB3 := Lib.hid (HB2.out.trans (hb3.mono HB2.out.size))
  have HX3 := Lib.hid (HX2.out.below hb3 HX2.out.lt)
  have HY3 := Lib.hid (HY2.out.below hb3 HY2.out.lt)
  clear hb3 x0 x1 x2 x3 x4 x5 x6 x7 x8 y0 y1 y2 y3 y4 y5 y6 y7 y8
  obtain ⟨x0, x1, x2, x3, x4, x5, x6, x7, x8⟩ := HX3.out.cells9
  obtain ⟨y0, y1, y2, y3, y4, y5, y6, y7, y8⟩ := HY3.out.cells9
  go_wp2_with fail
  refine (HU.out W3).mono ?_
  rintro e W4 ⟨rfl, hb4⟩
  have HB4 := Lib.hid (HB3.out.trans (hb4.mono HB3.out.size))
  have HX4 := Lib.hid (HX3.out.below hb4 HX3.out.lt)
  have HY4 := Lib.hid (HY3.out.below hb4 HY3.out.lt)
  clear hb4 x0 x1 x2 x3 x4 x5 x6 x7 x8 y0 y1 y2 y3 y4 y5 y6 y7 y8
  obtain ⟨x0, x1, x2, x3, x4, x5, x6, x7, x8⟩ := HX4.out.cells9
  obtain ⟨y0, y1, y2, y3, y4, y5, y6, y7, y8⟩ := HY4.out.cells9
  go_wp2_with fail
  refine (ahead_any W4 (HM.out.si.below HB4.out).box (HM.out.pr.below HB4.out) hc hix hiy).mono ?_
  rintro e W5 ⟨rfl, ⟨c5, hc5, hp5⟩, hk5⟩
  rw [hah]
  have HA := Lib.hid ((HM.out.below HB4.out).met (HT.out.below HB4.out) hk5 hp5)
  have HX5 := Lib.hid (hk5.box HX4.out ((HM.out.pr.below HB4.out).nbox HX4.out ∘ Eq.symm))
  have HY5 := Lib.hid (hk5.box HY4.out ((HM.out.pr.below HB4.out).nbox HY4.out ∘ Eq.symm))
  clear hp5 hk5 x0 x1 x2 x3 x4 x5 x6 x7 x8 y0 y1 y2 y3 y4 y5 y6 y7 y8
  obtain ⟨x0, x1, x2, x3, x4, x5, x6, x7, x8⟩ := HX5.out.cells9
  obtain ⟨y0, y1, y2, y3, y4, y5, y6, y7, y8⟩ := HY5.out.cells9
  have HMk := Lib.hid HA.out.1
  have HK0 : Hid (KP base mk m pm w W5) := Lib.hid (KG.trans (KG.of_below HB4.out (Nat.le_refl _)) HA.out.2.2.1)
  have HBK : Hid (W4.heap.size ≤ W5.heap.size) := Lib.hid HA.out.2.2.1.size
  have HK1 : Hid (KeepP tv w W5) := Lib.hid ((KeepP.below HB4.out).trans (HA.out.2.2.2 _))
  have HTk := Lib.hid HA.out.2.1
  have HRD := Lib.hid (show RdT (ZU base N0 W5) W5 xf.a xf.args 0 ∧ RdT (ZU base N0 W5) W5 yf.a yf.args 0 from ⟨KP.rd (HM.out.below HB4.out) HA.out.2.2.1 ((HXC.out.rd.below HB4.out fun b hb => hb.lt).mono fun b hz => zu_below HB4.out hz), KP.rd (HM.out.below HB4.out) HA.out.2.2.1 ((HYC.out.rd.below HB4.out fun b hb => hb.lt).mono fun b hz => zu_below HB4.out hz)⟩)
  have hn0 : ((xf.args.len : Int) - 1) = wrap64 ((xf.args.len : Int) - 1) := (IntWalk.wrap64_in _ (by have := HLN.out.1; omega)).symm
  have hw0 : wrap64 ((xf.args.len : Int) - 1) = (xf.args.len : Int) - 1 := hn0.symm
  clear hn0
  go_wp2_with fail
  go_loopg [7] xf.args.len (fun d v wr => ∃ k : Nat, k = d ∧ v = .int .i64 ((k : Int) - 1) ∧ k ≤ xf.args.len ∧ PushL base mk s m pm c5 nx ov st (aheadP M xn yn).1 tv (sa.parts.zip sb.parts) td W5 k wr)
  case atStart => exact ⟨_, rfl, by first | rfl | (rw [hw0]), Nat.le_refl _, tv, HMk.out, by rw [List.drop_of_length_le (by rw [List.length_zip]; have := HLN.out.2; omega), List.nil_append]; exact HTk.out, KG.refl _ _ _ _, KeepP.refl _ _, fun b e => .inl e⟩
  case round =>
    obtain ⟨k, hkd, rfl, hdl, tvr, hMr, hTr, hKr, hKE, hOB⟩ := hrel
    have HKE := Lib.hid (And.intro hKE hOB)
    clear hKE hOB
    have HKD := Lib.hid hkd
    clear hkd
    have HXr := Lib.hid (hKr.box HX5.out (fun e => HMk.out.notD (t := TSide) (by decide) _ e ⟨_, HX5.out⟩) (by decide))
    have HYr := Lib.hid (hKr.box HY5.out (fun e => HMk.out.notD (t := TSide) (by decide) _ e ⟨_, HY5.out⟩) (by decide))
    have HMR := Lib.hid hMr
    have HKR := Lib.hid hKr
    have hxr : RdT (ZU base N0 wr) wr xf.a xf.args 0 := KP.rd HMk.out hKr HRD.out.1
    have hyr : RdT (ZU base N0 wr) wr yf.a yf.args 0 := KP.rd HMk.out hKr HRD.out.2
    clear hMr hKr x0 x1 x2 x3 x4 x5 x6 x7 x8 y0 y1 y2 y3 y4 y5 y6 y7 y8
    obtain ⟨x0, x1, x2, x3, x4, x5, x6, x7, x8⟩ := HXr.out.cells9
    obtain ⟨y0, y1, y2, y3, y4, y5, y6, y7, y8⟩ := HYr.out.cells9
    cases k with
    | zero =>
      have hneg : ¬ (0 : Int) ≤ ((0 : Nat) : Int) - 1 := by omega
      rw [List.drop_zero] at hTr
      have HTR := Lib.hid hTr
      clear hTr hxr hyr
      go_wp2_with fail
      go_ret
      exact ⟨rfl, tvr, ov, c5, hc5, HMR.out, HTR.out, KG.trans HK0.out HKR.out, HK1.out.trans HKE.out.1⟩
    | succ j =>
      have hi : (((j + 1 : Nat) : Int) - 1) = (j : Int) := by omega
      rw [hi]
      have hge : (0 : Int) ≤ (j : Int) := by omega
      have hltx : (j : Int) < xf.args.len := by omega
      have hlty : (j : Int) < yf.args.len := by have := HLN.out.2.2.2; omega
      have hwj : wrap64 ((j : Int) - 1) = (j : Int) - 1 := IntWalk.wrap64_in _ (by have := HLN.out.1; omega)
      obtain ⟨ex, hex⟩ : ∃ ex, xf.args.toL[j]? = some ex := ⟨_, List.getElem?_eq_getElem (by rw [Tys.toL_len]; omega)⟩
      obtain ⟨ey, hey⟩ : ∃ ey, yf.args.toL[j]? = some ey := ⟨_, List.getElem?_eq_getElem (by rw [Tys.toL_len]; have := HLN.out.2.2.2; omega)⟩
      obtain ⟨adx, ax, cx, hadx, hzx, p0, p1, p2, p3, p4, p5, p6⟩ := hxr.at_ j ex hex
      obtain ⟨ady, ay, cy, hady, hzy, q0, q1, q2, q3, q4, q5, q6⟩ := hyr.at_ j ey hey
      rw [Nat.zero_add] at p0 p1 p2 p3 q0 q1 q2 q3
      rw [hadx] at x3
      rw [hady] at y3
      have HEX := Lib.hid (show TyR base wr ex ax from ⟨p6, p5, p4⟩)
      have HEY := Lib.hid (show TyR base wr ey ay from ⟨q6, q5, q4⟩)
      have hdrop : (sa.parts.zip sb.parts).drop j = (ex, ey) :: (sa.parts.zip sb.parts).drop (j + 1) := by
        have h1 : j < (sa.parts.zip sb.parts).length := by rw [List.length_zip]; have := HLN.out.2; omega
        rw [List.drop_eq_getElem_cons h1, List.getElem_zip]
        have e1 : sa.parts[j]? = some ex := by rw [← HXC.out.pt]; exact hex
        have e2 : sb.parts[j]? = some ey := by rw [← HYC.out.pt]; exact hey
        rw [List.getElem?_eq_getElem (by have := HLN.out.2; omega)] at e1 e2
        injection e1 with e1
        injection e2 with e2
        rw [e1, e2]
      obtain ⟨vs, ho, hro⟩ := hTr
      obtain ⟨n, hn⟩ : ∃ n, n = ((sa.parts.zip sb.parts).drop (j + 1) ++ td).length := ⟨_, rfl⟩
      rw [← hn] at ho
      have hnl : n < limT := by rw [hn, List.length_append, List.length_drop]; omega
      unfold limT at hnl
      obtain ⟨ao, co, hov⟩ := own_slice ho
      obtain ⟨i0, hi0, hi1, hi2, hi3⟩ := info_parts Tpair
      obtain ⟨a0, a1, a2, a3, _⟩ := HMR.out.si.box.cells4
      have HOV := Lib.hid hov
      have zmk := HMR.out.si.box.lt
      rw [hov] at a1
      have HO := Lib.hid (show wr.ownsRow base TP2 8 (.slice ao n co) n vs by rw [← hov]; exact ho)
      have HPS := Lib.hid (And.intro hn (And.intro hro hdrop))
      have hbw : base ≤ wr.heap.size := Nat.le_trans hb (Nat.le_trans (Nat.le_trans HB4.out.size HBK.out) HKR.out.size)
      clear hex hey hadx hady hxr hyr p4 p5 p6 q4 q5 q6 ho hro hdrop hn hov hi
      have hnb1 : n + 1 ≤ maxLen := by unfold maxLen; omega
      have hnb2 : (n + 1) * 112 ≤ 140737488355328 := by omega
      obtain ⟨W1, hW1⟩ : ∃ W1, wr.drew.alloc (.cells (pairA ex ey ax cx ay cy) TP2) = W1 := ⟨_, rfl⟩
      have hB1 : Below wr.heap.size wr W1 := by rw [← hW1]; exact ((Below.refl _ wr).drew).alloc (Nat.le_refl _) _
      have hzz : W1.heap.size = wr.heap.size + 1 := by rw [← hW1]; simp
      have hN1 : Box W1 wr.heap.size TP2 (pairA ex ey ax cx ay cy) := by rw [← hW1]; exact Box.new wr.drew _ TP2
      obtain ⟨v9, w3, hr9, hown, hgrow, _, hlies⟩ := run_append_own_at (P := Try.prog) (w := W1) base TPs TPs TP2 i0 _ 8 112 Try.underlying49 hi0 hi1 hi2 hi3 rfl (by decide) (.slice ao n co) n vs (own_here HO.out hB1) ⟨wr.heap.size, 0, none⟩ 1 1 (pairL ex ey ax cx ay cy) rfl
        (news_of_box hN1) (by simp [Value.oneCell']) hnb1 hnb2 (by omega)
      obtain ⟨g5, c5, rfl⟩ := ownsRow_succ hown
      have hgr : (wr.alloc (.cells (pairA ex ey ax cx ay cy) TP2)).drew.grownBy w3 (Value.slice ao n co).ownBlock := by rw [← hW1] at hgrow; exact hgrow
      have k1 : W1.cell? ⟨mk, 1, none⟩ = some (.slice ao n co) := (hB1.cell (p := ⟨mk, 1, none⟩) zmk).trans a1
      have hMk3 : Box w3 mk TMg _ := ((HMR.out.si.box.alloc (.cells (pairA ex ey ax cx ay cy) TP2)).drew).grown hgr (own_ne HO.out HMR.out.si.box (by decide))
      have m1 := hMk3.cell 1
      have f1 := hMk3.free 1
      have HOWN := Lib.hid hown
      have HGR := Lib.hid hgr
      have HLI : Hid (∀ b, (Value.slice (some ⟨g5, 0, none⟩) (n + 1) c5).ownBlock = some b → tv.ownBlock = some b ∨ W5.heap.size ≤ b) := Lib.hid fun b e => hlies.elim (fun q => HKE.out.2 b (by rw [HOV.out, ← q]; exact e)) fun q => .inr (by have h9 : some b = some W1.heap.size := e.symm.trans q; injection h9 with h9; have := HKR.out.size; omega)
      clear hzx hzy hB1 hzz hN1 hown hgrow hgr hlies hMk3 hi0 hi1 hi2 hi3 hnb1 hnb2
      go_wp2_with fail
      go_region
      all_goals
        obtain ⟨W9, hW9⟩ : ∃ W9, w3.setCell ⟨mk, 1, none⟩ (.slice (some ⟨g5, 0, none⟩) (n + 1) c5) = W9 := ⟨_, rfl⟩
        rw [hW9]
        have HN := Lib.hid (todo_push (x := ex) (y := ey) HMR.out HPS.out.1 (by rw [HOV.out]; exact HO.out) HPS.out.2.1 HEX.out HEY.out HOWN.out (by rw [HOV.out]; exact HGR.out))
        rw [hW9] at HN
        clear hW9
        go_wp2_with fail
        go_roundg j
        case measure => have := HKD.out; omega
        case rel => exact ⟨j, rfl, by first | rfl | (rw [hwj]), by omega, _, HN.out.1, by rw [HPS.out.2.2]; exact HN.out.2.1, KG.trans HKR.out HN.out.2.2.1, fun b hb hn => (HN.out.2.2.2 b (hb.same (HKE.out.1 b hb hn)) (fun e => (HKE.out.2 b e).elim hn fun q => by have := hb.lt; omega)).trans (HKE.out.1 b hb hn), HLI.out⟩
set_option maxRecDepth 100000 in
set_option maxHeartbeats 8000000 in
theorem pair_push_tf {base mk s m pm cp : Nat} {nx xn yn : Int} {tv ov : Value} {st : St} {M : PM} {td : List (Ty × Ty)} {xf yf : Fact} {sa sb : Sd} (w : World) (hM : MkI base w mk s m pm nx tv ov st M cp) (hT : TodoI base w tv td) (hb : base ≤ w.heap.size) (hx : Closed (ZU base N0 w) w xf sa) (hy : Closed (ZU base N0 w) w yf sb) (hu : ¬ (xf.kd ≠ yf.kd ∨ xf.nm ≠ yf.nm ∨ xf.args.len ≠ yf.args.len)) (hlim : (sa.parts.zip sb.parts).length + td.length < limT) :
    Calls Try.prog 25 #[.pointer (some ⟨mk, 0, none⟩), sideV ⟨xf, true, xn⟩, sideV ⟨yf, false, yn⟩] w (PairPost base mk s m pm cp nx tv td ⟨0, st, M, sa.parts.zip sb.parts⟩ w) := by
  have HNU := Lib.hid hu
  obtain ⟨W0, hW0⟩ : ∃ W0, (w.alloc (.cells (boxC xf true xn) TSide)).alloc (.cells (boxC yf false yn) TSide) = W0 := ⟨_, rfl⟩
  have hB0 : Below w.heap.size w W0 := by rw [← hW0]; exact ((Below.refl w.heap.size w).alloc (Nat.le_refl _) _).alloc (by simp) _
  have hX0 : Box W0 w.heap.size TSide (boxC xf true xn) := by rw [← hW0]; exact (Box.new w _ _).alloc _
  have hY0 : Box W0 (w.heap.size + 1) TSide (boxC yf false yn) := by rw [← hW0]; exact Box.at_ _ _ (by simp)
  have HB0 := Lib.hid hB0
  have HX0 := Lib.hid hX0
  have HY0 := Lib.hid hY0
  have HM := Lib.hid hM
  have HT := Lib.hid hT
  obtain ⟨x0, x1, x2, x3, x4, x5, x6, x7, x8⟩ := hX0.cells9
  obtain ⟨y0, y1, y2, y3, y4, y5, y6, y7, y8⟩ := hY0.cells9
  have hxo : (xf.kd == 0) = false := by simpa using hx.k0
  have hyo : (yf.kd == 0) = false := by simpa using hy.k0
  have HU := Lib.hid (unlikeC xf yf (v := false) (decide_eq_false hu))
  have HXC := Lib.hid hx
  have HYC := Lib.hid hy
  clear hM hT hX0 hY0 hB0 hx hy hu
  have HLN := Lib.hid (show xf.args.len * 56 ≤ 140737488355328 ∧ xf.args.len = sa.parts.length ∧ yf.args.len = sb.parts.length ∧ xf.args.len = yf.args.len from ⟨HXC.out.ln, by rw [← Tys.toL_len, HXC.out.pt], by rw [← Tys.toL_len, HYC.out.pt], by have := HNU.out; exact Classical.byContradiction fun e => this (.inr (.inr e))⟩)
  go_enter Try.func25, Try.ntmps25
  go_wp2_with fail
  refine (isOpen_any ⟨xf, true, xn⟩ W0).mono ?_
  rintro e W1 ⟨rfl, hb1⟩
  rw [hxo]
  have HB1 := Lib.hid (HB0.out.trans (hb1.mono HB0.out.size))
  have HX1 := Lib.hid (HX0.out.below hb1 HX0.out.lt)
  have HY1 := Lib.hid (HY0.out.below hb1 HY0.out.lt)
  clear hb1 x0 x1 x2 x3 x4 x5 x6 x7 x8 y0 y1 y2 y3 y4 y5 y6 y7 y8 hW0
  obtain ⟨x0, x1, x2, x3, x4, x5, x6, x7, x8⟩ := HX1.out.cells9
  obtain ⟨y0, y1, y2, y3, y4, y5, y6, y7, y8⟩ := HY1.out.cells9
  go_wp2_with fail
  refine (isOpen_any ⟨xf, true, xn⟩ W1).mono ?_
  rintro e W2 ⟨rfl, hb2⟩
  rw [hxo]
  have HB2 := Lib.hid (HB1.out.trans (hb2.mono HB1.out.size))
  have HX2 := Lib.hid (HX1.out.below hb2 HX1.out.lt)
  have HY2 := Lib.hid (HY1.out.below hb2 HY1.out.lt)
  clear hb2 x0 x1 x2 x3 x4 x5 x6 x7 x8 y0 y1 y2 y3 y4 y5 y6 y7 y8
  obtain ⟨x0, x1, x2, x3, x4, x5, x6, x7, x8⟩ := HX2.out.cells9
  obtain ⟨y0, y1, y2, y3, y4, y5, y6, y7, y8⟩ := HY2.out.cells9
  go_wp2_with fail
  refine (isOpen_any ⟨yf, false, yn⟩ W2).mono ?_
  rintro e W3 ⟨rfl, hb3⟩
  rw [hyo]
  have HB3 := Lib.hid (HB2.out.trans (hb3.mono HB2.out.size))
  have HX3 := Lib.hid (HX2.out.below hb3 HX2.out.lt)
  have HY3 := Lib.hid (HY2.out.below hb3 HY2.out.lt)
  clear hb3 x0 x1 x2 x3 x4 x5 x6 x7 x8 y0 y1 y2 y3 y4 y5 y6 y7 y8
  obtain ⟨x0, x1, x2, x3, x4, x5, x6, x7, x8⟩ := HX3.out.cells9
  obtain ⟨y0, y1, y2, y3, y4, y5, y6, y7, y8⟩ := HY3.out.cells9
  go_wp2_with fail
  refine (HU.out W3).mono ?_
  rintro e W4 ⟨rfl, hb4⟩
  have HB4 := Lib.hid (HB3.out.trans (hb4.mono HB3.out.size))
  have HX4 := Lib.hid (HX3.out.below hb4 HX3.out.lt)
  have HY4 := Lib.hid (HY3.out.below hb4 HY3.out.lt)
  clear hb4 x0 x1 x2 x3 x4 x5 x6 x7 x8 y0 y1 y2 y3 y4 y5 y6 y7 y8
  obtain ⟨x0, x1, x2, x3, x4, x5, x6, x7, x8⟩ := HX4.out.cells9
  obtain ⟨y0, y1, y2, y3, y4, y5, y6, y7, y8⟩ := HY4.out.cells9
  have HMk := Lib.hid (HM.out.below HB4.out)
  have HTk := Lib.hid (HT.out.below HB4.out)
  have HK0 : Hid (KP base mk m pm w W4) := Lib.hid (KG.of_below HB4.out (Nat.le_refl _))
  have HBK : Hid (W4.heap.size ≤ W4.heap.size) := Lib.hid (Nat.le_refl _)
  have HK1 : Hid (KeepP tv w W4) := Lib.hid (KeepP.below HB4.out)
  have HRD := Lib.hid (show RdT (ZU base N0 W4) W4 xf.a xf.args 0 ∧ RdT (ZU base N0 W4) W4 yf.a yf.args 0 from ⟨(HXC.out.rd.below HB4.out fun b hb => hb.lt).mono fun b hz => zu_below HB4.out hz, (HYC.out.rd.below HB4.out fun b hb => hb.lt).mono fun b hz => zu_below HB4.out hz⟩)
  have hn0 : ((xf.args.len : Int) - 1) = wrap64 ((xf.args.len : Int) - 1) := (IntWalk.wrap64_in _ (by have := HLN.out.1; omega)).symm
  have hw0 : wrap64 ((xf.args.len : Int) - 1) = (xf.args.len : Int) - 1 := hn0.symm
  clear hn0
  go_wp2_with fail
  go_loopg [7] xf.args.len (fun d v wr => ∃ k : Nat, k = d ∧ v = .int .i64 ((k : Int) - 1) ∧ k ≤ xf.args.len ∧ PushL base mk s m pm cp nx ov st M tv (sa.parts.zip sb.parts) td W4 k wr)
  case atStart => exact ⟨_, rfl, by first | rfl | (rw [hw0]), Nat.le_refl _, tv, HMk.out, by rw [List.drop_of_length_le (by rw [List.length_zip]; have := HLN.out.2; omega), List.nil_append]; exact HTk.out, KG.refl _ _ _ _, KeepP.refl _ _, fun b e => .inl e⟩
  case round =>
    obtain ⟨k, hkd, rfl, hdl, tvr, hMr, hTr, hKr, hKE, hOB⟩ := hrel
    have HKE := Lib.hid (And.intro hKE hOB)
    clear hKE hOB
    have HKD := Lib.hid hkd
    clear hkd
    have HXr := Lib.hid (hKr.box HX4.out (fun e => HMk.out.notD (t := TSide) (by decide) _ e ⟨_, HX4.out⟩) (by decide))
    have HYr := Lib.hid (hKr.box HY4.out (fun e => HMk.out.notD (t := TSide) (by decide) _ e ⟨_, HY4.out⟩) (by decide))
    have HMR := Lib.hid hMr
    have HKR := Lib.hid hKr
    have hxr : RdT (ZU base N0 wr) wr xf.a xf.args 0 := KP.rd HMk.out hKr HRD.out.1
    have hyr : RdT (ZU base N0 wr) wr yf.a yf.args 0 := KP.rd HMk.out hKr HRD.out.2
    clear hMr hKr x0 x1 x2 x3 x4 x5 x6 x7 x8 y0 y1 y2 y3 y4 y5 y6 y7 y8
    obtain ⟨x0, x1, x2, x3, x4, x5, x6, x7, x8⟩ := HXr.out.cells9
    obtain ⟨y0, y1, y2, y3, y4, y5, y6, y7, y8⟩ := HYr.out.cells9
    cases k with
    | zero =>
      have hneg : ¬ (0 : Int) ≤ ((0 : Nat) : Int) - 1 := by omega
      rw [List.drop_zero] at hTr
      have HTR := Lib.hid hTr
      clear hTr hxr hyr
      go_wp2_with fail
      go_ret
      exact ⟨rfl, tvr, ov, cp, (by omega), HMR.out, HTR.out, KG.trans HK0.out HKR.out, HK1.out.trans HKE.out.1⟩
    | succ j =>
      have hi : (((j + 1 : Nat) : Int) - 1) = (j : Int) := by omega
      rw [hi]
      have hge : (0 : Int) ≤ (j : Int) := by omega
      have hltx : (j : Int) < xf.args.len := by omega
      have hlty : (j : Int) < yf.args.len := by have := HLN.out.2.2.2; omega
      have hwj : wrap64 ((j : Int) - 1) = (j : Int) - 1 := IntWalk.wrap64_in _ (by have := HLN.out.1; omega)
      obtain ⟨ex, hex⟩ : ∃ ex, xf.args.toL[j]? = some ex := ⟨_, List.getElem?_eq_getElem (by rw [Tys.toL_len]; omega)⟩
      obtain ⟨ey, hey⟩ : ∃ ey, yf.args.toL[j]? = some ey := ⟨_, List.getElem?_eq_getElem (by rw [Tys.toL_len]; have := HLN.out.2.2.2; omega)⟩
      obtain ⟨adx, ax, cx, hadx, hzx, p0, p1, p2, p3, p4, p5, p6⟩ := hxr.at_ j ex hex
      obtain ⟨ady, ay, cy, hady, hzy, q0, q1, q2, q3, q4, q5, q6⟩ := hyr.at_ j ey hey
      rw [Nat.zero_add] at p0 p1 p2 p3 q0 q1 q2 q3
      rw [hadx] at x3
      rw [hady] at y3
      have HEX := Lib.hid (show TyR base wr ex ax from ⟨p6, p5, p4⟩)
      have HEY := Lib.hid (show TyR base wr ey ay from ⟨q6, q5, q4⟩)
      have hdrop : (sa.parts.zip sb.parts).drop j = (ex, ey) :: (sa.parts.zip sb.parts).drop (j + 1) := by
        have h1 : j < (sa.parts.zip sb.parts).length := by rw [List.length_zip]; have := HLN.out.2; omega
        rw [List.drop_eq_getElem_cons h1, List.getElem_zip]
        have e1 : sa.parts[j]? = some ex := by rw [← HXC.out.pt]; exact hex
        have e2 : sb.parts[j]? = some ey := by rw [← HYC.out.pt]; exact hey
        rw [List.getElem?_eq_getElem (by have := HLN.out.2; omega)] at e1 e2
        injection e1 with e1
        injection e2 with e2
        rw [e1, e2]
      obtain ⟨vs, ho, hro⟩ := hTr
      obtain ⟨n, hn⟩ : ∃ n, n = ((sa.parts.zip sb.parts).drop (j + 1) ++ td).length := ⟨_, rfl⟩
      rw [← hn] at ho
      have hnl : n < limT := by rw [hn, List.length_append, List.length_drop]; omega
      unfold limT at hnl
      obtain ⟨ao, co, hov⟩ := own_slice ho
      obtain ⟨i0, hi0, hi1, hi2, hi3⟩ := info_parts Tpair
      obtain ⟨a0, a1, a2, a3, _⟩ := HMR.out.si.box.cells4
      have HOV := Lib.hid hov
      have zmk := HMR.out.si.box.lt
      rw [hov] at a1
      have HO := Lib.hid (show wr.ownsRow base TP2 8 (.slice ao n co) n vs by rw [← hov]; exact ho)
      have HPS := Lib.hid (And.intro hn (And.intro hro hdrop))
      have hbw : base ≤ wr.heap.size := Nat.le_trans hb (Nat.le_trans (Nat.le_trans HB4.out.size HBK.out) HKR.out.size)
      clear hex hey hadx hady hxr hyr p4 p5 p6 q4 q5 q6 ho hro hdrop hn hov hi
      have hnb1 : n + 1 ≤ maxLen := by unfold maxLen; omega
      have hnb2 : (n + 1) * 112 ≤ 140737488355328 := by omega
      obtain ⟨W1, hW1⟩ : ∃ W1, wr.drew.alloc (.cells (pairA ex ey ax cx ay cy) TP2) = W1 := ⟨_, rfl⟩
      have hB1 : Below wr.heap.size wr W1 := by rw [← hW1]; exact ((Below.refl _ wr).drew).alloc (Nat.le_refl _) _
      have hzz : W1.heap.size = wr.heap.size + 1 := by rw [← hW1]; simp
      have hN1 : Box W1 wr.heap.size TP2 (pairA ex ey ax cx ay cy) := by rw [← hW1]; exact Box.new wr.drew _ TP2
      obtain ⟨v9, w3, hr9, hown, hgrow, _, hlies⟩ := run_append_own_at (P := Try.prog) (w := W1) base TPs TPs TP2 i0 _ 8 112 Try.underlying49 hi0 hi1 hi2 hi3 rfl (by decide) (.slice ao n co) n vs (own_here HO.out hB1) ⟨wr.heap.size, 0, none⟩ 1 1 (pairL ex ey ax cx ay cy) rfl
        (news_of_box hN1) (by simp [Value.oneCell']) hnb1 hnb2 (by omega)
      obtain ⟨g5, c5, rfl⟩ := ownsRow_succ hown
      have hgr : (wr.alloc (.cells (pairA ex ey ax cx ay cy) TP2)).drew.grownBy w3 (Value.slice ao n co).ownBlock := by rw [← hW1] at hgrow; exact hgrow
      have k1 : W1.cell? ⟨mk, 1, none⟩ = some (.slice ao n co) := (hB1.cell (p := ⟨mk, 1, none⟩) zmk).trans a1
      have hMk3 : Box w3 mk TMg _ := ((HMR.out.si.box.alloc (.cells (pairA ex ey ax cx ay cy) TP2)).drew).grown hgr (own_ne HO.out HMR.out.si.box (by decide))
      have m1 := hMk3.cell 1
      have f1 := hMk3.free 1
      have HOWN := Lib.hid hown
      have HGR := Lib.hid hgr
      have HLI : Hid (∀ b, (Value.slice (some ⟨g5, 0, none⟩) (n + 1) c5).ownBlock = some b → tv.ownBlock = some b ∨ W4.heap.size ≤ b) := Lib.hid fun b e => hlies.elim (fun q => HKE.out.2 b (by rw [HOV.out, ← q]; exact e)) fun q => .inr (by have h9 : some b = some W1.heap.size := e.symm.trans q; injection h9 with h9; have := HKR.out.size; omega)
      clear hzx hzy hB1 hzz hN1 hown hgrow hgr hlies hMk3 hi0 hi1 hi2 hi3 hnb1 hnb2
      go_wp2_with fail
      go_region
      all_goals
        obtain ⟨W9, hW9⟩ : ∃ W9, w3.setCell ⟨mk, 1, none⟩ (.slice (some ⟨g5, 0, none⟩) (n + 1) c5) = W9 := ⟨_, rfl⟩
        rw [hW9]
        have HN := Lib.hid (todo_push (x := ex) (y := ey) HMR.out HPS.out.1 (by rw [HOV.out]; exact HO.out) HPS.out.2.1 HEX.out HEY.out HOWN.out (by rw [HOV.out]; exact HGR.out))
        rw [hW9] at HN
        clear hW9
        go_wp2_with fail
        go_roundg j
        case measure => have := HKD.out; omega
        case rel => exact ⟨j, rfl, by first | rfl | (rw [hwj]), by omega, _, HN.out.1, by rw [HPS.out.2.2]; exact HN.out.2.1, KG.trans HKR.out HN.out.2.2.1, fun b hb hn => (HN.out.2.2.2 b (hb.same (HKE.out.1 b hb hn)) (fun e => (HKE.out.2 b e).elim hn fun q => by have := hb.lt; omega)).trans (HKE.out.1 b hb hn), HLI.out⟩
set_option maxRecDepth 100000 in
set_option maxHeartbeats 8000000 in
theorem pair_push_f {base mk s m pm cp : Nat} {nx xn yn : Int} {tv ov : Value} {st : St} {M : PM} {td : List (Ty × Ty)} {xf yf : Fact} {sa sb : Sd} {yv : Bool} (w : World) (hM : MkI base w mk s m pm nx tv ov st M cp) (hT : TodoI base w tv td) (hb : base ≤ w.heap.size) (hx : Closed (ZU base N0 w) w xf sa) (hy : Closed (ZU base N0 w) w yf sb) (hu : ¬ (xf.kd ≠ yf.kd ∨ xf.nm ≠ yf.nm ∨ xf.args.len ≠ yf.args.len)) (hlim : (sa.parts.zip sb.parts).length + td.length < limT) :
    Calls Try.prog 25 #[.pointer (some ⟨mk, 0, none⟩), sideV ⟨xf, false, xn⟩, sideV ⟨yf, yv, yn⟩] w (PairPost base mk s m pm cp nx tv td ⟨0, st, M, sa.parts.zip sb.parts⟩ w) := by
  have HNU := Lib.hid hu
  obtain ⟨W0, hW0⟩ : ∃ W0, (w.alloc (.cells (boxC xf false xn) TSide)).alloc (.cells (boxC yf yv yn) TSide) = W0 := ⟨_, rfl⟩
  have hB0 : Below w.heap.size w W0 := by rw [← hW0]; exact ((Below.refl w.heap.size w).alloc (Nat.le_refl _) _).alloc (by simp) _
  have hX0 : Box W0 w.heap.size TSide (boxC xf false xn) := by rw [← hW0]; exact (Box.new w _ _).alloc _
  have hY0 : Box W0 (w.heap.size + 1) TSide (boxC yf yv yn) := by rw [← hW0]; exact Box.at_ _ _ (by simp)
  have HB0 := Lib.hid hB0
  have HX0 := Lib.hid hX0
  have HY0 := Lib.hid hY0
  have HM := Lib.hid hM
  have HT := Lib.hid hT
  obtain ⟨x0, x1, x2, x3, x4, x5, x6, x7, x8⟩ := hX0.cells9
  obtain ⟨y0, y1, y2, y3, y4, y5, y6, y7, y8⟩ := hY0.cells9
  have hxo : (xf.kd == 0) = false := by simpa using hx.k0
  have hyo : (yf.kd == 0) = false := by simpa using hy.k0
  have HU := Lib.hid (unlikeC xf yf (v := false) (decide_eq_false hu))
  have HXC := Lib.hid hx
  have HYC := Lib.hid hy
  clear hM hT hX0 hY0 hB0 hx hy hu
  have HLN := Lib.hid (show xf.args.len * 56 ≤ 140737488355328 ∧ xf.args.len = sa.parts.length ∧ yf.args.len = sb.parts.length ∧ xf.args.len = yf.args.len from ⟨HXC.out.ln, by rw [← Tys.toL_len, HXC.out.pt], by rw [← Tys.toL_len, HYC.out.pt], by have := HNU.out; exact Classical.byContradiction fun e => this (.inr (.inr e))⟩)
  go_enter Try.func25, Try.ntmps25
  go_wp2_with fail
  refine (isOpen_any ⟨xf, false, xn⟩ W0).mono ?_
  rintro e W1 ⟨rfl, hb1⟩
  rw [hxo]
  have HB1 := Lib.hid (HB0.out.trans (hb1.mono HB0.out.size))
  have HX1 := Lib.hid (HX0.out.below hb1 HX0.out.lt)
  have HY1 := Lib.hid (HY0.out.below hb1 HY0.out.lt)
  clear hb1 x0 x1 x2 x3 x4 x5 x6 x7 x8 y0 y1 y2 y3 y4 y5 y6 y7 y8 hW0
  obtain ⟨x0, x1, x2, x3, x4, x5, x6, x7, x8⟩ := HX1.out.cells9
  obtain ⟨y0, y1, y2, y3, y4, y5, y6, y7, y8⟩ := HY1.out.cells9
  go_wp2_with fail
  refine (isOpen_any ⟨xf, false, xn⟩ W1).mono ?_
  rintro e W2 ⟨rfl, hb2⟩
  rw [hxo]
  have HB2 := Lib.hid (HB1.out.trans (hb2.mono HB1.out.size))
  have HX2 := Lib.hid (HX1.out.below hb2 HX1.out.lt)
  have HY2 := Lib.hid (HY1.out.below hb2 HY1.out.lt)
  clear hb2 x0 x1 x2 x3 x4 x5 x6 x7 x8 y0 y1 y2 y3 y4 y5 y6 y7 y8
  obtain ⟨x0, x1, x2, x3, x4, x5, x6, x7, x8⟩ := HX2.out.cells9
  obtain ⟨y0, y1, y2, y3, y4, y5, y6, y7, y8⟩ := HY2.out.cells9
  go_wp2_with fail
  refine (isOpen_any ⟨yf, yv, yn⟩ W2).mono ?_
  rintro e W3 ⟨rfl, hb3⟩
  rw [hyo]
  have HB3 := Lib.hid (HB2.out.trans (hb3.mono HB2.out.size))
  have HX3 := Lib.hid (HX2.out.below hb3 HX2.out.lt)
  have HY3 := Lib.hid (HY2.out.below hb3 HY2.out.lt)
  clear hb3 x0 x1 x2 x3 x4 x5 x6 x7 x8 y0 y1 y2 y3 y4 y5 y6 y7 y8
  obtain ⟨x0, x1, x2, x3, x4, x5, x6, x7, x8⟩ := HX3.out.cells9
  obtain ⟨y0, y1, y2, y3, y4, y5, y6, y7, y8⟩ := HY3.out.cells9
  go_wp2_with fail
  refine (HU.out W3).mono ?_
  rintro e W4 ⟨rfl, hb4⟩
  have HB4 := Lib.hid (HB3.out.trans (hb4.mono HB3.out.size))
  have HX4 := Lib.hid (HX3.out.below hb4 HX3.out.lt)
  have HY4 := Lib.hid (HY3.out.below hb4 HY3.out.lt)
  clear hb4 x0 x1 x2 x3 x4 x5 x6 x7 x8 y0 y1 y2 y3 y4 y5 y6 y7 y8
  obtain ⟨x0, x1, x2, x3, x4, x5, x6, x7, x8⟩ := HX4.out.cells9
  obtain ⟨y0, y1, y2, y3, y4, y5, y6, y7, y8⟩ := HY4.out.cells9
  have HMk := Lib.hid (HM.out.below HB4.out)
  have HTk := Lib.hid (HT.out.below HB4.out)
  have HK0 : Hid (KP base mk m pm w W4) := Lib.hid (KG.of_below HB4.out (Nat.le_refl _))
  have HBK : Hid (W4.heap.size ≤ W4.heap.size) := Lib.hid (Nat.le_refl _)
  have HK1 : Hid (KeepP tv w W4) := Lib.hid (KeepP.below HB4.out)
  have HRD := Lib.hid (show RdT (ZU base N0 W4) W4 xf.a xf.args 0 ∧ RdT (ZU base N0 W4) W4 yf.a yf.args 0 from ⟨(HXC.out.rd.below HB4.out fun b hb => hb.lt).mono fun b hz => zu_below HB4.out hz, (HYC.out.rd.below HB4.out fun b hb => hb.lt).mono fun b hz => zu_below HB4.out hz⟩)
  have hn0 : ((xf.args.len : Int) - 1) = wrap64 ((xf.args.len : Int) - 1) := (IntWalk.wrap64_in _ (by have := HLN.out.1; omega)).symm
  have hw0 : wrap64 ((xf.args.len : Int) - 1) = (xf.args.len : Int) - 1 := hn0.symm
  clear hn0
  go_wp2_with fail
  go_loopg [7] xf.args.len (fun d v wr => ∃ k : Nat, k = d ∧ v = .int .i64 ((k : Int) - 1) ∧ k ≤ xf.args.len ∧ PushL base mk s m pm cp nx ov st M tv (sa.parts.zip sb.parts) td W4 k wr)
  case atStart => exact ⟨_, rfl, by first | rfl | (rw [hw0]), Nat.le_refl _, tv, HMk.out, by rw [List.drop_of_length_le (by rw [List.length_zip]; have := HLN.out.2; omega), List.nil_append]; exact HTk.out, KG.refl _ _ _ _, KeepP.refl _ _, fun b e => .inl e⟩
  case round =>
    obtain ⟨k, hkd, rfl, hdl, tvr, hMr, hTr, hKr, hKE, hOB⟩ := hrel
    have HKE := Lib.hid (And.intro hKE hOB)
    clear hKE hOB
    have HKD := Lib.hid hkd
    clear hkd
    have HXr := Lib.hid (hKr.box HX4.out (fun e => HMk.out.notD (t := TSide) (by decide) _ e ⟨_, HX4.out⟩) (by decide))
    have HYr := Lib.hid (hKr.box HY4.out (fun e => HMk.out.notD (t := TSide) (by decide) _ e ⟨_, HY4.out⟩) (by decide))
    have HMR := Lib.hid hMr
    have HKR := Lib.hid hKr
    have hxr : RdT (ZU base N0 wr) wr xf.a xf.args 0 := KP.rd HMk.out hKr HRD.out.1
    have hyr : RdT (ZU base N0 wr) wr yf.a yf.args 0 := KP.rd HMk.out hKr HRD.out.2
    clear hMr hKr x0 x1 x2 x3 x4 x5 x6 x7 x8 y0 y1 y2 y3 y4 y5 y6 y7 y8
    obtain ⟨x0, x1, x2, x3, x4, x5, x6, x7, x8⟩ := HXr.out.cells9
    obtain ⟨y0, y1, y2, y3, y4, y5, y6, y7, y8⟩ := HYr.out.cells9
    cases k with
    | zero =>
      have hneg : ¬ (0 : Int) ≤ ((0 : Nat) : Int) - 1 := by omega
      rw [List.drop_zero] at hTr
      have HTR := Lib.hid hTr
      clear hTr hxr hyr
      go_wp2_with fail
      go_ret
      exact ⟨rfl, tvr, ov, cp, (by omega), HMR.out, HTR.out, KG.trans HK0.out HKR.out, HK1.out.trans HKE.out.1⟩
    | succ j =>
      have hi : (((j + 1 : Nat) : Int) - 1) = (j : Int) := by omega
      rw [hi]
      have hge : (0 : Int) ≤ (j : Int) := by omega
      have hltx : (j : Int) < xf.args.len := by omega
      have hlty : (j : Int) < yf.args.len := by have := HLN.out.2.2.2; omega
      have hwj : wrap64 ((j : Int) - 1) = (j : Int) - 1 := IntWalk.wrap64_in _ (by have := HLN.out.1; omega)
      obtain ⟨ex, hex⟩ : ∃ ex, xf.args.toL[j]? = some ex := ⟨_, List.getElem?_eq_getElem (by rw [Tys.toL_len]; omega)⟩
      obtain ⟨ey, hey⟩ : ∃ ey, yf.args.toL[j]? = some ey := ⟨_, List.getElem?_eq_getElem (by rw [Tys.toL_len]; have := HLN.out.2.2.2; omega)⟩
      obtain ⟨adx, ax, cx, hadx, hzx, p0, p1, p2, p3, p4, p5, p6⟩ := hxr.at_ j ex hex
      obtain ⟨ady, ay, cy, hady, hzy, q0, q1, q2, q3, q4, q5, q6⟩ := hyr.at_ j ey hey
      rw [Nat.zero_add] at p0 p1 p2 p3 q0 q1 q2 q3
      rw [hadx] at x3
      rw [hady] at y3
      have HEX := Lib.hid (show TyR base wr ex ax from ⟨p6, p5, p4⟩)
      have HEY := Lib.hid (show TyR base wr ey ay from ⟨q6, q5, q4⟩)
      have hdrop : (sa.parts.zip sb.parts).drop j = (ex, ey) :: (sa.parts.zip sb.parts).drop (j + 1) := by
        have h1 : j < (sa.parts.zip sb.parts).length := by rw [List.length_zip]; have := HLN.out.2; omega
        rw [List.drop_eq_getElem_cons h1, List.getElem_zip]
        have e1 : sa.parts[j]? = some ex := by rw [← HXC.out.pt]; exact hex
        have e2 : sb.parts[j]? = some ey := by rw [← HYC.out.pt]; exact hey
        rw [List.getElem?_eq_getElem (by have := HLN.out.2; omega)] at e1 e2
        injection e1 with e1
        injection e2 with e2
        rw [e1, e2]
      obtain ⟨vs, ho, hro⟩ := hTr
      obtain ⟨n, hn⟩ : ∃ n, n = ((sa.parts.zip sb.parts).drop (j + 1) ++ td).length := ⟨_, rfl⟩
      rw [← hn] at ho
      have hnl : n < limT := by rw [hn, List.length_append, List.length_drop]; omega
      unfold limT at hnl
      obtain ⟨ao, co, hov⟩ := own_slice ho
      obtain ⟨i0, hi0, hi1, hi2, hi3⟩ := info_parts Tpair
      obtain ⟨a0, a1, a2, a3, _⟩ := HMR.out.si.box.cells4
      have HOV := Lib.hid hov
      have zmk := HMR.out.si.box.lt
      rw [hov] at a1
      have HO := Lib.hid (show wr.ownsRow base TP2 8 (.slice ao n co) n vs by rw [← hov]; exact ho)
      have HPS := Lib.hid (And.intro hn (And.intro hro hdrop))
      have hbw : base ≤ wr.heap.size := Nat.le_trans hb (Nat.le_trans (Nat.le_trans HB4.out.size HBK.out) HKR.out.size)
      clear hex hey hadx hady hxr hyr p4 p5 p6 q4 q5 q6 ho hro hdrop hn hov hi
      have hnb1 : n + 1 ≤ maxLen := by unfold maxLen; omega
      have hnb2 : (n + 1) * 112 ≤ 140737488355328 := by omega
      obtain ⟨W1, hW1⟩ : ∃ W1, wr.drew.alloc (.cells (pairA ex ey ax cx ay cy) TP2) = W1 := ⟨_, rfl⟩
      have hB1 : Below wr.heap.size wr W1 := by rw [← hW1]; exact ((Below.refl _ wr).drew).alloc (Nat.le_refl _) _
      have hzz : W1.heap.size = wr.heap.size + 1 := by rw [← hW1]; simp
      have hN1 : Box W1 wr.heap.size TP2 (pairA ex ey ax cx ay cy) := by rw [← hW1]; exact Box.new wr.drew _ TP2
      obtain ⟨v9, w3, hr9, hown, hgrow, _, hlies⟩ := run_append_own_at (P := Try.prog) (w := W1) base TPs TPs TP2 i0 _ 8 112 Try.underlying49 hi0 hi1 hi2 hi3 rfl (by decide) (.slice ao n co) n vs (own_here HO.out hB1) ⟨wr.heap.size, 0, none⟩ 1 1 (pairL ex ey ax cx ay cy) rfl
        (news_of_box hN1) (by simp [Value.oneCell']) hnb1 hnb2 (by omega)
      obtain ⟨g5, c5, rfl⟩ := ownsRow_succ hown
      have hgr : (wr.alloc (.cells (pairA ex ey ax cx ay cy) TP2)).drew.grownBy w3 (Value.slice ao n co).ownBlock := by rw [← hW1] at hgrow; exact hgrow
      have k1 : W1.cell? ⟨mk, 1, none⟩ = some (.slice ao n co) := (hB1.cell (p := ⟨mk, 1, none⟩) zmk).trans a1
      have hMk3 : Box w3 mk TMg _ := ((HMR.out.si.box.alloc (.cells (pairA ex ey ax cx ay cy) TP2)).drew).grown hgr (own_ne HO.out HMR.out.si.box (by decide))
      have m1 := hMk3.cell 1
      have f1 := hMk3.free 1
      have HOWN := Lib.hid hown
      have HGR := Lib.hid hgr
      have HLI : Hid (∀ b, (Value.slice (some ⟨g5, 0, none⟩) (n + 1) c5).ownBlock = some b → tv.ownBlock = some b ∨ W4.heap.size ≤ b) := Lib.hid fun b e => hlies.elim (fun q => HKE.out.2 b (by rw [HOV.out, ← q]; exact e)) fun q => .inr (by have h9 : some b = some W1.heap.size := e.symm.trans q; injection h9 with h9; have := HKR.out.size; omega)
      clear hzx hzy hB1 hzz hN1 hown hgrow hgr hlies hMk3 hi0 hi1 hi2 hi3 hnb1 hnb2
      go_wp2_with fail
      go_region
      all_goals
        obtain ⟨W9, hW9⟩ : ∃ W9, w3.setCell ⟨mk, 1, none⟩ (.slice (some ⟨g5, 0, none⟩) (n + 1) c5) = W9 := ⟨_, rfl⟩
        rw [hW9]
        have HN := Lib.hid (todo_push (x := ex) (y := ey) HMR.out HPS.out.1 (by rw [HOV.out]; exact HO.out) HPS.out.2.1 HEX.out HEY.out HOWN.out (by rw [HOV.out]; exact HGR.out))
        rw [hW9] at HN
        clear hW9
        go_wp2_with fail
        go_roundg j
        case measure => have := HKD.out; omega
        case rel => exact ⟨j, rfl, by first | rfl | (rw [hwj]), by omega, _, HN.out.1, by rw [HPS.out.2.2]; exact HN.out.2.1, KG.trans HKR.out HN.out.2.2.1, fun b hb hn => (HN.out.2.2.2 b (hb.same (HKE.out.1 b hb hn)) (fun e => (HKE.out.2 b e).elim hn fun q => by have := hb.lt; omega)).trans (HKE.out.1 b hb hn), HLI.out⟩
end Go.Proofs.Ytcaioffdcbjbjaa.Un
/-
  CONTRACT of layer unify: two types are made the same but for their parts, which wait then.
-/
namespace Go.Proofs.Ytcaioffdcbjbjaa.Un
open Go.RowKit Go.Shelf Mm Tm Mk Go.Maps Go.ChangeMaps Go.MapKept Go.WideMaps Rg
set_option linter.unusedVariables false
set_option linter.unusedSimpArgs false
/-- a side in memory, with where the type's own parts lie -/
structure SideM (base : Nat) (w : World) (sd : Side) (sdp : Sd) : Prop where
  ex : ∃ x a c, SideR (ZT base N0 w) w x a c sdp sd ∧ RdT (ZU base N0 w) w a x.args 0 ∧ x.args.len * 56 ≤ 140737488355328 ∧ x.nm.size ≤ 9223372036854775807
theorem SideM.closed {base : Nat} {w : World} {sd : Side} {sdp : Sd} (h : SideM base w sd sdp) (ho : sdp.isOpn = false) : Closed (ZU base N0 w) w sd.f sdp := by
  obtain ⟨x, a, c, h1, h2, h3, h4⟩ := h.ex
  exact closed_of h1 ho h2 h3 h4
theorem SideM.var {base : Nat} {w : World} {sd : Side} {n : Int} {f : PF} (h : SideM base w sd (.var n f)) : sd.isVar = true ∧ sd.n = n ∧ ErF sd.f f ∧ inI n = true := by
  obtain ⟨x, a, c, h1, _⟩ := h.ex
  exact ⟨h1.1, h1.2.1, h1.2.2.1, h1.2.2.2.2.2⟩
theorem SideM.typ {base : Nat} {w : World} {sd : Side} {y : Ty} (h : SideM base w sd (.typ y)) : sd.isVar = false := by
  obtain ⟨x, a, c, h1, _⟩ := h.ex
  rw [h1.2.1]
theorem SideM.nlink {base : Nat} {w : World} {sd : Side} {n : Int} {f : PF} (h : SideM base w sd (.var n f)) : f.isLink = false := by
  obtain ⟨x, a, c, h1, _⟩ := h.ex
  exact h1.2.2.2.2.1
theorem Closed.len {Z : Nat → Prop} {w : World} {f : Fact} {sd : Sd} (h : Closed Z w f sd) : f.args.len = sd.parts.length := by rw [← h.pt, Tys.toL_len]
theorem unlike_iff {Z : Nat → Prop} {w : World} {f g : Fact} {sa sb : Sd} (hx : Closed Z w f sa) (hy : Closed Z w g sb) : (sa.kd ≠ sb.kd ∨ sa.nm ≠ sb.nm ∨ sa.parts.length ≠ sb.parts.length) ↔ (f.kd ≠ g.kd ∨ f.nm ≠ g.nm ∨ f.args.len ≠ g.args.len) := by
  rw [hx.kd, hy.kd, hx.nm, hy.nm, hx.len, hy.len]
/-- both are known -/
theorem pair_match {base mk s m pm cp : Nat} {nx : Int} {tv ov : Value} {st : St} {M : PM} {td : List (Ty × Ty)} {x y : Side} {sa sb : Sd} (w : World) (hM : MkI base w mk s m pm nx tv ov st M cp) (hT : TodoI base w tv td) (hb : base ≤ w.heap.size) (hc : cp < 1000000000)
    (hx : SideM base w x sa) (hy : SideM base w y sb) (ha : sa.isOpn = false) (hb' : sb.isOpn = false) (hs : sameVar sa sb = false) (hlim : (matchP st M sa sb).more.length + td.length < limT) :
    Calls Try.prog 25 #[.pointer (some ⟨mk, 0, none⟩), sideV x, sideV y] w (PairPost base mk s m pm cp nx tv td (matchP st M sa sb) w) := by
  have cx := hx.closed ha
  have cy := hy.closed hb'
  obtain ⟨xf, xv, xn⟩ := x
  obtain ⟨yf, yv, yn⟩ := y
  by_cases hu : sa.kd ≠ sb.kd ∨ sa.nm ≠ sb.nm ∨ sa.parts.length ≠ sb.parts.length
  · have e : matchP st M sa sb = ⟨100, st, M, []⟩ := by unfold matchP; rw [if_pos hu]
    rw [e]
    have hu' := (unlike_iff cx cy).1 hu
    cases sa with
    | typ x' =>
      obtain rfl : xv = false := hx.typ
      exact pair_unlike_f w hM hT hb cx cy hu'
    | var n f =>
      obtain ⟨rfl, rfl, hxe, hxi⟩ := hx.var
      cases sb with
      | typ y' =>
        obtain rfl : yv = false := hy.typ
        exact pair_unlike_tf w hM hT hb cx cy hu'
      | var r g =>
        obtain ⟨rfl, rfl, hye, hyi⟩ := hy.var
        exact pair_unlike_tt w hM hT hb cx cy (by simpa [sameVar] using hs) hu'
  · have hu' := fun q => hu ((unlike_iff cx cy).2 q)
    cases sa with
    | typ x' =>
      obtain rfl : xv = false := hx.typ
      have e : matchP st M (.typ x') sb = ⟨0, st, M, (Sd.typ x').parts.zip sb.parts⟩ := by unfold matchP; rw [if_neg hu]
      rw [e] at hlim ⊢
      exact pair_push_f w hM hT hb cx cy hu' hlim
    | var n f =>
      obtain ⟨rfl, rfl, hxe, hxi⟩ := hx.var
      cases sb with
      | typ y' =>
        obtain rfl : yv = false := hy.typ
        have e : matchP st M (.var xn f) (.typ y') = ⟨0, st, M, (Sd.var xn f).parts.zip (Sd.typ y').parts⟩ := by unfold matchP; rw [if_neg hu]
        rw [e] at hlim ⊢
        exact pair_push_tf w hM hT hb cx cy hu' hlim
      | var r g =>
        obtain ⟨rfl, rfl, hye, hyi⟩ := hy.var
        have hn : xn ≠ yn := by simpa [sameVar] using hs
        cases hah : (aheadP M xn yn).2 with
        | true =>
          have e : matchP st M (.var xn f) (.var yn g) = ⟨0, st, (aheadP M xn yn).1, []⟩ := by unfold matchP; rw [if_neg hu]; simp only [hah, if_true]
          rw [e]
          exact pair_met w hM hT hb cx cy hn hu' hc hxi hyi hah
        | false =>
          have e : matchP st M (.var xn f) (.var yn g) = ⟨0, st, (aheadP M xn yn).1, (Sd.var xn f).parts.zip (Sd.var yn g).parts⟩ := by unfold matchP; rw [if_neg hu]; simp only [hah]; rfl
          rw [e] at hlim ⊢
          exact pair_push_tt w hM hT hb cx cy hn hu' hc hxi hyi hah hlim
theorem pair_any {base mk s m pm cp q d : Nat} {nx : Int} {tv ov : Value} {st : St} {M : PM} {td : List (Ty × Ty)} {x y : Side} {sa sb : Sd} {r : PR} (w : World) (hM : MkI base w mk s m pm nx tv ov st M cp) (hT : TodoI base w tv td) (hb : base ≤ w.heap.size) (hc : cp < 1000000000) (hd : d ≤ 1000000000)
    (hx : SideM base w x sa) (hy : SideM base w y sb) (hp : pairP q d st M sa sb = some r) (hlim : r.more.length + td.length < limT) :
    Calls Try.prog 25 #[.pointer (some ⟨mk, 0, none⟩), sideV x, sideV y] w (PairPost base mk s m pm cp nx tv td r w) := by
  unfold pairP at hp
  by_cases hs : sameVar sa sb = true
  · rw [if_pos hs] at hp
    injection hp with hp
    subst hp
    cases sa with
    | typ x' => cases sb <;> cases hs
    | var n f =>
      cases sb with
      | typ y' => cases hs
      | var r g =>
        obtain ⟨xf, xv, xn⟩ := x
        obtain ⟨yf, yv, yn⟩ := y
        obtain ⟨rfl, rfl, hxe, hxi⟩ := hx.var
        obtain ⟨rfl, rfl, hye, hyi⟩ := hy.var
        exact pair_same w hM hT hb (by simpa [sameVar] using hs)
  · rw [if_neg hs] at hp
    have hs' : sameVar sa sb = false := by simpa using hs
    cases ha : sa.isOpn with
    | true =>
      cases sa with
      | typ x' => cases ha
      | var n f =>
        cases f with
        | link r' => cases ha
        | typ kd nm xs => cases ha
        | opn la da ha' =>
          obtain ⟨xf, xv, xn⟩ := x
          obtain ⟨rfl, rfl, hxe, hxi⟩ := hx.var
          cases hb' : sb.isOpn with
          | true =>
            cases sb with
            | typ y' => cases hb'
            | var r' g =>
              cases g with
              | link r'' => cases hb'
              | typ kd nm xs => cases hb'
              | opn lb db hbb =>
                obtain ⟨yf, yv, yn⟩ := y
                obtain ⟨rfl, rfl, hye, hyi⟩ := hy.var
                obtain ⟨st', hj, rfl⟩ := Option.map_eq_some_iff.1 hp
                exact pair_join w hM hT hb hxe hye (by simpa [sameVar] using hs') hj
          | false =>
            have cy := hy.closed hb'
            have hp' : (bindP q d st xn ha' sb).map (fun e => (⟨e.1, e.2, M, []⟩ : PR)) = some r := by
              cases sb with
              | typ y' => exact hp
              | var r' g =>
                cases g with
                | link r'' => exact hp
                | typ kd nm xs => exact hp
                | opn lb db hbb => cases hb'
            obtain ⟨⟨er, st'⟩, hbd, rfl⟩ := Option.map_eq_some_iff.1 hp'
            obtain ⟨yf, yv, yn⟩ := y
            obtain ⟨ty, a, c, h1, h2, h3, h4⟩ := hy.ex
            refine pair_bindx w hM hT hb hxe cy.k0 h1 h2 h3 h4 hd hbd fun hv => ?_
            cases sb with
            | typ y' => exact absurd ((show yv = false from hy.typ).symm.trans hv) (by decide)
            | var r' g =>
              obtain ⟨_, e2, _⟩ := hy.var
              rw [show yn = r' from e2]
              simpa [sameVar] using hs'
    | false =>
      have cx := hx.closed ha
      cases hb' : sb.isOpn with
      | true =>
        cases sb with
        | typ y' => cases hb'
        | var r' g =>
          cases g with
          | link r'' => cases hb'
          | typ kd nm xs => cases hb'
          | opn lb db hbb =>
            have hp' : (bindP q d st r' hbb sa).map (fun e => (⟨e.1, e.2, M, []⟩ : PR)) = some r := by
              cases sa with
              | typ y' => exact hp
              | var r' g =>
                cases g with
                | link r'' => exact hp
                | typ kd nm xs => exact hp
                | opn lb db hbb => cases ha
            obtain ⟨⟨er, st'⟩, hbd, rfl⟩ := Option.map_eq_some_iff.1 hp'
            obtain ⟨xf, xv, xn⟩ := x
            obtain ⟨yf, yv, yn⟩ := y
            obtain ⟨rfl, rfl, hye, hyi⟩ := hy.var
            obtain ⟨tx, a, c, h1, h2, h3, h4⟩ := hx.ex
            refine pair_bindy w hM hT hb hye cx.k0 h1 h2 h3 h4 hd hbd fun hv => ?_
            cases sa with
            | typ y' => exact absurd ((show xv = false from hx.typ).symm.trans hv) (by decide)
            | var n f =>
              obtain ⟨_, e2, _⟩ := hx.var
              rw [show xn = n from e2]
              simpa [sameVar] using hs'
      | false =>
        have hp' : some (matchP st M sa sb) = some r := by
          cases sa with
          | typ x' =>
            cases sb with
            | typ y' => exact hp
            | var r' g =>
              cases g with
              | link r'' => exact hp
              | typ kd nm xs => exact hp
              | opn lb db hbb => cases hb'
          | var n f =>
            cases f with
            | opn la da h => cases ha
            | link r'' => exact absurd hx.nlink (by simp [PF.isLink])
            | typ kd nm xs =>
              cases sb with
              | typ y' => exact hp
              | var r' g =>
                cases g with
                | link r'' => exact hp
                | typ kd nm xs => exact hp
                | opn lb db hbb => cases hb'
        injection hp' with hp'
        subst hp'
        exact pair_match w hM hT hb hc hx hy ha hb' hs' hlim
end Go.Proofs.Ytcaioffdcbjbjaa.Un
/-
  CONTRACT of layer unify: all that waits is made the same, up to the first error.
-/
namespace Go.Proofs.Ytcaioffdcbjbjaa.Un
open Go.RowKit Go.Shelf Mm Tm Mk Go.Maps Go.ChangeMaps Go.MapKept Go.WideMaps Rg
set_option linter.unusedVariables false
set_option linter.unusedSimpArgs false
attribute [-go_sem] Builtin.append_
def SamePost (base mk s m pm : Nat) (nx : Int) (r : Int × St) (w : World) (e : Ending) (w' : World) : Prop :=
  e = .returned (.int .i64 r.1) ∧ ∃ tv' ov' M' cp', MkI base w' mk s m pm nx tv' ov' r.2 M' cp' ∧ KP base mk m pm w w'
/-- what a round goes by -/
def SameL (base mk s m pm q d : Nat) (nx : Int) (r : Int × St) (w : World) (k : Nat) (wr : World) : Prop :=
  ∃ st M cp td tv ov, MkI base wr mk s m pm nx tv ov st M cp ∧ TodoI base wr tv td ∧ KP base mk m pm w wr ∧ sameP q d k st M td = some r ∧ cp + k ≤ 999999999 ∧ td.length < limT
theorem sizeTPs (W : World) : (sizeOf (Try.prog.elem TPs)).run Try.prog W = .ok 8 W := by kernel_rfl
theorem slice_lastP {a : Option Addr} {n c4 k : Nat} (hk : k ≤ c4) (W : World) : (Instr.slice TPs (.slice a n c4) none (some (.int .i64 (k : Int))) none).run Try.prog W = .ok (.slice a k c4) W := by
  rw [run_slice_h (P := Try.prog) (w := W) TPs a n c4 (by kernel_rfl) .i64 (k : Int) (by omega) (by omega), sizeTPs]
  simp only [Result.andThen, sliced, Int.toNat_natCast, Nat.sub_zero]
  cases a <;> simp [Addr.add]
/-- the pair that comes next: its cells, and the row without it -/
theorem todo_pop {base mk s m pm cp : Nat} {nx : Int} {tv ov : Value} {st : St} {M : PM} {td : List (Ty × Ty)} {x y : Ty} {w : World} (hM : MkI base w mk s m pm nx tv ov st M cp) (hT : TodoI base w tv ((x, y) :: td)) :
    ∃ (g c : Nat) (ax ay : Option Addr) (cx cy : Nat), tv = .slice (some ⟨g, 0, none⟩) (td.length + 1) c ∧ td.length + 1 ≤ c ∧ base ≤ g ∧ g < w.heap.size ∧ (∀ j, j < 8 → w.cell? ⟨g, td.length * 8 + j, none⟩ = (pairL x y ax cx ay cy)[j]?) ∧ TyR base w x ax ∧ TyR base w y ay ∧
      (MkI base (w.setCell ⟨mk, 1, none⟩ (.slice (some ⟨g, 0, none⟩) td.length c)) mk s m pm nx (.slice (some ⟨g, 0, none⟩) td.length c) ov st M cp ∧ TodoI base (w.setCell ⟨mk, 1, none⟩ (.slice (some ⟨g, 0, none⟩) td.length c)) (.slice (some ⟨g, 0, none⟩) td.length c) td ∧ KP base mk m pm w (w.setCell ⟨mk, 1, none⟩ (.slice (some ⟨g, 0, none⟩) td.length c))) := by
  obtain ⟨vs, ho, hr⟩ := hT
  rw [List.length_cons] at ho
  obtain ⟨g, c, rfl, hgB, hgS, hc⟩ := own_form ho
  obtain ⟨g', hg', _, _, _, hcell⟩ := own_at ho (by omega)
  injection hg' with hg'
  injection hg' with hg'
  subst hg'
  rw [List.reverse_cons, flat2_append] at hr
  have hl : (flat2 td.reverse).length = td.length * 2 := by rw [flat2_len, List.length_reverse]
  obtain ⟨ax, cx, p0, p1, p2, p3, p4, p5, p6⟩ := hr.get (td.length * 2) x (by rw [List.getElem?_append_right (by omega), hl, Nat.sub_self]; rfl)
  obtain ⟨ay, cy, q0, q1, q2, q3, q4, q5, q6⟩ := hr.get (td.length * 2 + 1) y (by rw [List.getElem?_append_right (by omega), hl, show td.length * 2 + 1 - td.length * 2 = 1 by omega]; rfl)
  have hpm := hM.pr.nbox hM.si.box
  have hS := hM.si.tv (.slice (some ⟨g, 0, none⟩) td.length c)
  have hKP : KP base mk m pm w (w.setCell ⟨mk, 1, none⟩ (.slice (some ⟨g, 0, none⟩) td.length c)) := (KG.refl base (fun t => t = TCh ∨ t = TP2) (fun b => b = mk ∨ b = m ∨ b = pm) w).setCell (a := ⟨mk, 1, none⟩) hM.si.bmk (fun _ => .inl (.inl rfl)) _
  obtain ⟨z1, z2⟩ := KG.zu (Y := N0) hKP (hM.notD (t := TT) (by decide)) (by decide)
  refine ⟨g, c, ax, ay, cx, cy, rfl, hc, hgB, hgS, ?_, ⟨p6, p5, p4⟩, ⟨q6, q5, q4⟩, ⟨hS, hM.pr.same (Below.heap_setCell w ⟨mk, 1, none⟩ _ pm hpm), hM.ne, hM.bp⟩, ⟨vs.take (td.length * 8), ?_, ?_⟩, hKP⟩
  · intro j hj
    rw [hcell _ (by omega)]
    match j, hj with
    | 0, _ => rw [show td.length * 8 + 0 = td.length * 2 * 4 by omega]; exact p0
    | 1, _ => rw [show td.length * 8 + 1 = td.length * 2 * 4 + 1 by omega]; exact p1
    | 2, _ => rw [show td.length * 8 + 2 = td.length * 2 * 4 + 2 by omega]; exact p2
    | 3, _ => rw [show td.length * 8 + 3 = td.length * 2 * 4 + 3 by omega]; exact p3
    | 4, _ => rw [show td.length * 8 + 4 = (td.length * 2 + 1) * 4 by omega]; exact q0
    | 5, _ => rw [show td.length * 8 + 5 = (td.length * 2 + 1) * 4 + 1 by omega]; exact q1
    | 6, _ => rw [show td.length * 8 + 6 = (td.length * 2 + 1) * 4 + 2 by omega]; exact q2
    | 7, _ => rw [show td.length * 8 + 7 = (td.length * 2 + 1) * 4 + 3 by omega]; exact q3
  · exact own_far (own_cut ho (Nat.le_succ _)) hM.si.box (by decide) 1 _
  · have h1 : RowT (ZU base N0 w) w vs ((flat2 td.reverse ++ [x]) ++ [y]) := by rw [List.append_assoc]; exact hr
    have h2 := RowT.cut (RowT.cut h1)
    rw [List.length_append, hl, List.take_take] at h2
    rw [show min (td.length * 2 * 4) ((td.length * 2 + [x].length) * 4) = td.length * 8 by simp only [List.length_cons, List.length_nil]; omega] at h2
    exact h2.frame (fun b o hz => z1 ⟨b, o, none⟩ hz) z1 z2
theorem pairP_more {q d : Nat} {s : St} {M : PM} {a b : Sd} {r : PR} (h : pairP q d s M a b = some r) (he : ¬ r.err = 0) : r.more = [] := by
  unfold pairP at h
  split at h
  · injection h with h; subst h; rfl
  · split at h
    · obtain ⟨s1, h1, rfl⟩ := Option.map_eq_some_iff.1 h; rfl
    · obtain ⟨s1, h1, rfl⟩ := Option.map_eq_some_iff.1 h; rfl
    · obtain ⟨s1, h1, rfl⟩ := Option.map_eq_some_iff.1 h; rfl
    · injection h with h
      subst h
      unfold matchP at he ⊢
      split
      · rfl
      · rename_i hn
        rw [if_neg hn] at he
        split at he
        · split at he <;> exact absurd rfl he
        · exact absurd rfl he
set_option maxRecDepth 100000 in
set_option maxHeartbeats 8000000 in
theorem same_any {base mk s m pm cp q d k : Nat} {nx : Int} {ov : Value} {st : St} {M : PM} {x y : Ty} {ax ay : Option Addr} {cx cy : Nat} {r : Int × St} (w : World) (hM : MkI base w mk s m pm nx (.slice none 0 0) ov st M cp) (hb : base ≤ w.heap.size) (hd : d ≤ 1000000000) (hc : cp + k ≤ 999999999)
    (hx : TyR base w x ax) (hy : TyR base w y ay) (hs : sameP q d k st M [(x, y)] = some r) :
    Calls Try.prog 17 #[.pointer (some ⟨mk, 0, none⟩), .agg #[.int .i64 x.kd, .int .i64 x.n, .string x.nm, .slice ax x.args.len cx], .agg #[.int .i64 y.kd, .int .i64 y.n, .string y.nm, .slice ay y.args.len cy]] w (SamePost base mk s m pm nx r w) := by
  obtain ⟨W0, hW0⟩ : ∃ W0, (w.alloc (.cells #[.int .i64 x.kd, .int .i64 x.n, .string x.nm, .slice ax x.args.len cx] TT)).alloc (.cells #[.int .i64 y.kd, .int .i64 y.n, .string y.nm, .slice ay y.args.len cy] TT) = W0 := ⟨_, rfl⟩
  have hB0 : Below w.heap.size w W0 := by rw [← hW0]; exact ((Below.refl w.heap.size w).alloc (Nat.le_refl _) _).alloc (by simp) _
  have hX0 : Box W0 w.heap.size TT #[.int .i64 x.kd, .int .i64 x.n, .string x.nm, .slice ax x.args.len cx] := by rw [← hW0]; exact (Box.new w _ _).alloc _
  have hY0 : Box W0 (w.heap.size + 1) TT #[.int .i64 y.kd, .int .i64 y.n, .string y.nm, .slice ay y.args.len cy] := by rw [← hW0]; exact Box.at_ _ _ (by simp)
  have hM0 := hM.below hB0
  obtain ⟨i0, hi0, hi1, hi2, hi3⟩ := info_parts Tpair
  obtain ⟨W1, hW1⟩ : ∃ W1, W0.drew.alloc (.cells (pairA x y ax cx ay cy) TP2) = W1 := ⟨_, rfl⟩
  have hB1 : Below W0.heap.size W0 W1 := by rw [← hW1]; exact ((Below.refl _ W0).drew).alloc (Nat.le_refl _) _
  have hN1 : Box W1 W0.heap.size TP2 (pairA x y ax cx ay cy) := by rw [← hW1]; exact Box.new W0.drew _ TP2
  have hbw1 : base ≤ W1.heap.size := Nat.le_trans hb (Nat.le_trans hB0.size hB1.size)
  obtain ⟨v9, w3, hr9, hown, hgrow, _, hlies⟩ := run_append_own_at (P := Try.prog) (w := W1) base TPs TPs TP2 i0 _ 8 112 Try.underlying49 hi0 hi1 hi2 hi3 rfl (by decide) (.slice none 0 0) 0 [] (World.ownsRow_nil _ _ _ _) ⟨W0.heap.size, 0, none⟩ 1 1 (pairL x y ax cx ay cy) rfl
    (news_of_box hN1) (by simp [Value.oneCell']) (by decide) (by decide) hbw1
  obtain ⟨g5, c5, rfl⟩ := ownsRow_succ hown
  have hgr : (W0.alloc (.cells (pairA x y ax cx ay cy) TP2)).drew.grownBy w3 (Value.slice none 0 0).ownBlock := by rw [← hW1] at hgrow; exact hgrow
  have zmk := hM0.si.box.lt
  obtain ⟨a0, a1, a2, a3, _⟩ := hM0.si.box.cells4
  have k1 : W1.cell? ⟨mk, 1, none⟩ = some (.slice none 0 0) := (hB1.cell (p := ⟨mk, 1, none⟩) zmk).trans a1
  have hMk3 : Box w3 mk TMg _ := ((hM0.si.box.alloc (.cells (pairA x y ax cx ay cy) TP2)).drew).grown hgr (by simp [Value.ownBlock])
  have m1 := hMk3.cell 1
  have f1 := hMk3.free 1
  have HN := Lib.hid (todo_push (n := 0) (td := []) (x := x) (y := y) hM0 rfl (World.ownsRow_nil _ _ _ _) (show RowT _ _ [] [] from rfl) ⟨(hx.1.below hB0 fun b hb => hb.lt).mono fun b hz => zu_below hB0 hz, hx.2⟩ ⟨(hy.1.below hB0 fun b hb => hb.lt).mono fun b hz => zu_below hB0 hz, hy.2⟩ hown hgr)
  obtain ⟨x0, x1, x2, x3, _⟩ := hX0.cells4
  obtain ⟨y0, y1, y2, y3, _⟩ := hY0.cells4
  have HB0 := Lib.hid hB0
  have HSR := Lib.hid hs
  clear hM hM0 hx hy hs hX0 hY0 hB0 hB1 hN1 hown hgrow hgr hlies hMk3 hi0 hi1 hi2 hi3 hbw1
  go_enter Try.func17, Try.ntmps17
  go_wp2_with fail
  go_region
  rw [Nat.zero_add] at HN
  obtain ⟨W9, hW9⟩ : ∃ W9, w3.setCell ⟨mk, 1, none⟩ (.slice (some ⟨g5, 0, none⟩) 1 c5) = W9 := ⟨_, rfl⟩
  rw [hW9] at HN
  rw [hW9]
  clear hW9 hW0 hW1 hr9 a0 a1 a2 a3 k1 m1 f1 x0 x1 x2 x3 y0 y1 y2 y3 zmk
  go_wp2_with fail
  go_loopg [7, 8, 9] k (fun dm v7 v8 v9 wr => ∃ k' : Nat, k' = dm ∧ SameL base mk s m pm q d nx r w k' wr)
  case atStart => exact ⟨k, rfl, st, M, cp, [(x, y)], _, _, HN.out.1, HN.out.2.1, KG.trans (KG.of_below HB0.out (Nat.le_refl _)) HN.out.2.2.1, HSR.out, hc, by show 1 < 1000000000; decide⟩
  case round =>
    obtain ⟨k', hkd, st1, M1, cp1, td, tv1, ov1, hM1, hT1, hK1, hs1, hc1, hl1⟩ := hrel
    have HKD := Lib.hid hkd
    have HK1 := Lib.hid hK1
    have HM1 := Lib.hid hM1
    obtain ⟨a0, a1, a2, a3, _⟩ := hM1.si.box.cells4
    clear hkd hK1 hM1
    cases td with
    | nil =>
      obtain ⟨vs, ho, _⟩ := hT1
      obtain ⟨ao, co, hov⟩ := own_slice ho
      rw [hov] at a1
      have a1' : wr.cell? ⟨mk, 1, none⟩ = some (.slice ao 0 co) := a1
      have HR : Hid (r = (0, st1)) := Lib.hid (by cases k' <;> simp [sameP] at hs1 <;> exact hs1.symm)
      clear hov ho hs1 a1
      go_wp2_with fail
      go_ret
      exact ⟨by rw [HR.out]; rfl, tv1, ov1, M1, cp1, by rw [HR.out]; exact HM1.out, HK1.out⟩
    | cons p td' =>
      obtain ⟨x1, y1⟩ := p
      cases k' with
      | zero => simp [sameP] at hs1
      | succ k2 =>
      obtain ⟨g, c, ax1, ay1, cx1, cy1, rfl, hcle, hgB, hgS, hcells, hX1, hY1, _⟩ := todo_pop HM1.out hT1
      unfold sameP at hs1
      cases hta : takenP q st1.K x1 with
      | none => rw [hta] at hs1; simp at hs1
      | some sa =>
      cases htb : takenP q st1.K y1 with
      | none => rw [hta, htb] at hs1; simp at hs1
      | some sb =>
      rw [hta, htb] at hs1
      simp only at hs1
      cases hpp : pairP q d st1 M1 sa sb with
      | none => rw [hpp] at hs1; simp at hs1
      | some pr =>
      rw [hpp] at hs1
      simp only at hs1
      rw [List.length_cons] at hl1
      have hlim : pr.more.length + td'.length < limT := by
        by_cases he : pr.err = 0
        · rw [if_neg (by simpa using he)] at hs1
          split at hs1
          · assumption
          · cases hs1
        · rw [pairP_more hpp he]; simp only [List.length_nil]; omega
      obtain ⟨WA, hWA⟩ : ∃ WA, wr.alloc (.cells (pairA x1 y1 ax1 cx1 ay1 cy1) TP2) = WA := ⟨_, rfl⟩
      have hBA : Below wr.heap.size wr WA := by rw [← hWA]; exact (Below.refl _ wr).alloc (Nat.le_refl _) _
      have hX8 : Box WA wr.heap.size TP2 (pairA x1 y1 ax1 cx1 ay1 cy1) := by rw [← hWA]; exact Box.new _ _ _
      have hMA := HM1.out.below hBA
      have hTA := hT1.below hBA
      obtain ⟨g', c', _, _, _, _, htv', _, _, _, _, _, _, hpop⟩ := todo_pop hMA hTA
      injection htv' with e1 _ e2
      injection e1 with e1
      injection e1 with e1
      subst e1 e2
      obtain ⟨WB, hWB⟩ : ∃ WB, WA.setCell ⟨mk, 1, none⟩ (.slice (some ⟨g, 0, none⟩) td'.length c) = WB := ⟨_, rfl⟩
      rw [hWB] at hpop
      obtain ⟨hMB, hTB, hKB⟩ := hpop
      have zmk : mk < wr.heap.size := HM1.out.si.box.lt
      have hX8B : Box WB wr.heap.size TP2 (pairA x1 y1 ax1 cx1 ay1 cy1) := by rw [← hWB]; exact hX8.far (show mk ≠ wr.heap.size by omega) _
      have hrx : TyR base WB x1 ax1 := ⟨KP.rd hMA hKB ((hX1.1.below hBA fun b hb => hb.lt).mono fun b hz => zu_below hBA hz), hX1.2⟩
      have hry : TyR base WB y1 ay1 := ⟨KP.rd hMA hKB ((hY1.1.below hBA fun b hb => hb.lt).mono fun b hz => zu_below hBA hz), hY1.2⟩
      obtain ⟨sdx, hsx, HTX⟩ := taken_side (a := ax1) (c := cx1) hMB.si.sbox hMB.si.kn hta
      obtain ⟨sdy, hsy, HTY⟩ := taken_side (a := ay1) (c := cy1) hMB.si.sbox hMB.si.kn htb
      have hbB : base ≤ WB.heap.size := by have := hMB.si.bmk; have := hMB.si.box.lt; omega
      have HPAIR : Hid (∀ wq, Below WB.heap.size WB wq → Calls Try.prog 25 #[.pointer (some ⟨mk, 0, none⟩), sideV sdx, sideV sdy] wq (PairPost base mk s m pm cp1 nx (.slice (some ⟨g, 0, none⟩) td'.length c) td' pr wq)) := Lib.hid fun wq hq =>
        pair_any wq (hMB.below hq) (hTB.below hq) (Nat.le_trans hbB hq.size) (by omega) hd
          ⟨x1, ax1, cx1, sideR_below hsx hq, (hrx.1.below hq fun b hb => hb.lt).mono fun b hz => zu_below hq hz, hrx.2⟩
          ⟨y1, ay1, cy1, sideR_below hsy hq, (hry.1.below hq fun b hb => hb.lt).mono fun b hz => zu_below hq hz, hry.2⟩ hpp hlim
      have HTX := Lib.hid HTX
      have HTY := Lib.hid HTY
      have HKW : Hid (KP base mk m pm w WB) := Lib.hid (KG.trans (KG.trans HK1.out (KG.of_below hBA (Nat.le_refl _))) hKB)
      have HMB := Lib.hid hMB
      have HXB := Lib.hid hX8B
      have HSS := Lib.hid hs1
      have HB8 : Hid (wr.heap.size < WB.heap.size ∧ g < wr.heap.size) := Lib.hid ⟨hX8B.lt, hgS⟩
      have z0 : wr.cell? ⟨g, td'.length * 8, none⟩ = some (.int .i64 x1.kd) := hcells 0 (by decide)
      have z1 : wr.cell? ⟨g, td'.length * 8 + 1, none⟩ = some (.int .i64 x1.n) := hcells 1 (by decide)
      have z2 : wr.cell? ⟨g, td'.length * 8 + 2, none⟩ = some (.string x1.nm) := hcells 2 (by decide)
      have z3 : wr.cell? ⟨g, td'.length * 8 + 3, none⟩ = some (.slice ax1 x1.args.len cx1) := hcells 3 (by decide)
      have z4 : wr.cell? ⟨g, td'.length * 8 + 4, none⟩ = some (.int .i64 y1.kd) := hcells 4 (by decide)
      have z5 : wr.cell? ⟨g, td'.length * 8 + 5, none⟩ = some (.int .i64 y1.n) := hcells 5 (by decide)
      have z6 : wr.cell? ⟨g, td'.length * 8 + 6, none⟩ = some (.string y1.nm) := hcells 6 (by decide)
      have z7 : wr.cell? ⟨g, td'.length * 8 + 7, none⟩ = some (.slice ay1 y1.args.len cy1) := hcells 7 (by decide)
      have hslice := fun W' => slice_lastP (a := some ⟨g, 0, none⟩) (n := td'.length + 1) (k := td'.length) (c4 := c) (by omega) W'
      unfold limT at hl1
      have hw1 : wrap64 ((td'.length : Int) + 1 - 1) = td'.length := by rw [show (td'.length : Int) + 1 - 1 = td'.length by omega]; exact IntWalk.wrap64_in _ (by omega)
      have hw2 : wrap64 (td'.length : Int) = td'.length := IntWalk.wrap64_in _ (by omega)
      have hw3 : IntKind.i64.wrap (td'.length : Int) = td'.length := (IntWalk.i64_left _).trans hw2
      have hlt1 : (td'.length : Int) < td'.length + 1 := by omega
      have b1 : WA.cell? ⟨mk, 1, none⟩ = some (.slice (some ⟨g, 0, none⟩) (td'.length + 1) c) := (hBA.cell (p := ⟨mk, 1, none⟩) zmk).trans a1
      have bf := hMA.si.box.free 1
      obtain ⟨e0, _⟩ := hMB.si.box.cells4
      have hX8c := fun j => hX8B.cell j
      have n0 : WB.cell? ⟨wr.heap.size, 0, none⟩ = some (.int .i64 x1.kd) := hX8c 0
      have n1 : WB.cell? ⟨wr.heap.size, 1, none⟩ = some (.int .i64 x1.n) := hX8c 1
      have n2 : WB.cell? ⟨wr.heap.size, 2, none⟩ = some (.string x1.nm) := hX8c 2
      have n3 : WB.cell? ⟨wr.heap.size, 3, none⟩ = some (.slice ax1 x1.args.len cx1) := hX8c 3
      have n4 : WB.cell? ⟨wr.heap.size, 4, none⟩ = some (.int .i64 y1.kd) := hX8c 4
      have n5 : WB.cell? ⟨wr.heap.size, 5, none⟩ = some (.int .i64 y1.n) := hX8c 5
      have n6 : WB.cell? ⟨wr.heap.size, 6, none⟩ = some (.string y1.nm) := hX8c 6
      have n7 : WB.cell? ⟨wr.heap.size, 7, none⟩ = some (.slice ay1 y1.args.len cy1) := hX8c 7
      clear hX8c hcells hT1 hX1 hY1 hs1 hBA hX8 hMA hTA hMB hTB hKB hX8B hrx hry hsx hsy hta htb hpp hlim
      go_wp2_with fail
      go_region_held3 (fun w' => w'.cell? ⟨mk, 0, none⟩ = some (.pointer (some ⟨s, 0, none⟩)) ∧ w'.cell? ⟨wr.heap.size, 0, none⟩ = some (.int .i64 x1.kd) ∧ w'.cell? ⟨wr.heap.size, 1, none⟩ = some (.int .i64 x1.n) ∧ w'.cell? ⟨wr.heap.size, 2, none⟩ = some (.string x1.nm) ∧ w'.cell? ⟨wr.heap.size, 3, none⟩ = some (.slice ax1 x1.args.len cx1) ∧ w'.cell? ⟨wr.heap.size, 4, none⟩ = some (.int .i64 y1.kd) ∧ w'.cell? ⟨wr.heap.size, 5, none⟩ = some (.int .i64 y1.n) ∧ w'.cell? ⟨wr.heap.size, 6, none⟩ = some (.string y1.nm) ∧ w'.cell? ⟨wr.heap.size, 7, none⟩ = some (.slice ay1 y1.args.len cy1))
        (first
          | exact ⟨e0, n0, n1, n2, n3, n4, n5, n6, n7⟩
          | exact ⟨k9, k0, k1, k2, k3, k4, k5, k6, k7⟩
          | exact ⟨l9, l0, l1, l2, l3, l4, l5, l6, l7⟩
          | exact ⟨o9, o0, o1, o2, o3, o4, o5, o6, o7⟩
          | go_keep)
        (first
          | (have h9 := HS6; clear h9; go_at_call 25; refine (HPAIR.out w6 HB6.out).mono ?_; rintro e w7 ⟨rfl, tv7, ov7, cp7, hcp7, hM7, hT7, hK7, hE7⟩; have X7 : Box w7 wr.heap.size TP2 _ := (hE7 wr.heap.size ⟨_, HX6.out⟩ (fun q => by have h8 : some g = some wr.heap.size := q; injection h8 with h8; have := HB8.out.2; omega)).trans HX6.out; obtain ⟨o9, _⟩ := hM7.si.box.cells4; have o0 : w7.cell? ⟨wr.heap.size, 0, none⟩ = some (.int .i64 x1.kd) := X7.cell 0; have o1 : w7.cell? ⟨wr.heap.size, 1, none⟩ = some (.int .i64 x1.n) := X7.cell 1; have o2 : w7.cell? ⟨wr.heap.size, 2, none⟩ = some (.string x1.nm) := X7.cell 2; have o3 : w7.cell? ⟨wr.heap.size, 3, none⟩ = some (.slice ax1 x1.args.len cx1) := X7.cell 3; have o4 : w7.cell? ⟨wr.heap.size, 4, none⟩ = some (.int .i64 y1.kd) := X7.cell 4; have o5 : w7.cell? ⟨wr.heap.size, 5, none⟩ = some (.int .i64 y1.n) := X7.cell 5; have o6 : w7.cell? ⟨wr.heap.size, 6, none⟩ = some (.string y1.nm) := X7.cell 6; have o7 : w7.cell? ⟨wr.heap.size, 7, none⟩ = some (.slice ay1 y1.args.len cy1) := X7.cell 7; have HP7 := Lib.hid (And.intro hcp7 (And.intro hM7 (And.intro hT7 (KG.trans (KG.of_below HB6.out (Nat.le_refl _)) hK7)))); clear X7 hM7 hT7 hK7 hE7 hcp7)
          | (have h9 := HS5; clear h9; go_at_call 26; refine (HTY.out w5 HB5.out).mono ?_; rintro e w6 ⟨rfl, hb6⟩; have HB6 := Lib.hid (HB5.out.trans (hb6.mono HB5.out.size)); have HX6 := Lib.hid (HX5.out.below hb6 HX5.out.lt); obtain ⟨l9, _⟩ := (HMB.out.below HB6.out).si.box.cells4; have l0 : w6.cell? ⟨wr.heap.size, 0, none⟩ = some (.int .i64 x1.kd) := HX6.out.cell 0; have l1 : w6.cell? ⟨wr.heap.size, 1, none⟩ = some (.int .i64 x1.n) := HX6.out.cell 1; have l2 : w6.cell? ⟨wr.heap.size, 2, none⟩ = some (.string x1.nm) := HX6.out.cell 2; have l3 : w6.cell? ⟨wr.heap.size, 3, none⟩ = some (.slice ax1 x1.args.len cx1) := HX6.out.cell 3; have l4 : w6.cell? ⟨wr.heap.size, 4, none⟩ = some (.int .i64 y1.kd) := HX6.out.cell 4; have l5 : w6.cell? ⟨wr.heap.size, 5, none⟩ = some (.int .i64 y1.n) := HX6.out.cell 5; have l6 : w6.cell? ⟨wr.heap.size, 6, none⟩ = some (.string y1.nm) := HX6.out.cell 6; have l7 : w6.cell? ⟨wr.heap.size, 7, none⟩ = some (.slice ay1 y1.args.len cy1) := HX6.out.cell 7; have HS6 := Lib.hid True.intro; clear hb6)
          | (go_at_call 26; refine (HTX.out WB.drew ((Below.refl _ WB).drew)).mono ?_; rintro e w5 ⟨rfl, hb5⟩; replace hb5 : Below WB.heap.size WB w5 := ⟨hb5.os, hb5.tape, hb5.output, hb5.size, hb5.block⟩; have HB5 := Lib.hid hb5; have HX5 := Lib.hid (HXB.out.below hb5 HXB.out.lt); obtain ⟨k9, _⟩ := (HMB.out.below hb5).si.box.cells4; have k0 : w5.cell? ⟨wr.heap.size, 0, none⟩ = some (.int .i64 x1.kd) := HX5.out.cell 0; have k1 : w5.cell? ⟨wr.heap.size, 1, none⟩ = some (.int .i64 x1.n) := HX5.out.cell 1; have k2 : w5.cell? ⟨wr.heap.size, 2, none⟩ = some (.string x1.nm) := HX5.out.cell 2; have k3 : w5.cell? ⟨wr.heap.size, 3, none⟩ = some (.slice ax1 x1.args.len cx1) := HX5.out.cell 3; have k4 : w5.cell? ⟨wr.heap.size, 4, none⟩ = some (.int .i64 y1.kd) := HX5.out.cell 4; have k5 : w5.cell? ⟨wr.heap.size, 5, none⟩ = some (.int .i64 y1.n) := HX5.out.cell 5; have k6 : w5.cell? ⟨wr.heap.size, 6, none⟩ = some (.string y1.nm) := HX5.out.cell 6; have k7 : w5.cell? ⟨wr.heap.size, 7, none⟩ = some (.slice ay1 y1.args.len cy1) := HX5.out.cell 7; have HS5 := Lib.hid True.intro; clear hb5))
      clear k9 k0 k1 k2 k3 k4 k5 k6 k7 l9 l0 l1 l2 l3 l4 l5 l6 l7 o9 o0 o1 o2 o3 o4 o5 o6 o7 e0 n0 n1 n2 n3 n4 n5 n6 n7 z0 z1 z2 z3 z4 z5 z6 z7
      by_cases he : pr.err = 0
      · have q9 : (pr.err != 0) = false := by simpa using he
        have hs2 := HSS.out
        rw [if_neg (by simpa using he)] at hs2
        split at hs2
        case isFalse => cases hs2
        case isTrue hlm =>
        have HS2 := Lib.hid (And.intro hs2 hlm)
        clear hs2 hlm he
        go_wp2_with fail
        go_roundg k2
        case measure => have := HKD.out; omega
        case rel => exact ⟨k2, rfl, pr.st, pr.M, cp7, _, tv7, ov7, HP7.out.2.1, HP7.out.2.2.1, KG.trans HKW.out HP7.out.2.2.2, HS2.out.1, by have := HP7.out.1; omega, by rw [List.length_append]; exact HS2.out.2⟩
      · have q9 : (pr.err != 0) = true := by simpa using he
        have hs2 := HSS.out
        rw [if_pos (by simpa using he)] at hs2
        have HR : Hid (r = (pr.err, pr.st)) := Lib.hid (by injection hs2 with hs2; exact hs2.symm)
        clear hs2 he
        go_wp2_with fail
        go_ret
        exact ⟨by rw [HR.out]; rfl, tv7, ov7, pr.M, cp7, by rw [HR.out]; exact HP7.out.2.1, KG.trans HKW.out HP7.out.2.2.2⟩
end Go.Proofs.Ytcaioffdcbjbjaa.Un
