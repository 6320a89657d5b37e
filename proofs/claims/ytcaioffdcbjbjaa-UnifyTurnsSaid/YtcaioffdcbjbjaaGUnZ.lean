/-
  CONTRACTS of layer unify: two types are made the same but for their parts: the cases in which nothing waits then.
-/
import Derived.Test.YtcaioffdcbjbjaaGX

namespace Go.Proofs.Ytcaioffdcbjbjaa.Un
open Go.RowKit Go.Shelf Mm Tm Mk Go.Maps Go.ChangeMaps Go.MapKept Go.WideMaps Rg
set_option linter.unusedVariables false
set_option linter.unusedSimpArgs false
abbrev boxC (f : Fact) (v : Bool) (n : Int) : Array Value := #[.int .i64 f.kd, .int .i64 f.n, .string f.nm, .slice f.a f.args.len f.c, .int .i64 f.least, .int .i64 f.depth, .bool f.held, .bool v, .int .i64 n]
set_option maxRecDepth 100000 in
set_option maxHeartbeats 4000000 in
theorem pair_same {base mk s m pm cp : Nat} {nx xn yn : Int} {tv ov : Value} {st : St} {M : PM} {td : List (Ty × Ty)} {xf yf : Fact} (w : World) (hM : MkI base w mk s m pm nx tv ov st M cp) (hT : TodoI base w tv td) (hb : base ≤ w.heap.size) (hn : xn = yn) :
    Calls Try.prog 25 #[.pointer (some ⟨mk, 0, none⟩), sideV ⟨xf, true, xn⟩, sideV ⟨yf, true, yn⟩] w (PairPost base mk s m pm cp nx tv td ⟨0, st, M, []⟩ w) := by
  obtain ⟨W0, hW0⟩ : ∃ W0, (w.alloc (.cells (boxC xf true xn) TSide)).alloc (.cells (boxC yf true yn) TSide) = W0 := ⟨_, rfl⟩
  have hB0 : Below w.heap.size w W0 := by rw [← hW0]; exact ((Below.refl w.heap.size w).alloc (Nat.le_refl _) _).alloc (by simp) _
  have hX0 : Box W0 w.heap.size TSide (boxC xf true xn) := by rw [← hW0]; exact (Box.new w _ _).alloc _
  have hY0 : Box W0 (w.heap.size + 1) TSide (boxC yf true yn) := by rw [← hW0]; exact Box.at_ _ _ (by simp)
  have HB0 := Lib.hid hB0
  have HX0 := Lib.hid hX0
  have HY0 := Lib.hid hY0
  have HM := Lib.hid hM
  have HT := Lib.hid hT
  obtain ⟨x0, x1, x2, x3, x4, x5, x6, x7, x8⟩ := hX0.cells9
  obtain ⟨y0, y1, y2, y3, y4, y5, y6, y7, y8⟩ := hY0.cells9
  have hq : (xn == yn) = true := by simpa using hn
  clear hM hT hX0 hY0 hB0 hn
  go_enter Try.func25, Try.ntmps25
  go_wp2_with fail
  go_ret
  exact ⟨rfl, tv, ov, cp, by omega, HM.out.below HB0.out, HT.out.below HB0.out, KG.of_below HB0.out (Nat.le_refl _), KeepP.below HB0.out⟩
set_option maxRecDepth 100000 in
set_option maxHeartbeats 4000000 in
theorem pair_join {base mk s m pm cp : Nat} {nx xn yn : Int} {tv ov : Value} {st : St} {M : PM} {td : List (Ty × Ty)} {xf yf : Fact} {la da lb db : Int} {ha hb' : Bool} {st' : St} (w : World) (hM : MkI base w mk s m pm nx tv ov st M cp) (hT : TodoI base w tv td) (hb : base ≤ w.heap.size) (hx : ErF xf (.opn la da ha)) (hy : ErF yf (.opn lb db hb')) (hn : xn ≠ yn) (hst : joinP st xn la da ha yn lb db hb' = some st') :
    Calls Try.prog 25 #[.pointer (some ⟨mk, 0, none⟩), sideV ⟨xf, true, xn⟩, sideV ⟨yf, true, yn⟩] w (PairPost base mk s m pm cp nx tv td ⟨0, st', M, []⟩ w) := by
  obtain ⟨W0, hW0⟩ : ∃ W0, (w.alloc (.cells (boxC xf true xn) TSide)).alloc (.cells (boxC yf true yn) TSide) = W0 := ⟨_, rfl⟩
  have hB0 : Below w.heap.size w W0 := by rw [← hW0]; exact ((Below.refl w.heap.size w).alloc (Nat.le_refl _) _).alloc (by simp) _
  have hX0 : Box W0 w.heap.size TSide (boxC xf true xn) := by rw [← hW0]; exact (Box.new w _ _).alloc _
  have hY0 : Box W0 (w.heap.size + 1) TSide (boxC yf true yn) := by rw [← hW0]; exact Box.at_ _ _ (by simp)
  have HB0 := Lib.hid hB0
  have HX0 := Lib.hid hX0
  have HY0 := Lib.hid hY0
  have HM := Lib.hid hM
  have HT := Lib.hid hT
  obtain ⟨x0, x1, x2, x3, x4, x5, x6, x7, x8⟩ := hX0.cells9
  obtain ⟨y0, y1, y2, y3, y4, y5, y6, y7, y8⟩ := hY0.cells9
  have hq : (xn == yn) = false := by simpa using hn
  have hxo : (xf.kd == 0) = true := by rw [hx.1]; rfl
  have hyo : (yf.kd == 0) = true := by rw [hy.1]; rfl
  have HJ := Lib.hid fun (wq : World) (h1 : Below w.heap.size w wq) => join_any (x := ⟨xf, true, xn⟩) (y := ⟨yf, true, yn⟩) wq (hM.si.below h1) (Nat.le_trans hb h1.size) hx hy hst
  clear hM hT hX0 hY0 hB0 hn hx hy hst
  go_enter Try.func25, Try.ntmps25
  go_wp2_with fail
  refine (isOpen_any ⟨xf, true, xn⟩ W0).mono ?_
  rintro e W1 ⟨rfl, hb1⟩
  rw [hxo]
  have HB1 := Lib.hid (HB0.out.trans (hb1.mono HB0.out.size))
  have HX1 := Lib.hid (HX0.out.below hb1 HX0.out.lt)
  have HY1 := Lib.hid (HY0.out.below hb1 HY0.out.lt)
  clear hb1 x0 x1 x2 x3 x4 x5 x6 x7 x8 y0 y1 y2 y3 y4 y5 y6 y7 y8 hW0
  obtain ⟨x0, x1, x2, x3, x4, x5, x6, x7, x8⟩ := HX1.out.cells9
  obtain ⟨y0, y1, y2, y3, y4, y5, y6, y7, y8⟩ := HY1.out.cells9
  go_wp2_with fail
  refine (isOpen_any ⟨yf, true, yn⟩ W1).mono ?_
  rintro e W2 ⟨rfl, hb2⟩
  rw [hyo]
  have HB2 := Lib.hid (HB1.out.trans (hb2.mono HB1.out.size))
  have HX2 := Lib.hid (HX1.out.below hb2 HX1.out.lt)
  have HY2 := Lib.hid (HY1.out.below hb2 HY1.out.lt)
  clear hb2 x0 x1 x2 x3 x4 x5 x6 x7 x8 y0 y1 y2 y3 y4 y5 y6 y7 y8
  obtain ⟨x0, x1, x2, x3, x4, x5, x6, x7, x8⟩ := HX2.out.cells9
  obtain ⟨y0, y1, y2, y3, y4, y5, y6, y7, y8⟩ := HY2.out.cells9
  go_wp2_with fail
  refine (HJ.out W2 HB2.out).mono ?_
  rintro e W3 ⟨rfl, ov3, si3, sk3⟩
  have HS3 := Lib.hid (And.intro si3 sk3)
  clear si3 sk3 x0 x1 x2 x3 x4 x5 x6 x7 x8 y0 y1 y2 y3 y4 y5 y6 y7 y8
  go_wp2_with fail
  go_ret
  obtain ⟨si3, sk3⟩ := HS3.out
  have hk : SK base mk m w W3 := (KG.of_below HB2.out (Nat.le_refl _)).trans sk3
  exact ⟨rfl, tv, ov3, cp, by omega, HM.out.sk hk si3, HT.out.sk HM.out hk, hk.kp, SK.keep HM.out hk⟩
theorem sideR_below {base : Nat} {w w' : World} {x : Ty} {a : Option Addr} {c : Nat} {sdp : Sd} {sd : Side} (h : SideR (ZT base N0 w) w x a c sdp sd) (hb : Below w.heap.size w w') : SideR (ZT base N0 w') w' x a c sdp sd := by
  cases sdp with
  | typ y => exact h
  | var r f => exact ⟨h.1, h.2.1, h.2.2.1, h.2.2.2.1.frame (fun ad hz => hb.cell hz.lt) (fun b hz => ⟨hz.1, hz.2.1.below hb, hz.2.2⟩), h.2.2.2.2⟩
set_option maxRecDepth 100000 in
set_option maxHeartbeats 4000000 in
theorem pair_bindx {base mk s m pm cp : Nat} {nx xn yn : Int} {tv ov : Value} {st : St} {M : PM} {td : List (Ty × Ty)} {xf yf : Fact} {yv : Bool} {l dd er : Int} {h : Bool} {st' : St} {q d c : Nat} {sdp : Sd} {tx : Ty} {a : Option Addr} (w : World) (hM : MkI base w mk s m pm nx tv ov st M cp) (hT : TodoI base w tv td) (hb : base ≤ w.heap.size) (hx : ErF xf (.opn l dd h)) (hk0 : yf.kd ≠ 0) (hs : SideR (ZT base N0 w) w tx a c sdp ⟨yf, yv, yn⟩) (hr : RdT (ZU base N0 w) w a tx.args 0) (hl : tx.args.len * 56 ≤ 140737488355328) (hnm : tx.nm.size ≤ 9223372036854775807) (hd : d ≤ 1000000000) (hst : bindP q d st xn h sdp = some (er, st')) (hn : yv = true → xn ≠ yn) :
    Calls Try.prog 25 #[.pointer (some ⟨mk, 0, none⟩), sideV ⟨xf, true, xn⟩, sideV ⟨yf, yv, yn⟩] w (PairPost base mk s m pm cp nx tv td ⟨er, st', M, []⟩ w) := by
  obtain ⟨W0, hW0⟩ : ∃ W0, (w.alloc (.cells (boxC xf true xn) TSide)).alloc (.cells (boxC yf yv yn) TSide) = W0 := ⟨_, rfl⟩
  have hB0 : Below w.heap.size w W0 := by rw [← hW0]; exact ((Below.refl w.heap.size w).alloc (Nat.le_refl _) _).alloc (by simp) _
  have hX0 : Box W0 w.heap.size TSide (boxC xf true xn) := by rw [← hW0]; exact (Box.new w _ _).alloc _
  have hY0 : Box W0 (w.heap.size + 1) TSide (boxC yf yv yn) := by rw [← hW0]; exact Box.at_ _ _ (by simp)
  have HB0 := Lib.hid hB0
  have HX0 := Lib.hid hX0
  have HY0 := Lib.hid hY0
  have HM := Lib.hid hM
  have HT := Lib.hid hT
  obtain ⟨x0, x1, x2, x3, x4, x5, x6, x7, x8⟩ := hX0.cells9
  obtain ⟨y0, y1, y2, y3, y4, y5, y6, y7, y8⟩ := hY0.cells9
  have hoo : (xf.kd == 0) = true := by rw [hx.1]; rfl
  have hco : (yf.kd == 0) = false := by simpa using hk0
  have HBI := Lib.hid fun (wq : World) (h1 : Below w.heap.size w wq) => bind_any (v := ⟨xf, true, xn⟩) (is := ⟨yf, yv, yn⟩) wq (hM.si.below h1) (Nat.le_trans hb h1.size) (fun b hb => hb.elim) hx (sideR_below hs h1) ((hr.below h1 fun b hb => hb.lt).mono fun b hz => zu_below h1 hz) hl hnm hd hst
  have hq : yv = true → (xn == yn) = false := fun e => by simpa using hn e
  have HQ := Lib.hid hq
  clear hM hT hX0 hY0 hB0 hn hx hk0 hs hr hl hnm hst hq
  go_enter Try.func25, Try.ntmps25
  cases yv with
  | true =>
    have hq := HQ.out rfl
    go_wp2_with fail
    refine (isOpen_any ⟨xf, true, xn⟩ W0).mono ?_
    rintro e W1 ⟨rfl, hb1⟩
    rw [hoo]
    have HB1 := Lib.hid (HB0.out.trans (hb1.mono HB0.out.size))
    have HX1 := Lib.hid (HX0.out.below hb1 HX0.out.lt)
    have HY1 := Lib.hid (HY0.out.below hb1 HY0.out.lt)
    clear hb1 x0 x1 x2 x3 x4 x5 x6 x7 x8 y0 y1 y2 y3 y4 y5 y6 y7 y8 hW0
    obtain ⟨x0, x1, x2, x3, x4, x5, x6, x7, x8⟩ := HX1.out.cells9
    obtain ⟨y0, y1, y2, y3, y4, y5, y6, y7, y8⟩ := HY1.out.cells9
    go_wp2_with fail
    refine (isOpen_any ⟨yf, true, yn⟩ W1).mono ?_
    rintro e W2 ⟨rfl, hb2⟩
    rw [hco]
    have HB2 := Lib.hid (HB1.out.trans (hb2.mono HB1.out.size))
    have HX2 := Lib.hid (HX1.out.below hb2 HX1.out.lt)
    have HY2 := Lib.hid (HY1.out.below hb2 HY1.out.lt)
    clear hb2 x0 x1 x2 x3 x4 x5 x6 x7 x8 y0 y1 y2 y3 y4 y5 y6 y7 y8
    obtain ⟨x0, x1, x2, x3, x4, x5, x6, x7, x8⟩ := HX2.out.cells9
    obtain ⟨y0, y1, y2, y3, y4, y5, y6, y7, y8⟩ := HY2.out.cells9
    go_wp2_with fail
    refine (isOpen_any ⟨xf, true, xn⟩ W2).mono ?_
    rintro e W3 ⟨rfl, hb3⟩
    rw [hoo]
    have HB3 := Lib.hid (HB2.out.trans (hb3.mono HB2.out.size))
    have HX3 := Lib.hid (HX2.out.below hb3 HX2.out.lt)
    have HY3 := Lib.hid (HY2.out.below hb3 HY2.out.lt)
    clear hb3 x0 x1 x2 x3 x4 x5 x6 x7 x8 y0 y1 y2 y3 y4 y5 y6 y7 y8
    obtain ⟨x0, x1, x2, x3, x4, x5, x6, x7, x8⟩ := HX3.out.cells9
    obtain ⟨y0, y1, y2, y3, y4, y5, y6, y7, y8⟩ := HY3.out.cells9
    go_wp2_with fail
    refine (HBI.out W3 HB3.out).mono ?_
    rintro e W4 ⟨rfl, ov4, si4, sk4⟩
    have HS4 := Lib.hid (And.intro si4 sk4)
    clear si4 sk4 x0 x1 x2 x3 x4 x5 x6 x7 x8 y0 y1 y2 y3 y4 y5 y6 y7 y8
    go_wp2_with fail
    go_ret
    obtain ⟨si4, sk4⟩ := HS4.out
    have hk : SK base mk m w W4 := (KG.of_below HB3.out (Nat.le_refl _)).trans sk4
    exact ⟨rfl, tv, ov4, cp, by omega, HM.out.sk hk si4, HT.out.sk HM.out hk, hk.kp, SK.keep HM.out hk⟩
  | false =>
    go_wp2_with fail
    refine (isOpen_any ⟨xf, true, xn⟩ W0).mono ?_
    rintro e W1 ⟨rfl, hb1⟩
    rw [hoo]
    have HB1 := Lib.hid (HB0.out.trans (hb1.mono HB0.out.size))
    have HX1 := Lib.hid (HX0.out.below hb1 HX0.out.lt)
    have HY1 := Lib.hid (HY0.out.below hb1 HY0.out.lt)
    clear hb1 x0 x1 x2 x3 x4 x5 x6 x7 x8 y0 y1 y2 y3 y4 y5 y6 y7 y8 hW0
    obtain ⟨x0, x1, x2, x3, x4, x5, x6, x7, x8⟩ := HX1.out.cells9
    obtain ⟨y0, y1, y2, y3, y4, y5, y6, y7, y8⟩ := HY1.out.cells9
    go_wp2_with fail
    refine (isOpen_any ⟨yf, false, yn⟩ W1).mono ?_
    rintro e W2 ⟨rfl, hb2⟩
    rw [hco]
    have HB2 := Lib.hid (HB1.out.trans (hb2.mono HB1.out.size))
    have HX2 := Lib.hid (HX1.out.below hb2 HX1.out.lt)
    have HY2 := Lib.hid (HY1.out.below hb2 HY1.out.lt)
    clear hb2 x0 x1 x2 x3 x4 x5 x6 x7 x8 y0 y1 y2 y3 y4 y5 y6 y7 y8
    obtain ⟨x0, x1, x2, x3, x4, x5, x6, x7, x8⟩ := HX2.out.cells9
    obtain ⟨y0, y1, y2, y3, y4, y5, y6, y7, y8⟩ := HY2.out.cells9
    go_wp2_with fail
    refine (isOpen_any ⟨xf, true, xn⟩ W2).mono ?_
    rintro e W3 ⟨rfl, hb3⟩
    rw [hoo]
    have HB3 := Lib.hid (HB2.out.trans (hb3.mono HB2.out.size))
    have HX3 := Lib.hid (HX2.out.below hb3 HX2.out.lt)
    have HY3 := Lib.hid (HY2.out.below hb3 HY2.out.lt)
    clear hb3 x0 x1 x2 x3 x4 x5 x6 x7 x8 y0 y1 y2 y3 y4 y5 y6 y7 y8
    obtain ⟨x0, x1, x2, x3, x4, x5, x6, x7, x8⟩ := HX3.out.cells9
    obtain ⟨y0, y1, y2, y3, y4, y5, y6, y7, y8⟩ := HY3.out.cells9
    go_wp2_with fail
    refine (HBI.out W3 HB3.out).mono ?_
    rintro e W4 ⟨rfl, ov4, si4, sk4⟩
    have HS4 := Lib.hid (And.intro si4 sk4)
    clear si4 sk4 x0 x1 x2 x3 x4 x5 x6 x7 x8 y0 y1 y2 y3 y4 y5 y6 y7 y8
    go_wp2_with fail
    go_ret
    obtain ⟨si4, sk4⟩ := HS4.out
    have hk : SK base mk m w W4 := (KG.of_below HB3.out (Nat.le_refl _)).trans sk4
    exact ⟨rfl, tv, ov4, cp, by omega, HM.out.sk hk si4, HT.out.sk HM.out hk, hk.kp, SK.keep HM.out hk⟩
set_option maxRecDepth 100000 in
set_option maxHeartbeats 4000000 in
theorem pair_bindy {base mk s m pm cp : Nat} {nx xn yn : Int} {tv ov : Value} {st : St} {M : PM} {td : List (Ty × Ty)} {xf yf : Fact} {xv : Bool} {l dd er : Int} {h : Bool} {st' : St} {q d c : Nat} {sdp : Sd} {tx : Ty} {a : Option Addr} (w : World) (hM : MkI base w mk s m pm nx tv ov st M cp) (hT : TodoI base w tv td) (hb : base ≤ w.heap.size) (hx : ErF yf (.opn l dd h)) (hk0 : xf.kd ≠ 0) (hs : SideR (ZT base N0 w) w tx a c sdp ⟨xf, xv, xn⟩) (hr : RdT (ZU base N0 w) w a tx.args 0) (hl : tx.args.len * 56 ≤ 140737488355328) (hnm : tx.nm.size ≤ 9223372036854775807) (hd : d ≤ 1000000000) (hst : bindP q d st yn h sdp = some (er, st')) (hn : xv = true → xn ≠ yn) :
    Calls Try.prog 25 #[.pointer (some ⟨mk, 0, none⟩), sideV ⟨xf, xv, xn⟩, sideV ⟨yf, true, yn⟩] w (PairPost base mk s m pm cp nx tv td ⟨er, st', M, []⟩ w) := by
  obtain ⟨W0, hW0⟩ : ∃ W0, (w.alloc (.cells (boxC xf xv xn) TSide)).alloc (.cells (boxC yf true yn) TSide) = W0 := ⟨_, rfl⟩
  have hB0 : Below w.heap.size w W0 := by rw [← hW0]; exact ((Below.refl w.heap.size w).alloc (Nat.le_refl _) _).alloc (by simp) _
  have hX0 : Box W0 w.heap.size TSide (boxC xf xv xn) := by rw [← hW0]; exact (Box.new w _ _).alloc _
  have hY0 : Box W0 (w.heap.size + 1) TSide (boxC yf true yn) := by rw [← hW0]; exact Box.at_ _ _ (by simp)
  have HB0 := Lib.hid hB0
  have HX0 := Lib.hid hX0
  have HY0 := Lib.hid hY0
  have HM := Lib.hid hM
  have HT := Lib.hid hT
  obtain ⟨x0, x1, x2, x3, x4, x5, x6, x7, x8⟩ := hX0.cells9
  obtain ⟨y0, y1, y2, y3, y4, y5, y6, y7, y8⟩ := hY0.cells9
  have hoo : (yf.kd == 0) = true := by rw [hx.1]; rfl
  have hco : (xf.kd == 0) = false := by simpa using hk0
  have HBI := Lib.hid fun (wq : World) (h1 : Below w.heap.size w wq) => bind_any (v := ⟨yf, true, yn⟩) (is := ⟨xf, xv, xn⟩) wq (hM.si.below h1) (Nat.le_trans hb h1.size) (fun b hb => hb.elim) hx (sideR_below hs h1) ((hr.below h1 fun b hb => hb.lt).mono fun b hz => zu_below h1 hz) hl hnm hd hst
  have hq : xv = true → (xn == yn) = false := fun e => by simpa using hn e
  have HQ := Lib.hid hq
  clear hM hT hX0 hY0 hB0 hn hx hk0 hs hr hl hnm hst hq
  go_enter Try.func25, Try.ntmps25
  cases xv with
  | true =>
    have hq := HQ.out rfl
    go_wp2_with fail
    refine (isOpen_any ⟨xf, true, xn⟩ W0).mono ?_
    rintro e W1 ⟨rfl, hb1⟩
    rw [hco]
    have HB1 := Lib.hid (HB0.out.trans (hb1.mono HB0.out.size))
    have HX1 := Lib.hid (HX0.out.below hb1 HX0.out.lt)
    have HY1 := Lib.hid (HY0.out.below hb1 HY0.out.lt)
    clear hb1 x0 x1 x2 x3 x4 x5 x6 x7 x8 y0 y1 y2 y3 y4 y5 y6 y7 y8 hW0
    obtain ⟨x0, x1, x2, x3, x4, x5, x6, x7, x8⟩ := HX1.out.cells9
    obtain ⟨y0, y1, y2, y3, y4, y5, y6, y7, y8⟩ := HY1.out.cells9
    go_wp2_with fail
    refine (isOpen_any ⟨xf, true, xn⟩ W1).mono ?_
    rintro e W2 ⟨rfl, hb2⟩
    rw [hco]
    have HB2 := Lib.hid (HB1.out.trans (hb2.mono HB1.out.size))
    have HX2 := Lib.hid (HX1.out.below hb2 HX1.out.lt)
    have HY2 := Lib.hid (HY1.out.below hb2 HY1.out.lt)
    clear hb2 x0 x1 x2 x3 x4 x5 x6 x7 x8 y0 y1 y2 y3 y4 y5 y6 y7 y8
    obtain ⟨x0, x1, x2, x3, x4, x5, x6, x7, x8⟩ := HX2.out.cells9
    obtain ⟨y0, y1, y2, y3, y4, y5, y6, y7, y8⟩ := HY2.out.cells9
    go_wp2_with fail
    refine (isOpen_any ⟨yf, true, yn⟩ W2).mono ?_
    rintro e W3 ⟨rfl, hb3⟩
    rw [hoo]
    have HB3 := Lib.hid (HB2.out.trans (hb3.mono HB2.out.size))
    have HX3 := Lib.hid (HX2.out.below hb3 HX2.out.lt)
    have HY3 := Lib.hid (HY2.out.below hb3 HY2.out.lt)
    clear hb3 x0 x1 x2 x3 x4 x5 x6 x7 x8 y0 y1 y2 y3 y4 y5 y6 y7 y8
    obtain ⟨x0, x1, x2, x3, x4, x5, x6, x7, x8⟩ := HX3.out.cells9
    obtain ⟨y0, y1, y2, y3, y4, y5, y6, y7, y8⟩ := HY3.out.cells9
    go_wp2_with fail
    refine (HBI.out W3 HB3.out).mono ?_
    rintro e W4 ⟨rfl, ov4, si4, sk4⟩
    have HS4 := Lib.hid (And.intro si4 sk4)
    clear si4 sk4 x0 x1 x2 x3 x4 x5 x6 x7 x8 y0 y1 y2 y3 y4 y5 y6 y7 y8
    go_wp2_with fail
    go_ret
    obtain ⟨si4, sk4⟩ := HS4.out
    have hk : SK base mk m w W4 := (KG.of_below HB3.out (Nat.le_refl _)).trans sk4
    exact ⟨rfl, tv, ov4, cp, by omega, HM.out.sk hk si4, HT.out.sk HM.out hk, hk.kp, SK.keep HM.out hk⟩
  | false =>
    go_wp2_with fail
    refine (isOpen_any ⟨xf, false, xn⟩ W0).mono ?_
    rintro e W1 ⟨rfl, hb1⟩
    rw [hco]
    have HB1 := Lib.hid (HB0.out.trans (hb1.mono HB0.out.size))
    have HX1 := Lib.hid (HX0.out.below hb1 HX0.out.lt)
    have HY1 := Lib.hid (HY0.out.below hb1 HY0.out.lt)
    clear hb1 x0 x1 x2 x3 x4 x5 x6 x7 x8 y0 y1 y2 y3 y4 y5 y6 y7 y8 hW0
    obtain ⟨x0, x1, x2, x3, x4, x5, x6, x7, x8⟩ := HX1.out.cells9
    obtain ⟨y0, y1, y2, y3, y4, y5, y6, y7, y8⟩ := HY1.out.cells9
    go_wp2_with fail
    refine (isOpen_any ⟨xf, false, xn⟩ W1).mono ?_
    rintro e W2 ⟨rfl, hb2⟩
    rw [hco]
    have HB2 := Lib.hid (HB1.out.trans (hb2.mono HB1.out.size))
    have HX2 := Lib.hid (HX1.out.below hb2 HX1.out.lt)
    have HY2 := Lib.hid (HY1.out.below hb2 HY1.out.lt)
    clear hb2 x0 x1 x2 x3 x4 x5 x6 x7 x8 y0 y1 y2 y3 y4 y5 y6 y7 y8
    obtain ⟨x0, x1, x2, x3, x4, x5, x6, x7, x8⟩ := HX2.out.cells9
    obtain ⟨y0, y1, y2, y3, y4, y5, y6, y7, y8⟩ := HY2.out.cells9
    go_wp2_with fail
    refine (isOpen_any ⟨yf, true, yn⟩ W2).mono ?_
    rintro e W3 ⟨rfl, hb3⟩
    rw [hoo]
    have HB3 := Lib.hid (HB2.out.trans (hb3.mono HB2.out.size))
    have HX3 := Lib.hid (HX2.out.below hb3 HX2.out.lt)
    have HY3 := Lib.hid (HY2.out.below hb3 HY2.out.lt)
    clear hb3 x0 x1 x2 x3 x4 x5 x6 x7 x8 y0 y1 y2 y3 y4 y5 y6 y7 y8
    obtain ⟨x0, x1, x2, x3, x4, x5, x6, x7, x8⟩ := HX3.out.cells9
    obtain ⟨y0, y1, y2, y3, y4, y5, y6, y7, y8⟩ := HY3.out.cells9
    go_wp2_with fail
    refine (HBI.out W3 HB3.out).mono ?_
    rintro e W4 ⟨rfl, ov4, si4, sk4⟩
    have HS4 := Lib.hid (And.intro si4 sk4)
    clear si4 sk4 x0 x1 x2 x3 x4 x5 x6 x7 x8 y0 y1 y2 y3 y4 y5 y6 y7 y8
    go_wp2_with fail
    go_ret
    obtain ⟨si4, sk4⟩ := HS4.out
    have hk : SK base mk m w W4 := (KG.of_below HB3.out (Nat.le_refl _)).trans sk4
    exact ⟨rfl, tv, ov4, cp, by omega, HM.out.sk hk si4, HT.out.sk HM.out hk, hk.kp, SK.keep HM.out hk⟩
end Go.Proofs.Ytcaioffdcbjbjaa.Un
