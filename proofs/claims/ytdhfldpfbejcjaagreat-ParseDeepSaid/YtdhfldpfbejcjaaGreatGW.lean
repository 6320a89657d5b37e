/-
  CONTRACTS of layer parse: a source is read as an expression (whole, Expr).
-/
import Derived.Test.YtdhfldpfbejcjaaGreatGO
import Derived.Test.YtdhfldpfbejcjaaGreatGV

namespace Go.Proofs.YtdhfldpfbejcjaaGreat.Pa
open Go.RowKit Mm Tm Pm
set_option linter.unusedVariables false
set_option linter.unusedSimpArgs false
abbrev zEx9 : Array Value := #[.int .i64 0, .string ⟨#[]⟩, .int .i64 0, .slice none 0 0, .slice none 0 0, .slice none 0 0, .slice none 0 0, .int .i64 0, .int .i64 0]
def ExprPost (pb : Nat) (x : Ex) (w : World) (e : Ending) (w' : World) : Prop :=
  ∃ kdq nmq nq a1q n1q c1q a2q n2q c2q a3q n3q c3q a4q n4q c4q lnq colq, e = .returned (.tuple #[.agg (exV kdq nmq nq a1q n1q c1q a2q n2q c2q a3q n3q c3q a4q n4q c4q lnq colq), .agg #[.int .i64 0, .int .i64 0, .int .i64 0]]) ∧ ExI (fun b => w.heap.size ≤ b) w' x kdq nmq nq a1q n1q c1q a2q n2q c2q a3q n3q c3q a4q n4q c4q lnq colq ∧ Kept (fun b => b = pb) w w'
set_option maxRecDepth 100000 in
set_option maxHeartbeats 8000000 in
theorem wholeE_ok {pb d d2 : Nat} {s : ByteArray} {TK : List Tk} {t : Lt} {p2 p3 : Pp} {x : Ex} {f' : Ft} {af : Option Addr} {cf : Nat} {fixes : List Fx} (w : World) (hpar : Box w pb TPar (parV none 0 0 (.slice af fixes.length cf) 0 0 0 0 0)) (hfx : FxF pb af cf fixes w) (hfl : fixes.length ≤ 9223372036854775807) (hs : SrcOk s TK) (hrd : Pa.expr d ((pp0 TK).mark "{").2 = some (t, p2)) (hp3 : (p2.mark "}").2 = p3) (hend : p3.rest = []) (herr : p3.err = 0)
    (hg : grow (findD fixes) resolveD d2 (p3.err, p3.at_.1, p3.at_.2) t = some (x, f')) (hf' : f'.1 = 0) :
    Calls Tryz.prog 50 #[ptr pb, .string s, .func (.func 51) #[ptr pb] #[]] w (ExprPost pb x w) := by
  have hpl := hpar.lt
  obtain ⟨W1, hW1⟩ : ∃ W1, ((w.alloc (.cells zEx9 TEx)).alloc (.cells #[.int .i64 0, .int .i64 0, .int .i64 0] TFa)).alloc (.cells zEx9 TEx) = W1 := ⟨_, rfl⟩
  have hb1 : Below w.heap.size w W1 := by rw [← hW1]; exact (((Below.refl _ _).alloc (Nat.le_refl _) _).alloc (by simp) _).alloc (by simp; omega) _
  have hz1 : W1.heap.size = w.heap.size + 1 + 1 + 1 := by rw [← hW1]; simp
  have hA1 : Box W1 w.heap.size TEx #[.int .i64 0, .string ⟨#[]⟩, .int .i64 0, .slice none 0 0, .slice none 0 0, .slice none 0 0, .slice none 0 0, .int .i64 0, .int .i64 0] := by rw [← hW1]; exact ((Box.new w _ _).alloc _).alloc _
  have hF1 : Box W1 (w.heap.size + 1) TFa #[.int .i64 0, .int .i64 0, .int .i64 0] := by rw [← hW1]; exact (Box.at_ _ _ (by simp)).alloc _
  have HT := Lib.hid (toks_any hs W1)
  have HP1 := Lib.hid (hpar.below hb1 hpl)
  have HA1 := Lib.hid hA1
  have HF1 := Lib.hid hF1
  have HB1 := Lib.hid hb1
  have HZ1 := Lib.hid hz1
  have HRD := Lib.hid hrd
  have HE := Lib.hid hend
  have HER := Lib.hid herr
  have HP3 := Lib.hid hp3
  have HG := Lib.hid hg
  have HF' := Lib.hid hf'
  have HTL := Lib.hid hs.len
  have HPL := Lib.hid hpl
  have HFX := Lib.hid hfx
  have HFL := Lib.hid hfl
  have HEN := Lib.hid (enters_of (P := Tryz.prog) Tryz.func51 (by kernel_rfl) rfl)
  clear hpar hs hrd hp3 hend herr hg hf' hb1 hz1 hA1 hF1 hpl hfx hfl
  go_enter Tryz.func50, Tryz.ntmps50
  go_wp2_with fail
  refine HT.out.mono ?_
  rintro e w2 ⟨a, n, c, x', y', rfl, hb2, hlay⟩
  obtain ⟨W3, hW3⟩ : ∃ W3, w2.alloc (.cells #[.int .i64 0, .int .i64 x', .int .i64 y'] TFa) = W3 := ⟨_, rfl⟩
  have hb3 : Below w2.heap.size w2 W3 := by rw [← hW3]; exact (Below.refl _ _).alloc (Nat.le_refl _) _
  have hx3 : Box W3 w2.heap.size TFa #[.int .i64 0, .int .i64 x', .int .i64 y'] := by rw [← hW3]; exact Box.new w2 _ _
  have n0 := hx3.cell 0
  have ln := hx3.lt
  have HLAY := Lib.hid (hlay W3 hb3)
  have HB3 := Lib.hid (show Below W1.heap.size W1 W3 from hb2.trans (hb3.mono hb2.size))
  clear hb2 hlay hb3 hx3
  go_wp2_with fail
  refine HLAY.out.mono ?_
  rintro e w4 ⟨a2, c2, rfl, hc2, hr4, hb4⟩
  have hb14 : Below W1.heap.size W1 w4 := HB3.out.trans (hb4.mono HB3.out.size)
  have hp4 := HP1.out.below hb14 HP1.out.lt
  obtain ⟨V, hV, hvb, hvw⟩ : ∃ V, w4.setCell ⟨pb, 0, none⟩ (.slice a2 TK.length c2) = V ∧ Box V pb TPar (parV a2 TK.length c2 (.slice af fixes.length cf) 0 0 0 0 0) ∧ Wrote w4 V pb := ⟨_, rfl, hp4.put 0 _, (Wrote.refl _ _).set _ _⟩
  have hw3 : w.heap.size + 3 ≤ W3.heap.size := by have := HB3.out.size; have := HZ1.out; omega
  have hps : PS w4.heap.size V pb (pp0 TK) (.slice af fixes.length cf) := ⟨⟨a2, c2, hvb, hc2, hr4.frame (fun b o hz => World.cell?_of_block (hvw.block b (by have := HPL.out; omega))) fun b hz => ⟨hz.2, by have := HPL.out; omega⟩⟩, by have := hp4.lt; exact this, by rw [hvw.size]; exact Nat.le_refl _, HTL.out⟩
  have HPR := Lib.hid (alone_any V hps HRD.out)
  rw [HP3.out] at HPR
  have y0 := hp4.cell 0
  have y0' := hp4.free 0
  have ly := hp4.lt
  have HVW := Lib.hid hvw
  have HB14 := Lib.hid hb14
  have egp : ∀ args w, (callFunc 51 args).run Tryz.prog w = .ok (.enter 51 args) w := HEN.out
  have HWS := Lib.hid hw3
  have HS34 := Lib.hid hb4.size
  have HKV := Lib.hid (show KP pb w V from kept_wrote (Kept.of_below (HB1.out.trans (hb14.mono HB1.out.size)) (Nat.le_refl _) _) hvw fun _ => rfl)
  clear hc2 hr4 hb4 hb14 hp4 hvb hvw hps n0 ln hw3
  go_wp2_with fail
  refine HPR.out.mono ?_
  rintro e w6 ⟨v, rfl, hr6, hp6, hk6⟩
  have hws := HWS.out
  have hVs := HVW.out.size
  have hpl := HPL.out
  have hs34 := HS34.out
  obtain ⟨kf, cap, rfl, egk, hcall⟩ := growC_fix (p0 := p3) (N := w4.heap.size) (B := V.heap.size) (E := w6.heap.size) HFL.out (by omega) (by omega) hk6.size d2 t _ v w6 x f' HG.out (hr6.mono fun b hz hl => ⟨hz, hl⟩) hp6 (HFX.out.kp (HKV.out.trans hk6)) (Nat.le_refl _)
  have eg2 : ∀ args w, (callFunc kf args).run Tryz.prog w = .ok (.enter kf args) w := egk
  have HCL := Lib.hid hcall
  have hp6' := hp6
  obtain ⟨⟨ra, rc, g1, g2, g3⟩, g4, g5, g6⟩ := hp6'
  rw [HE.out] at g1
  have k0 := g1.cell 0
  have k4 := g1.cell 4
  rw [HER.out] at k4
  have lk := g1.lt
  have HK6 := Lib.hid hk6
  clear hr6 hp6 hk6 g1 g2 g3 g4 g5 g6 hcall hws hVs hpl hs34 egk
  go_wp2_with fail
  refine HCL.out.mono ?_
  rintro e w7 ⟨kd7, nm7, n7, a17, n17, c17, a27, n27, c27, a37, n37, c37, a47, n47, c47, ln7, col7, rfl, hx7, hp7, hk7⟩
  obtain ⟨W8, hW8⟩ : ∃ W8, w7.alloc (.cells (exV kd7 nm7 n7 a17 n17 c17 a27 n27 c27 a37 n37 c37 a47 n47 c47 ln7 col7) TEx) = W8 := ⟨_, rfl⟩
  have hb8 : Below w7.heap.size w7 W8 := by rw [← hW8]; exact (Below.refl _ _).alloc (Nat.le_refl _) _
  have hx8 : Box W8 w7.heap.size TEx (exV kd7 nm7 n7 a17 n17 c17 a27 n27 c27 a37 n37 c37 a47 n47 c47 ln7 col7) := by rw [← hW8]; exact Box.new w7 _ _
  obtain ⟨⟨ra8, rc8, g1, _, _⟩, _, _, _⟩ := hp7.below hb8
  have q4 := g1.cell 4
  rw [show (pf p3 f').err = 0 from HF'.out] at q4
  have lq := g1.lt
  obtain ⟨m0, m1, m2, m3, m4, m5, m6, m7, m8⟩ := cells9 hx8
  have lm := hx8.lt
  have hws := HWS.out
  have hVs := HVW.out.size
  have hpl := HPL.out
  have hs34 := HS34.out
  have hA8 := (hk7.box (HK6.out.box ((HA1.out.below HB14.out HA1.out.lt).wrote HVW.out (by omega)) (by omega)) (by omega)).below hb8 (by have := HK6.out.size; have := hk7.size; omega)
  have hF8 := (hk7.box (HK6.out.box ((HF1.out.below HB14.out HF1.out.lt).wrote HVW.out (by omega)) (by omega)) (by omega)).below hb8 (by have := HK6.out.size; have := hk7.size; omega)
  obtain ⟨r0, r1, r2, r3, r4, r5, r6, r7, r8⟩ := cells9 hA8
  obtain ⟨r0', r1', r2', r3', r4', r5', r6', r7', r8'⟩ := free9' hA8
  have lr := hA8.lt
  obtain ⟨U, hU, hub, huw⟩ := hA8.write9 (.int .i64 kd7) (.string (toB nm7)) (.int .i64 n7) (.slice a17 n17 c17) (.slice a27 n27 c27) (.slice a37 n37 c37) (.slice a47 n47 c47) (.int .i64 ln7) (.int .i64 col7)
  have hFU := hF8.wrote huw (by omega)
  obtain ⟨X, hX, hxb, hxw⟩ : ∃ X, ((U.setCell ⟨w.heap.size + 1, 0, none⟩ (.int .i64 0)).setCell ⟨w.heap.size + 1, 1, none⟩ (.int .i64 0)).setCell ⟨w.heap.size + 1, 2, none⟩ (.int .i64 0) = X ∧ Box X (w.heap.size + 1) TFa #[.int .i64 0, .int .i64 0, .int .i64 0] ∧ Wrote U X (w.heap.size + 1) := ⟨_, rfl, ((hFU.put 0 _).put 1 _).put 2 _, (((Wrote.refl _ _).set _ _).set _ _).set _ _⟩
  have t0 := hFU.cell 0
  have t1 := hFU.cell 1
  have t2 := hFU.cell 2
  have t0' := hFU.free 0
  have t1' := hFU.free 1
  have t2' := hFU.free 2
  have lt0 := hFU.lt
  have HUB := Lib.hid (hub.wrote hxw (by omega))
  have HXB := Lib.hid hxb
  have HUW := Lib.hid huw
  have HXW := Lib.hid hxw
  have HXI := Lib.hid (⟨hx7.ev.later hb8, hx7.at_⟩ : ExI _ W8 x kd7 nm7 n7 a17 n17 c17 a27 n27 c27 a37 n37 c37 a47 n47 c47 ln7 col7)
  have HB8 := Lib.hid hb8
  have HK7 := Lib.hid hk7
  clear hx7 hp7 hk7 hb8 hx8 g1 hA8 hF8 hub huw hFU hxb hxw k0 k4 hws hVs hpl hs34
  go_wp2_with fail
  obtain ⟨v0, v1, v2, v3, v4, v5, v6, v7, v8⟩ := cells9 HUB.out
  have u0 := HXB.out.cell 0
  have u1 := HXB.out.cell 1
  have u2 := HXB.out.cell 2
  refine bodyPost_ret (v := .tuple #[.agg (exV kd7 nm7 n7 a17 n17 c17 a27 n27 c27 a37 n37 c37 a47 n47 c47 ln7 col7), .agg #[.int .i64 0, .int .i64 0, .int .i64 0]]) (by simp [results, Tryz.results50, go_sem, v0, v1, v2, v3, v4, v5, v6, v7, v8, u0, u1, u2]) rfl ?_
  have hws := HWS.out
  have hVs := HVW.out.size
  have hpl := HPL.out
  have hs34 := HS34.out
  have hkX : Kept (fun b => b = w.heap.size ∨ b = w.heap.size + 1) W8 X := kept_wrote (kept_wrote (Kept.refl _ W8) HUW.out fun _ => .inl rfl) HXW.out fun _ => .inr rfl
  have hk8 : Kept (fun b => b = pb) w W8 := ((HKV.out.trans HK6.out).trans HK7.out).trans (Kept.of_below HB8.out (Nat.le_refl _) _)
  exact ⟨kd7, nm7, n7, a17, n17, c17, a27, n27, c27, a37, n37, c37, a47, n47, c47, ln7, col7, rfl, ⟨HXI.out.ev.frame hkX.size (fun b hz hl => hkX.block b hl fun e => by have := hz.1; rcases e with e | e <;> omega) fun b hz _ => by have := hz.1; omega, HXI.out.at_⟩, kept_new hk8 hkX fun b e q => absurd q (by omega)⟩
set_option maxRecDepth 100000 in
set_option maxHeartbeats 8000000 in
theorem exprC_ok {d d2 : Nat} {s : ByteArray} {TK : List Tk} {t : Lt} {p2 p3 : Pp} {x : Ex} {f' : Ft} {af : Option Addr} {cf : Nat} {fixes : List Fx} (w : World) (hfx : RowFx (fun b => b < w.heap.size) w (.slice af fixes.length cf) fixes) (hfl : fixes.length ≤ 9223372036854775807) (hs : SrcOk s TK) (hrd : Pa.expr d ((pp0 TK).mark "{").2 = some (t, p2)) (hp3 : (p2.mark "}").2 = p3) (hend : p3.rest = []) (herr : p3.err = 0)
    (hg : grow (findD fixes) resolveD d2 (p3.err, p3.at_.1, p3.at_.2) t = some (x, f')) (hf' : f'.1 = 0) :
    Calls Tryz.prog 20 #[.string s, .slice af fixes.length cf] w fun e w' => ∃ kdq nmq nq a1q n1q c1q a2q n2q c2q a3q n3q c3q a4q n4q c4q lnq colq, e = .returned (.tuple #[.agg (exV kdq nmq nq a1q n1q c1q a2q n2q c2q a3q n3q c3q a4q n4q c4q lnq colq), .agg #[.int .i64 0, .int .i64 0, .int .i64 0]]) ∧ ExI (fun b => w.heap.size ≤ b) w' x kdq nmq nq a1q n1q c1q a2q n2q c2q a3q n3q c3q a4q n4q c4q lnq colq ∧ Below w.heap.size w w' := by
  obtain ⟨W1, hW1⟩ : ∃ W1, ((w.alloc (.cells zEx9 TEx)).alloc (.cells #[.int .i64 0, .int .i64 0, .int .i64 0] TFa)).alloc (.cells (parV none 0 0 (.slice af fixes.length cf) 0 0 0 0 0) TPar) = W1 := ⟨_, rfl⟩
  have hb1 : Below w.heap.size w W1 := by rw [← hW1]; exact (((Below.refl _ _).alloc (Nat.le_refl _) _).alloc (by simp) _).alloc (by simp; omega) _
  have hz1 : W1.heap.size = w.heap.size + 1 + 1 + 1 := by rw [← hW1]; simp
  have hA1 : Box W1 w.heap.size TEx #[.int .i64 0, .string ⟨#[]⟩, .int .i64 0, .slice none 0 0, .slice none 0 0, .slice none 0 0, .slice none 0 0, .int .i64 0, .int .i64 0] := by rw [← hW1]; exact ((Box.new w _ _).alloc _).alloc _
  have hF1 : Box W1 (w.heap.size + 1) TFa #[.int .i64 0, .int .i64 0, .int .i64 0] := by rw [← hW1]; exact (Box.at_ _ _ (by simp)).alloc _
  have hP1 : Box W1 (w.heap.size + 1 + 1) TPar (parV none 0 0 (.slice af fixes.length cf) 0 0 0 0 0) := by rw [← hW1]; exact Box.at_ _ _ (by simp)
  have hfx1 : FxF (w.heap.size + 1 + 1) af cf fixes W1 := RowZ.frame hfx hb1.size (fun b _ hl => hb1.block b hl) fun b hz _ => by omega
  have HW := Lib.hid (wholeE_ok W1 hP1 hfx1 hfl hs hrd hp3 hend herr hg hf')
  have HA1 := Lib.hid hA1
  have HF1 := Lib.hid hF1
  have HB1 := Lib.hid hb1
  have HZ1 := Lib.hid hz1
  have HW1 := Lib.hid hW1
  clear hs hrd hp3 hend herr hg hf' hb1 hz1 hA1 hF1 hP1 hfx hfl hfx1 hW1
  go_enter Tryz.func20, Tryz.ntmps20
  go_wp2_with fail
  rw [HW1.out]
  refine HW.out.mono ?_
  rintro e w2 ⟨kd7, nm7, n7, a17, n17, c17, a27, n27, c27, a37, n37, c37, a47, n47, c47, ln7, col7, rfl, hx7, hk2⟩
  have hA2 := hk2.box HA1.out (by omega)
  have hF2 := hk2.box HF1.out (by omega)
  obtain ⟨r0, r1, r2, r3, r4, r5, r6, r7, r8⟩ := cells9 hA2
  obtain ⟨r0', r1', r2', r3', r4', r5', r6', r7', r8'⟩ := free9' hA2
  have lr := hA2.lt
  obtain ⟨U, hU, hub, huw⟩ := hA2.write9 (.int .i64 kd7) (.string (toB nm7)) (.int .i64 n7) (.slice a17 n17 c17) (.slice a27 n27 c27) (.slice a37 n37 c37) (.slice a47 n47 c47) (.int .i64 ln7) (.int .i64 col7)
  have hFU := hF2.wrote huw (by omega)
  obtain ⟨X, hX, hxb, hxw⟩ : ∃ X, ((U.setCell ⟨w.heap.size + 1, 0, none⟩ (.int .i64 0)).setCell ⟨w.heap.size + 1, 1, none⟩ (.int .i64 0)).setCell ⟨w.heap.size + 1, 2, none⟩ (.int .i64 0) = X ∧ Box X (w.heap.size + 1) TFa #[.int .i64 0, .int .i64 0, .int .i64 0] ∧ Wrote U X (w.heap.size + 1) := ⟨_, rfl, ((hFU.put 0 _).put 1 _).put 2 _, (((Wrote.refl _ _).set _ _).set _ _).set _ _⟩
  have t0 := hFU.cell 0
  have t1 := hFU.cell 1
  have t2 := hFU.cell 2
  have t0' := hFU.free 0
  have t1' := hFU.free 1
  have t2' := hFU.free 2
  have lt0 := hFU.lt
  have HUB := Lib.hid (hub.wrote hxw (by omega))
  have HXB := Lib.hid hxb
  have HUW := Lib.hid huw
  have HXW := Lib.hid hxw
  have HXI := Lib.hid hx7
  have HK2 := Lib.hid hk2
  clear hx7 hk2 hA2 hF2 hub huw hFU hxb hxw
  go_wp2_with fail
  obtain ⟨v0, v1, v2, v3, v4, v5, v6, v7, v8⟩ := cells9 HUB.out
  have u0 := HXB.out.cell 0
  have u1 := HXB.out.cell 1
  have u2 := HXB.out.cell 2
  refine bodyPost_ret (v := .tuple #[.agg (exV kd7 nm7 n7 a17 n17 c17 a27 n27 c27 a37 n37 c37 a47 n47 c47 ln7 col7), .agg #[.int .i64 0, .int .i64 0, .int .i64 0]]) (by simp [results, Tryz.results20, go_sem, v0, v1, v2, v3, v4, v5, v6, v7, v8, u0, u1, u2]) rfl ?_
  have hz1 := HZ1.out
  have hkX : Kept (fun b => b = w.heap.size ∨ b = w.heap.size + 1) w2 X := kept_wrote (kept_wrote (Kept.refl _ w2) HUW.out fun _ => .inl rfl) HXW.out fun _ => .inr rfl
  have hkk : Kept (fun b => b = w.heap.size + 1 + 1 ∨ b = w.heap.size ∨ b = w.heap.size + 1) W1 X := (HK2.out.mono fun b _ e => .inl e).trans (hkX.mono fun b _ e => .inr e)
  exact ⟨kd7, nm7, n7, a17, n17, c17, a27, n27, c27, a37, n37, c37, a47, n47, c47, ln7, col7, rfl, ⟨HXI.out.ev.frame hkX.size (fun b hz hl => hkX.block b hl fun e => by rcases e with e | e <;> omega) fun b hz _ => by omega, HXI.out.at_⟩, Kept.below (kept_new (X := fun _ => False) (Kept.of_below HB1.out (Nat.le_refl _) _) hkk fun b e q => absurd q (by omega)) (Nat.le_refl _) fun b q => q.elim⟩
end Go.Proofs.YtdhfldpfbejcjaaGreat.Pa
/-
  DEEP BRACKETS, plainly: their tokens, how they are laid, read and made. No memory in sight.
-/
namespace Go.Proofs.YtdhfldpfbejcjaaGreat.Pa
open Go.RowKit Mm Tm Pm
set_option linter.unusedVariables false
set_option linter.unusedSimpArgs false
def byteL (n k : Nat) : UInt8 := if k < n then 40 else if k = n then 120 else 41
def tokL (n k : Nat) : Lx.Tok := ⟨if k = n then 1 else 5, [byteL n k], 0, 1, (k : Int) + 1⟩
def srcL (n : Nat) : List UInt8 := (List.range (2 * n + 1)).map (byteL n)
theorem srcL_len (n : Nat) : (srcL n).length = 2 * n + 1 := by unfold srcL; simp
theorem srcL_drop {n k : Nat} (h : k < 2 * n + 1) : (srcL n).drop k = byteL n k :: (srcL n).drop (k + 1) := by
  have hl : k < (srcL n).length := by rw [srcL_len]; exact h
  rw [List.drop_eq_getElem_cons hl]
  have e : (srcL n)[k] = byteL n k := by simp [srcL]
  rw [e]
theorem lex_one {f : Nat} {c : UInt8} {l : List UInt8} {ln col K kd : Int} {acc : List Lx.Tok} (h1 : ¬ c = 10) (h2 : ¬ c = 32) (h3 : ¬ c = 45) (hK : Lx.cls c.toNat = K) (k0 : ¬ K = 0) (k5 : ¬ K = 5) (k4 : ¬ K = 4) (hr : Lx.runR K l = 0) (hkd : Lx.kindOf [c] K = kd) (ha : ¬ acc.length = 2048) :
    Lx.lexG (f + 1) (c :: l) ln col acc = Lx.lexG f l ln (col + 1) (acc ++ [⟨kd, [c], 0, ln, col⟩]) := by
  have hrem : Lx.isRem (c :: l) = false := by
    have h3' : ¬ (45 : UInt8) = c := fun e => h3 e.symm
    simp [Lx.isRem, Lib.hasPrefix, List.isPrefixOf, h3']
  have hgap : Lx.gapLen (c :: l) = 0 := by
    unfold Lx.gapLen
    rw [hrem]
    exact Lx.gapR_stop l h1 h2
  have hc : Lx.hcls (c :: l) = K := hK
  have ht : Lx.fText (c :: l) = [c] := by
    unfold Lx.fText Lx.endLen
    rw [hc]
    show (c :: l).take (1 + Lx.runR K l) = [c]
    rw [hr]
    rfl
  have he : Lx.fErr (c :: l) = 0 := by
    unfold Lx.fErr
    rw [hc, ht]
    simp [k0, k5, k4]
  have hk : Lx.fKind (c :: l) = kd := by
    unfold Lx.fKind
    rw [hc, if_neg k4, ht]
    exact hkd
  have hn : Lx.fNum (c :: l) = 0 := by
    unfold Lx.fNum
    rw [hc, if_neg k4]
  rw [Lx.lexG, if_neg (by simp), if_neg (by rw [hgap]; omega), if_neg (by rw [he]; simp), if_neg ha, ht, hk, hn]
  rfl
theorem runR_six (l : List UInt8) : Lx.runR 6 l = 0 := by
  cases l with
  | nil => rfl
  | cons x r =>
    unfold Lx.runR
    rw [if_neg]
    simp [Lx.goes]
theorem lexG_step {n k f : Nat} (h : k < 2 * n + 1) (hn : n ≤ 1000) : Lx.lexG (f + 1) ((srcL n).drop k) 1 ((k : Int) + 1) ((List.range k).map (tokL n)) = Lx.lexG f ((srcL n).drop (k + 1)) 1 (((k + 1 : Nat) : Int) + 1) ((List.range (k + 1)).map (tokL n)) := by
  have ha : ¬ ((List.range k).map (tokL n)).length = 2048 := by simp; omega
  have hacc : (List.range (k + 1)).map (tokL n) = (List.range k).map (tokL n) ++ [tokL n k] := by rw [List.range_succ, List.map_append]; rfl
  rw [srcL_drop h, hacc, show (((k + 1 : Nat) : Int) + 1) = (k : Int) + 1 + 1 by omega]
  by_cases h1 : k < n
  · have hb : byteL n k = 40 := by unfold byteL; rw [if_pos h1]
    have htk : tokL n k = ⟨5, [40], 0, 1, (k : Int) + 1⟩ := by unfold tokL; rw [if_neg (by omega), hb]
    rw [hb, htk]
    exact lex_one (K := 6) (by decide) (by decide) (by decide) (by decide) (by decide) (by decide) (by decide) (runR_six _) (by decide) ha
  · by_cases h2 : k = n
    · subst h2
      have hb : byteL k k = 120 := by unfold byteL; rw [if_neg (by omega), if_pos rfl]
      have htk : tokL k k = ⟨1, [120], 0, 1, (k : Int) + 1⟩ := by unfold tokL; rw [if_pos rfl, hb]
      rw [hb, htk]
      refine lex_one (K := 2) (by decide) (by decide) (by decide) (by decide) (by decide) (by decide) (by decide) ?_ (by decide) ha
      by_cases h3 : k = 0
      · subst h3
        rfl
      · rw [srcL_drop (n := k) (k := k + 1) (by omega)]
        have hb2 : byteL k (k + 1) = 41 := by unfold byteL; rw [if_neg (by omega), if_neg (by omega)]
        rw [hb2]
        unfold Lx.runR
        rw [if_neg (by decide)]
    · have hb : byteL n k = 41 := by unfold byteL; rw [if_neg h1, if_neg h2]
      have htk : tokL n k = ⟨5, [41], 0, 1, (k : Int) + 1⟩ := by unfold tokL; rw [if_neg h2, hb]
      rw [hb, htk]
      exact lex_one (K := 6) (by decide) (by decide) (by decide) (by decide) (by decide) (by decide) (by decide) (runR_six _) (by decide) ha
theorem lexed_deep {n : Nat} (hn : n ≤ 1000) : Lx.lexed (srcL n) = ⟨(List.range (2 * n + 1)).map (tokL n), 0, 0, 0⟩ := by
  unfold Lx.lexed
  rw [if_neg (by rw [srcL_len]; omega), srcL_len]
  have key : ∀ j k f, k + j = 2 * n + 1 → Lx.lexG (f + j) ((srcL n).drop k) 1 ((k : Int) + 1) ((List.range k).map (tokL n)) = Lx.lexG f ((srcL n).drop (2 * n + 1)) 1 (((2 * n + 1 : Nat) : Int) + 1) ((List.range (2 * n + 1)).map (tokL n)) := by
    intro j
    induction j with
    | zero =>
      intro k f h
      obtain rfl : k = 2 * n + 1 := by omega
      rfl
    | succ j ih =>
      intro k f h
      rw [show f + (j + 1) = (f + j) + 1 by omega, lexG_step (by omega) hn]
      exact ih (k + 1) f (by omega)
  have h0 := key (2 * n + 1) 0 1 (by omega)
  rw [show 2 * n + 1 + 1 = 1 + (2 * n + 1) by omega]
  have h1 : Lx.lexG (1 + (2 * n + 1)) (srcL n) 1 1 [] = _ := h0
  rw [h1, List.drop_of_length_le (by rw [srcL_len]; exact Nat.le_refl _)]
  unfold Lx.lexG
  rw [if_pos rfl]
/-- the tokens, as layout takes them -/
def rowL (n : Nat) : List Ly.TokM := ((List.range (2 * n + 1)).map (tokL n)).map toM
theorem rowL_len (n : Nat) : (rowL n).length = 2 * n + 1 := by unfold rowL; simp
theorem rowL_tk {n k : Nat} (h : k < 2 * n + 1) : Ly.tk (rowL n) k = toM (tokL n k) := by
  unfold Ly.tk rowL
  rw [List.getD_eq_getElem?_getD, List.getElem?_map, List.getElem?_map, List.getElem?_range h]
  rfl
/-- how many brackets are open -/
def dep (n k : Nat) : Nat := if k ≤ n then k else 2 * n + 1 - k
def frL (n k : Nat) : List Ly.Fr := ⟨1, 1⟩ :: List.replicate (dep n k) ⟨6, 0⟩
theorem frL_top {j : Nat} (hj : 0 < j) : Ly.findF (⟨1, 1⟩ :: List.replicate j ⟨6, 0⟩) 6 (j + 1) = (j : Int) := by
  unfold Ly.findF
  rw [if_pos]
  unfold Ly.frK
  rw [List.getD_eq_getElem?_getD, List.getElem?_map, List.getElem?_cons, if_neg (by omega), List.getElem?_replicate, if_pos (by omega)]
  rfl
theorem layF_deep {n : Nat} : ∀ k, k < 2 * n + 1 → Ly.layF (rowL n) (k + 1) = ⟨Ly.mkM [123] 1 1 :: (rowL n).take (k + 1), frL n (if k < n then k + 1 else if k = n then n else k + 1), false⟩ := by
  have step : ∀ k F, k < 2 * n + 1 → (k ≤ n → True) → ∀ T j, F = (⟨1, 1⟩ :: List.replicate j ⟨6, 0⟩ : List Ly.Fr) → (¬ k ≤ n → 0 < j) → Ly.layS (toM (tokL n k)) false ⟨T, F, false⟩ = ⟨T ++ [toM (tokL n k)], ⟨1, 1⟩ :: List.replicate (if k < n then j + 1 else if k = n then j else j - 1) ⟨6, 0⟩, false⟩ := by
    intro k F hk _ T j hF hj
    subst hF
    unfold Ly.layS
    rw [if_neg (by simp)]
    have e1 : Ly.ph1 false false (toM (tokL n k)) T (⟨1, 1⟩ :: List.replicate j ⟨6, 0⟩) = ⟨T, ⟨1, 1⟩ :: List.replicate j ⟨6, 0⟩, false⟩ := by unfold Ly.ph1; rw [if_neg (by simp)]
    rw [e1]
    have e2 : Ly.ph2 (toM (tokL n k)) ⟨T, ⟨1, 1⟩ :: List.replicate j ⟨6, 0⟩, false⟩ = (T, ⟨1, 1⟩ :: List.replicate j ⟨6, 0⟩) := by unfold Ly.ph2; rw [if_neg (by simp)]
    rw [e2]
    by_cases h1 : k < n
    · have htk : tokL n k = ⟨5, [40], 0, 1, (k : Int) + 1⟩ := by unfold tokL byteL; rw [if_neg (by omega), if_pos h1]
      rw [htk, if_pos h1]
      have e3 : Ly.ph3 (toM ⟨5, [40], 0, 1, (k : Int) + 1⟩) (T, ⟨1, 1⟩ :: List.replicate j ⟨6, 0⟩) = (T, ⟨1, 1⟩ :: List.replicate j ⟨6, 0⟩) := by unfold Ly.ph3; rw [if_pos (by rfl)]
      rw [e3]
      unfold Ly.ph4
      rw [if_neg (by show ¬ (6 : Int) = 0; decide)]
      show (⟨T ++ [toM ⟨5, [40], 0, 1, (k : Int) + 1⟩], ⟨1, 1⟩ :: (List.replicate j ⟨6, 0⟩ ++ [⟨6, 0⟩]), false⟩ : Ly.St) = _
      rw [← List.replicate_succ']
    · by_cases h2 : k = n
      · have htk : tokL n k = ⟨1, [120], 0, 1, (k : Int) + 1⟩ := by unfold tokL byteL; rw [if_pos h2, if_neg h1, if_pos h2]
        rw [htk, if_neg h1, if_pos h2]
        have e3 : Ly.ph3 (toM ⟨1, [120], 0, 1, (k : Int) + 1⟩) (T, ⟨1, 1⟩ :: List.replicate j ⟨6, 0⟩) = (T, ⟨1, 1⟩ :: List.replicate j ⟨6, 0⟩) := by unfold Ly.ph3; rw [if_pos (by rfl)]
        rw [e3]
        unfold Ly.ph4
        rw [if_pos (by rfl)]
        rfl
      · have htk : tokL n k = ⟨5, [41], 0, 1, (k : Int) + 1⟩ := by unfold tokL byteL; rw [if_neg h2, if_neg h1, if_neg h2]
        rw [htk, if_neg h1, if_neg h2]
        have hj0 := hj (by omega)
        have e3 : Ly.ph3 (toM ⟨5, [41], 0, 1, (k : Int) + 1⟩) (T, ⟨1, 1⟩ :: List.replicate j ⟨6, 0⟩) = (T, ⟨1, 1⟩ :: List.replicate (j - 1) ⟨6, 0⟩) := by
          unfold Ly.ph3
          have hcl : Ly.closedK (toM ⟨5, [41], 0, 1, (k : Int) + 1⟩).kind (toM ⟨5, [41], 0, 1, (k : Int) + 1⟩).text.data.toList = 6 := rfl
          rw [hcl, if_neg (by decide)]
          have hlen : (⟨1, 1⟩ :: List.replicate j ⟨6, 0⟩ : List Ly.Fr).length = j + 1 := by simp
          dsimp only
          rw [hlen, frL_top hj0]
          have ht : ((j : Int)).toNat = j := by omega
          rw [ht]
          obtain ⟨i, rfl⟩ : ∃ i, j = i + 1 := ⟨j - 1, by omega⟩
          have hd : (⟨1, 1⟩ :: List.replicate (i + 1) ⟨6, 0⟩ : List Ly.Fr).drop (i + 1) = [⟨6, 0⟩] := by
            rw [List.drop_succ_cons, List.drop_replicate, show i + 1 - i = 1 by omega]
            rfl
          have htk2 : (⟨1, 1⟩ :: List.replicate (i + 1) ⟨6, 0⟩ : List Ly.Fr).take (i + 1) = ⟨1, 1⟩ :: List.replicate i ⟨6, 0⟩ := by
            rw [List.take_succ_cons, List.take_replicate, Nat.min_eq_left (by omega)]
          unfold Ly.closedT
          rw [hd, htk2]
          show (T ++ [], _) = _
          rw [List.append_nil]
          rfl
        rw [e3]
        unfold Ly.ph4
        rw [if_pos (by rfl)]
        rfl
  have htake : ∀ k, k < 2 * n + 1 → (rowL n).take (k + 1) = (rowL n).take k ++ [toM (tokL n k)] := fun k hk => by
    have hl : k < (rowL n).length := by rw [rowL_len]; exact hk
    rw [List.take_succ_eq_append_getElem hl]
    congr 1
    have := rowL_tk hk
    unfold Ly.tk at this
    rw [List.getD_eq_getElem?_getD, List.getElem?_eq_getElem hl] at this
    rw [← this]
    rfl
  intro k
  induction k with
  | zero =>
    intro hk
    have e : Ly.layF (rowL n) 1 = Ly.layS (toM (tokL n 0)) true ⟨[], [], true⟩ := by
      show Ly.layS (Ly.tk (rowL n) 0) true ⟨[], [], true⟩ = _
      rw [rowL_tk hk]
    rw [e, htake 0 hk, List.take_zero, List.nil_append]
    by_cases h1 : 0 < n
    · have htk : tokL n 0 = ⟨5, [40], 0, 1, 1⟩ := by unfold tokL byteL; rw [if_neg (by omega), if_pos h1]; rfl
      rw [htk, if_pos h1]
      unfold frL dep
      rw [if_pos (by omega)]
      rfl
    · have hn : n = 0 := by omega
      subst hn
      rfl
  | succ k ih =>
    intro hk
    have e : Ly.layF (rowL n) (k + 1 + 1) = Ly.layS (toM (tokL n (k + 1))) false (Ly.layF (rowL n) (k + 1)) := by
      show Ly.layS (Ly.tk (rowL n) (k + 1)) (Ly.fstAt (rowL n) (k + 1)) _ = _
      rw [rowL_tk hk]
      have hf : Ly.fstAt (rowL n) (k + 1) = false := by
        show decide (¬ (Ly.tk (rowL n) k).line = (Ly.tk (rowL n) (k + 1)).line) = false
        rw [rowL_tk hk, rowL_tk (by omega)]
        simp [toM, tokL]
      rw [hf]
    rw [e, ih (by omega), htake (k + 1) hk]
    unfold frL
    have hs := step (k + 1) _ hk (fun _ => trivial) (Ly.mkM [123] 1 1 :: (rowL n).take (k + 1)) (dep n (if k < n then k + 1 else if k = n then n else k + 1)) rfl (fun hkn => by unfold dep; (repeat' split) <;> omega)
    rw [hs]
    have hd : (if k + 1 < n then dep n (if k < n then k + 1 else if k = n then n else k + 1) + 1 else if k + 1 = n then dep n (if k < n then k + 1 else if k = n then n else k + 1) else dep n (if k < n then k + 1 else if k = n then n else k + 1) - 1) = dep n (if k + 1 < n then k + 1 + 1 else if k + 1 = n then n else k + 1 + 1) := by
      unfold dep
      (repeat' split) <;> omega
    rw [hd]
    rfl
theorem laid_deep (n : Nat) : Ly.layAll (rowL n) = Ly.mkM [123] 1 1 :: rowL n ++ [Ly.endM 1 ((2 * n : Nat) + 1 : Int)] := by
  have h := layF_deep (n := n) (2 * n) (by omega)
  have hl := rowL_len n
  unfold Ly.layAll
  rw [hl, h, List.take_of_length_le (by rw [hl]; exact Nat.le_refl _)]
  have e1 : Ly.lnAt (rowL n) (2 * n + 1) = 1 := by
    show (Ly.tk (rowL n) (2 * n)).line = 1
    rw [rowL_tk (by omega)]
    rfl
  have e2 : Ly.colAt (rowL n) (2 * n + 1) = ((2 * n : Nat) : Int) + 1 := by
    show (Ly.tk (rowL n) (2 * n)).col = _
    rw [rowL_tk (by omega)]
    rfl
  rw [e1, e2]
  have hd : dep n (if 2 * n < n then 2 * n + 1 else if 2 * n = n then n else 2 * n + 1) = 0 := by
    unfold dep
    (repeat' split) <;> omega
  unfold Ly.endT frL
  rw [hd, if_neg (by simp)]
  rfl
end Go.Proofs.YtdhfldpfbejcjaaGreat.Pa
/-
  DEEP BRACKETS, plainly: how they are read and what they come to. No memory in sight.
-/
namespace Go.Proofs.YtdhfldpfbejcjaaGreat.Pa
open Go.RowKit Mm Tm Pm
set_option linter.unusedVariables false
set_option linter.unusedSimpArgs false
def tO (i : Nat) : Tk := ⟨5, [40], 0, 1, (i : Int) + 1, false⟩
def tX (i : Nat) : Tk := ⟨1, [120], 0, 1, (i : Int) + 1, false⟩
def tC (i : Nat) : Tk := ⟨5, [41], 0, 1, (i : Int) + 1, false⟩
def tE (n : Nat) : Tk := ⟨5, [125], 0, 1, ((2 * n : Nat) : Int) + 1, true⟩
def tB : Tk := ⟨5, [123], 0, 1, 1, true⟩
def tkL (n k : Nat) : Tk := if k < n then tO k else if k = n then tX k else tC k
theorem tkL_is (n k : Nat) : ofM (toM (tokL n k)) = tkL n k := by
  unfold tkL tokL byteL
  by_cases h1 : k < n
  · rw [if_pos h1, if_pos h1, if_neg (by omega)]; rfl
  · by_cases h2 : k = n
    · rw [if_neg h1, if_neg h1, if_pos h2, if_pos h2, if_pos h2]; rfl
    · rw [if_neg h1, if_neg h1, if_neg h2, if_neg h2, if_neg h2]; rfl
def restL (n : Nat) : List Tk := (List.range (2 * n + 1)).map (tkL n) ++ [tE n]
theorem restL_len (n : Nat) : (restL n).length = 2 * n + 2 := by unfold restL; simp
theorem laidTk_deep {n : Nat} (hn : n ≤ 1000) : laidTk (srcL n) = tB :: restL n := by
  unfold laidTk
  rw [lexed_deep hn]
  have h := laid_deep n
  unfold rowL at h
  rw [h]
  unfold restL
  rw [List.cons_append, List.map_cons, List.map_append, List.map_map, List.map_map]
  have e : (ofM ∘ toM) ∘ tokL n = tkL n := funext fun k => tkL_is n k
  rw [e]
  rfl
theorem rest_at {n i : Nat} (h : i < 2 * n + 1) : (restL n).drop i = tkL n i :: (restL n).drop (i + 1) := by
  have hl : i < (restL n).length := by rw [restL_len]; omega
  rw [List.drop_eq_getElem_cons hl]
  have e : (restL n)[i]? = some (tkL n i) := by
    unfold restL
    rw [List.getElem?_append_left (by simp; exact h), List.getElem?_map, List.getElem?_range h]
    rfl
  rw [List.getElem?_eq_getElem hl] at e
  rw [Option.some.inj e]
theorem rest_end (n : Nat) : (restL n).drop (2 * n + 1) = [tE n] := by
  unfold restL
  rw [List.drop_append_of_le_length (by simp), List.drop_of_length_le (by simp)]
  rfl
def st (n i : Nat) (a : Int × Int) : Pp := ⟨(restL n).drop i, a, [], 0, (0, 0)⟩
theorem st_next {n i : Nat} (a : Int × Int) (h : i < 2 * n + 1) : (st n i a).next = tkL n i := by unfold st Pp.next; dsimp only; rw [rest_at h]; rfl
theorem st_take {n i : Nat} (a : Int × Int) (h : i < 2 * n + 1) : (st n i a).take = (tkL n i, st n (i + 1) (1, (i : Int) + 1)) := by
  unfold st Pp.take
  dsimp only
  rw [rest_at h]
  dsimp only
  have e : ((tkL n i).ln, (tkL n i).col) = (1, (i : Int) + 1) := by
    unfold tkL
    split
    · rfl
    · split <;> rfl
  rw [e]
theorem st_end (n : Nat) (a : Int × Int) : (st n (2 * n + 1) a).next = tE n := by unfold st Pp.next; dsimp only; rw [rest_end]; rfl
theorem tkO {n i : Nat} (h : i < n) : tkL n i = tO i := by unfold tkL; rw [if_pos h]
theorem tkX (n : Nat) : tkL n n = tX n := by unfold tkL; rw [if_neg (by omega), if_pos rfl]
theorem tkC {n i : Nat} (h : n < i) : tkL n i = tC i := by unfold tkL; rw [if_neg (by omega), if_neg (by omega)]
theorem mO1 (i : Nat) : isMark (tO i) "\\" = false := by kernel_rfl
theorem mX1 (i : Nat) : isMark (tX i) "\\" = false := by kernel_rfl
theorem wO (i : Nat) (s : String) : isWord (tO i) s = false := rfl
theorem wX (i : Nat) (s : String) : isWord (tX i) s = false := rfl
theorem mO2 (i : Nat) : isMark (tO i) "(" = true := by kernel_rfl
theorem mC2 (i : Nat) : isMark (tC i) ")" = true := by kernel_rfl
theorem mC3 (i : Nat) : isMark (tC i) "(" = false := by kernel_rfl
theorem mE3 (i : Nat) : isMark (tE i) "(" = false := by kernel_rfl
theorem mE4 (i : Nat) : isMark (tE i) "}" = true := by kernel_rfl
theorem bC (i : Nat) : beginsAexp (tC i) = false := by
  unfold beginsAexp
  rw [mC3]
  rfl
theorem bE (i : Nat) : beginsAexp (tE i) = false := by
  unfold beginsAexp
  rw [mE3]
  rfl
/-- behind an expression -/
theorem behind {n j : Nat} (h : j ≤ n) (a : Int × Int) : beginsAexp (st n (n + 1 + j) a).next = false ∧ ¬ (st n (n + 1 + j) a).next.kind = 3 := by
  by_cases hj : j = n
  · subst hj
    rw [show j + 1 + j = 2 * j + 1 by omega, st_end]
    exact ⟨bE _, by show ¬ (5 : Int) = 3; decide⟩
  · rw [st_next a (by omega), tkC (by omega)]
    exact ⟨bC _, by show ¬ (5 : Int) = 3; decide⟩
def ltL (n : Nat) : Nat → Lt
  | 0 => .row [.app [.leaf 1 [120] 0 1 ((n : Int) + 1)]] []
  | j + 1 => .row [.app [ltL n j]] []
theorem more_end {d : Nat} {p : Pp} (h : ¬ p.next.kind = 3) : more (d + 1) p = some ([], [], p) := by rw [more, if_neg h]; rfl
theorem aexps_end {d : Nat} {p : Pp} (h : beginsAexp p.next = false) : aexps (d + 1) p = some ([], p) := by rw [aexps, if_neg (by rw [h]; simp)]; rfl
theorem operand_aexp {d : Nat} {p p1 : Pp} {a : Lt} (h1 : isMark p.next "\\" = false) (h2 : ∀ s, isWord p.next s = false) (h3 : aexp (d + 1) p = some (a, p1)) (h4 : beginsAexp p1.next = false) : operand (d + 2) p = some (.app [a], p1) := by
  rw [operand]
  dsimp only
  rw [if_neg (by rw [h1]; simp), if_neg (by rw [h2]; simp), if_neg (by rw [h2]; simp), if_neg (by rw [h2]; simp), h3]
  show (aexps (d + 1) p1).bind _ = _
  rw [aexps_end h4]
  rfl
theorem expr_deep {n : Nat} : ∀ j, j ≤ n → ∀ d a, Pa.expr (d + 3 * j + 3) (st n (n - j) a) = some (ltL n j, st n (n + 1 + j) (1, ((n + j : Nat) : Int) + 1)) := by
  intro j
  induction j with
  | zero =>
    intro _ d a
    have hb := behind (n := n) (j := 0) (Nat.zero_le _) (1, (n : Int) + 1)
    have hnx : (st n n a).next = tX n := by rw [st_next a (by omega), tkX]
    have ha : aexp (d + 1) (st n n a) = some (.leaf 1 [120] 0 1 ((n : Int) + 1), st n (n + 1) (1, (n : Int) + 1)) := by
      rw [aexp]
      dsimp only
      rw [hnx, if_pos (by rfl), st_take a (by omega), tkX]
      rfl
    have ho : operand (d + 2) (st n n a) = some (.app [.leaf 1 [120] 0 1 ((n : Int) + 1)], st n (n + 1) (1, (n : Int) + 1)) :=
      operand_aexp (by rw [hnx]; exact mX1 n) (fun s => by rw [hnx]; exact wX n s) ha hb.1
    show Pa.expr (d + 2 + 1) (st n n a) = _
    rw [Pa.expr, ho]
    show (more (d + 2) _).bind _ = _
    rw [more_end hb.2]
    rfl
  | succ j ih =>
    intro hj d a
    have hi : n - (j + 1) < n := by omega
    have hnx : (st n (n - (j + 1)) a).next = tO (n - (j + 1)) := by rw [st_next a (by omega), tkO hi]
    have htk : (st n (n - (j + 1)) a).take.2 = st n (n - j) (1, ((n - (j + 1) : Nat) : Int) + 1) := by rw [st_take a (by omega), show n - (j + 1) + 1 = n - j by omega]
    have hin := ih (by omega) d (1, ((n - (j + 1) : Nat) : Int) + 1)
    have hnx2 : ¬ (st n (n - j) (1, ((n - (j + 1) : Nat) : Int) + 1)).next.kind = 3 := by
      rw [st_next _ (by omega)]
      by_cases h0 : j = 0
      · subst h0
        rw [Nat.sub_zero, tkX]
        show ¬ (1 : Int) = 3
        decide
      · rw [tkO (by omega)]
        show ¬ (5 : Int) = 3
        decide
    have hcl : ((st n (n + 1 + j) (1, ((n + j : Nat) : Int) + 1)).mark ")").2 = st n (n + 1 + (j + 1)) (1, ((n + (j + 1) : Nat) : Int) + 1) := by
      have hnx3 : (st n (n + 1 + j) (1, ((n + j : Nat) : Int) + 1)).next = tC (n + 1 + j) := by rw [st_next _ (by omega), tkC (by omega)]
      unfold Pp.mark
      dsimp only
      rw [hnx3, mC2, if_pos rfl, st_take _ (by omega)]
      dsimp only
      rw [show n + 1 + j + 1 = n + 1 + (j + 1) by omega, show ((n + 1 + j : Nat) : Int) = ((n + (j + 1) : Nat) : Int) by omega]
    have hb := behind (n := n) (j := j + 1) hj (1, ((n + (j + 1) : Nat) : Int) + 1)
    have ha : aexp (d + 3 * j + 3 + 1) (st n (n - (j + 1)) a) = some (ltL n j, st n (n + 1 + (j + 1)) (1, ((n + (j + 1) : Nat) : Int) + 1)) := by
      rw [aexp]
      dsimp only
      have hm : (st n (n - (j + 1)) a).mark "(" = (true, st n (n - j) (1, ((n - (j + 1) : Nat) : Int) + 1)) := by
        unfold Pp.mark
        rw [hnx, mO2, if_pos rfl, htk]
      have k1 : ¬ (tO (n - (j + 1))).kind = 1 := by show ¬ (5 : Int) = 1; decide
      have k2 : ¬ (tO (n - (j + 1))).kind = 2 := by show ¬ (5 : Int) = 2; decide
      have k4 : ¬ (tO (n - (j + 1))).kind = 4 := by show ¬ (5 : Int) = 4; decide
      rw [hnx, if_neg k1, if_neg k2, if_neg k4, hm]
      dsimp only
      rw [if_pos rfl, if_neg hnx2, hin]
      show some (ltL n j, ((st n (n + 1 + j) (1, ((n + j : Nat) : Int) + 1)).mark ")").2) = _
      rw [hcl]
    have ho : operand (d + 3 * j + 3 + 2) (st n (n - (j + 1)) a) = some (.app [ltL n j], st n (n + 1 + (j + 1)) (1, ((n + (j + 1) : Nat) : Int) + 1)) :=
      operand_aexp (by rw [hnx]; exact mO1 _) (fun s => by rw [hnx]; exact wO _ s) ha hb.1
    rw [show d + 3 * (j + 1) + 3 = d + 3 * j + 3 + 2 + 1 by omega, Pa.expr, ho]
    show (more (d + 3 * j + 3 + 2) _).bind _ = _
    rw [more_end hb.2]
    rfl
def xL (n : Nat) : Ex := .mk 1 [120] 0 [] [] [] [] 1 ((n : Int) + 1)
theorem row_one {fixes : List Fx} {d : Nat} {f f' : Ft} {t : Lt} {e : Ex} (hf : f.1 = 0) (h : grow (findD fixes) resolveD d f t = some (e, f')) (hd : 0 < d) : grow (findD fixes) resolveD (d + 2) f (.row [t] []) = some (e, f') := by
  rw [grow, if_neg (by simp [hf])]
  have hr : resolveD (([] : List Tk).map fun o => findD fixes o.text) = ([], 0, 0) := by kernel_rfl
  dsimp only
  rw [hr, if_neg (by simp), grows, h]
  obtain ⟨d', rfl⟩ : ∃ d', d = d' + 1 := ⟨d - 1, by omega⟩
  rfl
theorem app_one {fixes : List Fx} {d : Nat} {f f' : Ft} {t : Lt} {e : Ex} (h : grow (findD fixes) resolveD d f t = some (e, f')) (hd : 0 < d) : grow (findD fixes) resolveD (d + 1) f (.app [t]) = some (e, f') := by
  rw [grow]
  dsimp only
  rw [h]
  obtain ⟨d', rfl⟩ : ∃ d', d = d' + 1 := ⟨d - 1, by omega⟩
  rfl
theorem grow_deep {fixes : List Fx} {n : Nat} {f : Ft} (hf : f.1 = 0) : ∀ j, grow (findD fixes) resolveD (3 * j + 4) f (ltL n j) = some (xL n, f) := by
  intro j
  induction j with
  | zero => exact row_one (d := 2) hf (app_one (d := 1) rfl (by omega)) (by omega)
  | succ j ih => exact row_one (d := 3 * j + 5) hf (app_one (d := 3 * j + 4) ih (by omega)) (by omega)
end Go.Proofs.YtdhfldpfbejcjaaGreat.Pa
