/-
  CONTRACTS of layer parse: a source whose tops are clauses, with a fault in it; Program's own calls.
-/
import Derived.Test.YtdajihpfedbihaaGreatGU

namespace Go.Proofs.YtdajihpfedbihaaGreat.Pa
open Go.RowKit Mm Tm Pm
set_option linter.unusedVariables false
set_option linter.unusedSimpArgs false
def ProgBad (pb : Nat) (x l c : Int) (w : World) (e : Ending) (w' : World) : Prop :=
  e = .returned (.tuple #[.agg #[.slice none 0 0, .slice none 0 0, .slice none 0 0], .agg #[.int .i64 x, .int .i64 l, .int .i64 c]]) ∧ Kept (fun b => b = pb) w w'
set_option maxRecDepth 100000 in
set_option maxHeartbeats 8000000 in
theorem wholeP_bad {pb d : Nat} {s : ByteArray} {TK : List Tk} {L : List Cl} {p2 p3 : Pp} (w : World) (hpar : Box w pb TPar (parV none 0 0 (.slice none 0 0) 0 0 0 0 0)) (hs : SrcOk s TK) (hrd : cTops d true ((pp0 TK).mark "{").2 = some (L, p2)) (hp3 : (p2.mark "}").2 = p3) (hend : p3.rest = []) (herr : p3.err ≠ 0) :
    Calls Tryz.prog 41 #[ptr pb, .string s, .func (.func 42) #[ptr pb] #[]] w (ProgBad pb p3.err p3.at_.1 p3.at_.2 w) := by
  have hpl := hpar.lt
  obtain ⟨W1, hW1⟩ : ∃ W1, ((w.alloc (.cells #[.slice none 0 0, .slice none 0 0, .slice none 0 0] TPg)).alloc (.cells #[.int .i64 0, .int .i64 0, .int .i64 0] TFa)).alloc (.cells #[.slice none 0 0, .slice none 0 0, .slice none 0 0] TPg) = W1 := ⟨_, rfl⟩
  have hb1 : Below w.heap.size w W1 := by rw [← hW1]; exact (((Below.refl _ _).alloc (Nat.le_refl _) _).alloc (by simp) _).alloc (by simp; omega) _
  have hz1 : W1.heap.size = w.heap.size + 1 + 1 + 1 := by rw [← hW1]; simp
  have hA1 : Box W1 w.heap.size TPg #[.slice none 0 0, .slice none 0 0, .slice none 0 0] := by rw [← hW1]; exact ((Box.new w _ _).alloc _).alloc _
  have hO1 : Box W1 (w.heap.size + 1 + 1) TPg #[.slice none 0 0, .slice none 0 0, .slice none 0 0] := by rw [← hW1]; exact Box.at_ _ _ (by simp)
  have hF1 : Box W1 (w.heap.size + 1) TFa #[.int .i64 0, .int .i64 0, .int .i64 0] := by rw [← hW1]; exact (Box.at_ _ _ (by simp)).alloc _
  have HT := Lib.hid (toks_any hs W1)
  have HP1 := Lib.hid (hpar.below hb1 hpl)
  have HA1 := Lib.hid hA1
  have HF1 := Lib.hid hF1
  have HO1 := Lib.hid hO1
  have HB1 := Lib.hid hb1
  have HZ1 := Lib.hid hz1
  have HRD := Lib.hid hrd
  have HE := Lib.hid hend
  have HER := Lib.hid herr
  have HP3 := Lib.hid hp3
  have HTL := Lib.hid hs.len
  have HPL := Lib.hid hpl
  have HEN := Lib.hid (enters_of (P := Tryz.prog) Tryz.func42 (by kernel_rfl) rfl)
  clear hpar hs hrd hp3 hend herr hb1 hz1 hA1 hF1 hO1 hpl
  go_enter Tryz.func41, Tryz.ntmps41
  go_wp2_with fail
  refine HT.out.mono ?_
  rintro e w2 ⟨a, n, c, x, y, rfl, hb2, hlay⟩
  obtain ⟨W3, hW3⟩ : ∃ W3, w2.alloc (.cells #[.int .i64 0, .int .i64 x, .int .i64 y] TFa) = W3 := ⟨_, rfl⟩
  have hb3 : Below w2.heap.size w2 W3 := by rw [← hW3]; exact (Below.refl _ _).alloc (Nat.le_refl _) _
  have hx3 : Box W3 w2.heap.size TFa #[.int .i64 0, .int .i64 x, .int .i64 y] := by rw [← hW3]; exact Box.new w2 _ _
  have n0 := hx3.cell 0
  have ln := hx3.lt
  have HLAY := Lib.hid (hlay W3 hb3)
  have HB3 := Lib.hid (show Below W1.heap.size W1 W3 from hb2.trans (hb3.mono hb2.size))
  clear hb2 hlay hb3 hx3
  go_wp2_with fail
  refine HLAY.out.mono ?_
  rintro e w4 ⟨a2, c2, rfl, hc2, hr4, hb4⟩
  have hb14 : Below W1.heap.size W1 w4 := HB3.out.trans (hb4.mono HB3.out.size)
  have hp4 := HP1.out.below hb14 HP1.out.lt
  obtain ⟨V, hV, hvb, hvw⟩ : ∃ V, w4.setCell ⟨pb, 0, none⟩ (.slice a2 TK.length c2) = V ∧ Box V pb TPar (parV a2 TK.length c2 (.slice none 0 0) 0 0 0 0 0) ∧ Wrote w4 V pb := ⟨_, rfl, hp4.put 0 _, (Wrote.refl _ _).set _ _⟩
  have hw3 : w.heap.size + 3 ≤ W3.heap.size := by have := HB3.out.size; have := HZ1.out; omega
  have hps : PS w4.heap.size V pb (pp0 TK) (.slice none 0 0) := ⟨⟨a2, c2, hvb, hc2, hr4.frame (fun b o hz => World.cell?_of_block (hvw.block b (by have := HPL.out; omega))) fun b hz => ⟨hz.2, by have := HPL.out; omega⟩⟩, by have := hp4.lt; exact this, by rw [hvw.size]; exact Nat.le_refl _, HTL.out⟩
  have HPR := Lib.hid (program_any V hps HRD.out)
  rw [HP3.out] at HPR
  have y0 := hp4.cell 0
  have y0' := hp4.free 0
  have ly := hp4.lt
  have HVW := Lib.hid hvw
  have HB14 := Lib.hid hb14
  have egp : ∀ args w, (callFunc 42 args).run Tryz.prog w = .ok (.enter 42 args) w := HEN.out
  have HWS := Lib.hid hw3
  have HS34 := Lib.hid hb4.size
  clear hc2 hr4 hb4 hb14 hp4 hvb hvw hps n0 ln hw3
  go_wp2_with fail
  refine HPR.out.mono ?_
  rintro e w6 ⟨bp, br, bs, sv, C, rfl, hpr, hp6, hk6⟩
  have hp6' := hp6
  obtain ⟨⟨ra, rc, g1, g2, g3⟩, g4, g5, g6⟩ := hp6'
  rw [HE.out] at g1
  have k0 := g1.cell 0
  have k4 := g1.cell 4
  have k5 := g1.cell 5
  have k6 := g1.cell 6
  have lk := g1.lt
  have qe : (p3.err != 0) = true := by simpa using HER.out
  have HK6 := Lib.hid hk6
  have hws := HWS.out
  have hVs := HVW.out.size
  have hpl := HPL.out
  have hs34 := HS34.out
  have hA6 := hk6.box ((HA1.out.below HB14.out HA1.out.lt).wrote HVW.out (by omega)) (by omega)
  have hF6 := hk6.box ((HF1.out.below HB14.out HF1.out.lt).wrote HVW.out (by omega)) (by omega)
  have hO6 := hk6.box ((HO1.out.below HB14.out HO1.out.lt).wrote HVW.out (by omega)) (by omega)
  obtain ⟨U, hU, hub, huw⟩ : ∃ U, ((w6.setCell ⟨w.heap.size, 0, none⟩ (.slice none 0 0)).setCell ⟨w.heap.size, 1, none⟩ (.slice none 0 0)).setCell ⟨w.heap.size, 2, none⟩ (.slice none 0 0) = U ∧ Box U w.heap.size TPg #[.slice none 0 0, .slice none 0 0, .slice none 0 0] ∧ Wrote w6 U w.heap.size := ⟨_, rfl, ((hA6.put 0 _).put 1 _).put 2 _, (((Wrote.refl _ _).set _ _).set _ _).set _ _⟩
  have hFU := hF6.wrote huw (by omega)
  obtain ⟨X, hX, hxb, hxw⟩ : ∃ X, ((U.setCell ⟨w.heap.size + 1, 0, none⟩ (.int .i64 p3.err)).setCell ⟨w.heap.size + 1, 1, none⟩ (.int .i64 p3.at_.1)).setCell ⟨w.heap.size + 1, 2, none⟩ (.int .i64 p3.at_.2) = X ∧ Box X (w.heap.size + 1) TFa #[.int .i64 p3.err, .int .i64 p3.at_.1, .int .i64 p3.at_.2] ∧ Wrote U X (w.heap.size + 1) := ⟨_, rfl, ((hFU.put 0 _).put 1 _).put 2 _, (((Wrote.refl _ _).set _ _).set _ _).set _ _⟩
  have b0 := hO6.cell 0
  have b1 := hO6.cell 1
  have b2 := hO6.cell 2
  have lb := hO6.lt
  have r0 := hA6.cell 0
  have r1 := hA6.cell 1
  have r2 := hA6.cell 2
  have r0' := hA6.free 0
  have r1' := hA6.free 1
  have r2' := hA6.free 2
  have lr := hA6.lt
  have t0 := hFU.cell 0
  have t1 := hFU.cell 1
  have t2 := hFU.cell 2
  have t0' := hFU.free 0
  have t1' := hFU.free 1
  have t2' := hFU.free 2
  have lt0 := hFU.lt
  have HUB := Lib.hid (hub.wrote hxw (by omega))
  have HXB := Lib.hid hxb
  have HUW := Lib.hid huw
  have HXW := Lib.hid hxw
  have gU := g1.wrote huw (by omega)
  have w4' := gU.cell 4
  have w5' := gU.cell 5
  have w6' := gU.cell 6
  have lw := gU.lt
  clear hpr hp6 hk6 g1 g2 g3 g4 g5 g6 hA6 hF6 hO6 hub huw hFU hxb hxw hws hVs hpl hs34 gU
  go_wp2_with fail
  go_region
  all_goals
    go_wp2_with fail
    have v0 := HUB.out.drew.cell 0
    have v1 := HUB.out.drew.cell 1
    have v2 := HUB.out.drew.cell 2
    have u0 := HXB.out.drew.cell 0
    have u1 := HXB.out.drew.cell 1
    have u2 := HXB.out.drew.cell 2
    refine bodyPost_ret (v := .tuple #[.agg #[.slice none 0 0, .slice none 0 0, .slice none 0 0], .agg #[.int .i64 p3.err, .int .i64 p3.at_.1, .int .i64 p3.at_.2]]) (by simp [results, Tryz.results41, go_sem, v0, v1, v2, u0, u1, u2]) rfl ?_
    have hws := HWS.out
    have hVs := HVW.out.size
    have hpl := HPL.out
    have hs34 := HS34.out
    have hkX : Kept (fun b => b = w.heap.size ∨ b = w.heap.size + 1) w6 X := kept_wrote (kept_wrote (Kept.refl _ w6) HUW.out fun _ => .inl rfl) HXW.out fun _ => .inr rfl
    have hk0 : Kept (fun b => b = pb) w V := kept_wrote (Kept.of_below (HB1.out.trans (HB14.out.mono HB1.out.size)) (Nat.le_refl _) _) HVW.out fun _ => rfl
    exact ⟨rfl, kept_new (hk0.trans HK6.out) hkX.drew fun b e q => absurd q (by omega)⟩
set_option maxRecDepth 100000 in
set_option maxHeartbeats 8000000 in
theorem program_ok {d d2 : Nat} {s : ByteArray} {TK : List Tk} {L : List Cl} {p2 p3 : Pp} {bl : List ExB} {f' : Ft} (w : World) (hs : SrcOk s TK) (hrd : cTops d true ((pp0 TK).mark "{").2 = some (L, p2)) (hp3 : (p2.mark "}").2 = p3) (hend : p3.rest = []) (herr : p3.err = 0)
    (hg : growBinds (findD []) resolveD d2 (p3.err, p3.at_.1, p3.at_.2) [] L = some (bl, f')) (hf' : f'.1 = 0) :
    Calls Tryz.prog 14 #[.string s] w fun e w' => ∃ ab cb Cb, e = .returned (.tuple #[.agg #[.slice none 0 0, .slice none 0 0, .slice ab bl.length cb], .agg #[.int .i64 0, .int .i64 0, .int .i64 0]]) ∧ BdV w.heap.size w' bl ab cb Cb ∧ Below w.heap.size w w' := by
  obtain ⟨W1, hW1⟩ : ∃ W1, ((w.alloc (.cells #[.slice none 0 0, .slice none 0 0, .slice none 0 0] TPg)).alloc (.cells #[.int .i64 0, .int .i64 0, .int .i64 0] TFa)).alloc (.cells (parV none 0 0 (.slice none 0 0) 0 0 0 0 0) TPar) = W1 := ⟨_, rfl⟩
  have hb1 : Below w.heap.size w W1 := by rw [← hW1]; exact (((Below.refl _ _).alloc (Nat.le_refl _) _).alloc (by simp) _).alloc (by simp; omega) _
  have hz1 : W1.heap.size = w.heap.size + 1 + 1 + 1 := by rw [← hW1]; simp
  have hA1 : Box W1 w.heap.size TPg #[.slice none 0 0, .slice none 0 0, .slice none 0 0] := by rw [← hW1]; exact ((Box.new w _ _).alloc _).alloc _
  have hF1 : Box W1 (w.heap.size + 1) TFa #[.int .i64 0, .int .i64 0, .int .i64 0] := by rw [← hW1]; exact (Box.at_ _ _ (by simp)).alloc _
  have hP1 : Box W1 (w.heap.size + 1 + 1) TPar (parV none 0 0 (.slice none 0 0) 0 0 0 0 0) := by rw [← hW1]; exact Box.at_ _ _ (by simp)
  have HW := Lib.hid (wholeP_ok W1 hP1 hs hrd hp3 hend herr hg hf')
  have HA1 := Lib.hid hA1
  have HF1 := Lib.hid hF1
  have HB1 := Lib.hid hb1
  have HZ1 := Lib.hid hz1
  clear hs hrd hp3 hend herr hg hf' hb1 hz1 hA1 hF1 hP1
  go_enter Tryz.func14, Tryz.ntmps14
  go_wp2_with fail
  refine HW.out.mono ?_
  rintro e w2 ⟨ab, cb, Cb, rfl, hbd, hk2⟩
  have hA2 := hk2.box HA1.out (by omega)
  have hF2 := hk2.box HF1.out (by omega)
  obtain ⟨U, hU, hub, huw⟩ : ∃ U, ((w2.setCell ⟨w.heap.size, 0, none⟩ (.slice none 0 0)).setCell ⟨w.heap.size, 1, none⟩ (.slice none 0 0)).setCell ⟨w.heap.size, 2, none⟩ (.slice ab bl.length cb) = U ∧ Box U w.heap.size TPg #[.slice none 0 0, .slice none 0 0, .slice ab bl.length cb] ∧ Wrote w2 U w.heap.size := ⟨_, rfl, ((hA2.put 0 _).put 1 _).put 2 _, (((Wrote.refl _ _).set _ _).set _ _).set _ _⟩
  have hFU := hF2.wrote huw (by omega)
  obtain ⟨X, hX, hxb, hxw⟩ : ∃ X, ((U.setCell ⟨w.heap.size + 1, 0, none⟩ (.int .i64 0)).setCell ⟨w.heap.size + 1, 1, none⟩ (.int .i64 0)).setCell ⟨w.heap.size + 1, 2, none⟩ (.int .i64 0) = X ∧ Box X (w.heap.size + 1) TFa #[.int .i64 0, .int .i64 0, .int .i64 0] ∧ Wrote U X (w.heap.size + 1) := ⟨_, rfl, ((hFU.put 0 _).put 1 _).put 2 _, (((Wrote.refl _ _).set _ _).set _ _).set _ _⟩
  have r0 := hA2.cell 0
  have r1 := hA2.cell 1
  have r2 := hA2.cell 2
  have r0' := hA2.free 0
  have r1' := hA2.free 1
  have r2' := hA2.free 2
  have lr := hA2.lt
  have t0 := hFU.cell 0
  have t1 := hFU.cell 1
  have t2 := hFU.cell 2
  have t0' := hFU.free 0
  have t1' := hFU.free 1
  have t2' := hFU.free 2
  have lt0 := hFU.lt
  have HUB := Lib.hid (hub.wrote hxw (by omega))
  have HXB := Lib.hid hxb
  have HUW := Lib.hid huw
  have HXW := Lib.hid hxw
  have HBD := Lib.hid hbd
  have HK2 := Lib.hid hk2
  clear hbd hk2 hA2 hF2 hub huw hFU hxb hxw
  go_wp2_with fail
  have v0 := HUB.out.cell 0
  have v1 := HUB.out.cell 1
  have v2 := HUB.out.cell 2
  have u0 := HXB.out.cell 0
  have u1 := HXB.out.cell 1
  have u2 := HXB.out.cell 2
  refine bodyPost_ret (v := .tuple #[.agg #[.slice none 0 0, .slice none 0 0, .slice ab bl.length cb], .agg #[.int .i64 0, .int .i64 0, .int .i64 0]]) (by simp [results, Tryz.results14, go_sem, v0, v1, v2, u0, u1, u2]) rfl ?_
  have hz1 := HZ1.out
  have hkX : Kept (fun b => b = w.heap.size ∨ b = w.heap.size + 1) w2 X := kept_wrote (kept_wrote (Kept.refl _ w2) HUW.out fun _ => .inl rfl) HXW.out fun _ => .inr rfl
  have hkk : Kept (fun b => b = w.heap.size + 1 + 1 ∨ b = w.heap.size ∨ b = w.heap.size + 1) W1 X := (HK2.out.mono fun b _ e => .inl e).trans (hkX.mono fun b _ e => .inr e)
  exact ⟨ab, cb, Cb, rfl, HBD.out.frame hkX (fun b e => by omega) (by omega), Kept.below (kept_new (X := fun _ => False) (Kept.of_below HB1.out (Nat.le_refl _) _) hkk fun b e q => absurd q (by omega)) (Nat.le_refl _) fun b q => q.elim⟩
set_option maxRecDepth 100000 in
set_option maxHeartbeats 8000000 in
theorem program_bad {d : Nat} {s : ByteArray} {TK : List Tk} {L : List Cl} {p2 p3 : Pp} (w : World) (hs : SrcOk s TK) (hrd : cTops d true ((pp0 TK).mark "{").2 = some (L, p2)) (hp3 : (p2.mark "}").2 = p3) (hend : p3.rest = []) (herr : p3.err ≠ 0) :
    Calls Tryz.prog 14 #[.string s] w fun e w' => e = .returned (.tuple #[.agg #[.slice none 0 0, .slice none 0 0, .slice none 0 0], .agg #[.int .i64 p3.err, .int .i64 p3.at_.1, .int .i64 p3.at_.2]]) ∧ Below w.heap.size w w' := by
  obtain ⟨W1, hW1⟩ : ∃ W1, ((w.alloc (.cells #[.slice none 0 0, .slice none 0 0, .slice none 0 0] TPg)).alloc (.cells #[.int .i64 0, .int .i64 0, .int .i64 0] TFa)).alloc (.cells (parV none 0 0 (.slice none 0 0) 0 0 0 0 0) TPar) = W1 := ⟨_, rfl⟩
  have hb1 : Below w.heap.size w W1 := by rw [← hW1]; exact (((Below.refl _ _).alloc (Nat.le_refl _) _).alloc (by simp) _).alloc (by simp; omega) _
  have hz1 : W1.heap.size = w.heap.size + 1 + 1 + 1 := by rw [← hW1]; simp
  have hA1 : Box W1 w.heap.size TPg #[.slice none 0 0, .slice none 0 0, .slice none 0 0] := by rw [← hW1]; exact ((Box.new w _ _).alloc _).alloc _
  have hF1 : Box W1 (w.heap.size + 1) TFa #[.int .i64 0, .int .i64 0, .int .i64 0] := by rw [← hW1]; exact (Box.at_ _ _ (by simp)).alloc _
  have hP1 : Box W1 (w.heap.size + 1 + 1) TPar (parV none 0 0 (.slice none 0 0) 0 0 0 0 0) := by rw [← hW1]; exact Box.at_ _ _ (by simp)
  have HW := Lib.hid (wholeP_bad W1 hP1 hs hrd hp3 hend herr)
  have HA1 := Lib.hid hA1
  have HF1 := Lib.hid hF1
  have HB1 := Lib.hid hb1
  have HZ1 := Lib.hid hz1
  clear hs hrd hp3 hend herr hb1 hz1 hA1 hF1 hP1
  go_enter Tryz.func14, Tryz.ntmps14
  go_wp2_with fail
  refine HW.out.mono ?_
  rintro e w2 ⟨rfl, hk2⟩
  have hA2 := hk2.box HA1.out (by omega)
  have hF2 := hk2.box HF1.out (by omega)
  obtain ⟨U, hU, hub, huw⟩ : ∃ U, ((w2.setCell ⟨w.heap.size, 0, none⟩ (.slice none 0 0)).setCell ⟨w.heap.size, 1, none⟩ (.slice none 0 0)).setCell ⟨w.heap.size, 2, none⟩ (.slice none 0 0) = U ∧ Box U w.heap.size TPg #[.slice none 0 0, .slice none 0 0, .slice none 0 0] ∧ Wrote w2 U w.heap.size := ⟨_, rfl, ((hA2.put 0 _).put 1 _).put 2 _, (((Wrote.refl _ _).set _ _).set _ _).set _ _⟩
  have hFU := hF2.wrote huw (by omega)
  obtain ⟨X, hX, hxb, hxw⟩ : ∃ X, ((U.setCell ⟨w.heap.size + 1, 0, none⟩ (.int .i64 p3.err)).setCell ⟨w.heap.size + 1, 1, none⟩ (.int .i64 p3.at_.1)).setCell ⟨w.heap.size + 1, 2, none⟩ (.int .i64 p3.at_.2) = X ∧ Box X (w.heap.size + 1) TFa #[.int .i64 p3.err, .int .i64 p3.at_.1, .int .i64 p3.at_.2] ∧ Wrote U X (w.heap.size + 1) := ⟨_, rfl, ((hFU.put 0 _).put 1 _).put 2 _, (((Wrote.refl _ _).set _ _).set _ _).set _ _⟩
  have r0 := hA2.cell 0
  have r1 := hA2.cell 1
  have r2 := hA2.cell 2
  have r0' := hA2.free 0
  have r1' := hA2.free 1
  have r2' := hA2.free 2
  have lr := hA2.lt
  have t0 := hFU.cell 0
  have t1 := hFU.cell 1
  have t2 := hFU.cell 2
  have t0' := hFU.free 0
  have t1' := hFU.free 1
  have t2' := hFU.free 2
  have lt0 := hFU.lt
  have HUB := Lib.hid (hub.wrote hxw (by omega))
  have HXB := Lib.hid hxb
  have HUW := Lib.hid huw
  have HXW := Lib.hid hxw
  have HK2 := Lib.hid hk2
  clear hk2 hA2 hF2 hub huw hFU hxb hxw
  go_wp2_with fail
  have v0 := HUB.out.cell 0
  have v1 := HUB.out.cell 1
  have v2 := HUB.out.cell 2
  have u0 := HXB.out.cell 0
  have u1 := HXB.out.cell 1
  have u2 := HXB.out.cell 2
  refine bodyPost_ret (v := .tuple #[.agg #[.slice none 0 0, .slice none 0 0, .slice none 0 0], .agg #[.int .i64 p3.err, .int .i64 p3.at_.1, .int .i64 p3.at_.2]]) (by simp [results, Tryz.results14, go_sem, v0, v1, v2, u0, u1, u2]) rfl ?_
  have hz1 := HZ1.out
  have hkX : Kept (fun b => b = w.heap.size ∨ b = w.heap.size + 1) w2 X := kept_wrote (kept_wrote (Kept.refl _ w2) HUW.out fun _ => .inl rfl) HXW.out fun _ => .inr rfl
  have hkk : Kept (fun b => b = w.heap.size + 1 + 1 ∨ b = w.heap.size ∨ b = w.heap.size + 1) W1 X := (HK2.out.mono fun b _ e => .inl e).trans (hkX.mono fun b _ e => .inr e)
  exact ⟨rfl, Kept.below (kept_new (X := fun _ => False) (Kept.of_below HB1.out (Nat.le_refl _) _) hkk fun b e q => absurd q (by omega)) (Nat.le_refl _) fun b q => q.elim⟩
end Go.Proofs.YtdajihpfedbihaaGreat.Pa
/-
  CONTRACT: the fixed calls of the statements of layer parse hold (known).
-/
namespace Go.Proofs.YtdajihpfedbihaaGreat.Pa
open Go.RowKit Mm Tm Pm
set_option linter.unusedVariables false
set_option linter.unusedSimpArgs false
def src1 : ByteArray := ⟨#[102, 32, 120, 32, 61, 32, 120, 32, 43, 32, 49]⟩
def src2 : ByteArray := ⟨#[102, 32, 61, 32]⟩
theorem srcOk1 : SrcOk src1 (laidTk src1.data.toList) where
  size := by decide
  lex := by kernel_rfl
  few := by decide +kernel
  laid := rfl
  len := by decide +kernel
  txt := by decide +kernel
theorem srcOk2 : SrcOk src2 (laidTk src2.data.toList) where
  size := by decide
  lex := by kernel_rfl
  few := by decide +kernel
  laid := rfl
  len := by decide +kernel
  txt := by decide +kernel
/-- what the first one comes to -/
def k1Body : Ex := app (app (.mk 1 (str "+") 0 [] [] [] [] 1 9) (.mk 1 (str "x") 0 [] [] [] [] 1 7)) (.mk 3 [] 1 [] [] [] [] 1 11)
def k1Binds : List ExB := [.mk (str "f") [.mk [⟨2, 0, toB (str "x"), .nil, 1, 3⟩] [.mk [] k1Body]] 1 1]
def run1 : Option (List Cl × Pp) := cTops 60 true ((pp0 (laidTk src1.data.toList)).mark "{").2
theorem run1_some : run1.isSome = true := by kernel_rfl
def end1 : Pp := ((run1.get run1_some).2.mark "}").2
theorem end1_rest : end1.rest = [] := by kernel_rfl
theorem end1_err : end1.err = 0 := by kernel_rfl
theorem grow1 : growBinds (findD []) resolveD 60 (end1.err, end1.at_.1, end1.at_.2) [] (run1.get run1_some).1 = some (k1Binds, (0, end1.at_.1, end1.at_.2)) := by kernel_rfl
def run2 : Option (List Cl × Pp) := cTops 60 true ((pp0 (laidTk src2.data.toList)).mark "{").2
theorem run2_some : run2.isSome = true := by kernel_rfl
def end2 : Pp := ((run2.get run2_some).2.mark "}").2
theorem end2_rest : end2.rest = [] := by kernel_rfl
theorem end2_err : end2.err = 60 := by kernel_rfl
theorem get_some {α : Type} {o : Option α} (h : o.isSome = true) : o = some (o.get h) := (Option.some_get h).symm
theorem known1 (w : World) : Calls Tryz.prog 14 #[.string ⟨#[102, 32, 120, 32, 61, 32, 120, 32, 43, 32, 49]⟩] w fun e w' => ∃ ab cb Cb, e = .returned (.tuple #[.agg #[.slice none 0 0, .slice none 0 0, .slice ab 1 cb], .agg #[.int .i64 0, .int .i64 0, .int .i64 0]]) ∧ BdV w.heap.size w' k1Binds ab cb Cb ∧ Below w.heap.size w w' :=
  program_ok w srcOk1 (get_some run1_some : run1 = some ((run1.get run1_some).1, (run1.get run1_some).2)) rfl end1_rest end1_err grow1 rfl
theorem known2 (w : World) : Calls Tryz.prog 14 #[.string ⟨#[102, 32, 61, 32]⟩] w fun e w' => ∃ x y, e = .returned (.tuple #[.agg #[.slice none 0 0, .slice none 0 0, .slice none 0 0], .agg #[.int .i64 60, .int .i64 x, .int .i64 y]]) ∧ Below w.heap.size w w' :=
  (program_bad (p3 := end2) w srcOk2 (get_some run2_some : run2 = some ((run2.get run2_some).1, (run2.get run2_some).2)) rfl end2_rest (by rw [end2_err]; decide)).mono fun e w' h => ⟨end2.at_.1, end2.at_.2, by have h1 := h.1; rw [end2_err] at h1; exact h1, h.2⟩
theorem lit_f : toB (str "f") = ⟨#[102]⟩ := by kernel_rfl
/-- the cells that are looked at -/
theorem known_cells {S : Nat} {w : World} {ab : Option Addr} {cb : Nat} {Cb : Nat → List Value} (h : BdV S w k1Binds ab cb Cb) : ∃ g0 g1 c1 g2 c2 g3 c3 nm n a1 n1 c4 a3 n3 c5 a4 n4 c6, ab = some ⟨g0, 0, none⟩ ∧ (g0 < w.heap.size ∧ g1 < w.heap.size ∧ g2 < w.heap.size ∧ g3 < w.heap.size) ∧ (S ≤ g0 ∧ S ≤ g1 ∧ S ≤ g2 ∧ S ≤ g3) ∧
    w.cell? ⟨g0, 0, none⟩ = some (.string ⟨#[102]⟩) ∧ w.cell? ⟨g0, 1, none⟩ = some (.slice (some ⟨g1, 0, none⟩) 1 c1) ∧ w.cell? ⟨g1, 1, none⟩ = some (.slice (some ⟨g2, 0, none⟩) 1 c2) ∧
    w.cell? ⟨g2, 1, none⟩ = some (.int .i64 4) ∧ w.cell? ⟨g2, 2, none⟩ = some (.string (toB nm)) ∧ w.cell? ⟨g2, 3, none⟩ = some (.int .i64 n) ∧ w.cell? ⟨g2, 4, none⟩ = some (.slice a1 n1 c4) ∧ w.cell? ⟨g2, 5, none⟩ = some (.slice (some ⟨g3, 0, none⟩) 2 c3) ∧ w.cell? ⟨g2, 6, none⟩ = some (.slice a3 n3 c5) ∧ w.cell? ⟨g2, 7, none⟩ = some (.slice a4 n4 c6) ∧ w.cell? ⟨g2, 8, none⟩ = some (.int .i64 1) ∧ w.cell? ⟨g2, 9, none⟩ = some (.int .i64 9) ∧
    w.cell? ⟨g3, 11, none⟩ = some (.int .i64 1) := by
  obtain ⟨a', c', hq, _, hrd⟩ := h.row
  injection hq with hq1 hq2 hq3
  subst hq1
  obtain ⟨g0, rfl, z0, l0, hc0⟩ := hrd 0 (by decide)
  have he0 := h.el 0 _ rfl
  obtain ⟨cs0, h0⟩ : ∃ cs, Cb 0 = cs := ⟨_, rfl⟩
  rw [h0] at he0 hc0
  cases he0 with
  | @bd _ _ _ _ sc Cc hr1 he1 =>
    obtain ⟨a1, c1, rfl, _, hrd1⟩ := hr1
    obtain ⟨g1, rfl, z1, l1, hc1⟩ := hrd1 0 (by decide)
    have he1 := he1 0 _ rfl
    obtain ⟨cs1, h1⟩ : ∃ cs, Cc 0 = cs := ⟨_, rfl⟩
    rw [h1] at he1 hc1
    cases he1 with
    | @cl _ _ ap cp sr Cr hp1 hp2 hr2 he2 =>
      obtain ⟨a2, c2, rfl, _, hrd2⟩ := hr2
      obtain ⟨g2, rfl, z2, l2, hc2⟩ := hrd2 0 (by decide)
      have he2 := he2 0 _ rfl
      obtain ⟨cs2, h2⟩ : ∃ cs, Cr 0 = cs := ⟨_, rfl⟩
      rw [h2] at he2 hc2
      cases he2 with
      | @rhs _ _ sg Cg cs hr3 he3 he4 =>
        cases he4 with
        | @ex _ _ _ _ _ _ _ _ _ sp sa sl sb Ca Cl2 Cb2 q1 q2 q3 q4 q5 q6 q7 =>
          obtain ⟨ap1, cp1, rfl, _⟩ := q1
          obtain ⟨ap3, cp3, rfl, _⟩ := q3
          obtain ⟨ap4, cp4, rfl, _⟩ := q4
          obtain ⟨a3, c3, rfl, _, hrd3⟩ := q2
          obtain ⟨g3, rfl, z3, l3, hc3⟩ := hrd3 1 (by decide)
          have he5 := q5 1 _ rfl
          obtain ⟨cs3, h3⟩ : ∃ cs, Ca 1 = cs := ⟨_, rfl⟩
          rw [h3] at he5 hc3
          cases he5 with
          | ex =>
            exact ⟨g0, g1, c1, g2, c2, g3, c3, _, _, ap1, _, cp1, ap3, _, cp3, ap4, _, cp4, rfl, ⟨l0, l1, l2, l3⟩, ⟨z0, z1, z2, z3⟩, (hc0 0 _ rfl).trans (by rw [lit_f]), hc0 1 _ rfl, hc1 1 _ rfl, hc2 1 _ rfl, hc2 2 _ rfl, hc2 3 _ rfl, hc2 4 _ rfl, hc2 5 _ rfl, hc2 6 _ rfl, hc2 7 _ rfl, hc2 8 _ rfl, hc2 9 _ rfl, hc3 2 _ rfl⟩
set_option maxRecDepth 100000 in
set_option maxHeartbeats 8000000 in
theorem known_any (w : World) : Calls Tryz.prog 12 #[] w fun e w' => e = .returned (.bool true) ∧ Below w.heap.size w w' := by
  have HA := Lib.hid (known1 w)
  have HB := Lib.hid known2
  go_enter Tryz.func12, Tryz.ntmps12
  go_wp2_with fail
  refine HA.out.mono ?_
  rintro e w1 ⟨ab, cb, Cb, rfl, hbd, hb1⟩
  obtain ⟨g0, g1, c1, g2, c2, g3, c3, nm, n, a1, n1, c4, a3, n3, c5, a4, n4, c6, rfl, ⟨l0, l1, l2, l3⟩, _, x0, x1, x2, y1, y2, y3, y4, y5, y6, y7, y8, y9, z1⟩ := known_cells hbd
  obtain ⟨W2, hW2⟩ : ∃ W2, (w1.alloc (.cells #[.slice none 0 0, .slice none 0 0, .slice (some ⟨g0, 0, none⟩) 1 cb] TPg)).alloc (.cells #[.int .i64 0, .int .i64 0, .int .i64 0] TFa) = W2 := ⟨_, rfl⟩
  have hb2 : Below w1.heap.size w1 W2 := by rw [← hW2]; exact ((Below.refl _ _).alloc (Nat.le_refl _) _).alloc (by simp) _
  have hP2 : Box W2 w1.heap.size TPg #[.slice none 0 0, .slice none 0 0, .slice (some ⟨g0, 0, none⟩) 1 cb] := by rw [← hW2]; exact (Box.new w1 _ _).alloc _
  have hF2 : Box W2 (w1.heap.size + 1) TFa #[.int .i64 0, .int .i64 0, .int .i64 0] := by rw [← hW2]; exact Box.at_ _ _ (by simp)
  have HB2 := Lib.hid (HB.out W2)
  have HP2 := Lib.hid hP2
  have HF2 := Lib.hid hF2
  have HBB2 := Lib.hid hb2
  have HB1 := Lib.hid hb1
  have hc : ∀ g o v, g < w1.heap.size → w1.cell? ⟨g, o, none⟩ = some v → W2.cell? ⟨g, o, none⟩ = some v := fun g o v hg h => (hb2.cell (p := ⟨g, o, none⟩) hg).trans h
  have HC := Lib.hid hc
  have HX := Lib.hid (And.intro x0 (And.intro x1 (And.intro x2 (And.intro y1 (And.intro y2 (And.intro y3 (And.intro y4 (And.intro y5 (And.intro y6 (And.intro y7 (And.intro y8 (And.intro y9 z1))))))))))))
  have HL := Lib.hid (And.intro l0 (And.intro l1 (And.intro l2 l3)))
  have HW2 := Lib.hid hW2
  clear hbd hb1 hb2 hP2 hF2 hc x0 x1 x2 y1 y2 y3 y4 y5 y6 y7 y8 y9 z1 l0 l1 l2 l3 hW2
  go_wp2_with fail
  rw [HW2.out]
  refine HB2.out.mono ?_
  rintro e w3 ⟨px, py, rfl, hb3⟩
  obtain ⟨W4, hW4⟩ : ∃ W4, (w3.alloc (.cells #[.slice none 0 0, .slice none 0 0, .slice none 0 0] TPg)).alloc (.cells #[.int .i64 60, .int .i64 px, .int .i64 py] TFa) = W4 := ⟨_, rfl⟩
  have hb4 : Below w3.heap.size w3 W4 := by rw [← hW4]; exact ((Below.refl _ _).alloc (Nat.le_refl _) _).alloc (by simp) _
  have hF4 : Box W4 (w3.heap.size + 1) TFa #[.int .i64 60, .int .i64 px, .int .i64 py] := by rw [← hW4]; exact Box.at_ _ _ (by simp)
  have hb24 : Below W2.heap.size W2 W4 := hb3.trans (hb4.mono hb3.size)
  have hP4 := HP2.out.below hb24 HP2.out.lt
  have hF2' := HF2.out.below hb24 HF2.out.lt
  have hbw : Below w.heap.size w W4 := (HB1.out.trans (HBB2.out.mono HB1.out.size)).trans (hb24.mono (Nat.le_trans HB1.out.size HBB2.out.size))
  have hc : ∀ g o v, g < w1.heap.size → w1.cell? ⟨g, o, none⟩ = some v → W4.cell? ⟨g, o, none⟩ = some v := fun g o v hg h => (hb24.cell (p := ⟨g, o, none⟩) (Nat.lt_of_lt_of_le hg HBB2.out.size)).trans (HC.out g o v hg h)
  obtain ⟨x0, x1, x2, y1, y2, y3, y4, y5, y6, y7, y8, y9, z1⟩ := HX.out
  obtain ⟨l0, l1, l2, l3⟩ := HL.out
  have m0 := hc _ _ _ l0 x0
  have m1 := hc _ _ _ l0 x1
  have m2 := hc _ _ _ l1 x2
  have k1 := hc _ _ _ l2 y1
  have k2 := hc _ _ _ l2 y2
  have k3 := hc _ _ _ l2 y3
  have k4 := hc _ _ _ l2 y4
  have k5 := hc _ _ _ l2 y5
  have k6 := hc _ _ _ l2 y6
  have k7 := hc _ _ _ l2 y7
  have k8 := hc _ _ _ l2 y8
  have k9 := hc _ _ _ l2 y9
  have j1 := hc _ _ _ l3 z1
  have hsz : w1.heap.size ≤ W4.heap.size := Nat.le_trans HBB2.out.size hb24.size
  have i0 : g0 < W4.heap.size := Nat.lt_of_lt_of_le l0 hsz
  have i1 : g1 < W4.heap.size := Nat.lt_of_lt_of_le l1 hsz
  have i2 : g2 < W4.heap.size := Nat.lt_of_lt_of_le l2 hsz
  have i3 : g3 < W4.heap.size := Nat.lt_of_lt_of_le l3 hsz
  have p2 := hP4.cell 2
  have lp := hP4.lt
  have f0 := hF2'.cell 0
  have lf := hF2'.lt
  have f4 := hF4.cell 0
  have lf4 := hF4.lt
  have HBW := Lib.hid (show Below w.heap.size w (W4.alloc (.cells (exV 4 nm n a1 n1 c4 (some ⟨g3, 0, none⟩) 2 c3 a3 n3 c5 a4 n4 c6 1 9) TEx)) from hbw.alloc hbw.size _)
  have HX5 := Lib.hid (Box.new W4 (exV 4 nm n a1 n1 c4 (some ⟨g3, 0, none⟩) 2 c3 a3 n3 c5 a4 n4 c6 1 9) TEx)
  clear hb3 hb4 hF4 hb24 hP4 hF2' hbw hc x0 x1 x2 y1 y2 y3 y4 y5 y6 y7 y8 y9 z1 l0 l1 l2 l3 hsz
  go_wp2_with fail
  go_ret
  exact ⟨rfl, HBW.out⟩
end Go.Proofs.YtdajihpfedbihaaGreat.Pa
