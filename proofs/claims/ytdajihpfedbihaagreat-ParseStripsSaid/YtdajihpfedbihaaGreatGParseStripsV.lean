/-
  The law ParseStrips: a program and an expression without their places are the same otherwise. Written by gen_stlaw.py.
-/
import Derived.Test.YtdajihpfedbihaaGreatGYi
import Derived.Test.YtdajihpfedbihaaGreatGYk
import Derived.Deep.DeepCutAuto
namespace Go.Proofs.YtdajihpfedbihaaGreat.ParseStrips
open Go.RowKit Mm Tm St
set_option linter.unusedVariables false
set_option linter.unusedSimpArgs false
set_option maxRecDepth 100000 in
set_option maxHeartbeats 400000000 in
theorem law0 (hkn : ∀ w, Calls Tryz.prog 12 #[] w fun e w' => e = .returned (.bool true) ∧ Below w.heap.size w w') (k0 : Nat) (cs0 : List Value) (k1 : Nat) (cs1 : List Value) (w : World) (hp0 : FF (G (· < w.heap.size) w k0) (· < w.heap.size) w pgF cs0) (hp1 : G (· < w.heap.size) w k1 .ex cs1) :
    Calls Tryz.prog 3 #[.agg cs0.toArray, .agg cs1.toArray] w fun e w' => e = .returned (.bool true) ∧ Below w.heap.size w w' := by
  obtain ⟨d, h0, h1⟩ : ∃ d, FF (G (· < w.heap.size) w d) (· < w.heap.size) w pgF cs0 ∧ G (· < w.heap.size) w d .ex cs1 := ⟨k0 + k1, hp0.mono fun κ cs h => h.upto (Nat.le_add_right _ _), hp1.upto (Nat.le_add_left _ _)⟩
  clear hp0 hp1 k0 k1
  have HKA := Lib.hid hkn
  clear hkn
  obtain ⟨pa0, pn0, pc0, PC0, pa1, pn1, pc1, PC1, pa2, pn2, pc2, PC2, rfl, -, -, -⟩ := inv_pg h0
  obtain ⟨d1, -, hff⟩ := h1.ff
  obtain ⟨x0, s1, x2, a3, n3, c3, S3, a4, n4, c4, C4, a5, n5, c5, C5, a6, n6, c6, C6, x7, x8, rfl, -, -, -, -, -⟩ := inv_ex hff
  clear hff d1
  obtain ⟨ps, hps⟩ : ∃ ps : List Value, [.slice pa0 pn0 pc0, .slice pa1 pn1 pc1, .slice pa2 pn2 pc2] = ps := ⟨_, rfl⟩
  obtain ⟨xs, hxs⟩ : ∃ xs : List Value, [.int .i64 x0, .string s1, .int .i64 x2, .slice a3 n3 c3, .slice a4 n4 c4, .slice a5 n5 c5, .slice a6 n6 c6, .int .i64 x7, .int .i64 x8] = xs := ⟨_, rfl⟩
  obtain ⟨W2, hW2⟩ : ∃ W2, (w.alloc (.cells #[.slice pa0 pn0 pc0, .slice pa1 pn1 pc1, .slice pa2 pn2 pc2] TPg)).alloc (.cells #[.int .i64 x0, .string s1, .int .i64 x2, .slice a3 n3 c3, .slice a4 n4 c4, .slice a5 n5 c5, .slice a6 n6 c6, .int .i64 x7, .int .i64 x8] TXp) = W2 := ⟨_, rfl⟩
  have HB2 := Lib.hid (show Below w.heap.size w W2 from by rw [← hW2]; exact ((Below.refl _ _).alloc (Nat.le_refl _) _).alloc (by simp) _)
  have HXP := Lib.hid (show Box W2 w.heap.size TPg #[.slice pa0 pn0 pc0, .slice pa1 pn1 pc1, .slice pa2 pn2 pc2] from by rw [← hW2]; exact (Box.new w _ _).alloc _)
  have HXE := Lib.hid (show Box W2 (w.heap.size + 1) TXp #[.int .i64 x0, .string s1, .int .i64 x2, .slice a3 n3 c3, .slice a4 n4 c4, .slice a5 n5 c5, .slice a6 n6 c6, .int .i64 x7, .int .i64 x8] from by rw [← hW2]; exact Box.at_ _ _ (by simp))
  have HSZ := Lib.hid (show W2.heap.size = w.heap.size + 2 from by rw [← hW2]; simp)
  have HST := Lib.hid (show ∀ W, Below W2.heap.size W2 W → Calls Tryz.prog 6 #[.agg #[.slice pa0 pn0 pc0, .slice pa1 pn1 pc1, .slice pa2 pn2 pc2]] W (fun r V => ∃ pd : List Value, r = .returned (.agg pd.toArray) ∧ MF (M (Zs w.heap.size W.heap.size V) V d) (Zs w.heap.size W.heap.size V) V pgF ps pd ∧ Below W.heap.size W V ∧ W2.heap.size ≤ W.heap.size ∧ Below W2.heap.size W2 V) from fun W hW =>
    have hb := HB2.out.trans (hW.mono HB2.out.size)
    have hc := cs_all d
    (strip_any hc.dt hc.fx hc.bd W (Nat.le_trans HB2.out.size hW.size) (h0.frame (fun x hx => hb.block x hx) (fun _ h => h) fun κ cs h => h.frame (fun x hx => hb.block x hx) fun _ h => h)).mono fun r V hr => by
      obtain ⟨pd, e1, e2, e3⟩ := hr
      exact ⟨pd, e1, by rw [← hps]; exact e2, e3, hW.size, hW.trans (e3.mono hW.size)⟩)
  have HSB := Lib.hid (show ∀ W, Below W2.heap.size W2 W → Calls Tryz.prog 7 #[.agg #[.int .i64 x0, .string s1, .int .i64 x2, .slice a3 n3 c3, .slice a4 n4 c4, .slice a5 n5 c5, .slice a6 n6 c6, .int .i64 x7, .int .i64 x8]] W (fun r V => ∃ xd : List Value, r = .returned (.agg xd.toArray) ∧ M (Zs w.heap.size W.heap.size V) V d .ex xs xd ∧ Below W.heap.size W V) from fun W hW =>
    have hb := HB2.out.trans (hW.mono HB2.out.size)
    ((cs_all d).ex w.heap.size W _ (Nat.le_trans HB2.out.size hW.size) (h1.frame (fun x hx => hb.block x hx) fun _ h => h)).mono fun r V hr => by
      obtain ⟨xd, e1, e2, e3⟩ := hr
      exact ⟨xd, e1, by rw [← hxs]; exact e2, e3⟩)
  have HPS := Lib.hid hps
  have HXS := Lib.hid hxs
  clear h0 h1 hps hxs
  obtain ⟨p0, p1, p2⟩ := bc3 HXP.out
  obtain ⟨e0, e1, e2, e3, e4, e5, e6, e7, e8⟩ := bc9 HXE.out
  have nn0 : w.heap.size ≠ W2.heap.size := by have := HSZ.out; omega
  have nn1 : w.heap.size ≠ W2.heap.size + 1 := by have := HSZ.out; omega
  have nn4 : w.heap.size + 1 ≠ W2.heap.size := by have := HSZ.out; omega
  have nn5 : w.heap.size + 1 ≠ W2.heap.size + 1 := by have := HSZ.out; omega
  go_enter Tryz.func3, Tryz.ntmps3
  go_wp2_with fail
  go_cut [5, 6] (fun v5 v6 wx => Cut d W2 ps xs v5 v6 wx)
  case first =>
    go_region_held3 (fun w' => w'.cell? ⟨w.heap.size, 0, none⟩ = some (.slice pa0 pn0 pc0) ∧ w'.cell? ⟨w.heap.size, 1, none⟩ = some (.slice pa1 pn1 pc1) ∧ w'.cell? ⟨w.heap.size, 2, none⟩ = some (.slice pa2 pn2 pc2) ∧ w'.cell? ⟨w.heap.size + 1, 0, none⟩ = some (.int .i64 x0) ∧ w'.cell? ⟨w.heap.size + 1, 1, none⟩ = some (.string s1) ∧ w'.cell? ⟨w.heap.size + 1, 2, none⟩ = some (.int .i64 x2) ∧ w'.cell? ⟨w.heap.size + 1, 3, none⟩ = some (.slice a3 n3 c3) ∧ w'.cell? ⟨w.heap.size + 1, 4, none⟩ = some (.slice a4 n4 c4) ∧ w'.cell? ⟨w.heap.size + 1, 5, none⟩ = some (.slice a5 n5 c5) ∧ w'.cell? ⟨w.heap.size + 1, 6, none⟩ = some (.slice a6 n6 c6) ∧ w'.cell? ⟨w.heap.size + 1, 7, none⟩ = some (.int .i64 x7) ∧ w'.cell? ⟨w.heap.size + 1, 8, none⟩ = some (.int .i64 x8))
      (first
        | with_reducible exact ⟨o0, o1, o2, o3, o4, o5, o6, o7, o8, o9, o10, o11⟩
        | with_reducible exact ⟨m0, m1, m2, m3, m4, m5, m6, m7, m8, m9, m10, m11⟩
        | with_reducible exact ⟨p0, p1, p2, e0, e1, e2, e3, e4, e5, e6, e7, e8⟩
        | with_reducible exact ⟨cell_dr p0, cell_dr p1, cell_dr p2, cell_dr e0, cell_dr e1, cell_dr e2, cell_dr e3, cell_dr e4, cell_dr e5, cell_dr e6, cell_dr e7, cell_dr e8⟩
        | with_reducible exact ⟨cell_al o0, cell_al o1, cell_al o2, cell_al o3, cell_al o4, cell_al o5, cell_al o6, cell_al o7, cell_al o8, cell_al o9, cell_al o10, cell_al o11⟩
        | with_reducible exact ⟨cell_al (cell_al o0), cell_al (cell_al o1), cell_al (cell_al o2), cell_al (cell_al o3), cell_al (cell_al o4), cell_al (cell_al o5), cell_al (cell_al o6), cell_al (cell_al o7), cell_al (cell_al o8), cell_al (cell_al o9), cell_al (cell_al o10), cell_al (cell_al o11)⟩
        | with_reducible exact ⟨cell_dr (cell_al o0), cell_dr (cell_al o1), cell_dr (cell_al o2), cell_dr (cell_al o3), cell_dr (cell_al o4), cell_dr (cell_al o5), cell_dr (cell_al o6), cell_dr (cell_al o7), cell_dr (cell_al o8), cell_dr (cell_al o9), cell_dr (cell_al o10), cell_dr (cell_al o11)⟩
        | with_reducible exact ⟨cell_dr (cell_al (cell_al o0)), cell_dr (cell_al (cell_al o1)), cell_dr (cell_al (cell_al o2)), cell_dr (cell_al (cell_al o3)), cell_dr (cell_al (cell_al o4)), cell_dr (cell_al (cell_al o5)), cell_dr (cell_al (cell_al o6)), cell_dr (cell_al (cell_al o7)), cell_dr (cell_al (cell_al o8)), cell_dr (cell_al (cell_al o9)), cell_dr (cell_al (cell_al o10)), cell_dr (cell_al (cell_al o11))⟩
        | with_reducible exact ⟨cell_al m0, cell_al m1, cell_al m2, cell_al m3, cell_al m4, cell_al m5, cell_al m6, cell_al m7, cell_al m8, cell_al m9, cell_al m10, cell_al m11⟩
        | with_reducible exact ⟨cell_al (cell_al m0), cell_al (cell_al m1), cell_al (cell_al m2), cell_al (cell_al m3), cell_al (cell_al m4), cell_al (cell_al m5), cell_al (cell_al m6), cell_al (cell_al m7), cell_al (cell_al m8), cell_al (cell_al m9), cell_al (cell_al m10), cell_al (cell_al m11)⟩
        | with_reducible exact ⟨cell_dr (cell_al m0), cell_dr (cell_al m1), cell_dr (cell_al m2), cell_dr (cell_al m3), cell_dr (cell_al m4), cell_dr (cell_al m5), cell_dr (cell_al m6), cell_dr (cell_al m7), cell_dr (cell_al m8), cell_dr (cell_al m9), cell_dr (cell_al m10), cell_dr (cell_al m11)⟩
        | with_reducible exact ⟨cell_dr (cell_al (cell_al m0)), cell_dr (cell_al (cell_al m1)), cell_dr (cell_al (cell_al m2)), cell_dr (cell_al (cell_al m3)), cell_dr (cell_al (cell_al m4)), cell_dr (cell_al (cell_al m5)), cell_dr (cell_al (cell_al m6)), cell_dr (cell_al (cell_al m7)), cell_dr (cell_al (cell_al m8)), cell_dr (cell_al (cell_al m9)), cell_dr (cell_al (cell_al m10)), cell_dr (cell_al (cell_al m11))⟩
        | with_reducible exact ⟨cell_al p0, cell_al p1, cell_al p2, cell_al e0, cell_al e1, cell_al e2, cell_al e3, cell_al e4, cell_al e5, cell_al e6, cell_al e7, cell_al e8⟩
        | with_reducible exact ⟨cell_al (cell_al p0), cell_al (cell_al p1), cell_al (cell_al p2), cell_al (cell_al e0), cell_al (cell_al e1), cell_al (cell_al e2), cell_al (cell_al e3), cell_al (cell_al e4), cell_al (cell_al e5), cell_al (cell_al e6), cell_al (cell_al e7), cell_al (cell_al e8)⟩
        | with_reducible exact ⟨cell_dr (cell_al p0), cell_dr (cell_al p1), cell_dr (cell_al p2), cell_dr (cell_al e0), cell_dr (cell_al e1), cell_dr (cell_al e2), cell_dr (cell_al e3), cell_dr (cell_al e4), cell_dr (cell_al e5), cell_dr (cell_al e6), cell_dr (cell_al e7), cell_dr (cell_al e8)⟩
        | with_reducible exact ⟨cell_dr (cell_al (cell_al p0)), cell_dr (cell_al (cell_al p1)), cell_dr (cell_al (cell_al p2)), cell_dr (cell_al (cell_al e0)), cell_dr (cell_al (cell_al e1)), cell_dr (cell_al (cell_al e2)), cell_dr (cell_al (cell_al e3)), cell_dr (cell_al (cell_al e4)), cell_dr (cell_al (cell_al e5)), cell_dr (cell_al (cell_al e6)), cell_dr (cell_al (cell_al e7)), cell_dr (cell_al (cell_al e8))⟩
        | (refine ⟨?_, ?_, ?_, ?_, ?_, ?_, ?_, ?_, ?_, ?_, ?_, ?_⟩ <;> (repeat' (first | with_reducible refine cell_al ?_ | with_reducible refine cell_set ?_ ?_ | with_reducible assumption | with_reducible refine cell_dr ?_ | exact nn0 | exact nn1 | exact nn2 | exact nn3 | exact nn4 | exact nn5 | exact nn6 | exact nn7))))
      (first
        | (go_at_call 6; refine (HST.out _ ?_).mono ?_; (first | with_reducible exact bd0 _ | with_reducible exact bd1 _ _ | with_reducible exact twoAlloc _ _ _); rintro e V0 ⟨ds, rfl, hm0, hb0, hww, hw0⟩; have HWW := Lib.hid hww; obtain ⟨ja0, qn0, jc0, qb0, qe0, jC0, jD0, ja1, qn1, jc1, qb1, qe1, jC1, jD1, ja2, qn2, jc2, qb2, qe2, jC2, jD2, -, rfl, -, -, -⟩ := inw_pg hm0; have HM0 := Lib.hid hm0; have HB0 := Lib.hid hb0; have HW0 := Lib.hid hw0; have m0 := cellb p0 hw0; have m1 := cellb p1 hw0; have m2 := cellb p2 hw0; have m3 := cellb e0 hw0; have m4 := cellb e1 hw0; have m5 := cellb e2 hw0; have m6 := cellb e3 hw0; have m7 := cellb e4 hw0; have m8 := cellb e5 hw0; have m9 := cellb e6 hw0; have m10 := cellb e7 hw0; have m11 := cellb e8 hw0; have hz0 := hw0.size; have nn2 : w.heap.size ≠ V0.heap.size := neA HSZ.out hw0.size; have nn3 : w.heap.size ≠ V0.heap.size + 1 := neB HSZ.out hw0.size; have nn6 : w.heap.size + 1 ≠ V0.heap.size := neC HSZ.out hw0.size; have nn7 : w.heap.size + 1 ≠ V0.heap.size + 1 := neD HSZ.out hw0.size; have HSV := Lib.hid (show ∀ W, Below V0.heap.size V0 W → Calls Tryz.prog 7 #[.agg #[.int .i64 x0, .string s1, .int .i64 x2, .slice a3 n3 c3, .slice a4 n4 c4, .slice a5 n5 c5, .slice a6 n6 c6, .int .i64 x7, .int .i64 x8]] W (fun r V => ∃ xd : List Value, r = .returned (.agg xd.toArray) ∧ M (Zs w.heap.size W.heap.size V) V d .ex xs xd ∧ Below W.heap.size W V ∧ Below V0.heap.size V0 W) from fun W hW => (HSB.out W (HW0.out.trans (hW.mono HW0.out.size))).mono fun r V hr => ⟨hr.choose, hr.choose_spec.1, hr.choose_spec.2.1, hr.choose_spec.2.2, hW⟩); clear hm0 hb0 hw0 p0 p1 p2 e0 e1 e2 e3 e4 e5 e6 e7 e8)
        | (go_at_call 7; refine (HSV.out _ ?_).mono ?_; (first | with_reducible exact be0 _ | with_reducible exact be1 _ _ | with_reducible exact be2 _ _ _); rintro e V1 ⟨ds, rfl, hm1, hb1, hc1⟩; obtain ⟨d2, -, hmf⟩ := hm1.mf; obtain ⟨y0, v1, y2, ka3, qn3, kc3, qb3, qe3, kS3, ka4, qn4, kc4, qb4, qe4, kC4, kD4, ka5, qn5, kc5, qb5, qe5, kC5, kD5, ka6, qn6, kc6, qb6, qe6, kC6, kD6, y7, y8, -, rfl, -, -, -, -, -⟩ := inw_ex hmf; clear hmf; have hv := hc1.trans (hb1.mono hc1.size); have o0 := cellb m0 hv; have o1 := cellb m1 hv; have o2 := cellb m2 hv; have o3 := cellb m3 hv; have o4 := cellb m4 hv; have o5 := cellb m5 hv; have o6 := cellb m6 hv; have o7 := cellb m7 hv; have o8 := cellb m8 hv; have o9 := cellb m9 hv; have o10 := cellb m10 hv; have o11 := cellb m11 hv; have HF := Lib.hid (Bth.mk (W2 := W2) (MF.frame (fun x hx => hv.block x hx.2) (fun _ h => h) (fun κ cs ds hm => M.frame (fun x hx => hv.block x hx.2) (fun _ h => h) hm) HM0.out) hm1 (HW0.out.trans (hv.mono HW0.out.size)) ⟨HB2.out.size, HWW.out, HB0.out.size, hc1.size, hb1.size⟩); (first | with_reducible (have B5 := Lib.hid (Bd.first (W2 := W2) HB0.out hc1 hb1 (boxN W2 zPg TPg) (Nat.le_refl _))) | with_reducible (have B5 := Lib.hid (Bd.first (W2 := W2) HB0.out hc1 hb1 (boxA W2 zPg TPg _) (Nat.le_refl _))) | with_reducible (have B5 := Lib.hid (Bd.first (W2 := W2) HB0.out hc1 hb1 (boxB W2 zPg TPg _) (Nat.le_succ _))) | with_reducible (have B5 := Lib.hid (Bd.then_ (W2 := W2) HB0.out hb1 HW0.out.size (Box.new V0 zPg TPg) (Nat.le_refl _))) | with_reducible (have B5 := Lib.hid (Bd.then_ (W2 := W2) HB0.out hb1 HW0.out.size (boxA' V0 zPg TPg _) (Nat.le_refl _))) | with_reducible (have B5 := Lib.hid (Bd.then_ (W2 := W2) HB0.out hb1 HW0.out.size (boxB' V0 zPg TPg _) (Nat.le_succ _))) | skip); (try (obtain ⟨k5_0, k5_1, k5_2⟩ := bc3 B5.out.1; obtain ⟨l5_0, l5_1, l5_2⟩ := bf3 B5.out.1; have hb5l := B5.out.1.lt; have hb5g := B5.out.2.1)); (first | with_reducible (have B6 := Lib.hid (Bd.first (W2 := W2) HB0.out hc1 hb1 (boxN W2 zXp TXp) (Nat.le_refl _))) | with_reducible (have B6 := Lib.hid (Bd.first (W2 := W2) HB0.out hc1 hb1 (boxA W2 zXp TXp _) (Nat.le_refl _))) | with_reducible (have B6 := Lib.hid (Bd.first (W2 := W2) HB0.out hc1 hb1 (boxB W2 zXp TXp _) (Nat.le_succ _))) | with_reducible (have B6 := Lib.hid (Bd.then_ (W2 := W2) HB0.out hb1 HW0.out.size (Box.new V0 zXp TXp) (Nat.le_refl _))) | with_reducible (have B6 := Lib.hid (Bd.then_ (W2 := W2) HB0.out hb1 HW0.out.size (boxA' V0 zXp TXp _) (Nat.le_refl _))) | with_reducible (have B6 := Lib.hid (Bd.then_ (W2 := W2) HB0.out hb1 HW0.out.size (boxB' V0 zXp TXp _) (Nat.le_succ _))) | skip); (try (obtain ⟨k6_0, k6_1, k6_2, k6_3, k6_4, k6_5, k6_6, k6_7, k6_8⟩ := bc9 B6.out.1; obtain ⟨l6_0, l6_1, l6_2, l6_3, l6_4, l6_5, l6_6, l6_7, l6_8⟩ := bf9 B6.out.1; have hb6l := B6.out.1.lt; have hb6g := B6.out.2.1)); (try (have hne56 := (Bd.ne B5.out B6.out).1; have hne65 := (Bd.ne B5.out B6.out).2)); have hz1 := hv.size; clear hm1 hb1 hc1 hv m0 m1 m2 m3 m4 m5 m6 m7 m8 m9 m10 m11))
    all_goals
      go_wp2_with fail
      go_meet
      first
        | with_reducible exact HF.out.lA
        | with_reducible exact HF.out.lB
        | with_reducible exact HF.out.lC1 B5.out
        | with_reducible exact HF.out.lC2 B5.out
        | with_reducible exact HF.out.lD1 B6.out
        | with_reducible exact HF.out.lD2 B6.out
        | with_reducible exact HF.out.lE1 B5.out B6.out
        | with_reducible exact HF.out.lE2 B5.out B6.out
  case rest =>
    obtain ⟨b5, b6, pd, xd, rfl, rfl, hx5, hx6, hpm, hxm, hbl⟩ := hcut
    have HPM := Lib.hid (show MF (M (· < wc.heap.size) wc d) (· < wc.heap.size) wc pgF [.slice pa0 pn0 pc0, .slice pa1 pn1 pc1, .slice pa2 pn2 pc2] pd from by rw [HPS.out]; exact hpm)
    have HXM := Lib.hid (show M (· < wc.heap.size) wc d .ex [.int .i64 x0, .string s1, .int .i64 x2, .slice a3 n3 c3, .slice a4 n4 c4, .slice a5 n5 c5, .slice a6 n6 c6, .int .i64 x7, .int .i64 x8] xd from by rw [HXS.out]; exact hxm)
    clear hpm hxm
    obtain ⟨ja0, jn0, jc0, qb0, qe0, jC0, jD0, ja1, jn1, jc1, qb1, qe1, jC1, jD1, ja2, jn2, jc2, qb2, qe2, jC2, jD2, hq, rfl, r0, r1, r2⟩ := inw_pg HPM.out
    obtain ⟨d2, -, hmf⟩ := HXM.out.mf
    obtain ⟨y0, v1, y2, ka3, qn3, kc3, qb3, qe3, kS3, ka4, qn4, kc4, qb4, qe4, kC4, kD4, ka5, qn5, kc5, qb5, qe5, kC5, kD5, ka6, qn6, kc6, qb6, qe6, kC6, kD6, y7, y8, -, rfl, -, -, -, -, -⟩ := inw_ex hmf
    clear hmf hq
    have HBW := Lib.hid hbl
    have HR0 := Lib.hid r0.tob
    have HR1 := Lib.hid r1.tob
    have HR2 := Lib.hid r2.tob
    have HB5 := Lib.hid (show Box wc b5 TPg #[.slice qb0 jn0 qe0, .slice qb1 jn1 qe1, .slice qb2 jn2 qe2] from hx5)
    have HB6 := Lib.hid (show Box wc b6 TXp #[.int .i64 y0, .string v1, .int .i64 y2, .slice qb3 qn3 qe3, .slice qb4 qn4 qe4, .slice qb5 qn5 qe5, .slice qb6 qn6 qe6, .int .i64 0, .int .i64 0] from hx6)
    clear hx5 hx6 r0 r1 r2 p0 p1 p2 e0 e1 e2 e3 e4 e5 e6 e7 e8
    have hlw := hbl.size
    have HXP2 := Lib.hid (HXP.out.below hbl HXP.out.lt)
    have HXE2 := Lib.hid (HXE.out.below hbl HXE.out.lt)
    clear hbl
    have HC1 := Lib.hid (show Calls Tryz.prog 8 #[.agg #[.slice pa0 pn0 pc0, .slice pa1 pn1 pc1, .slice pa2 pn2 pc2], .agg #[.slice qb0 jn0 qe0, .slice qb1 jn1 qe1, .slice qb2 jn2 qe2], .bool false] wc (Tr wc) from samePrograms wc HPM.out)
    obtain ⟨p0, p1, p2⟩ := bc3 HXP2.out
    obtain ⟨i0, i1, i2⟩ := bc3 HB5.out
    go_wp2_with fail
    refine HC1.out.mono ?_
    rintro e w1 ⟨rfl, hb1⟩
    have HB1 := Lib.hid hb1
    have HC2 := Lib.hid (bareProgram (e0 := qe0) (e1 := qe1) (e2 := qe2) w1 (HR0.out.at_ hb1) (HR1.out.at_ hb1) (HR2.out.at_ hb1))
    have HB51 := Lib.hid (HB5.out.below hb1 HB5.out.lt)
    clear hb1 p0 p1 p2 i0 i1 i2
    obtain ⟨i0, i1, i2⟩ := bc3 HB51.out
    go_wp2_with fail
    refine HC2.out.mono ?_
    rintro e w2 ⟨rfl, hb2⟩
    have HB12 := Lib.hid (HB1.out.trans (hb2.mono HB1.out.size))
    have HXE3 := Lib.hid (HXE2.out.below HB12.out HXE2.out.lt)
    have HB62 := Lib.hid (HB6.out.below HB12.out HB6.out.lt)
    have HC3 := Lib.hid (show Calls Tryz.prog 10 #[.agg #[.int .i64 x0, .string s1, .int .i64 x2, .slice a3 n3 c3, .slice a4 n4 c4, .slice a5 n5 c5, .slice a6 n6 c6, .int .i64 x7, .int .i64 x8], .agg #[.int .i64 y0, .string v1, .int .i64 y2, .slice qb3 qn3 qe3, .slice qb4 qn4 qe4, .slice qb5 qn5 qe5, .slice qb6 qn6 qe6, .int .i64 0, .int .i64 0], .bool false] w2 (Tr w2) from sameExpr d w2 _ _ (HXM.out.at_ HB12.out))
    clear hb2 i0 i1 i2
    obtain ⟨e0, e1, e2, e3, e4, e5, e6, e7, e8⟩ := bc9 HXE3.out
    obtain ⟨t0, t1, t2, t3, t4, t5, t6, t7, t8⟩ := bc9 HB62.out
    go_wp2_with fail
    refine HC3.out.mono ?_
    rintro e w3 ⟨rfl, hb3⟩
    have HB13 := Lib.hid (HB12.out.trans (hb3.mono HB12.out.size))
    have HB63 := Lib.hid (HB62.out.below hb3 HB62.out.lt)
    have HBA := Lib.hid (be1 w3 (.cells #[.int .i64 y0, .string v1, .int .i64 y2, .slice qb3 qn3 qe3, .slice qb4 qn4 qe4, .slice qb5 qn5 qe5, .slice qb6 qn6 qe6, .int .i64 0, .int .i64 0] TXp))
    have HC4 := Lib.hid (bareExprs d _ (some ⟨w3.heap.size, 0, none⟩) 1 1 (fun _ => [.int .i64 y0, .string v1, .int .i64 y2, .slice qb3 qn3 qe3, .slice qb4 qn4 qe4, .slice qb5 qn5 qe5, .slice qb6 qn6 qe6, .int .i64 0, .int .i64 0]) (RowB.single (κ := .ex) (by decide) (Box.new w3 #[.int .i64 y0, .string v1, .int .i64 y2, .slice qb3 qn3 qe3, .slice qb4 qn4 qe4, .slice qb5 qn5 qe5, .slice qb6 qn6 qe6, .int .i64 0, .int .i64 0] TXp) rfl ((HXM.out.at_ HB13.out).at_ HBA.out)))
    clear hb3 e0 e1 e2 e3 e4 e5 e6 e7 e8 t0 t1 t2 t3 t4 t5 t6 t7 t8
    obtain ⟨t0, t1, t2, t3, t4, t5, t6, t7, t8⟩ := bc9 HB63.out
    go_wp2_with fail
    refine HC4.out.mono ?_
    rintro e w4 ⟨rfl, hb4⟩
    have HB14 := Lib.hid (HB13.out.trans ((HBA.out.trans (hb4.mono HBA.out.size)).mono HB13.out.size))
    have HKN := Lib.hid (HKA.out w4)
    clear hb4 t0 t1 t2 t3 t4 t5 t6 t7 t8
    go_wp2_with fail
    refine HKN.out.mono ?_
    rintro e w5 ⟨rfl, hb5⟩
    have HE := Lib.hid (HB2.out.trans ((HBW.out.trans ((HB14.out.trans (hb5.mono HB14.out.size)).mono HBW.out.size)).mono HB2.out.size))
    clear hb5
    go_wp2_with fail
    go_ret
    exact ⟨rfl, HE.out⟩
end Go.Proofs.YtdajihpfedbihaaGreat.ParseStrips
