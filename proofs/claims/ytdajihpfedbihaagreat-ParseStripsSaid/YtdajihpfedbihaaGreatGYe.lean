/-
  CONTRACTS of layer parse: copies without places (cl, rh, al, pg). Written by gen_stbare.py.
-/
import Derived.Test.YtdajihpfedbihaaGreatGYd

namespace Go.Proofs.YtdajihpfedbihaaGreat.St
open Go.RowKit Mm Tm
set_option linter.unusedVariables false
set_option linter.unusedSimpArgs false
set_option maxRecDepth 100000 in
set_option maxHeartbeats 8000000 in
theorem bare_cl {d : Nat} (ih_pt : Cps 54 .pt (d)) (ih_rh : Cps 56 .rh (d)) : Cps 53 .cl (d + 1) := by
  intro S w cs hS hG
  have hff : FF (G (· < S) w d) (· < S) w (schema .cl) cs := hG
  obtain ⟨a0, n0, c0, C0, a1, n1, c1, C1, rfl, q0, q1⟩ := inv_cl hff
  show Calls Tryz.prog 53 #[.agg #[.slice a0 n0 c0, .slice a1 n1 c1]] w (CpPost .cl (d + 1) S [.slice a0 n0 c0, .slice a1 n1 c1] w)
  have HS := Lib.hid hS
  have Hq0 := Lib.hid q0
  have Hq1 := Lib.hid q1
  have hcl : ∀ x : Nat, (w.heap.size ≤ x ∧ x < w.heap.size + 2) → S ≤ x ∧ x < w.heap.size + 2 := fun x e => ⟨Nat.le_trans hS e.1, e.2⟩
  have HCL := Lib.hid hcl
  obtain ⟨W2, hW2⟩ : ∃ W2, (w.alloc (.cells #[.slice a0 n0 c0, .slice a1 n1 c1] 100)).alloc (.cells #[.slice none 0 0, .slice none 0 0] 100) = W2 := ⟨_, rfl⟩
  have HK := Lib.hid (show Kept (fun x => w.heap.size ≤ x ∧ x < w.heap.size + 2) w W2.drew from by rw [← hW2]; exact (((Kept.refl _ w).alloc _).alloc _).drew)
  have HX := Lib.hid (show Box W2 w.heap.size 100 #[.slice a0 n0 c0, .slice a1 n1 c1] from by rw [← hW2]; exact (Box.new w _ _).alloc _)
  have HR := Lib.hid (show Box W2 (w.heap.size + 1) 100 #[.slice none 0 0, .slice none 0 0] from by rw [← hW2]; exact Box.at_ _ _ (by simp))
  have HZ2 := Lib.hid (show w.heap.size + 2 ≤ W2.drew.heap.size from by rw [← hW2]; show _ ≤ (World.alloc _ _).heap.size; simp)
  clear hS hcl hff q0 q1
  have IH_pt := Lib.hid ih_pt
  have IH_rh := Lib.hid ih_rh
  clear ih_pt ih_rh
  have HE0 := Lib.hid (each_pt (c := c0) W2.drew (enters_of Tryz.func54 (by kernel_rfl) rfl) IH_pt.out (Nat.le_trans HS.out HK.out.size) (Hq0.out.kept HK.out HS.out fun x e => (HCL.out x e).1))
  obtain ⟨p0, p1⟩ := bc2 HX.out
  go_enter Tryz.func53, Tryz.ntmps53
  go_wp2_with fail
  go_region_held3 (fun w' => w'.cell? ⟨w.heap.size, 0, none⟩ = some (.slice a0 n0 c0) ∧ w'.cell? ⟨w.heap.size, 1, none⟩ = some (.slice a1 n1 c1))
    (first
      | exact ⟨p0, p1⟩
      | exact ⟨m0_0, m0_1⟩
      | exact ⟨m1_0, m1_1⟩
      | (rw [hWz]; exact ⟨o0, o1⟩)
      | exact ⟨o0, o1⟩)
    (first
      | (go_at_call 80; refine HE0.out.mono ?_; rintro e V0 ⟨b0, e0, D0, rfl, hrow, hel, hb⟩; have HC0 := Lib.hid (CR.base (⟨hrow, hel⟩ : CR .pt d S W2.drew.heap.size n0 C0 b0 D0 V0) (Nat.le_trans HZ2.out (Nat.le_refl _))); clear hrow hel; have HSZ0 := Lib.hid (hb.size); have HX0 := Lib.hid (Box.below HX.out.drew hb HX.out.lt); have HR0 := Lib.hid (Box.below HR.out.drew hb HR.out.lt); have HK0 := Lib.hid (HK.out.trans (Kept.of_below hb (Nat.le_refl _) _)); obtain ⟨m0_0, m0_1⟩ := bc2 HX0.out; have HE1 := Lib.hid (each_rh (c := c1) V0 (enters_of Tryz.func56 (by kernel_rfl) rfl) IH_rh.out (Nat.le_trans HS.out HK0.out.size) (Hq1.out.kept HK0.out HS.out fun x e => (HCL.out x e).1)); clear hb)
      | (go_at_call 55; refine HE1.out.mono ?_; rintro e V1 ⟨b1, e1, D1, rfl, hrow, hel, hb⟩; have HC1 := Lib.hid (CR.base (⟨hrow, hel⟩ : CR .rh d S V0.heap.size n1 C1 b1 D1 V1) (Nat.le_trans HZ2.out HSZ0.out)); clear hrow hel; have HSZ1 := Lib.hid (Nat.le_trans HSZ0.out hb.size); have HC0 := Lib.hid (HC0.out.below hb); have HX1 := Lib.hid (Box.below HX0.out hb HX0.out.lt); have HR1 := Lib.hid (Box.below HR0.out hb HR0.out.lt); have HK1 := Lib.hid (HK0.out.trans (Kept.of_below hb (Nat.le_refl _) _)); obtain ⟨m1_0, m1_1⟩ := bc2 HX1.out; obtain ⟨r0, r1⟩ := bc2 HR1.out; obtain ⟨rf0, rf1⟩ := bf2 HR1.out; obtain ⟨Wz, hWz, hbz, hwz⟩ := bw2 HR1.out (.slice b0 n0 e0) (.slice b1 n1 e1); obtain ⟨o0, o1⟩ := bc2 (Box.wrote HX1.out hwz (by omega)); have HBZ := Lib.hid hbz; have HWZ := Lib.hid hwz; clear hb))
  go_wp2_with fail
  obtain ⟨zz0, zz1⟩ := bc2 HBZ.out
  refine bodyPost_ret (v := .agg #[.slice b0 n0 e0, .slice b1 n1 e1]) (by simp [results, Tryz.results53, go_sem, zz0, zz1]) rfl ?_
  have hkz := kept_of_wrote HK1.out HWZ.out (fun _ => ⟨by omega, by omega⟩)
  have hlz := kept_of_wrote (Kept.refl (fun x => w.heap.size ≤ x ∧ x < w.heap.size + 2) V1) HWZ.out (fun _ => ⟨by omega, by omega⟩)
  have hsz : S ≤ Wz.heap.size := Nat.le_trans HS.out hkz.size
  refine ⟨[.slice b0 n0 e0, .slice b1 n1 e1], rfl, ?_, hkz.below (Nat.le_refl _) fun x e => e.1⟩
  show MF (M (Zs S w.heap.size Wz) Wz d) (Zs S w.heap.size Wz) Wz [.row .pt, .row .rh] _ _
  exact (RowF.end_ (Hq0.out.kept hkz HS.out fun x e => (HCL.out x e).1) (HC0.out.kept hlz HCL.out) hsz (Nat.le_add_right _ 2) (RowF.end_ (Hq1.out.kept hkz HS.out fun x e => (HCL.out x e).1) (HC1.out.kept hlz HCL.out) hsz (Nat.le_add_right _ 2) .nil))
set_option maxRecDepth 100000 in
set_option maxHeartbeats 8000000 in
theorem bare_rh {d : Nat} (ih_ex : Cps 7 .ex (d)) (ih_ex1 : Cps 7 .ex (d + 1)) : Cps 56 .rh (d + 1) := by
  intro S w cs hS hG
  have hff : FF (G (· < S) w d) (· < S) w (schema .rh) cs := hG
  obtain ⟨a0, n0, c0, C0, us, rfl, q0, hin⟩ := split_rh hff
  have hin1 : G (· < S) w (d + 1) .ex us := hin
  obtain ⟨x1, s2, x3, a4, n4, c4, S4, a5, n5, c5, C5, a6, n6, c6, C6, a7, n7, c7, C7, x8, x9, rfl, -⟩ := inv_ex hin
  show Calls Tryz.prog 56 #[.agg #[.slice a0 n0 c0, .int .i64 x1, .string s2, .int .i64 x3, .slice a4 n4 c4, .slice a5 n5 c5, .slice a6 n6 c6, .slice a7 n7 c7, .int .i64 x8, .int .i64 x9]] w (CpPost .rh (d + 1) S [.slice a0 n0 c0, .int .i64 x1, .string s2, .int .i64 x3, .slice a4 n4 c4, .slice a5 n5 c5, .slice a6 n6 c6, .slice a7 n7 c7, .int .i64 x8, .int .i64 x9] w)
  have HS := Lib.hid hS
  have Hq0 := Lib.hid q0
  have HIN := Lib.hid hin1
  have hcl : ∀ x : Nat, (w.heap.size ≤ x ∧ x < w.heap.size + 2) → S ≤ x ∧ x < w.heap.size + 2 := fun x e => ⟨Nat.le_trans hS e.1, e.2⟩
  have HCL := Lib.hid hcl
  obtain ⟨W2, hW2⟩ : ∃ W2, (w.alloc (.cells #[.slice a0 n0 c0, .int .i64 x1, .string s2, .int .i64 x3, .slice a4 n4 c4, .slice a5 n5 c5, .slice a6 n6 c6, .slice a7 n7 c7, .int .i64 x8, .int .i64 x9] 102)).alloc (.cells #[.slice none 0 0, .int .i64 0, .string ⟨#[]⟩, .int .i64 0, .slice none 0 0, .slice none 0 0, .slice none 0 0, .slice none 0 0, .int .i64 0, .int .i64 0] 102) = W2 := ⟨_, rfl⟩
  have HK := Lib.hid (show Kept (fun x => w.heap.size ≤ x ∧ x < w.heap.size + 2) w W2.drew from by rw [← hW2]; exact (((Kept.refl _ w).alloc _).alloc _).drew)
  have HX := Lib.hid (show Box W2 w.heap.size 102 #[.slice a0 n0 c0, .int .i64 x1, .string s2, .int .i64 x3, .slice a4 n4 c4, .slice a5 n5 c5, .slice a6 n6 c6, .slice a7 n7 c7, .int .i64 x8, .int .i64 x9] from by rw [← hW2]; exact (Box.new w _ _).alloc _)
  have HR := Lib.hid (show Box W2 (w.heap.size + 1) 102 #[.slice none 0 0, .int .i64 0, .string ⟨#[]⟩, .int .i64 0, .slice none 0 0, .slice none 0 0, .slice none 0 0, .slice none 0 0, .int .i64 0, .int .i64 0] from by rw [← hW2]; exact Box.at_ _ _ (by simp))
  have HZ2 := Lib.hid (show w.heap.size + 2 ≤ W2.drew.heap.size from by rw [← hW2]; show _ ≤ (World.alloc _ _).heap.size; simp)
  clear hS hcl hff q0 hin hin1
  have IH_ex := Lib.hid ih_ex
  have IH_ex1 := Lib.hid ih_ex1
  clear ih_ex ih_ex1
  have HE0 := Lib.hid (each_ex (c := c0) W2.drew (enters_of Tryz.func7 (by kernel_rfl) rfl) IH_ex.out (Nat.le_trans HS.out HK.out.size) (Hq0.out.kept HK.out HS.out fun x e => (HCL.out x e).1))
  obtain ⟨p0, p1, p2, p3, p4, p5, p6, p7, p8, p9⟩ := bc10 HX.out
  go_enter Tryz.func56, Tryz.ntmps56
  go_wp2_with fail
  go_region_held3 (fun w' => w'.cell? ⟨w.heap.size, 0, none⟩ = some (.slice a0 n0 c0) ∧ w'.cell? ⟨w.heap.size, 1, none⟩ = some (.int .i64 x1) ∧ w'.cell? ⟨w.heap.size, 2, none⟩ = some (.string s2) ∧ w'.cell? ⟨w.heap.size, 3, none⟩ = some (.int .i64 x3) ∧ w'.cell? ⟨w.heap.size, 4, none⟩ = some (.slice a4 n4 c4) ∧ w'.cell? ⟨w.heap.size, 5, none⟩ = some (.slice a5 n5 c5) ∧ w'.cell? ⟨w.heap.size, 6, none⟩ = some (.slice a6 n6 c6) ∧ w'.cell? ⟨w.heap.size, 7, none⟩ = some (.slice a7 n7 c7) ∧ w'.cell? ⟨w.heap.size, 8, none⟩ = some (.int .i64 x8) ∧ w'.cell? ⟨w.heap.size, 9, none⟩ = some (.int .i64 x9))
    (first
      | exact ⟨p0, p1, p2, p3, p4, p5, p6, p7, p8, p9⟩
      | exact ⟨m0_0, m0_1, m0_2, m0_3, m0_4, m0_5, m0_6, m0_7, m0_8, m0_9⟩
      | exact ⟨m1_0, m1_1, m1_2, m1_3, m1_4, m1_5, m1_6, m1_7, m1_8, m1_9⟩
      | (rw [hWz]; exact ⟨o0, o1, o2, o3, o4, o5, o6, o7, o8, o9⟩)
      | exact ⟨o0, o1, o2, o3, o4, o5, o6, o7, o8, o9⟩)
    (first
      | (go_at_call 29; refine HE0.out.mono ?_; rintro e V0 ⟨b0, e0, D0, rfl, hrow, hel, hb⟩; have HC0 := Lib.hid (CR.base (⟨hrow, hel⟩ : CR .ex d S W2.drew.heap.size n0 C0 b0 D0 V0) (Nat.le_trans HZ2.out (Nat.le_refl _))); clear hrow hel; have HSZ0 := Lib.hid (hb.size); have HX0 := Lib.hid (Box.below HX.out.drew hb HX.out.lt); have HR0 := Lib.hid (Box.below HR.out.drew hb HR.out.lt); have HK0 := Lib.hid (HK.out.trans (Kept.of_below hb (Nat.le_refl _) _)); obtain ⟨m0_0, m0_1, m0_2, m0_3, m0_4, m0_5, m0_6, m0_7, m0_8, m0_9⟩ := bc10 HX0.out; have HE1 := Lib.hid ((show Calls Tryz.prog 7 #[.agg #[.int .i64 x1, .string s2, .int .i64 x3, .slice a4 n4 c4, .slice a5 n5 c5, .slice a6 n6 c6, .slice a7 n7 c7, .int .i64 x8, .int .i64 x9]] _ (CpPost .ex (d + 1) S [.int .i64 x1, .string s2, .int .i64 x3, .slice a4 n4 c4, .slice a5 n5 c5, .slice a6 n6 c6, .slice a7 n7 c7, .int .i64 x8, .int .i64 x9] _) from IH_ex1.out S V0 _ (Nat.le_trans HS.out HK0.out.size) (HIN.out.kept HK0.out HS.out fun x e => (HCL.out x e).1))); clear hb)
      | (go_at_call 7; refine HE1.out.mono ?_; rintro e V1 ⟨ds, rfl, hm, hb⟩; obtain ⟨d2, -, hmf⟩ := hm.mf; obtain ⟨u1, v2, u3, g4, m4, k4, b4, e4, R4, g5, m5, k5, b5, e5, P5, Q5, g6, m6, k6, b6, e6, P6, Q6, g7, m7, k7, b7, e7, P7, Q7, u8, u9, -, rfl, -⟩ := inw_ex hmf; have HC1 := Lib.hid (M.base hm (Nat.le_trans HZ2.out HSZ0.out)); clear hmf hm; have HSZ1 := Lib.hid (Nat.le_trans HSZ0.out hb.size); have HC0 := Lib.hid (HC0.out.below hb); have HX1 := Lib.hid (Box.below HX0.out hb HX0.out.lt); have HR1 := Lib.hid (Box.below HR0.out hb HR0.out.lt); have HK1 := Lib.hid (HK0.out.trans (Kept.of_below hb (Nat.le_refl _) _)); obtain ⟨m1_0, m1_1, m1_2, m1_3, m1_4, m1_5, m1_6, m1_7, m1_8, m1_9⟩ := bc10 HX1.out; obtain ⟨r0, r1, r2, r3, r4, r5, r6, r7, r8, r9⟩ := bc10 HR1.out; obtain ⟨rf0, rf1, rf2, rf3, rf4, rf5, rf6, rf7, rf8, rf9⟩ := bf10 HR1.out; obtain ⟨Wz, hWz, hbz, hwz⟩ := bw10 HR1.out (.slice b0 n0 e0) (.int .i64 u1) (.string v2) (.int .i64 u3) (.slice b4 m4 e4) (.slice b5 m5 e5) (.slice b6 m6 e6) (.slice b7 m7 e7) (.int .i64 0) (.int .i64 0); obtain ⟨o0, o1, o2, o3, o4, o5, o6, o7, o8, o9⟩ := bc10 (Box.wrote HX1.out hwz (by omega)); have HBZ := Lib.hid hbz; have HWZ := Lib.hid hwz; clear hb))
  go_wp2_with fail
  obtain ⟨zz0, zz1, zz2, zz3, zz4, zz5, zz6, zz7, zz8, zz9⟩ := bc10 HBZ.out
  refine bodyPost_ret (v := .agg #[.slice b0 n0 e0, .int .i64 u1, .string v2, .int .i64 u3, .slice b4 m4 e4, .slice b5 m5 e5, .slice b6 m6 e6, .slice b7 m7 e7, .int .i64 0, .int .i64 0]) (by simp [results, Tryz.results56, go_sem, zz0, zz1, zz2, zz3, zz4, zz5, zz6, zz7, zz8, zz9]) rfl ?_
  have hkz := kept_of_wrote HK1.out HWZ.out (fun _ => ⟨by omega, by omega⟩)
  have hlz := kept_of_wrote (Kept.refl (fun x => w.heap.size ≤ x ∧ x < w.heap.size + 2) V1) HWZ.out (fun _ => ⟨by omega, by omega⟩)
  have hsz : S ≤ Wz.heap.size := Nat.le_trans HS.out hkz.size
  refine ⟨[.slice b0 n0 e0, .int .i64 u1, .string v2, .int .i64 u3, .slice b4 m4 e4, .slice b5 m5 e5, .slice b6 m6 e6, .slice b7 m7 e7, .int .i64 0, .int .i64 0], rfl, ?_, hkz.below (Nat.le_refl _) fun x e => e.1⟩
  show MF (M (Zs S w.heap.size Wz) Wz d) (Zs S w.heap.size Wz) Wz (.row .ex :: schema .ex) _ _
  exact (RowF.end_ (Hq0.out.kept hkz HS.out fun x e => (HCL.out x e).1) (HC0.out.kept hlz HCL.out) hsz (Nat.le_add_right _ 2) (M.base (M.kept HC1.out hlz HCL.out) (Nat.le_add_right _ 2)))
set_option maxRecDepth 100000 in
set_option maxHeartbeats 8000000 in
theorem bare_al {d : Nat} (ih_pt1 : Cps 54 .pt (d + 1)) (ih_rh : Cps 56 .rh (d)) : Cps 31 .al (d + 1) := by
  intro S w cs hS hG
  have hff : FF (G (· < S) w d) (· < S) w (schema .al) cs := hG
  obtain ⟨us, a6, n6, c6, C6, rfl, hin, q6⟩ := split_al hff
  have hin1 : G (· < S) w (d + 1) .pt us := hin
  obtain ⟨x0, s1, x2, a3, n3, c3, C3, x4, x5, rfl, -⟩ := inv_pt hin
  show Calls Tryz.prog 31 #[.agg #[.int .i64 x0, .string s1, .int .i64 x2, .slice a3 n3 c3, .int .i64 x4, .int .i64 x5, .slice a6 n6 c6]] w (CpPost .al (d + 1) S [.int .i64 x0, .string s1, .int .i64 x2, .slice a3 n3 c3, .int .i64 x4, .int .i64 x5, .slice a6 n6 c6] w)
  have HS := Lib.hid hS
  have Hq6 := Lib.hid q6
  have HIN := Lib.hid hin1
  have hcl : ∀ x : Nat, (w.heap.size ≤ x ∧ x < w.heap.size + 2) → S ≤ x ∧ x < w.heap.size + 2 := fun x e => ⟨Nat.le_trans hS e.1, e.2⟩
  have HCL := Lib.hid hcl
  obtain ⟨W2, hW2⟩ : ∃ W2, (w.alloc (.cells #[.int .i64 x0, .string s1, .int .i64 x2, .slice a3 n3 c3, .int .i64 x4, .int .i64 x5, .slice a6 n6 c6] 86)).alloc (.cells #[.int .i64 0, .string ⟨#[]⟩, .int .i64 0, .slice none 0 0, .int .i64 0, .int .i64 0, .slice none 0 0] 86) = W2 := ⟨_, rfl⟩
  have HK := Lib.hid (show Kept (fun x => w.heap.size ≤ x ∧ x < w.heap.size + 2) w W2.drew from by rw [← hW2]; exact (((Kept.refl _ w).alloc _).alloc _).drew)
  have HX := Lib.hid (show Box W2 w.heap.size 86 #[.int .i64 x0, .string s1, .int .i64 x2, .slice a3 n3 c3, .int .i64 x4, .int .i64 x5, .slice a6 n6 c6] from by rw [← hW2]; exact (Box.new w _ _).alloc _)
  have HR := Lib.hid (show Box W2 (w.heap.size + 1) 86 #[.int .i64 0, .string ⟨#[]⟩, .int .i64 0, .slice none 0 0, .int .i64 0, .int .i64 0, .slice none 0 0] from by rw [← hW2]; exact Box.at_ _ _ (by simp))
  have HZ2 := Lib.hid (show w.heap.size + 2 ≤ W2.drew.heap.size from by rw [← hW2]; show _ ≤ (World.alloc _ _).heap.size; simp)
  clear hS hcl hff q6 hin hin1
  have IH_pt1 := Lib.hid ih_pt1
  have IH_rh := Lib.hid ih_rh
  clear ih_pt1 ih_rh
  have HE0 := Lib.hid ((show Calls Tryz.prog 54 #[.agg #[.int .i64 x0, .string s1, .int .i64 x2, .slice a3 n3 c3, .int .i64 x4, .int .i64 x5]] _ (CpPost .pt (d + 1) S [.int .i64 x0, .string s1, .int .i64 x2, .slice a3 n3 c3, .int .i64 x4, .int .i64 x5] _) from IH_pt1.out S W2.drew _ (Nat.le_trans HS.out HK.out.size) (HIN.out.kept HK.out HS.out fun x e => (HCL.out x e).1)))
  obtain ⟨p0, p1, p2, p3, p4, p5, p6⟩ := bc7 HX.out
  go_enter Tryz.func31, Tryz.ntmps31
  go_wp2_with fail
  go_region_held3 (fun w' => w'.cell? ⟨w.heap.size, 0, none⟩ = some (.int .i64 x0) ∧ w'.cell? ⟨w.heap.size, 1, none⟩ = some (.string s1) ∧ w'.cell? ⟨w.heap.size, 2, none⟩ = some (.int .i64 x2) ∧ w'.cell? ⟨w.heap.size, 3, none⟩ = some (.slice a3 n3 c3) ∧ w'.cell? ⟨w.heap.size, 4, none⟩ = some (.int .i64 x4) ∧ w'.cell? ⟨w.heap.size, 5, none⟩ = some (.int .i64 x5) ∧ w'.cell? ⟨w.heap.size, 6, none⟩ = some (.slice a6 n6 c6))
    (first
      | exact ⟨p0, p1, p2, p3, p4, p5, p6⟩
      | exact ⟨m0_0, m0_1, m0_2, m0_3, m0_4, m0_5, m0_6⟩
      | exact ⟨m1_0, m1_1, m1_2, m1_3, m1_4, m1_5, m1_6⟩
      | (rw [hWz]; exact ⟨o0, o1, o2, o3, o4, o5, o6⟩)
      | exact ⟨o0, o1, o2, o3, o4, o5, o6⟩)
    (first
      | (go_at_call 54; refine HE0.out.mono ?_; rintro e V0 ⟨ds, rfl, hm, hb⟩; obtain ⟨d2, -, hmf⟩ := hm.mf; obtain ⟨u0, v1, u2, g3, m3, k3, b3, e3, P3, Q3, u4, u5, -, rfl, -⟩ := inw_pt hmf; have HC0 := Lib.hid (M.base hm (Nat.le_trans HZ2.out (Nat.le_refl _))); clear hmf hm; have HSZ0 := Lib.hid (hb.size); have HX0 := Lib.hid (Box.below HX.out.drew hb HX.out.lt); have HR0 := Lib.hid (Box.below HR.out.drew hb HR.out.lt); have HK0 := Lib.hid (HK.out.trans (Kept.of_below hb (Nat.le_refl _) _)); obtain ⟨m0_0, m0_1, m0_2, m0_3, m0_4, m0_5, m0_6⟩ := bc7 HX0.out; have HE1 := Lib.hid (each_rh (c := c6) V0 (enters_of Tryz.func56 (by kernel_rfl) rfl) IH_rh.out (Nat.le_trans HS.out HK0.out.size) (Hq6.out.kept HK0.out HS.out fun x e => (HCL.out x e).1)); clear hb)
      | (go_at_call 55; refine HE1.out.mono ?_; rintro e V1 ⟨b6, e6, D6, rfl, hrow, hel, hb⟩; have HC1 := Lib.hid (CR.base (⟨hrow, hel⟩ : CR .rh d S V0.heap.size n6 C6 b6 D6 V1) (Nat.le_trans HZ2.out HSZ0.out)); clear hrow hel; have HSZ1 := Lib.hid (Nat.le_trans HSZ0.out hb.size); have HC0 := Lib.hid (M.below' HC0.out hb); have HX1 := Lib.hid (Box.below HX0.out hb HX0.out.lt); have HR1 := Lib.hid (Box.below HR0.out hb HR0.out.lt); have HK1 := Lib.hid (HK0.out.trans (Kept.of_below hb (Nat.le_refl _) _)); obtain ⟨m1_0, m1_1, m1_2, m1_3, m1_4, m1_5, m1_6⟩ := bc7 HX1.out; obtain ⟨r0, r1, r2, r3, r4, r5, r6⟩ := bc7 HR1.out; obtain ⟨rf0, rf1, rf2, rf3, rf4, rf5, rf6⟩ := bf7 HR1.out; obtain ⟨Wz, hWz, hbz, hwz⟩ := bw7 HR1.out (.int .i64 u0) (.string v1) (.int .i64 u2) (.slice b3 m3 e3) (.int .i64 0) (.int .i64 0) (.slice b6 n6 e6); obtain ⟨o0, o1, o2, o3, o4, o5, o6⟩ := bc7 (Box.wrote HX1.out hwz (by omega)); have HBZ := Lib.hid hbz; have HWZ := Lib.hid hwz; clear hb))
  go_wp2_with fail
  obtain ⟨zz0, zz1, zz2, zz3, zz4, zz5, zz6⟩ := bc7 HBZ.out
  refine bodyPost_ret (v := .agg #[.int .i64 u0, .string v1, .int .i64 u2, .slice b3 m3 e3, .int .i64 0, .int .i64 0, .slice b6 n6 e6]) (by simp [results, Tryz.results31, go_sem, zz0, zz1, zz2, zz3, zz4, zz5, zz6]) rfl ?_
  have hkz := kept_of_wrote HK1.out HWZ.out (fun _ => ⟨by omega, by omega⟩)
  have hlz := kept_of_wrote (Kept.refl (fun x => w.heap.size ≤ x ∧ x < w.heap.size + 2) V1) HWZ.out (fun _ => ⟨by omega, by omega⟩)
  have hsz : S ≤ Wz.heap.size := Nat.le_trans HS.out hkz.size
  refine ⟨[.int .i64 u0, .string v1, .int .i64 u2, .slice b3 m3 e3, .int .i64 0, .int .i64 0, .slice b6 n6 e6], rfl, ?_, hkz.below (Nat.le_refl _) fun x e => e.1⟩
  exact MF.append (l := schema .pt) (m := [.row .rh]) (cs := [.int .i64 x0, .string s1, .int .i64 x2, .slice a3 n3 c3, .int .i64 x4, .int .i64 x5]) (ds := [.int .i64 u0, .string v1, .int .i64 u2, .slice b3 m3 e3, .int .i64 0, .int .i64 0]) (M.base (M.kept HC0.out hlz HCL.out) (Nat.le_add_right _ 2)) (RowF.end_ (Hq6.out.kept hkz HS.out fun x e => (HCL.out x e).1) (HC1.out.kept hlz HCL.out) hsz (Nat.le_add_right _ 2) .nil)
set_option maxRecDepth 100000 in
set_option maxHeartbeats 8000000 in
theorem strip_any {d : Nat} (ih_dt : Cps 23 .dt (d)) (ih_fx : Cps 25 .fx (d)) (ih_bd : Cps 27 .bd (d)) {S : Nat} {cs : List Value} (w : World) (hS : S ≤ w.heap.size) (hff : FF (G (· < S) w d) (· < S) w [.row .dt, .row .fx, .row .bd] cs) : Calls Tryz.prog 6 #[.agg cs.toArray] w fun r w' => ∃ ds : List Value, r = .returned (.agg ds.toArray) ∧ MF (M (Zs S w.heap.size w') w' d) (Zs S w.heap.size w') w' [.row .dt, .row .fx, .row .bd] cs ds ∧ Below w.heap.size w w' := by
  obtain ⟨a0, n0, c0, C0, a1, n1, c1, C1, a2, n2, c2, C2, rfl, q0, q1, q2⟩ := inv_pg hff
  show Calls Tryz.prog 6 #[.agg #[.slice a0 n0 c0, .slice a1 n1 c1, .slice a2 n2 c2]] w _
  have HS := Lib.hid hS
  have Hq0 := Lib.hid q0
  have Hq1 := Lib.hid q1
  have Hq2 := Lib.hid q2
  have hcl : ∀ x : Nat, (w.heap.size ≤ x ∧ x < w.heap.size + 2) → S ≤ x ∧ x < w.heap.size + 2 := fun x e => ⟨Nat.le_trans hS e.1, e.2⟩
  have HCL := Lib.hid hcl
  obtain ⟨W2, hW2⟩ : ∃ W2, (w.alloc (.cells #[.slice a0 n0 c0, .slice a1 n1 c1, .slice a2 n2 c2] 26)).alloc (.cells #[.slice none 0 0, .slice none 0 0, .slice none 0 0] 26) = W2 := ⟨_, rfl⟩
  have HK := Lib.hid (show Kept (fun x => w.heap.size ≤ x ∧ x < w.heap.size + 2) w W2.drew from by rw [← hW2]; exact (((Kept.refl _ w).alloc _).alloc _).drew)
  have HX := Lib.hid (show Box W2 w.heap.size 26 #[.slice a0 n0 c0, .slice a1 n1 c1, .slice a2 n2 c2] from by rw [← hW2]; exact (Box.new w _ _).alloc _)
  have HR := Lib.hid (show Box W2 (w.heap.size + 1) 26 #[.slice none 0 0, .slice none 0 0, .slice none 0 0] from by rw [← hW2]; exact Box.at_ _ _ (by simp))
  have HZ2 := Lib.hid (show w.heap.size + 2 ≤ W2.drew.heap.size from by rw [← hW2]; show _ ≤ (World.alloc _ _).heap.size; simp)
  clear hS hcl hff q0 q1 q2
  have IH_dt := Lib.hid ih_dt
  have IH_fx := Lib.hid ih_fx
  have IH_bd := Lib.hid ih_bd
  clear ih_dt ih_fx ih_bd
  have HE0 := Lib.hid (each_dt (c := c0) W2.drew (enters_of Tryz.func23 (by kernel_rfl) rfl) IH_dt.out (Nat.le_trans HS.out HK.out.size) (Hq0.out.kept HK.out HS.out fun x e => (HCL.out x e).1))
  obtain ⟨p0, p1, p2⟩ := bc3 HX.out
  go_enter Tryz.func6, Tryz.ntmps6
  go_wp2_with fail
  go_region_held3 (fun w' => w'.cell? ⟨w.heap.size, 0, none⟩ = some (.slice a0 n0 c0) ∧ w'.cell? ⟨w.heap.size, 1, none⟩ = some (.slice a1 n1 c1) ∧ w'.cell? ⟨w.heap.size, 2, none⟩ = some (.slice a2 n2 c2))
    (first
      | exact ⟨p0, p1, p2⟩
      | exact ⟨m0_0, m0_1, m0_2⟩
      | exact ⟨m1_0, m1_1, m1_2⟩
      | exact ⟨m2_0, m2_1, m2_2⟩
      | (rw [hWz]; exact ⟨o0, o1, o2⟩)
      | exact ⟨o0, o1, o2⟩)
    (first
      | (go_at_call 22; refine HE0.out.mono ?_; rintro e V0 ⟨b0, e0, D0, rfl, hrow, hel, hb⟩; have HC0 := Lib.hid (CR.base (⟨hrow, hel⟩ : CR .dt d S W2.drew.heap.size n0 C0 b0 D0 V0) (Nat.le_trans HZ2.out (Nat.le_refl _))); clear hrow hel; have HSZ0 := Lib.hid (hb.size); have HX0 := Lib.hid (Box.below HX.out.drew hb HX.out.lt); have HR0 := Lib.hid (Box.below HR.out.drew hb HR.out.lt); have HK0 := Lib.hid (HK.out.trans (Kept.of_below hb (Nat.le_refl _) _)); obtain ⟨m0_0, m0_1, m0_2⟩ := bc3 HX0.out; have HE1 := Lib.hid (each_fx (c := c1) V0 (enters_of Tryz.func25 (by kernel_rfl) rfl) IH_fx.out (Nat.le_trans HS.out HK0.out.size) (Hq1.out.kept HK0.out HS.out fun x e => (HCL.out x e).1)); clear hb)
      | (go_at_call 24; refine HE1.out.mono ?_; rintro e V1 ⟨b1, e1, D1, rfl, hrow, hel, hb⟩; have HC1 := Lib.hid (CR.base (⟨hrow, hel⟩ : CR .fx d S V0.heap.size n1 C1 b1 D1 V1) (Nat.le_trans HZ2.out HSZ0.out)); clear hrow hel; have HSZ1 := Lib.hid (Nat.le_trans HSZ0.out hb.size); have HC0 := Lib.hid (HC0.out.below hb); have HX1 := Lib.hid (Box.below HX0.out hb HX0.out.lt); have HR1 := Lib.hid (Box.below HR0.out hb HR0.out.lt); have HK1 := Lib.hid (HK0.out.trans (Kept.of_below hb (Nat.le_refl _) _)); obtain ⟨m1_0, m1_1, m1_2⟩ := bc3 HX1.out; have HE2 := Lib.hid (each_bd (c := c2) V1 (enters_of Tryz.func27 (by kernel_rfl) rfl) IH_bd.out (Nat.le_trans HS.out HK1.out.size) (Hq2.out.kept HK1.out HS.out fun x e => (HCL.out x e).1)); clear hb)
      | (go_at_call 26; refine HE2.out.mono ?_; rintro e V2 ⟨b2, e2, D2, rfl, hrow, hel, hb⟩; have HC2 := Lib.hid (CR.base (⟨hrow, hel⟩ : CR .bd d S V1.heap.size n2 C2 b2 D2 V2) (Nat.le_trans HZ2.out HSZ1.out)); clear hrow hel; have HSZ2 := Lib.hid (Nat.le_trans HSZ1.out hb.size); have HC0 := Lib.hid (HC0.out.below hb); have HC1 := Lib.hid (HC1.out.below hb); have HX2 := Lib.hid (Box.below HX1.out hb HX1.out.lt); have HR2 := Lib.hid (Box.below HR1.out hb HR1.out.lt); have HK2 := Lib.hid (HK1.out.trans (Kept.of_below hb (Nat.le_refl _) _)); obtain ⟨m2_0, m2_1, m2_2⟩ := bc3 HX2.out; obtain ⟨r0, r1, r2⟩ := bc3 HR2.out; obtain ⟨rf0, rf1, rf2⟩ := bf3 HR2.out; obtain ⟨Wz, hWz, hbz, hwz⟩ := bw3 HR2.out (.slice b0 n0 e0) (.slice b1 n1 e1) (.slice b2 n2 e2); obtain ⟨o0, o1, o2⟩ := bc3 (Box.wrote HX2.out hwz (by omega)); have HBZ := Lib.hid hbz; have HWZ := Lib.hid hwz; clear hb))
  go_wp2_with fail
  obtain ⟨zz0, zz1, zz2⟩ := bc3 HBZ.out
  refine bodyPost_ret (v := .agg #[.slice b0 n0 e0, .slice b1 n1 e1, .slice b2 n2 e2]) (by simp [results, Tryz.results6, go_sem, zz0, zz1, zz2]) rfl ?_
  have hkz := kept_of_wrote HK2.out HWZ.out (fun _ => ⟨by omega, by omega⟩)
  have hlz := kept_of_wrote (Kept.refl (fun x => w.heap.size ≤ x ∧ x < w.heap.size + 2) V2) HWZ.out (fun _ => ⟨by omega, by omega⟩)
  have hsz : S ≤ Wz.heap.size := Nat.le_trans HS.out hkz.size
  refine ⟨[.slice b0 n0 e0, .slice b1 n1 e1, .slice b2 n2 e2], rfl, ?_, hkz.below (Nat.le_refl _) fun x e => e.1⟩
  exact (RowF.end_ (Hq0.out.kept hkz HS.out fun x e => (HCL.out x e).1) (HC0.out.kept hlz HCL.out) hsz (Nat.le_add_right _ 2) (RowF.end_ (Hq1.out.kept hkz HS.out fun x e => (HCL.out x e).1) (HC1.out.kept hlz HCL.out) hsz (Nat.le_add_right _ 2) (RowF.end_ (Hq2.out.kept hkz HS.out fun x e => (HCL.out x e).1) (HC2.out.kept hlz HCL.out) hsz (Nat.le_add_right _ 2) .nil)))
end Go.Proofs.YtdajihpfedbihaaGreat.St
/-
  CONTRACTS of layer parse: everything is copied without places (Strip, Bare).
-/
namespace Go.Proofs.YtdajihpfedbihaaGreat.St
open Go.RowKit Mm Tm
set_option linter.unusedVariables false
theorem Cps.zero {kf : Nat} {κ : Kd} : Cps kf κ 0 := fun S w cs hS h => absurd h id
structure Cs (d : Nat) : Prop where
  ty : Cps 79 .ty d
  pt : Cps 54 .pt d
  ex : Cps 7 .ex d
  rh : Cps 56 .rh d
  cl : Cps 53 .cl d
  bd : Cps 27 .bd d
  al : Cps 31 .al d
  cn : Cps 51 .cn d
  dt : Cps 23 .dt d
  fx : Cps 25 .fx d
theorem cs_all : ∀ d, Cs d
  | 0 => ⟨.zero, .zero, .zero, .zero, .zero, .zero, .zero, .zero, .zero, .zero⟩
  | d + 1 =>
    have h := cs_all d
    have hx := bare_ex h.al h.bd h.ex
    have hp := bare_pt h.pt
    ⟨bare_ty h.ty, hp, hx, bare_rh h.ex hx, bare_cl h.pt h.rh, bare_bd h.cl, bare_al hp h.rh, bare_cn h.ty, bare_dt h.cn, bare_fx⟩
end Go.Proofs.YtdajihpfedbihaaGreat.St
