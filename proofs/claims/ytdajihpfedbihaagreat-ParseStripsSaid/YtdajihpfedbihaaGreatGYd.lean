/-
  CONTRACTS of layer parse: copies without places (fx, ty, pt, cn, bd, dt). Written by gen_stbare.py.
-/
import Derived.Test.YtdajihpfedbihaaGreatGYa
import Derived.Test.YtdajihpfedbihaaGreatGYb
import Derived.Test.YtdajihpfedbihaaGreatGYc

namespace Go.Proofs.YtdajihpfedbihaaGreat.St
open Go.RowKit Mm Tm
set_option linter.unusedVariables false
set_option linter.unusedSimpArgs false
set_option maxRecDepth 100000 in
set_option maxHeartbeats 8000000 in
theorem bare_fx {d : Nat}  : Cps 25 .fx (d + 1) := by
  intro S w cs hS hG
  have hff : FF (G (· < S) w d) (· < S) w (schema .fx) cs := hG
  obtain ⟨s0, x1, x2, x3, x4, rfl, q0⟩ := inv_fx hff
  clear hG hff
  show Calls Tryz.prog 25 #[.agg #[.string s0, .int .i64 x1, .int .i64 x2, .int .i64 x3, .int .i64 x4]] w (CpPost .fx (d + 1) S [.string s0, .int .i64 x1, .int .i64 x2, .int .i64 x3, .int .i64 x4] w)
  have HS := Lib.hid hS
  have Hq0 := Lib.hid q0
  have hcl : ∀ x : Nat, (w.heap.size ≤ x ∧ x < w.heap.size + 2) → S ≤ x ∧ x < w.heap.size + 2 := fun x e => ⟨Nat.le_trans hS e.1, e.2⟩
  have HCL := Lib.hid hcl
  obtain ⟨W2, hW2⟩ : ∃ W2, (w.alloc (.cells #[.string s0, .int .i64 x1, .int .i64 x2, .int .i64 x3, .int .i64 x4] 58)).alloc (.cells #[.string ⟨#[]⟩, .int .i64 0, .int .i64 0, .int .i64 0, .int .i64 0] 58) = W2 := ⟨_, rfl⟩
  have HK := Lib.hid (show Kept (fun x => w.heap.size ≤ x ∧ x < w.heap.size + 2) w W2 from by rw [← hW2]; exact ((Kept.refl _ w).alloc _).alloc _)
  have HX := Lib.hid (show Box W2 w.heap.size 58 #[.string s0, .int .i64 x1, .int .i64 x2, .int .i64 x3, .int .i64 x4] from by rw [← hW2]; exact (Box.new w _ _).alloc _)
  have HR := Lib.hid (show Box W2 (w.heap.size + 1) 58 #[.string ⟨#[]⟩, .int .i64 0, .int .i64 0, .int .i64 0, .int .i64 0] from by rw [← hW2]; exact Box.at_ _ _ (by simp))
  have HZ2 := Lib.hid (show W2.heap.size = w.heap.size + 2 from by rw [← hW2]; simp)
  clear hS hcl q0
  go_enter Tryz.func25, Tryz.ntmps25
  obtain ⟨p0, p1, p2, p3, p4⟩ := bc5 HX.out
  obtain ⟨pf0, pf1, pf2, pf3, pf4⟩ := bf5 HX.out
  obtain ⟨Wp, hWp⟩ : ∃ W, ((W2.setCell ⟨w.heap.size, 3, none⟩ (.int .i64 0)).setCell ⟨w.heap.size, 4, none⟩ (.int .i64 0)) = W := ⟨_, rfl⟩
  have HXp := Lib.hid (show Box Wp w.heap.size 58 #[.string s0, .int .i64 x1, .int .i64 x2, .int .i64 0, .int .i64 0] from by rw [← hWp]; exact ((HX.out.put 3 (.int .i64 0)).put 4 (.int .i64 0)))
  have HRp := Lib.hid (show Box Wp (w.heap.size + 1) 58 #[.string ⟨#[]⟩, .int .i64 0, .int .i64 0, .int .i64 0, .int .i64 0] from by rw [← hWp]; exact ((HR.out.far (by show w.heap.size ≠ w.heap.size + 1; omega) _).far (by show w.heap.size ≠ w.heap.size + 1; omega) _))
  have HKp := Lib.hid (show Kept (fun x => w.heap.size ≤ x ∧ x < w.heap.size + 2) w Wp from by rw [← hWp]; exact (Kept.setCell (Kept.setCell HK.out (fun _ => ⟨Nat.le_refl _, (by show w.heap.size < w.heap.size + 2; omega)⟩) _) (fun _ => ⟨Nat.le_refl _, (by show w.heap.size < w.heap.size + 2; omega)⟩) _))
  have HLp := Lib.hid (show Kept (fun x => w.heap.size ≤ x ∧ x < w.heap.size + 2) W2 Wp from by rw [← hWp]; exact (Kept.setCell (Kept.setCell (Kept.refl (fun x => w.heap.size ≤ x ∧ x < w.heap.size + 2) W2) (fun _ => ⟨Nat.le_refl _, (by show w.heap.size < w.heap.size + 2; omega)⟩) _) (fun _ => ⟨Nat.le_refl _, (by show w.heap.size < w.heap.size + 2; omega)⟩) _))
  obtain ⟨u0, u1, u2, u3, u4⟩ := bc5 HXp.out
  obtain ⟨uf0, uf1, uf2, uf3, uf4⟩ := bf5 HXp.out
  obtain ⟨r0, r1, r2, r3, r4⟩ := bc5 HRp.out
  obtain ⟨rf0, rf1, rf2, rf3, rf4⟩ := bf5 HRp.out
  obtain ⟨Wz, hWz, hbz, hwz⟩ := bw5 HRp.out (.string s0) (.int .i64 x1) (.int .i64 x2) (.int .i64 0) (.int .i64 0)
  have HBZ := Lib.hid hbz
  have HWZ := Lib.hid hwz
  clear hbz hwz
  go_wp2_with fail
  obtain ⟨zz0, zz1, zz2, zz3, zz4⟩ := bc5 HBZ.out
  refine bodyPost_ret (v := .agg #[.string s0, .int .i64 x1, .int .i64 x2, .int .i64 0, .int .i64 0]) (by simp [results, Tryz.results25, go_sem, zz0, zz1, zz2, zz3, zz4]) rfl ?_
  have hkz := kept_of_wrote HKp.out HWZ.out (fun _ => ⟨by omega, by omega⟩)
  have hlz := kept_of_wrote HLp.out HWZ.out (fun _ => ⟨by omega, by omega⟩)
  have hsz : S ≤ Wz.heap.size := Nat.le_trans HS.out hkz.size
  refine ⟨[.string s0, .int .i64 x1, .int .i64 x2, .int .i64 0, .int .i64 0], rfl, ?_, hkz.below (Nat.le_refl _) fun x e => e.1⟩
  show MF (M (Zs S w.heap.size Wz) Wz d) (Zs S w.heap.size Wz) Wz [.str, .int, .int, .pos, .pos] _ _
  exact (.str Hq0.out (.int (.int (.pos (.pos .nil)))))
set_option maxRecDepth 100000 in
set_option maxHeartbeats 8000000 in
theorem bare_ty {d : Nat} (ih_ty : Cps 79 .ty d) : Cps 79 .ty (d + 1) := by
  intro S w cs hS hG
  have hff : FF (G (· < S) w d) (· < S) w (schema .ty) cs := hG
  obtain ⟨x0, x1, s2, a3, n3, c3, C3, rfl, q2, q3⟩ := inv_ty hff
  clear hG hff
  show Calls Tryz.prog 79 #[.agg #[.int .i64 x0, .int .i64 x1, .string s2, .slice a3 n3 c3]] w (CpPost .ty (d + 1) S [.int .i64 x0, .int .i64 x1, .string s2, .slice a3 n3 c3] w)
  have HS := Lib.hid hS
  have Hq2 := Lib.hid q2
  have Hq3 := Lib.hid q3
  have hcl : ∀ x : Nat, (w.heap.size ≤ x ∧ x < w.heap.size + 2) → S ≤ x ∧ x < w.heap.size + 2 := fun x e => ⟨Nat.le_trans hS e.1, e.2⟩
  have HCL := Lib.hid hcl
  obtain ⟨W2, hW2⟩ : ∃ W2, (w.alloc (.cells #[.int .i64 x0, .int .i64 x1, .string s2, .slice a3 n3 c3] 152)).alloc (.cells #[.int .i64 0, .int .i64 0, .string ⟨#[]⟩, .slice none 0 0] 152) = W2 := ⟨_, rfl⟩
  have HK := Lib.hid (show Kept (fun x => w.heap.size ≤ x ∧ x < w.heap.size + 2) w W2 from by rw [← hW2]; exact ((Kept.refl _ w).alloc _).alloc _)
  have HX := Lib.hid (show Box W2 w.heap.size 152 #[.int .i64 x0, .int .i64 x1, .string s2, .slice a3 n3 c3] from by rw [← hW2]; exact (Box.new w _ _).alloc _)
  have HR := Lib.hid (show Box W2 (w.heap.size + 1) 152 #[.int .i64 0, .int .i64 0, .string ⟨#[]⟩, .slice none 0 0] from by rw [← hW2]; exact Box.at_ _ _ (by simp))
  have HZ2 := Lib.hid (show W2.heap.size = w.heap.size + 2 from by rw [← hW2]; simp)
  clear hS hcl q2 q3
  have IH3 := Lib.hid ih_ty
  clear ih_ty
  go_enter Tryz.func79, Tryz.ntmps79
  obtain ⟨p0, p1, p2, p3⟩ := bc4 HX.out
  obtain ⟨pf0, pf1, pf2, pf3⟩ := bf4 HX.out
  have hs3 : S ≤ W2.heap.size := Nat.le_trans HS.out HK.out.size
  have HE3 := Lib.hid (each_ty (c := c3) W2 (enters_of Tryz.func79 (by kernel_rfl) rfl) IH3.out hs3 (Hq3.out.kept HK.out HS.out fun x e => (HCL.out x e).1))
  clear hs3
  go_wp2_with fail
  refine HE3.out.mono ?_
  rintro e V3 ⟨b3, e3, D3, rfl, hrow, hel, hb⟩
  have HSZ := Lib.hid (Nat.le_refl W2.heap.size)
  have HC3 := Lib.hid (CR.base (⟨hrow, hel⟩ : CR .ty d S W2.heap.size n3 C3 b3 D3 V3) (Nat.le_trans (Nat.le_of_eq HZ2.out.symm) HSZ.out))
  replace HX := Lib.hid (HX.out.below hb HX.out.lt)
  replace HR := Lib.hid (HR.out.below hb HR.out.lt)
  replace HK := Lib.hid (HK.out.trans (Kept.of_below hb (Nat.le_refl _) _))
  replace HSZ := Lib.hid (Nat.le_trans HSZ.out hb.size)
  clear hb hrow hel p0 pf0 p1 pf1 p2 pf2 p3 pf3
  obtain ⟨m3_0, m3_1, m3_2, m3_3⟩ := bc4 HX.out
  obtain ⟨m3_f0, m3_f1, m3_f2, m3_f3⟩ := bf4 HX.out
  obtain ⟨U3, hU3⟩ : ∃ W, V3.setCell ⟨w.heap.size, 3, none⟩ (.slice b3 n3 e3) = W := ⟨_, rfl⟩
  replace HX := Lib.hid (show Box U3 w.heap.size 152 #[.int .i64 x0, .int .i64 x1, .string s2, .slice b3 n3 e3] from by rw [← hU3]; exact HX.out.put 3 _)
  replace HR := Lib.hid (show Box U3 (w.heap.size + 1) 152 #[.int .i64 0, .int .i64 0, .string ⟨#[]⟩, .slice none 0 0] from by rw [← hU3]; exact HR.out.far (by show w.heap.size ≠ w.heap.size + 1; omega) _)
  have HL3 := Lib.hid (show Kept (fun x => w.heap.size ≤ x ∧ x < w.heap.size + 2) V3 U3 from by rw [← hU3]; exact (Kept.refl _ _).setCell (fun _ => ⟨Nat.le_refl _, (by show w.heap.size < w.heap.size + 2; omega)⟩) _)
  replace HK := Lib.hid (HK.out.trans HL3.out)
  replace HSZ := Lib.hid (Nat.le_trans HSZ.out HL3.out.size)
  replace HC3 := Lib.hid (HC3.out.kept HL3.out HCL.out)
  obtain ⟨k3_0, k3_1, k3_2, k3_3⟩ := bc4 HX.out
  obtain ⟨k3_f0, k3_f1, k3_f2, k3_f3⟩ := bf4 HX.out
  have HRp := Lib.hid HR.out
  have HKp := Lib.hid HK.out
  have HLp := Lib.hid (Kept.refl (fun x => w.heap.size ≤ x ∧ x < w.heap.size + 2) U3)
  obtain ⟨r0, r1, r2, r3⟩ := bc4 HRp.out
  obtain ⟨rf0, rf1, rf2, rf3⟩ := bf4 HRp.out
  obtain ⟨Wz, hWz, hbz, hwz⟩ := bw4 HRp.out (.int .i64 x0) (.int .i64 x1) (.string s2) (.slice b3 n3 e3)
  have HBZ := Lib.hid hbz
  have HWZ := Lib.hid hwz
  clear hbz hwz
  go_wp2_with fail
  obtain ⟨zz0, zz1, zz2, zz3⟩ := bc4 HBZ.out
  refine bodyPost_ret (v := .agg #[.int .i64 x0, .int .i64 x1, .string s2, .slice b3 n3 e3]) (by simp [results, Tryz.results79, go_sem, zz0, zz1, zz2, zz3]) rfl ?_
  have hkz := kept_of_wrote HKp.out HWZ.out (fun _ => ⟨by omega, by omega⟩)
  have hlz := kept_of_wrote HLp.out HWZ.out (fun _ => ⟨by omega, by omega⟩)
  have hsz : S ≤ Wz.heap.size := Nat.le_trans HS.out hkz.size
  refine ⟨[.int .i64 x0, .int .i64 x1, .string s2, .slice b3 n3 e3], rfl, ?_, hkz.below (Nat.le_refl _) fun x e => e.1⟩
  show MF (M (Zs S w.heap.size Wz) Wz d) (Zs S w.heap.size Wz) Wz [.int, .int, .str, .row .ty] _ _
  exact (.int (.int (.str Hq2.out (RowF.end_ (Hq3.out.kept hkz HS.out fun x e => (HCL.out x e).1) (HC3.out.kept hlz HCL.out) hsz (Nat.le_add_right _ 2) .nil))))
set_option maxRecDepth 100000 in
set_option maxHeartbeats 8000000 in
theorem bare_pt {d : Nat} (ih_pt : Cps 54 .pt d) : Cps 54 .pt (d + 1) := by
  intro S w cs hS hG
  have hff : FF (G (· < S) w d) (· < S) w (schema .pt) cs := hG
  obtain ⟨x0, s1, x2, a3, n3, c3, C3, x4, x5, rfl, q1, q3⟩ := inv_pt hff
  clear hG hff
  show Calls Tryz.prog 54 #[.agg #[.int .i64 x0, .string s1, .int .i64 x2, .slice a3 n3 c3, .int .i64 x4, .int .i64 x5]] w (CpPost .pt (d + 1) S [.int .i64 x0, .string s1, .int .i64 x2, .slice a3 n3 c3, .int .i64 x4, .int .i64 x5] w)
  have HS := Lib.hid hS
  have Hq1 := Lib.hid q1
  have Hq3 := Lib.hid q3
  have hcl : ∀ x : Nat, (w.heap.size ≤ x ∧ x < w.heap.size + 2) → S ≤ x ∧ x < w.heap.size + 2 := fun x e => ⟨Nat.le_trans hS e.1, e.2⟩
  have HCL := Lib.hid hcl
  obtain ⟨W2, hW2⟩ : ∃ W2, (w.alloc (.cells #[.int .i64 x0, .string s1, .int .i64 x2, .slice a3 n3 c3, .int .i64 x4, .int .i64 x5] 83)).alloc (.cells #[.int .i64 0, .string ⟨#[]⟩, .int .i64 0, .slice none 0 0, .int .i64 0, .int .i64 0] 83) = W2 := ⟨_, rfl⟩
  have HK := Lib.hid (show Kept (fun x => w.heap.size ≤ x ∧ x < w.heap.size + 2) w W2 from by rw [← hW2]; exact ((Kept.refl _ w).alloc _).alloc _)
  have HX := Lib.hid (show Box W2 w.heap.size 83 #[.int .i64 x0, .string s1, .int .i64 x2, .slice a3 n3 c3, .int .i64 x4, .int .i64 x5] from by rw [← hW2]; exact (Box.new w _ _).alloc _)
  have HR := Lib.hid (show Box W2 (w.heap.size + 1) 83 #[.int .i64 0, .string ⟨#[]⟩, .int .i64 0, .slice none 0 0, .int .i64 0, .int .i64 0] from by rw [← hW2]; exact Box.at_ _ _ (by simp))
  have HZ2 := Lib.hid (show W2.heap.size = w.heap.size + 2 from by rw [← hW2]; simp)
  clear hS hcl q1 q3
  have IH3 := Lib.hid ih_pt
  clear ih_pt
  go_enter Tryz.func54, Tryz.ntmps54
  obtain ⟨p0, p1, p2, p3, p4, p5⟩ := bc6 HX.out
  obtain ⟨pf0, pf1, pf2, pf3, pf4, pf5⟩ := bf6 HX.out
  have hs3 : S ≤ W2.heap.size := Nat.le_trans HS.out HK.out.size
  have HE3 := Lib.hid (each_pt (c := c3) W2 (enters_of Tryz.func54 (by kernel_rfl) rfl) IH3.out hs3 (Hq3.out.kept HK.out HS.out fun x e => (HCL.out x e).1))
  clear hs3
  go_wp2_with fail
  refine HE3.out.mono ?_
  rintro e V3 ⟨b3, e3, D3, rfl, hrow, hel, hb⟩
  have HSZ := Lib.hid (Nat.le_refl W2.heap.size)
  have HC3 := Lib.hid (CR.base (⟨hrow, hel⟩ : CR .pt d S W2.heap.size n3 C3 b3 D3 V3) (Nat.le_trans (Nat.le_of_eq HZ2.out.symm) HSZ.out))
  replace HX := Lib.hid (HX.out.below hb HX.out.lt)
  replace HR := Lib.hid (HR.out.below hb HR.out.lt)
  replace HK := Lib.hid (HK.out.trans (Kept.of_below hb (Nat.le_refl _) _))
  replace HSZ := Lib.hid (Nat.le_trans HSZ.out hb.size)
  clear hb hrow hel p0 pf0 p1 pf1 p2 pf2 p3 pf3 p4 pf4 p5 pf5
  obtain ⟨m3_0, m3_1, m3_2, m3_3, m3_4, m3_5⟩ := bc6 HX.out
  obtain ⟨m3_f0, m3_f1, m3_f2, m3_f3, m3_f4, m3_f5⟩ := bf6 HX.out
  obtain ⟨U3, hU3⟩ : ∃ W, V3.setCell ⟨w.heap.size, 3, none⟩ (.slice b3 n3 e3) = W := ⟨_, rfl⟩
  replace HX := Lib.hid (show Box U3 w.heap.size 83 #[.int .i64 x0, .string s1, .int .i64 x2, .slice b3 n3 e3, .int .i64 x4, .int .i64 x5] from by rw [← hU3]; exact HX.out.put 3 _)
  replace HR := Lib.hid (show Box U3 (w.heap.size + 1) 83 #[.int .i64 0, .string ⟨#[]⟩, .int .i64 0, .slice none 0 0, .int .i64 0, .int .i64 0] from by rw [← hU3]; exact HR.out.far (by show w.heap.size ≠ w.heap.size + 1; omega) _)
  have HL3 := Lib.hid (show Kept (fun x => w.heap.size ≤ x ∧ x < w.heap.size + 2) V3 U3 from by rw [← hU3]; exact (Kept.refl _ _).setCell (fun _ => ⟨Nat.le_refl _, (by show w.heap.size < w.heap.size + 2; omega)⟩) _)
  replace HK := Lib.hid (HK.out.trans HL3.out)
  replace HSZ := Lib.hid (Nat.le_trans HSZ.out HL3.out.size)
  replace HC3 := Lib.hid (HC3.out.kept HL3.out HCL.out)
  obtain ⟨k3_0, k3_1, k3_2, k3_3, k3_4, k3_5⟩ := bc6 HX.out
  obtain ⟨k3_f0, k3_f1, k3_f2, k3_f3, k3_f4, k3_f5⟩ := bf6 HX.out
  obtain ⟨Wp, hWp⟩ : ∃ W, ((U3.setCell ⟨w.heap.size, 4, none⟩ (.int .i64 0)).setCell ⟨w.heap.size, 5, none⟩ (.int .i64 0)) = W := ⟨_, rfl⟩
  have HXp := Lib.hid (show Box Wp w.heap.size 83 #[.int .i64 x0, .string s1, .int .i64 x2, .slice b3 n3 e3, .int .i64 0, .int .i64 0] from by rw [← hWp]; exact ((HX.out.put 4 (.int .i64 0)).put 5 (.int .i64 0)))
  have HRp := Lib.hid (show Box Wp (w.heap.size + 1) 83 #[.int .i64 0, .string ⟨#[]⟩, .int .i64 0, .slice none 0 0, .int .i64 0, .int .i64 0] from by rw [← hWp]; exact ((HR.out.far (by show w.heap.size ≠ w.heap.size + 1; omega) _).far (by show w.heap.size ≠ w.heap.size + 1; omega) _))
  have HKp := Lib.hid (show Kept (fun x => w.heap.size ≤ x ∧ x < w.heap.size + 2) w Wp from by rw [← hWp]; exact (Kept.setCell (Kept.setCell HK.out (fun _ => ⟨Nat.le_refl _, (by show w.heap.size < w.heap.size + 2; omega)⟩) _) (fun _ => ⟨Nat.le_refl _, (by show w.heap.size < w.heap.size + 2; omega)⟩) _))
  have HLp := Lib.hid (show Kept (fun x => w.heap.size ≤ x ∧ x < w.heap.size + 2) U3 Wp from by rw [← hWp]; exact (Kept.setCell (Kept.setCell (Kept.refl (fun x => w.heap.size ≤ x ∧ x < w.heap.size + 2) U3) (fun _ => ⟨Nat.le_refl _, (by show w.heap.size < w.heap.size + 2; omega)⟩) _) (fun _ => ⟨Nat.le_refl _, (by show w.heap.size < w.heap.size + 2; omega)⟩) _))
  obtain ⟨u0, u1, u2, u3, u4, u5⟩ := bc6 HXp.out
  obtain ⟨uf0, uf1, uf2, uf3, uf4, uf5⟩ := bf6 HXp.out
  obtain ⟨r0, r1, r2, r3, r4, r5⟩ := bc6 HRp.out
  obtain ⟨rf0, rf1, rf2, rf3, rf4, rf5⟩ := bf6 HRp.out
  obtain ⟨Wz, hWz, hbz, hwz⟩ := bw6 HRp.out (.int .i64 x0) (.string s1) (.int .i64 x2) (.slice b3 n3 e3) (.int .i64 0) (.int .i64 0)
  have HBZ := Lib.hid hbz
  have HWZ := Lib.hid hwz
  clear hbz hwz
  go_wp2_with fail
  obtain ⟨zz0, zz1, zz2, zz3, zz4, zz5⟩ := bc6 HBZ.out
  refine bodyPost_ret (v := .agg #[.int .i64 x0, .string s1, .int .i64 x2, .slice b3 n3 e3, .int .i64 0, .int .i64 0]) (by simp [results, Tryz.results54, go_sem, zz0, zz1, zz2, zz3, zz4, zz5]) rfl ?_
  have hkz := kept_of_wrote HKp.out HWZ.out (fun _ => ⟨by omega, by omega⟩)
  have hlz := kept_of_wrote HLp.out HWZ.out (fun _ => ⟨by omega, by omega⟩)
  have hsz : S ≤ Wz.heap.size := Nat.le_trans HS.out hkz.size
  refine ⟨[.int .i64 x0, .string s1, .int .i64 x2, .slice b3 n3 e3, .int .i64 0, .int .i64 0], rfl, ?_, hkz.below (Nat.le_refl _) fun x e => e.1⟩
  show MF (M (Zs S w.heap.size Wz) Wz d) (Zs S w.heap.size Wz) Wz [.int, .str, .int, .row .pt, .pos, .pos] _ _
  exact (.int (.str Hq1.out (.int (RowF.end_ (Hq3.out.kept hkz HS.out fun x e => (HCL.out x e).1) (HC3.out.kept hlz HCL.out) hsz (Nat.le_add_right _ 2) (.pos (.pos .nil))))))
set_option maxRecDepth 100000 in
set_option maxHeartbeats 8000000 in
theorem bare_cn {d : Nat} (ih_ty : Cps 79 .ty d) : Cps 51 .cn (d + 1) := by
  intro S w cs hS hG
  have hff : FF (G (· < S) w d) (· < S) w (schema .cn) cs := hG
  obtain ⟨s0, a1, n1, c1, C1, x2, x3, rfl, q0, q1⟩ := inv_cn hff
  clear hG hff
  show Calls Tryz.prog 51 #[.agg #[.string s0, .slice a1 n1 c1, .int .i64 x2, .int .i64 x3]] w (CpPost .cn (d + 1) S [.string s0, .slice a1 n1 c1, .int .i64 x2, .int .i64 x3] w)
  have HS := Lib.hid hS
  have Hq0 := Lib.hid q0
  have Hq1 := Lib.hid q1
  have hcl : ∀ x : Nat, (w.heap.size ≤ x ∧ x < w.heap.size + 2) → S ≤ x ∧ x < w.heap.size + 2 := fun x e => ⟨Nat.le_trans hS e.1, e.2⟩
  have HCL := Lib.hid hcl
  obtain ⟨W2, hW2⟩ : ∃ W2, (w.alloc (.cells #[.string s0, .slice a1 n1 c1, .int .i64 x2, .int .i64 x3] 92)).alloc (.cells #[.string ⟨#[]⟩, .slice none 0 0, .int .i64 0, .int .i64 0] 92) = W2 := ⟨_, rfl⟩
  have HK := Lib.hid (show Kept (fun x => w.heap.size ≤ x ∧ x < w.heap.size + 2) w W2 from by rw [← hW2]; exact ((Kept.refl _ w).alloc _).alloc _)
  have HX := Lib.hid (show Box W2 w.heap.size 92 #[.string s0, .slice a1 n1 c1, .int .i64 x2, .int .i64 x3] from by rw [← hW2]; exact (Box.new w _ _).alloc _)
  have HR := Lib.hid (show Box W2 (w.heap.size + 1) 92 #[.string ⟨#[]⟩, .slice none 0 0, .int .i64 0, .int .i64 0] from by rw [← hW2]; exact Box.at_ _ _ (by simp))
  have HZ2 := Lib.hid (show W2.heap.size = w.heap.size + 2 from by rw [← hW2]; simp)
  clear hS hcl q0 q1
  have IH1 := Lib.hid ih_ty
  clear ih_ty
  go_enter Tryz.func51, Tryz.ntmps51
  obtain ⟨p0, p1, p2, p3⟩ := bc4 HX.out
  obtain ⟨pf0, pf1, pf2, pf3⟩ := bf4 HX.out
  have hs1 : S ≤ W2.heap.size := Nat.le_trans HS.out HK.out.size
  have HE1 := Lib.hid (each_ty (c := c1) W2 (enters_of Tryz.func79 (by kernel_rfl) rfl) IH1.out hs1 (Hq1.out.kept HK.out HS.out fun x e => (HCL.out x e).1))
  clear hs1
  go_wp2_with fail
  refine HE1.out.mono ?_
  rintro e V1 ⟨b1, e1, D1, rfl, hrow, hel, hb⟩
  have HSZ := Lib.hid (Nat.le_refl W2.heap.size)
  have HC1 := Lib.hid (CR.base (⟨hrow, hel⟩ : CR .ty d S W2.heap.size n1 C1 b1 D1 V1) (Nat.le_trans (Nat.le_of_eq HZ2.out.symm) HSZ.out))
  replace HX := Lib.hid (HX.out.below hb HX.out.lt)
  replace HR := Lib.hid (HR.out.below hb HR.out.lt)
  replace HK := Lib.hid (HK.out.trans (Kept.of_below hb (Nat.le_refl _) _))
  replace HSZ := Lib.hid (Nat.le_trans HSZ.out hb.size)
  clear hb hrow hel p0 pf0 p1 pf1 p2 pf2 p3 pf3
  obtain ⟨m1_0, m1_1, m1_2, m1_3⟩ := bc4 HX.out
  obtain ⟨m1_f0, m1_f1, m1_f2, m1_f3⟩ := bf4 HX.out
  obtain ⟨U1, hU1⟩ : ∃ W, V1.setCell ⟨w.heap.size, 1, none⟩ (.slice b1 n1 e1) = W := ⟨_, rfl⟩
  replace HX := Lib.hid (show Box U1 w.heap.size 92 #[.string s0, .slice b1 n1 e1, .int .i64 x2, .int .i64 x3] from by rw [← hU1]; exact HX.out.put 1 _)
  replace HR := Lib.hid (show Box U1 (w.heap.size + 1) 92 #[.string ⟨#[]⟩, .slice none 0 0, .int .i64 0, .int .i64 0] from by rw [← hU1]; exact HR.out.far (by show w.heap.size ≠ w.heap.size + 1; omega) _)
  have HL1 := Lib.hid (show Kept (fun x => w.heap.size ≤ x ∧ x < w.heap.size + 2) V1 U1 from by rw [← hU1]; exact (Kept.refl _ _).setCell (fun _ => ⟨Nat.le_refl _, (by show w.heap.size < w.heap.size + 2; omega)⟩) _)
  replace HK := Lib.hid (HK.out.trans HL1.out)
  replace HSZ := Lib.hid (Nat.le_trans HSZ.out HL1.out.size)
  replace HC1 := Lib.hid (HC1.out.kept HL1.out HCL.out)
  obtain ⟨k1_0, k1_1, k1_2, k1_3⟩ := bc4 HX.out
  obtain ⟨k1_f0, k1_f1, k1_f2, k1_f3⟩ := bf4 HX.out
  obtain ⟨Wp, hWp⟩ : ∃ W, ((U1.setCell ⟨w.heap.size, 2, none⟩ (.int .i64 0)).setCell ⟨w.heap.size, 3, none⟩ (.int .i64 0)) = W := ⟨_, rfl⟩
  have HXp := Lib.hid (show Box Wp w.heap.size 92 #[.string s0, .slice b1 n1 e1, .int .i64 0, .int .i64 0] from by rw [← hWp]; exact ((HX.out.put 2 (.int .i64 0)).put 3 (.int .i64 0)))
  have HRp := Lib.hid (show Box Wp (w.heap.size + 1) 92 #[.string ⟨#[]⟩, .slice none 0 0, .int .i64 0, .int .i64 0] from by rw [← hWp]; exact ((HR.out.far (by show w.heap.size ≠ w.heap.size + 1; omega) _).far (by show w.heap.size ≠ w.heap.size + 1; omega) _))
  have HKp := Lib.hid (show Kept (fun x => w.heap.size ≤ x ∧ x < w.heap.size + 2) w Wp from by rw [← hWp]; exact (Kept.setCell (Kept.setCell HK.out (fun _ => ⟨Nat.le_refl _, (by show w.heap.size < w.heap.size + 2; omega)⟩) _) (fun _ => ⟨Nat.le_refl _, (by show w.heap.size < w.heap.size + 2; omega)⟩) _))
  have HLp := Lib.hid (show Kept (fun x => w.heap.size ≤ x ∧ x < w.heap.size + 2) U1 Wp from by rw [← hWp]; exact (Kept.setCell (Kept.setCell (Kept.refl (fun x => w.heap.size ≤ x ∧ x < w.heap.size + 2) U1) (fun _ => ⟨Nat.le_refl _, (by show w.heap.size < w.heap.size + 2; omega)⟩) _) (fun _ => ⟨Nat.le_refl _, (by show w.heap.size < w.heap.size + 2; omega)⟩) _))
  obtain ⟨u0, u1, u2, u3⟩ := bc4 HXp.out
  obtain ⟨uf0, uf1, uf2, uf3⟩ := bf4 HXp.out
  obtain ⟨r0, r1, r2, r3⟩ := bc4 HRp.out
  obtain ⟨rf0, rf1, rf2, rf3⟩ := bf4 HRp.out
  obtain ⟨Wz, hWz, hbz, hwz⟩ := bw4 HRp.out (.string s0) (.slice b1 n1 e1) (.int .i64 0) (.int .i64 0)
  have HBZ := Lib.hid hbz
  have HWZ := Lib.hid hwz
  clear hbz hwz
  go_wp2_with fail
  obtain ⟨zz0, zz1, zz2, zz3⟩ := bc4 HBZ.out
  refine bodyPost_ret (v := .agg #[.string s0, .slice b1 n1 e1, .int .i64 0, .int .i64 0]) (by simp [results, Tryz.results51, go_sem, zz0, zz1, zz2, zz3]) rfl ?_
  have hkz := kept_of_wrote HKp.out HWZ.out (fun _ => ⟨by omega, by omega⟩)
  have hlz := kept_of_wrote HLp.out HWZ.out (fun _ => ⟨by omega, by omega⟩)
  have hsz : S ≤ Wz.heap.size := Nat.le_trans HS.out hkz.size
  refine ⟨[.string s0, .slice b1 n1 e1, .int .i64 0, .int .i64 0], rfl, ?_, hkz.below (Nat.le_refl _) fun x e => e.1⟩
  show MF (M (Zs S w.heap.size Wz) Wz d) (Zs S w.heap.size Wz) Wz [.str, .row .ty, .pos, .pos] _ _
  exact (.str Hq0.out (RowF.end_ (Hq1.out.kept hkz HS.out fun x e => (HCL.out x e).1) (HC1.out.kept hlz HCL.out) hsz (Nat.le_add_right _ 2) (.pos (.pos .nil))))
set_option maxRecDepth 100000 in
set_option maxHeartbeats 8000000 in
theorem bare_bd {d : Nat} (ih_cl : Cps 53 .cl d) : Cps 27 .bd (d + 1) := by
  intro S w cs hS hG
  have hff : FF (G (· < S) w d) (· < S) w (schema .bd) cs := hG
  obtain ⟨s0, a1, n1, c1, C1, x2, x3, rfl, q0, q1⟩ := inv_bd hff
  clear hG hff
  show Calls Tryz.prog 27 #[.agg #[.string s0, .slice a1 n1 c1, .int .i64 x2, .int .i64 x3]] w (CpPost .bd (d + 1) S [.string s0, .slice a1 n1 c1, .int .i64 x2, .int .i64 x3] w)
  have HS := Lib.hid hS
  have Hq0 := Lib.hid q0
  have Hq1 := Lib.hid q1
  have hcl : ∀ x : Nat, (w.heap.size ≤ x ∧ x < w.heap.size + 2) → S ≤ x ∧ x < w.heap.size + 2 := fun x e => ⟨Nat.le_trans hS e.1, e.2⟩
  have HCL := Lib.hid hcl
  obtain ⟨W2, hW2⟩ : ∃ W2, (w.alloc (.cells #[.string s0, .slice a1 n1 c1, .int .i64 x2, .int .i64 x3] 51)).alloc (.cells #[.string ⟨#[]⟩, .slice none 0 0, .int .i64 0, .int .i64 0] 51) = W2 := ⟨_, rfl⟩
  have HK := Lib.hid (show Kept (fun x => w.heap.size ≤ x ∧ x < w.heap.size + 2) w W2 from by rw [← hW2]; exact ((Kept.refl _ w).alloc _).alloc _)
  have HX := Lib.hid (show Box W2 w.heap.size 51 #[.string s0, .slice a1 n1 c1, .int .i64 x2, .int .i64 x3] from by rw [← hW2]; exact (Box.new w _ _).alloc _)
  have HR := Lib.hid (show Box W2 (w.heap.size + 1) 51 #[.string ⟨#[]⟩, .slice none 0 0, .int .i64 0, .int .i64 0] from by rw [← hW2]; exact Box.at_ _ _ (by simp))
  have HZ2 := Lib.hid (show W2.heap.size = w.heap.size + 2 from by rw [← hW2]; simp)
  clear hS hcl q0 q1
  have IH1 := Lib.hid ih_cl
  clear ih_cl
  go_enter Tryz.func27, Tryz.ntmps27
  obtain ⟨p0, p1, p2, p3⟩ := bc4 HX.out
  obtain ⟨pf0, pf1, pf2, pf3⟩ := bf4 HX.out
  have hs1 : S ≤ W2.heap.size := Nat.le_trans HS.out HK.out.size
  have HE1 := Lib.hid (each_cl (c := c1) W2 (enters_of Tryz.func53 (by kernel_rfl) rfl) IH1.out hs1 (Hq1.out.kept HK.out HS.out fun x e => (HCL.out x e).1))
  clear hs1
  go_wp2_with fail
  refine HE1.out.mono ?_
  rintro e V1 ⟨b1, e1, D1, rfl, hrow, hel, hb⟩
  have HSZ := Lib.hid (Nat.le_refl W2.heap.size)
  have HC1 := Lib.hid (CR.base (⟨hrow, hel⟩ : CR .cl d S W2.heap.size n1 C1 b1 D1 V1) (Nat.le_trans (Nat.le_of_eq HZ2.out.symm) HSZ.out))
  replace HX := Lib.hid (HX.out.below hb HX.out.lt)
  replace HR := Lib.hid (HR.out.below hb HR.out.lt)
  replace HK := Lib.hid (HK.out.trans (Kept.of_below hb (Nat.le_refl _) _))
  replace HSZ := Lib.hid (Nat.le_trans HSZ.out hb.size)
  clear hb hrow hel p0 pf0 p1 pf1 p2 pf2 p3 pf3
  obtain ⟨m1_0, m1_1, m1_2, m1_3⟩ := bc4 HX.out
  obtain ⟨m1_f0, m1_f1, m1_f2, m1_f3⟩ := bf4 HX.out
  obtain ⟨U1, hU1⟩ : ∃ W, V1.setCell ⟨w.heap.size, 1, none⟩ (.slice b1 n1 e1) = W := ⟨_, rfl⟩
  replace HX := Lib.hid (show Box U1 w.heap.size 51 #[.string s0, .slice b1 n1 e1, .int .i64 x2, .int .i64 x3] from by rw [← hU1]; exact HX.out.put 1 _)
  replace HR := Lib.hid (show Box U1 (w.heap.size + 1) 51 #[.string ⟨#[]⟩, .slice none 0 0, .int .i64 0, .int .i64 0] from by rw [← hU1]; exact HR.out.far (by show w.heap.size ≠ w.heap.size + 1; omega) _)
  have HL1 := Lib.hid (show Kept (fun x => w.heap.size ≤ x ∧ x < w.heap.size + 2) V1 U1 from by rw [← hU1]; exact (Kept.refl _ _).setCell (fun _ => ⟨Nat.le_refl _, (by show w.heap.size < w.heap.size + 2; omega)⟩) _)
  replace HK := Lib.hid (HK.out.trans HL1.out)
  replace HSZ := Lib.hid (Nat.le_trans HSZ.out HL1.out.size)
  replace HC1 := Lib.hid (HC1.out.kept HL1.out HCL.out)
  obtain ⟨k1_0, k1_1, k1_2, k1_3⟩ := bc4 HX.out
  obtain ⟨k1_f0, k1_f1, k1_f2, k1_f3⟩ := bf4 HX.out
  obtain ⟨Wp, hWp⟩ : ∃ W, ((U1.setCell ⟨w.heap.size, 2, none⟩ (.int .i64 0)).setCell ⟨w.heap.size, 3, none⟩ (.int .i64 0)) = W := ⟨_, rfl⟩
  have HXp := Lib.hid (show Box Wp w.heap.size 51 #[.string s0, .slice b1 n1 e1, .int .i64 0, .int .i64 0] from by rw [← hWp]; exact ((HX.out.put 2 (.int .i64 0)).put 3 (.int .i64 0)))
  have HRp := Lib.hid (show Box Wp (w.heap.size + 1) 51 #[.string ⟨#[]⟩, .slice none 0 0, .int .i64 0, .int .i64 0] from by rw [← hWp]; exact ((HR.out.far (by show w.heap.size ≠ w.heap.size + 1; omega) _).far (by show w.heap.size ≠ w.heap.size + 1; omega) _))
  have HKp := Lib.hid (show Kept (fun x => w.heap.size ≤ x ∧ x < w.heap.size + 2) w Wp from by rw [← hWp]; exact (Kept.setCell (Kept.setCell HK.out (fun _ => ⟨Nat.le_refl _, (by show w.heap.size < w.heap.size + 2; omega)⟩) _) (fun _ => ⟨Nat.le_refl _, (by show w.heap.size < w.heap.size + 2; omega)⟩) _))
  have HLp := Lib.hid (show Kept (fun x => w.heap.size ≤ x ∧ x < w.heap.size + 2) U1 Wp from by rw [← hWp]; exact (Kept.setCell (Kept.setCell (Kept.refl (fun x => w.heap.size ≤ x ∧ x < w.heap.size + 2) U1) (fun _ => ⟨Nat.le_refl _, (by show w.heap.size < w.heap.size + 2; omega)⟩) _) (fun _ => ⟨Nat.le_refl _, (by show w.heap.size < w.heap.size + 2; omega)⟩) _))
  obtain ⟨u0, u1, u2, u3⟩ := bc4 HXp.out
  obtain ⟨uf0, uf1, uf2, uf3⟩ := bf4 HXp.out
  obtain ⟨r0, r1, r2, r3⟩ := bc4 HRp.out
  obtain ⟨rf0, rf1, rf2, rf3⟩ := bf4 HRp.out
  obtain ⟨Wz, hWz, hbz, hwz⟩ := bw4 HRp.out (.string s0) (.slice b1 n1 e1) (.int .i64 0) (.int .i64 0)
  have HBZ := Lib.hid hbz
  have HWZ := Lib.hid hwz
  clear hbz hwz
  go_wp2_with fail
  obtain ⟨zz0, zz1, zz2, zz3⟩ := bc4 HBZ.out
  refine bodyPost_ret (v := .agg #[.string s0, .slice b1 n1 e1, .int .i64 0, .int .i64 0]) (by simp [results, Tryz.results27, go_sem, zz0, zz1, zz2, zz3]) rfl ?_
  have hkz := kept_of_wrote HKp.out HWZ.out (fun _ => ⟨by omega, by omega⟩)
  have hlz := kept_of_wrote HLp.out HWZ.out (fun _ => ⟨by omega, by omega⟩)
  have hsz : S ≤ Wz.heap.size := Nat.le_trans HS.out hkz.size
  refine ⟨[.string s0, .slice b1 n1 e1, .int .i64 0, .int .i64 0], rfl, ?_, hkz.below (Nat.le_refl _) fun x e => e.1⟩
  show MF (M (Zs S w.heap.size Wz) Wz d) (Zs S w.heap.size Wz) Wz [.str, .row .cl, .pos, .pos] _ _
  exact (.str Hq0.out (RowF.end_ (Hq1.out.kept hkz HS.out fun x e => (HCL.out x e).1) (HC1.out.kept hlz HCL.out) hsz (Nat.le_add_right _ 2) (.pos (.pos .nil))))
set_option maxRecDepth 100000 in
set_option maxHeartbeats 8000000 in
theorem bare_dt {d : Nat} (ih_cn : Cps 51 .cn d) : Cps 23 .dt (d + 1) := by
  intro S w cs hS hG
  have hff : FF (G (· < S) w d) (· < S) w (schema .dt) cs := hG
  obtain ⟨s0, a1, n1, c1, S1, a2, n2, c2, C2, x3, x4, rfl, q0, q1, q2⟩ := inv_dt hff
  clear hG hff
  show Calls Tryz.prog 23 #[.agg #[.string s0, .slice a1 n1 c1, .slice a2 n2 c2, .int .i64 x3, .int .i64 x4]] w (CpPost .dt (d + 1) S [.string s0, .slice a1 n1 c1, .slice a2 n2 c2, .int .i64 x3, .int .i64 x4] w)
  have HS := Lib.hid hS
  have Hq0 := Lib.hid q0
  have Hq1 := Lib.hid q1
  have Hq2 := Lib.hid q2
  have hcl : ∀ x : Nat, (w.heap.size ≤ x ∧ x < w.heap.size + 2) → S ≤ x ∧ x < w.heap.size + 2 := fun x e => ⟨Nat.le_trans hS e.1, e.2⟩
  have HCL := Lib.hid hcl
  obtain ⟨W2, hW2⟩ : ∃ W2, (w.alloc (.cells #[.string s0, .slice a1 n1 c1, .slice a2 n2 c2, .int .i64 x3, .int .i64 x4] 72)).alloc (.cells #[.string ⟨#[]⟩, .slice none 0 0, .slice none 0 0, .int .i64 0, .int .i64 0] 72) = W2 := ⟨_, rfl⟩
  have HK := Lib.hid (show Kept (fun x => w.heap.size ≤ x ∧ x < w.heap.size + 2) w W2 from by rw [← hW2]; exact ((Kept.refl _ w).alloc _).alloc _)
  have HX := Lib.hid (show Box W2 w.heap.size 72 #[.string s0, .slice a1 n1 c1, .slice a2 n2 c2, .int .i64 x3, .int .i64 x4] from by rw [← hW2]; exact (Box.new w _ _).alloc _)
  have HR := Lib.hid (show Box W2 (w.heap.size + 1) 72 #[.string ⟨#[]⟩, .slice none 0 0, .slice none 0 0, .int .i64 0, .int .i64 0] from by rw [← hW2]; exact Box.at_ _ _ (by simp))
  have HZ2 := Lib.hid (show W2.heap.size = w.heap.size + 2 from by rw [← hW2]; simp)
  clear hS hcl q0 q1 q2
  have IH2 := Lib.hid ih_cn
  clear ih_cn
  go_enter Tryz.func23, Tryz.ntmps23
  obtain ⟨p0, p1, p2, p3, p4⟩ := bc5 HX.out
  obtain ⟨pf0, pf1, pf2, pf3, pf4⟩ := bf5 HX.out
  have hs1 : S ≤ W2.heap.size := Nat.le_trans HS.out HK.out.size
  have HE1 := Lib.hid (clone_strs W2 hs1 (c := c1) (Hq1.out.kept HK.out HS.out fun x e => (HCL.out x e).1))
  clear hs1
  go_wp2_with fail
  refine HE1.out.mono ?_
  rintro e V1 ⟨b1, e1, rfl, hrow, hb⟩
  have HSZ := Lib.hid (Nat.le_refl W2.heap.size)
  have HC1 := Lib.hid (show SR S (w.heap.size + 2) n1 S1 b1 V1 from SR.base hrow (Nat.le_trans (Nat.le_of_eq HZ2.out.symm) HSZ.out))
  replace HX := Lib.hid (HX.out.below hb HX.out.lt)
  replace HR := Lib.hid (HR.out.below hb HR.out.lt)
  replace HK := Lib.hid (HK.out.trans (Kept.of_below hb (Nat.le_refl _) _))
  replace HSZ := Lib.hid (Nat.le_trans HSZ.out hb.size)
  clear hb hrow p0 pf0 p1 pf1 p2 pf2 p3 pf3 p4 pf4
  obtain ⟨m1_0, m1_1, m1_2, m1_3, m1_4⟩ := bc5 HX.out
  obtain ⟨m1_f0, m1_f1, m1_f2, m1_f3, m1_f4⟩ := bf5 HX.out
  obtain ⟨U1, hU1⟩ : ∃ W, V1.setCell ⟨w.heap.size, 1, none⟩ (.slice b1 n1 e1) = W := ⟨_, rfl⟩
  replace HX := Lib.hid (show Box U1 w.heap.size 72 #[.string s0, .slice b1 n1 e1, .slice a2 n2 c2, .int .i64 x3, .int .i64 x4] from by rw [← hU1]; exact HX.out.put 1 _)
  replace HR := Lib.hid (show Box U1 (w.heap.size + 1) 72 #[.string ⟨#[]⟩, .slice none 0 0, .slice none 0 0, .int .i64 0, .int .i64 0] from by rw [← hU1]; exact HR.out.far (by show w.heap.size ≠ w.heap.size + 1; omega) _)
  have HL1 := Lib.hid (show Kept (fun x => w.heap.size ≤ x ∧ x < w.heap.size + 2) V1 U1 from by rw [← hU1]; exact (Kept.refl _ _).setCell (fun _ => ⟨Nat.le_refl _, (by show w.heap.size < w.heap.size + 2; omega)⟩) _)
  replace HK := Lib.hid (HK.out.trans HL1.out)
  replace HSZ := Lib.hid (Nat.le_trans HSZ.out HL1.out.size)
  replace HC1 := Lib.hid (HC1.out.kept HL1.out HCL.out)
  obtain ⟨k1_0, k1_1, k1_2, k1_3, k1_4⟩ := bc5 HX.out
  obtain ⟨k1_f0, k1_f1, k1_f2, k1_f3, k1_f4⟩ := bf5 HX.out
  have hs2 : S ≤ U1.heap.size := Nat.le_trans HS.out HK.out.size
  have HE2 := Lib.hid (each_cn (c := c2) U1 (enters_of Tryz.func51 (by kernel_rfl) rfl) IH2.out hs2 (Hq2.out.kept HK.out HS.out fun x e => (HCL.out x e).1))
  clear hs2
  go_wp2_with fail
  refine HE2.out.mono ?_
  rintro e V2 ⟨b2, e2, D2, rfl, hrow, hel, hb⟩
  have HC2 := Lib.hid (CR.base (⟨hrow, hel⟩ : CR .cn d S U1.heap.size n2 C2 b2 D2 V2) (Nat.le_trans (Nat.le_of_eq HZ2.out.symm) HSZ.out))
  replace HC1 := Lib.hid (HC1.out.below hb)
  replace HX := Lib.hid (HX.out.below hb HX.out.lt)
  replace HR := Lib.hid (HR.out.below hb HR.out.lt)
  replace HK := Lib.hid (HK.out.trans (Kept.of_below hb (Nat.le_refl _) _))
  replace HSZ := Lib.hid (Nat.le_trans HSZ.out hb.size)
  clear hb hrow hel k1_0 k1_f0 k1_1 k1_f1 k1_2 k1_f2 k1_3 k1_f3 k1_4 k1_f4
  obtain ⟨m2_0, m2_1, m2_2, m2_3, m2_4⟩ := bc5 HX.out
  obtain ⟨m2_f0, m2_f1, m2_f2, m2_f3, m2_f4⟩ := bf5 HX.out
  obtain ⟨U2, hU2⟩ : ∃ W, V2.setCell ⟨w.heap.size, 2, none⟩ (.slice b2 n2 e2) = W := ⟨_, rfl⟩
  replace HX := Lib.hid (show Box U2 w.heap.size 72 #[.string s0, .slice b1 n1 e1, .slice b2 n2 e2, .int .i64 x3, .int .i64 x4] from by rw [← hU2]; exact HX.out.put 2 _)
  replace HR := Lib.hid (show Box U2 (w.heap.size + 1) 72 #[.string ⟨#[]⟩, .slice none 0 0, .slice none 0 0, .int .i64 0, .int .i64 0] from by rw [← hU2]; exact HR.out.far (by show w.heap.size ≠ w.heap.size + 1; omega) _)
  have HL2 := Lib.hid (show Kept (fun x => w.heap.size ≤ x ∧ x < w.heap.size + 2) V2 U2 from by rw [← hU2]; exact (Kept.refl _ _).setCell (fun _ => ⟨Nat.le_refl _, (by show w.heap.size < w.heap.size + 2; omega)⟩) _)
  replace HK := Lib.hid (HK.out.trans HL2.out)
  replace HSZ := Lib.hid (Nat.le_trans HSZ.out HL2.out.size)
  replace HC1 := Lib.hid (HC1.out.kept HL2.out HCL.out)
  replace HC2 := Lib.hid (HC2.out.kept HL2.out HCL.out)
  obtain ⟨k2_0, k2_1, k2_2, k2_3, k2_4⟩ := bc5 HX.out
  obtain ⟨k2_f0, k2_f1, k2_f2, k2_f3, k2_f4⟩ := bf5 HX.out
  obtain ⟨Wp, hWp⟩ : ∃ W, ((U2.setCell ⟨w.heap.size, 3, none⟩ (.int .i64 0)).setCell ⟨w.heap.size, 4, none⟩ (.int .i64 0)) = W := ⟨_, rfl⟩
  have HXp := Lib.hid (show Box Wp w.heap.size 72 #[.string s0, .slice b1 n1 e1, .slice b2 n2 e2, .int .i64 0, .int .i64 0] from by rw [← hWp]; exact ((HX.out.put 3 (.int .i64 0)).put 4 (.int .i64 0)))
  have HRp := Lib.hid (show Box Wp (w.heap.size + 1) 72 #[.string ⟨#[]⟩, .slice none 0 0, .slice none 0 0, .int .i64 0, .int .i64 0] from by rw [← hWp]; exact ((HR.out.far (by show w.heap.size ≠ w.heap.size + 1; omega) _).far (by show w.heap.size ≠ w.heap.size + 1; omega) _))
  have HKp := Lib.hid (show Kept (fun x => w.heap.size ≤ x ∧ x < w.heap.size + 2) w Wp from by rw [← hWp]; exact (Kept.setCell (Kept.setCell HK.out (fun _ => ⟨Nat.le_refl _, (by show w.heap.size < w.heap.size + 2; omega)⟩) _) (fun _ => ⟨Nat.le_refl _, (by show w.heap.size < w.heap.size + 2; omega)⟩) _))
  have HLp := Lib.hid (show Kept (fun x => w.heap.size ≤ x ∧ x < w.heap.size + 2) U2 Wp from by rw [← hWp]; exact (Kept.setCell (Kept.setCell (Kept.refl (fun x => w.heap.size ≤ x ∧ x < w.heap.size + 2) U2) (fun _ => ⟨Nat.le_refl _, (by show w.heap.size < w.heap.size + 2; omega)⟩) _) (fun _ => ⟨Nat.le_refl _, (by show w.heap.size < w.heap.size + 2; omega)⟩) _))
  obtain ⟨u0, u1, u2, u3, u4⟩ := bc5 HXp.out
  obtain ⟨uf0, uf1, uf2, uf3, uf4⟩ := bf5 HXp.out
  obtain ⟨r0, r1, r2, r3, r4⟩ := bc5 HRp.out
  obtain ⟨rf0, rf1, rf2, rf3, rf4⟩ := bf5 HRp.out
  obtain ⟨Wz, hWz, hbz, hwz⟩ := bw5 HRp.out (.string s0) (.slice b1 n1 e1) (.slice b2 n2 e2) (.int .i64 0) (.int .i64 0)
  have HBZ := Lib.hid hbz
  have HWZ := Lib.hid hwz
  clear hbz hwz
  go_wp2_with fail
  obtain ⟨zz0, zz1, zz2, zz3, zz4⟩ := bc5 HBZ.out
  refine bodyPost_ret (v := .agg #[.string s0, .slice b1 n1 e1, .slice b2 n2 e2, .int .i64 0, .int .i64 0]) (by simp [results, Tryz.results23, go_sem, zz0, zz1, zz2, zz3, zz4]) rfl ?_
  have hkz := kept_of_wrote HKp.out HWZ.out (fun _ => ⟨by omega, by omega⟩)
  have hlz := kept_of_wrote HLp.out HWZ.out (fun _ => ⟨by omega, by omega⟩)
  have hsz : S ≤ Wz.heap.size := Nat.le_trans HS.out hkz.size
  refine ⟨[.string s0, .slice b1 n1 e1, .slice b2 n2 e2, .int .i64 0, .int .i64 0], rfl, ?_, hkz.below (Nat.le_refl _) fun x e => e.1⟩
  show MF (M (Zs S w.heap.size Wz) Wz d) (Zs S w.heap.size Wz) Wz [.str, .strs, .row .cn, .pos, .pos] _ _
  exact (.str Hq0.out (StrF.end_ (Hq1.out.kept hkz HS.out fun x e => (HCL.out x e).1) (HC1.out.kept hlz HCL.out) hsz (Nat.le_add_right _ 2) (RowF.end_ (Hq2.out.kept hkz HS.out fun x e => (HCL.out x e).1) (HC2.out.kept hlz HCL.out) hsz (Nat.le_add_right _ 2) (.pos (.pos .nil)))))
end Go.Proofs.YtdajihpfedbihaaGreat.St
/-
  CONTRACTS of layer parse: copies without places (ex). Written by gen_stbare.py.
-/
namespace Go.Proofs.YtdajihpfedbihaaGreat.St
open Go.RowKit Mm Tm
set_option linter.unusedVariables false
set_option linter.unusedSimpArgs false
set_option maxRecDepth 100000 in
set_option maxHeartbeats 8000000 in
theorem bare_ex {d : Nat} (ih_al : Cps 31 .al d) (ih_bd : Cps 27 .bd d) (ih_ex : Cps 7 .ex d) : Cps 7 .ex (d + 1) := by
  intro S w cs hS hG
  have hff : FF (G (· < S) w d) (· < S) w (schema .ex) cs := hG
  obtain ⟨x0, s1, x2, a3, n3, c3, S3, a4, n4, c4, C4, a5, n5, c5, C5, a6, n6, c6, C6, x7, x8, rfl, q1, q3, q4, q5, q6⟩ := inv_ex hff
  clear hG hff
  show Calls Tryz.prog 7 #[.agg #[.int .i64 x0, .string s1, .int .i64 x2, .slice a3 n3 c3, .slice a4 n4 c4, .slice a5 n5 c5, .slice a6 n6 c6, .int .i64 x7, .int .i64 x8]] w (CpPost .ex (d + 1) S [.int .i64 x0, .string s1, .int .i64 x2, .slice a3 n3 c3, .slice a4 n4 c4, .slice a5 n5 c5, .slice a6 n6 c6, .int .i64 x7, .int .i64 x8] w)
  have HS := Lib.hid hS
  have Hq1 := Lib.hid q1
  have Hq3 := Lib.hid q3
  have Hq4 := Lib.hid q4
  have Hq5 := Lib.hid q5
  have Hq6 := Lib.hid q6
  have hcl : ∀ x : Nat, (w.heap.size ≤ x ∧ x < w.heap.size + 2) → S ≤ x ∧ x < w.heap.size + 2 := fun x e => ⟨Nat.le_trans hS e.1, e.2⟩
  have HCL := Lib.hid hcl
  obtain ⟨W2, hW2⟩ : ∃ W2, (w.alloc (.cells #[.int .i64 x0, .string s1, .int .i64 x2, .slice a3 n3 c3, .slice a4 n4 c4, .slice a5 n5 c5, .slice a6 n6 c6, .int .i64 x7, .int .i64 x8] 33)).alloc (.cells #[.int .i64 0, .string ⟨#[]⟩, .int .i64 0, .slice none 0 0, .slice none 0 0, .slice none 0 0, .slice none 0 0, .int .i64 0, .int .i64 0] 33) = W2 := ⟨_, rfl⟩
  have HK := Lib.hid (show Kept (fun x => w.heap.size ≤ x ∧ x < w.heap.size + 2) w W2 from by rw [← hW2]; exact ((Kept.refl _ w).alloc _).alloc _)
  have HX := Lib.hid (show Box W2 w.heap.size 33 #[.int .i64 x0, .string s1, .int .i64 x2, .slice a3 n3 c3, .slice a4 n4 c4, .slice a5 n5 c5, .slice a6 n6 c6, .int .i64 x7, .int .i64 x8] from by rw [← hW2]; exact (Box.new w _ _).alloc _)
  have HR := Lib.hid (show Box W2 (w.heap.size + 1) 33 #[.int .i64 0, .string ⟨#[]⟩, .int .i64 0, .slice none 0 0, .slice none 0 0, .slice none 0 0, .slice none 0 0, .int .i64 0, .int .i64 0] from by rw [← hW2]; exact Box.at_ _ _ (by simp))
  have HZ2 := Lib.hid (show W2.heap.size = w.heap.size + 2 from by rw [← hW2]; simp)
  clear hS hcl q1 q3 q4 q5 q6
  have IH4 := Lib.hid ih_ex
  have IH5 := Lib.hid ih_al
  have IH6 := Lib.hid ih_bd
  clear ih_al ih_bd ih_ex
  go_enter Tryz.func7, Tryz.ntmps7
  obtain ⟨p0, p1, p2, p3, p4, p5, p6, p7, p8⟩ := bc9 HX.out
  obtain ⟨pf0, pf1, pf2, pf3, pf4, pf5, pf6, pf7, pf8⟩ := bf9 HX.out
  have hs3 : S ≤ W2.heap.size := Nat.le_trans HS.out HK.out.size
  have HE3 := Lib.hid (clone_strs W2 hs3 (c := c3) (Hq3.out.kept HK.out HS.out fun x e => (HCL.out x e).1))
  clear hs3
  go_wp2_with fail
  refine HE3.out.mono ?_
  rintro e V3 ⟨b3, e3, rfl, hrow, hb⟩
  have HSZ := Lib.hid (Nat.le_refl W2.heap.size)
  have HC3 := Lib.hid (show SR S (w.heap.size + 2) n3 S3 b3 V3 from SR.base hrow (Nat.le_trans (Nat.le_of_eq HZ2.out.symm) HSZ.out))
  replace HX := Lib.hid (HX.out.below hb HX.out.lt)
  replace HR := Lib.hid (HR.out.below hb HR.out.lt)
  replace HK := Lib.hid (HK.out.trans (Kept.of_below hb (Nat.le_refl _) _))
  replace HSZ := Lib.hid (Nat.le_trans HSZ.out hb.size)
  clear hb hrow p0 pf0 p1 pf1 p2 pf2 p3 pf3 p4 pf4 p5 pf5 p6 pf6 p7 pf7 p8 pf8
  obtain ⟨m3_0, m3_1, m3_2, m3_3, m3_4, m3_5, m3_6, m3_7, m3_8⟩ := bc9 HX.out
  obtain ⟨m3_f0, m3_f1, m3_f2, m3_f3, m3_f4, m3_f5, m3_f6, m3_f7, m3_f8⟩ := bf9 HX.out
  obtain ⟨U3, hU3⟩ : ∃ W, V3.setCell ⟨w.heap.size, 3, none⟩ (.slice b3 n3 e3) = W := ⟨_, rfl⟩
  replace HX := Lib.hid (show Box U3 w.heap.size 33 #[.int .i64 x0, .string s1, .int .i64 x2, .slice b3 n3 e3, .slice a4 n4 c4, .slice a5 n5 c5, .slice a6 n6 c6, .int .i64 x7, .int .i64 x8] from by rw [← hU3]; exact HX.out.put 3 _)
  replace HR := Lib.hid (show Box U3 (w.heap.size + 1) 33 #[.int .i64 0, .string ⟨#[]⟩, .int .i64 0, .slice none 0 0, .slice none 0 0, .slice none 0 0, .slice none 0 0, .int .i64 0, .int .i64 0] from by rw [← hU3]; exact HR.out.far (by show w.heap.size ≠ w.heap.size + 1; omega) _)
  have HL3 := Lib.hid (show Kept (fun x => w.heap.size ≤ x ∧ x < w.heap.size + 2) V3 U3 from by rw [← hU3]; exact (Kept.refl _ _).setCell (fun _ => ⟨Nat.le_refl _, (by show w.heap.size < w.heap.size + 2; omega)⟩) _)
  replace HK := Lib.hid (HK.out.trans HL3.out)
  replace HSZ := Lib.hid (Nat.le_trans HSZ.out HL3.out.size)
  replace HC3 := Lib.hid (HC3.out.kept HL3.out HCL.out)
  obtain ⟨k3_0, k3_1, k3_2, k3_3, k3_4, k3_5, k3_6, k3_7, k3_8⟩ := bc9 HX.out
  obtain ⟨k3_f0, k3_f1, k3_f2, k3_f3, k3_f4, k3_f5, k3_f6, k3_f7, k3_f8⟩ := bf9 HX.out
  have hs4 : S ≤ U3.heap.size := Nat.le_trans HS.out HK.out.size
  have HE4 := Lib.hid (each_ex (c := c4) U3 (enters_of Tryz.func7 (by kernel_rfl) rfl) IH4.out hs4 (Hq4.out.kept HK.out HS.out fun x e => (HCL.out x e).1))
  clear hs4
  go_wp2_with fail
  refine HE4.out.mono ?_
  rintro e V4 ⟨b4, e4, D4, rfl, hrow, hel, hb⟩
  have HC4 := Lib.hid (CR.base (⟨hrow, hel⟩ : CR .ex d S U3.heap.size n4 C4 b4 D4 V4) (Nat.le_trans (Nat.le_of_eq HZ2.out.symm) HSZ.out))
  replace HC3 := Lib.hid (HC3.out.below hb)
  replace HX := Lib.hid (HX.out.below hb HX.out.lt)
  replace HR := Lib.hid (HR.out.below hb HR.out.lt)
  replace HK := Lib.hid (HK.out.trans (Kept.of_below hb (Nat.le_refl _) _))
  replace HSZ := Lib.hid (Nat.le_trans HSZ.out hb.size)
  clear hb hrow hel k3_0 k3_f0 k3_1 k3_f1 k3_2 k3_f2 k3_3 k3_f3 k3_4 k3_f4 k3_5 k3_f5 k3_6 k3_f6 k3_7 k3_f7 k3_8 k3_f8
  obtain ⟨m4_0, m4_1, m4_2, m4_3, m4_4, m4_5, m4_6, m4_7, m4_8⟩ := bc9 HX.out
  obtain ⟨m4_f0, m4_f1, m4_f2, m4_f3, m4_f4, m4_f5, m4_f6, m4_f7, m4_f8⟩ := bf9 HX.out
  obtain ⟨U4, hU4⟩ : ∃ W, V4.setCell ⟨w.heap.size, 4, none⟩ (.slice b4 n4 e4) = W := ⟨_, rfl⟩
  replace HX := Lib.hid (show Box U4 w.heap.size 33 #[.int .i64 x0, .string s1, .int .i64 x2, .slice b3 n3 e3, .slice b4 n4 e4, .slice a5 n5 c5, .slice a6 n6 c6, .int .i64 x7, .int .i64 x8] from by rw [← hU4]; exact HX.out.put 4 _)
  replace HR := Lib.hid (show Box U4 (w.heap.size + 1) 33 #[.int .i64 0, .string ⟨#[]⟩, .int .i64 0, .slice none 0 0, .slice none 0 0, .slice none 0 0, .slice none 0 0, .int .i64 0, .int .i64 0] from by rw [← hU4]; exact HR.out.far (by show w.heap.size ≠ w.heap.size + 1; omega) _)
  have HL4 := Lib.hid (show Kept (fun x => w.heap.size ≤ x ∧ x < w.heap.size + 2) V4 U4 from by rw [← hU4]; exact (Kept.refl _ _).setCell (fun _ => ⟨Nat.le_refl _, (by show w.heap.size < w.heap.size + 2; omega)⟩) _)
  replace HK := Lib.hid (HK.out.trans HL4.out)
  replace HSZ := Lib.hid (Nat.le_trans HSZ.out HL4.out.size)
  replace HC3 := Lib.hid (HC3.out.kept HL4.out HCL.out)
  replace HC4 := Lib.hid (HC4.out.kept HL4.out HCL.out)
  obtain ⟨k4_0, k4_1, k4_2, k4_3, k4_4, k4_5, k4_6, k4_7, k4_8⟩ := bc9 HX.out
  obtain ⟨k4_f0, k4_f1, k4_f2, k4_f3, k4_f4, k4_f5, k4_f6, k4_f7, k4_f8⟩ := bf9 HX.out
  have hs5 : S ≤ U4.heap.size := Nat.le_trans HS.out HK.out.size
  have HE5 := Lib.hid (each_al (c := c5) U4 (enters_of Tryz.func31 (by kernel_rfl) rfl) IH5.out hs5 (Hq5.out.kept HK.out HS.out fun x e => (HCL.out x e).1))
  clear hs5
  go_wp2_with fail
  refine HE5.out.mono ?_
  rintro e V5 ⟨b5, e5, D5, rfl, hrow, hel, hb⟩
  have HC5 := Lib.hid (CR.base (⟨hrow, hel⟩ : CR .al d S U4.heap.size n5 C5 b5 D5 V5) (Nat.le_trans (Nat.le_of_eq HZ2.out.symm) HSZ.out))
  replace HC3 := Lib.hid (HC3.out.below hb)
  replace HC4 := Lib.hid (HC4.out.below hb)
  replace HX := Lib.hid (HX.out.below hb HX.out.lt)
  replace HR := Lib.hid (HR.out.below hb HR.out.lt)
  replace HK := Lib.hid (HK.out.trans (Kept.of_below hb (Nat.le_refl _) _))
  replace HSZ := Lib.hid (Nat.le_trans HSZ.out hb.size)
  clear hb hrow hel k4_0 k4_f0 k4_1 k4_f1 k4_2 k4_f2 k4_3 k4_f3 k4_4 k4_f4 k4_5 k4_f5 k4_6 k4_f6 k4_7 k4_f7 k4_8 k4_f8
  obtain ⟨m5_0, m5_1, m5_2, m5_3, m5_4, m5_5, m5_6, m5_7, m5_8⟩ := bc9 HX.out
  obtain ⟨m5_f0, m5_f1, m5_f2, m5_f3, m5_f4, m5_f5, m5_f6, m5_f7, m5_f8⟩ := bf9 HX.out
  obtain ⟨U5, hU5⟩ : ∃ W, V5.setCell ⟨w.heap.size, 5, none⟩ (.slice b5 n5 e5) = W := ⟨_, rfl⟩
  replace HX := Lib.hid (show Box U5 w.heap.size 33 #[.int .i64 x0, .string s1, .int .i64 x2, .slice b3 n3 e3, .slice b4 n4 e4, .slice b5 n5 e5, .slice a6 n6 c6, .int .i64 x7, .int .i64 x8] from by rw [← hU5]; exact HX.out.put 5 _)
  replace HR := Lib.hid (show Box U5 (w.heap.size + 1) 33 #[.int .i64 0, .string ⟨#[]⟩, .int .i64 0, .slice none 0 0, .slice none 0 0, .slice none 0 0, .slice none 0 0, .int .i64 0, .int .i64 0] from by rw [← hU5]; exact HR.out.far (by show w.heap.size ≠ w.heap.size + 1; omega) _)
  have HL5 := Lib.hid (show Kept (fun x => w.heap.size ≤ x ∧ x < w.heap.size + 2) V5 U5 from by rw [← hU5]; exact (Kept.refl _ _).setCell (fun _ => ⟨Nat.le_refl _, (by show w.heap.size < w.heap.size + 2; omega)⟩) _)
  replace HK := Lib.hid (HK.out.trans HL5.out)
  replace HSZ := Lib.hid (Nat.le_trans HSZ.out HL5.out.size)
  replace HC3 := Lib.hid (HC3.out.kept HL5.out HCL.out)
  replace HC4 := Lib.hid (HC4.out.kept HL5.out HCL.out)
  replace HC5 := Lib.hid (HC5.out.kept HL5.out HCL.out)
  obtain ⟨k5_0, k5_1, k5_2, k5_3, k5_4, k5_5, k5_6, k5_7, k5_8⟩ := bc9 HX.out
  obtain ⟨k5_f0, k5_f1, k5_f2, k5_f3, k5_f4, k5_f5, k5_f6, k5_f7, k5_f8⟩ := bf9 HX.out
  have hs6 : S ≤ U5.heap.size := Nat.le_trans HS.out HK.out.size
  have HE6 := Lib.hid (each_bd (c := c6) U5 (enters_of Tryz.func27 (by kernel_rfl) rfl) IH6.out hs6 (Hq6.out.kept HK.out HS.out fun x e => (HCL.out x e).1))
  clear hs6
  go_wp2_with fail
  refine HE6.out.mono ?_
  rintro e V6 ⟨b6, e6, D6, rfl, hrow, hel, hb⟩
  have HC6 := Lib.hid (CR.base (⟨hrow, hel⟩ : CR .bd d S U5.heap.size n6 C6 b6 D6 V6) (Nat.le_trans (Nat.le_of_eq HZ2.out.symm) HSZ.out))
  replace HC3 := Lib.hid (HC3.out.below hb)
  replace HC4 := Lib.hid (HC4.out.below hb)
  replace HC5 := Lib.hid (HC5.out.below hb)
  replace HX := Lib.hid (HX.out.below hb HX.out.lt)
  replace HR := Lib.hid (HR.out.below hb HR.out.lt)
  replace HK := Lib.hid (HK.out.trans (Kept.of_below hb (Nat.le_refl _) _))
  replace HSZ := Lib.hid (Nat.le_trans HSZ.out hb.size)
  clear hb hrow hel k5_0 k5_f0 k5_1 k5_f1 k5_2 k5_f2 k5_3 k5_f3 k5_4 k5_f4 k5_5 k5_f5 k5_6 k5_f6 k5_7 k5_f7 k5_8 k5_f8
  obtain ⟨m6_0, m6_1, m6_2, m6_3, m6_4, m6_5, m6_6, m6_7, m6_8⟩ := bc9 HX.out
  obtain ⟨m6_f0, m6_f1, m6_f2, m6_f3, m6_f4, m6_f5, m6_f6, m6_f7, m6_f8⟩ := bf9 HX.out
  obtain ⟨U6, hU6⟩ : ∃ W, V6.setCell ⟨w.heap.size, 6, none⟩ (.slice b6 n6 e6) = W := ⟨_, rfl⟩
  replace HX := Lib.hid (show Box U6 w.heap.size 33 #[.int .i64 x0, .string s1, .int .i64 x2, .slice b3 n3 e3, .slice b4 n4 e4, .slice b5 n5 e5, .slice b6 n6 e6, .int .i64 x7, .int .i64 x8] from by rw [← hU6]; exact HX.out.put 6 _)
  replace HR := Lib.hid (show Box U6 (w.heap.size + 1) 33 #[.int .i64 0, .string ⟨#[]⟩, .int .i64 0, .slice none 0 0, .slice none 0 0, .slice none 0 0, .slice none 0 0, .int .i64 0, .int .i64 0] from by rw [← hU6]; exact HR.out.far (by show w.heap.size ≠ w.heap.size + 1; omega) _)
  have HL6 := Lib.hid (show Kept (fun x => w.heap.size ≤ x ∧ x < w.heap.size + 2) V6 U6 from by rw [← hU6]; exact (Kept.refl _ _).setCell (fun _ => ⟨Nat.le_refl _, (by show w.heap.size < w.heap.size + 2; omega)⟩) _)
  replace HK := Lib.hid (HK.out.trans HL6.out)
  replace HSZ := Lib.hid (Nat.le_trans HSZ.out HL6.out.size)
  replace HC3 := Lib.hid (HC3.out.kept HL6.out HCL.out)
  replace HC4 := Lib.hid (HC4.out.kept HL6.out HCL.out)
  replace HC5 := Lib.hid (HC5.out.kept HL6.out HCL.out)
  replace HC6 := Lib.hid (HC6.out.kept HL6.out HCL.out)
  obtain ⟨k6_0, k6_1, k6_2, k6_3, k6_4, k6_5, k6_6, k6_7, k6_8⟩ := bc9 HX.out
  obtain ⟨k6_f0, k6_f1, k6_f2, k6_f3, k6_f4, k6_f5, k6_f6, k6_f7, k6_f8⟩ := bf9 HX.out
  obtain ⟨Wp, hWp⟩ : ∃ W, ((U6.setCell ⟨w.heap.size, 7, none⟩ (.int .i64 0)).setCell ⟨w.heap.size, 8, none⟩ (.int .i64 0)) = W := ⟨_, rfl⟩
  have HXp := Lib.hid (show Box Wp w.heap.size 33 #[.int .i64 x0, .string s1, .int .i64 x2, .slice b3 n3 e3, .slice b4 n4 e4, .slice b5 n5 e5, .slice b6 n6 e6, .int .i64 0, .int .i64 0] from by rw [← hWp]; exact ((HX.out.put 7 (.int .i64 0)).put 8 (.int .i64 0)))
  have HRp := Lib.hid (show Box Wp (w.heap.size + 1) 33 #[.int .i64 0, .string ⟨#[]⟩, .int .i64 0, .slice none 0 0, .slice none 0 0, .slice none 0 0, .slice none 0 0, .int .i64 0, .int .i64 0] from by rw [← hWp]; exact ((HR.out.far (by show w.heap.size ≠ w.heap.size + 1; omega) _).far (by show w.heap.size ≠ w.heap.size + 1; omega) _))
  have HKp := Lib.hid (show Kept (fun x => w.heap.size ≤ x ∧ x < w.heap.size + 2) w Wp from by rw [← hWp]; exact (Kept.setCell (Kept.setCell HK.out (fun _ => ⟨Nat.le_refl _, (by show w.heap.size < w.heap.size + 2; omega)⟩) _) (fun _ => ⟨Nat.le_refl _, (by show w.heap.size < w.heap.size + 2; omega)⟩) _))
  have HLp := Lib.hid (show Kept (fun x => w.heap.size ≤ x ∧ x < w.heap.size + 2) U6 Wp from by rw [← hWp]; exact (Kept.setCell (Kept.setCell (Kept.refl (fun x => w.heap.size ≤ x ∧ x < w.heap.size + 2) U6) (fun _ => ⟨Nat.le_refl _, (by show w.heap.size < w.heap.size + 2; omega)⟩) _) (fun _ => ⟨Nat.le_refl _, (by show w.heap.size < w.heap.size + 2; omega)⟩) _))
  obtain ⟨u0, u1, u2, u3, u4, u5, u6, u7, u8⟩ := bc9 HXp.out
  obtain ⟨uf0, uf1, uf2, uf3, uf4, uf5, uf6, uf7, uf8⟩ := bf9 HXp.out
  obtain ⟨r0, r1, r2, r3, r4, r5, r6, r7, r8⟩ := bc9 HRp.out
  obtain ⟨rf0, rf1, rf2, rf3, rf4, rf5, rf6, rf7, rf8⟩ := bf9 HRp.out
  obtain ⟨Wz, hWz, hbz, hwz⟩ := bw9 HRp.out (.int .i64 x0) (.string s1) (.int .i64 x2) (.slice b3 n3 e3) (.slice b4 n4 e4) (.slice b5 n5 e5) (.slice b6 n6 e6) (.int .i64 0) (.int .i64 0)
  have HBZ := Lib.hid hbz
  have HWZ := Lib.hid hwz
  clear hbz hwz
  go_wp2_with fail
  obtain ⟨zz0, zz1, zz2, zz3, zz4, zz5, zz6, zz7, zz8⟩ := bc9 HBZ.out
  refine bodyPost_ret (v := .agg #[.int .i64 x0, .string s1, .int .i64 x2, .slice b3 n3 e3, .slice b4 n4 e4, .slice b5 n5 e5, .slice b6 n6 e6, .int .i64 0, .int .i64 0]) (by simp [results, Tryz.results7, go_sem, zz0, zz1, zz2, zz3, zz4, zz5, zz6, zz7, zz8]) rfl ?_
  have hkz := kept_of_wrote HKp.out HWZ.out (fun _ => ⟨by omega, by omega⟩)
  have hlz := kept_of_wrote HLp.out HWZ.out (fun _ => ⟨by omega, by omega⟩)
  have hsz : S ≤ Wz.heap.size := Nat.le_trans HS.out hkz.size
  refine ⟨[.int .i64 x0, .string s1, .int .i64 x2, .slice b3 n3 e3, .slice b4 n4 e4, .slice b5 n5 e5, .slice b6 n6 e6, .int .i64 0, .int .i64 0], rfl, ?_, hkz.below (Nat.le_refl _) fun x e => e.1⟩
  show MF (M (Zs S w.heap.size Wz) Wz d) (Zs S w.heap.size Wz) Wz [.int, .str, .int, .strs, .row .ex, .row .al, .row .bd, .pos, .pos] _ _
  exact (.int (.str Hq1.out (.int (StrF.end_ (Hq3.out.kept hkz HS.out fun x e => (HCL.out x e).1) (HC3.out.kept hlz HCL.out) hsz (Nat.le_add_right _ 2) (RowF.end_ (Hq4.out.kept hkz HS.out fun x e => (HCL.out x e).1) (HC4.out.kept hlz HCL.out) hsz (Nat.le_add_right _ 2) (RowF.end_ (Hq5.out.kept hkz HS.out fun x e => (HCL.out x e).1) (HC5.out.kept hlz HCL.out) hsz (Nat.le_add_right _ 2) (RowF.end_ (Hq6.out.kept hkz HS.out fun x e => (HCL.out x e).1) (HC6.out.kept hlz HCL.out) hsz (Nat.le_add_right _ 2) (.pos (.pos .nil)))))))))
end Go.Proofs.YtdajihpfedbihaaGreat.St
