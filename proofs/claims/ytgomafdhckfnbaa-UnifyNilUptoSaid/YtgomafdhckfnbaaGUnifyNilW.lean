/-
  The walk of the law changelinglaw10.UnifyNil: a store that is not there, and types that may not be, are told; for a type of at most 1048576 parts.
-/
import Derived.Test.YtgomafdhckfnbaaGE
import Derived.Test.YtgomafdhckfnbaaGT
import Derived.Test.YtgomafdhckfnbaaGUnLw

namespace Go.Proofs.Ytgomafdhckfnbaa.UnifyNil
open Go.RowKit Go.Shelf Mm Tm Mk Un Go.Maps Go.ChangeMaps Go.MapKept Go.WideMaps
set_option linter.unusedVariables false
set_option linter.unusedSimpArgs false
theorem good_okT : ∀ t : Tys, okT t = true → goodT t = true
  | .nil, _ => rfl
  | .cons kd n nm args rest, h => by
    rw [okT, Bool.and_eq_true] at h
    rw [goodT]
    by_cases hk : kd = 1
    · rw [if_pos hk] at h ⊢
      unfold headV at h
      simp only [Bool.and_eq_true, decide_eq_true_eq] at h
      obtain ⟨⟨h1, h2, h3, h4⟩, h5⟩ := h
      have hi : inI n = true := inI_iff.2 ⟨by omega, by omega⟩
      simp only [hi, h3, h4, good_okT rest h5]
      rfl
    · rw [if_neg hk, Bool.and_eq_true] at h
      have h0 : kd ≠ 0 := by
        have := h.1.1
        unfold headC at this
        simp only [Bool.and_eq_true, Bool.or_eq_true, decide_eq_true_eq] at this
        omega
      rw [if_neg hk]
      simp [h0, good_okT args h.1.2, good_okT rest h.2]
theorem good_ok {x : Ty} (h : okTy x = true) : goodTy x = true := by
  have := good_okT (.cons x.kd x.n x.nm x.args .nil) (by rw [okT]; unfold okTy at h; rw [h]; rfl)
  rw [goodT] at this
  unfold goodTy
  by_cases hk : x.kd = 1
  · rw [if_pos hk] at this ⊢
    simpa [goodT] using this
  · rw [if_neg hk] at this ⊢
    simpa [goodT] using this
theorem szT_nodes : ∀ t : Tys, szT t = t.nodes
  | .nil => rfl
  | .cons kd n nm args rest => by rw [szT, Tys.nodes, szT_nodes args, szT_nodes rest]; omega
theorem open_total {x : Ty} (h : okTy x = true) (hn : x.args.nodes ≤ 1048576) : ∃ L, openL 1 (fun _ => none) true 1048577 (fun _ => 0) [x] = some L := by
  have hs : szL [x] = 1 + x.args.nodes := by rw [szL, szL, szY, szT_nodes]; omega
  exact LinkOK.openL linkOK_empty (Nat.zero_lt_one) true (V := []) (fun n kd nm xs h => by cases h) 1048577 (fun _ => 0) [x] (fun z hz => by rw [List.mem_singleton.1 hz]; exact good_ok h) (fun n => by simp) (by decide) (by rw [hs]; simp only [leftL]; omega)
theorem whole_total {x : Ty} (h : okTy x = true) : ∃ r, wholeP 1 (fun _ => none) 256 256 x = some r := by
  obtain ⟨r, hr, _⟩ := LinkOK.whole linkOK_empty (Nat.zero_lt_one) 256 256 x (Nat.le_refl _) (good_ok h)
  exact ⟨r, hr⟩
def z0U : Ty := ⟨0, 0, noN, .nil⟩
theorem same_zero {a b : Option Addr} {c d : Nat} (w : World) : Calls Try.prog 12 #[.agg #[.int .i64 0, .int .i64 0, .string ⟨#[]⟩, .slice a 0 c], .agg #[.int .i64 0, .int .i64 0, .string ⟨#[]⟩, .slice b 0 d]] w (ValB (.bool true) w) :=
  (rsame_any (Z := fun _ => False) (Z' := fun _ => False) 0 z0U z0U (Nat.le_refl _) a b c d w trivial trivial (fun b h => h.elim) (fun b h => h.elim) (by simp [z0U, Tys.len])).mono fun e w' ⟨v, he, hv, hb⟩ => ⟨by rw [he, hv.2 rfl], hb⟩
theorem same_var {n : Int} {a b : Option Addr} {c d : Nat} (w : World) : Calls Try.prog 12 #[.agg #[.int .i64 1, .int .i64 n, .string ⟨#[]⟩, .slice a 0 c], .agg #[.int .i64 1, .int .i64 n, .string ⟨#[]⟩, .slice b 0 d]] w (ValB (.bool true) w) :=
  (rsame_any (Z := fun _ => False) (Z' := fun _ => False) 0 (vrT n) (vrT n) (Nat.le_refl _) a b c d w trivial trivial (fun b h => h.elim) (fun b h => h.elim) (by simp [Tys.len])).mono fun e w' ⟨v, he, hv, hb⟩ => ⟨by rw [he, hv.2 rfl], hb⟩
set_option maxRecDepth 100000 in
set_option maxHeartbeats 8000000 in
theorem law (x : Ty) (ax : Option Addr) (cx : Nat) (y : Ty) (ay : Option Addr) (cy : Nat) (w : World) (hn : x.args.nodes ≤ 1048576) (hqx : x.nm.size ≤ 9223372036854775807 ∧ x.args.len * 56 ≤ 140737488355328 ∧ RdT (· < w.heap.size) w ax x.args 0) (hqy : y.nm.size ≤ 9223372036854775807 ∧ y.args.len * 56 ≤ 140737488355328 ∧ RdT (· < w.heap.size) w ay y.args 0) :
    Calls Try.prog 8 #[.agg #[.int .i64 x.kd, .int .i64 x.n, .string x.nm, .slice ax x.args.len cx], .agg #[.int .i64 y.kd, .int .i64 y.n, .string y.nm, .slice ay y.args.len cy]] w fun e w' => e = .returned (.bool true) ∧ Below w.heap.size w w' := by
  obtain ⟨W0, hW0⟩ : ∃ W0, (w.alloc (.cells #[.int .i64 x.kd, .int .i64 x.n, .string x.nm, .slice ax x.args.len cx] TT)).alloc (.cells #[.int .i64 y.kd, .int .i64 y.n, .string y.nm, .slice ay y.args.len cy] TT) = W0 := ⟨_, rfl⟩
  obtain ⟨w0, hw0⟩ : ∃ w0, w0 = W0 := ⟨_, rfl⟩
  subst hw0
  have HB_0 := Lib.hid (show Below w.heap.size w w0 by rw [← hW0]; exact ((Below.refl w.heap.size w).alloc (Nat.le_refl _) _).alloc (by simp) _)
  have X_0 := Lib.hid (show Box w0 w.heap.size TT #[.int .i64 x.kd, .int .i64 x.n, .string x.nm, .slice ax x.args.len cx] by rw [← hW0]; exact (Box.new w _ _).alloc _)
  have Y_0 := Lib.hid (show Box w0 (w.heap.size + 1) TT #[.int .i64 y.kd, .int .i64 y.n, .string y.nm, .slice ay y.args.len cy] by rw [← hW0]; exact Box.at_ _ _ (by simp))
  have TX_0 := Lib.hid (show TyR w.heap.size w0 x ax from ⟨(hqx.2.2.below HB_0.out fun q h => h).mono fun q h => .inl ⟨h, Nat.lt_of_lt_of_le h HB_0.out.size⟩, hqx.2.1, hqx.1⟩)
  have HN := Lib.hid hn
  clear hn hqx hqy
  obtain ⟨x0, x1, x2, x3, _⟩ := X_0.out.cells4
  obtain ⟨y0, y1, y2, y3, _⟩ := Y_0.out.cells4
  go_enter Try.func8, Try.ntmps8
  go_wp2_with fail
  refine (resolve_nil (x := x) (ax := ax) (cx := cx) w0).mono ?_
  rintro e w1 ⟨rfl, hb⟩
  have HB_1 : Hid (Below w.heap.size w w1) := Lib.hid (HB_0.out.trans (hb.mono HB_0.out.size))
  have X_1 := Lib.hid (X_0.out.below hb X_0.out.lt)
  have Y_1 := Lib.hid (Y_0.out.below hb Y_0.out.lt)
  have TX_1 := Lib.hid (TX_0.out.below hb)
  clear hb
  clear hW0 x0 x1 x2 x3 y0 y1 y2 y3
  obtain ⟨w2, hw2⟩ : ∃ w2, w1.alloc (.cells zeroT TT) = w2 := ⟨_, rfl⟩
  have hb : Below w1.heap.size w1 w2 := by rw [← hw2]; exact (Below.refl _ w1).alloc (Nat.le_refl _) _
  have Z_2 := Lib.hid (show Box w2 w1.heap.size TT zeroT by rw [← hw2]; exact Box.new _ _ _)
  have HB_2 : Hid (Below w.heap.size w w2) := Lib.hid (HB_1.out.trans (hb.mono HB_1.out.size))
  have X_2 := Lib.hid (X_1.out.below hb X_1.out.lt)
  have Y_2 := Lib.hid (Y_1.out.below hb Y_1.out.lt)
  have TX_2 := Lib.hid (TX_1.out.below hb)
  clear hb
  have HW_2 := Lib.hid hw2
  clear hw2
  obtain ⟨x0, x1, x2, x3, _⟩ := X_2.out.cells4
  obtain ⟨v0, v1, v2, v3, _⟩ := X_1.out.cells4
  have z12 := X_1.out.lt
  go_upto_region 3 with fail
  rw [HW_2.out]
  clear v0 v1 v2 v3
  go_wp2_with fail
  refine (leaves_nil (x := x) (ax := ax) (cx := cx) w2).mono ?_
  rintro e w3 ⟨rfl, hb⟩
  have HB_3 : Hid (Below w.heap.size w w3) := Lib.hid (HB_2.out.trans (hb.mono HB_2.out.size))
  have X_3 := Lib.hid (X_2.out.below hb X_2.out.lt)
  have Y_3 := Lib.hid (Y_2.out.below hb Y_2.out.lt)
  have Z_3 := Lib.hid (Z_2.out.below hb Z_2.out.lt)
  have TX_3 := Lib.hid (TX_2.out.below hb)
  clear hb
  clear x0 x1 x2 x3
  go_wp2_with fail
  refine (new_store (base := w.heap.size) w3 HB_3.out.size).mono ?_
  rintro e w4 ⟨s, m, rfl, _, _, hS, hb⟩
  have S_4 := Lib.hid hS
  clear hS
  have HB_4 : Hid (Below w.heap.size w w4) := Lib.hid (HB_3.out.trans (hb.mono HB_3.out.size))
  have X_4 := Lib.hid (X_3.out.below hb X_3.out.lt)
  have Y_4 := Lib.hid (Y_3.out.below hb Y_3.out.lt)
  have Z_4 := Lib.hid (Z_3.out.below hb Z_3.out.lt)
  have TX_4 := Lib.hid (TX_3.out.below hb)
  clear hb
  obtain ⟨x0, x1, x2, x3, _⟩ := X_4.out.cells4
  by_cases hok : okTy x = true
  case neg =>
    have hok' : okTy x = false := by simpa using hok
    have HOK := Lib.hid hok'
    clear hok hok'
    go_wp2_with fail
    refine (resolve_no (base := w.heap.size) (s := s) (cx := cx) w4 TX_4.out HOK.out).mono ?_
    rintro e w5 ⟨rfl, hb⟩
    have HB_5 : Hid (Below w.heap.size w w5) := Lib.hid (HB_4.out.trans (hb.mono HB_4.out.size))
    have X_5 := Lib.hid (X_4.out.below hb X_4.out.lt)
    have Y_5 := Lib.hid (Y_4.out.below hb Y_4.out.lt)
    have Z_5 := Lib.hid (Z_4.out.below hb Z_4.out.lt)
    have TX_5 := Lib.hid (TX_4.out.below hb)
    have S_5 := Lib.hid (S_4.out.below hb)
    clear hb
    clear x0 x1 x2 x3
    obtain ⟨w6, hw6⟩ : ∃ w6, w5.alloc (.cells zeroT TT) = w6 := ⟨_, rfl⟩
    have hb : Below w5.heap.size w5 w6 := by rw [← hw6]; exact (Below.refl _ w5).alloc (Nat.le_refl _) _
    have R_6 := Lib.hid (show Box w6 w5.heap.size TT zeroT by rw [← hw6]; exact Box.new _ _ _)
    have HB_6 : Hid (Below w.heap.size w w6) := Lib.hid (HB_5.out.trans (hb.mono HB_5.out.size))
    have X_6 := Lib.hid (X_5.out.below hb X_5.out.lt)
    have Y_6 := Lib.hid (Y_5.out.below hb Y_5.out.lt)
    have Z_6 := Lib.hid (Z_5.out.below hb Z_5.out.lt)
    have TX_6 := Lib.hid (TX_5.out.below hb)
    have S_6 := Lib.hid (S_5.out.below hb)
    clear hb
    have HW_6 := Lib.hid hw6
    clear hw6
    obtain ⟨x0, x1, x2, x3, _⟩ := X_6.out.cells4
    go_upto_region 8 with fail
    rw [HW_6.out]
    have HRI := Lib.hid (rright_any x.args.nodes x (Nat.le_refl _) ax cx w6 TX_6.out.1 (fun b hz => hz.lt) TX_6.out.2.1)
    unfold tyV at HRI
    rw [HOK.out] at HRI
    go_wp2_with fail
    refine HRI.out.mono ?_
    rintro e w7 ⟨rfl, hb⟩
    have HB_7 : Hid (Below w.heap.size w w7) := Lib.hid (HB_6.out.trans (hb.mono HB_6.out.size))
    have X_7 := Lib.hid (X_6.out.below hb X_6.out.lt)
    have Y_7 := Lib.hid (Y_6.out.below hb Y_6.out.lt)
    have Z_7 := Lib.hid (Z_6.out.below hb Z_6.out.lt)
    have R_7 := Lib.hid (R_6.out.below hb R_6.out.lt)
    have TX_7 := Lib.hid (TX_6.out.below hb)
    have S_7 := Lib.hid (S_6.out.below hb)
    clear hb
    clear x0 x1 x2 x3
    obtain ⟨x0, x1, x2, x3, _⟩ := X_7.out.cells4
    go_wp2_with fail
    refine (leaves_no (base := w.heap.size) (s := s) (cx := cx) w7 TX_7.out HOK.out).mono ?_
    rintro e w8 ⟨rfl, hb⟩
    have HB_8 : Hid (Below w.heap.size w w8) := Lib.hid (HB_7.out.trans (hb.mono HB_7.out.size))
    have X_8 := Lib.hid (X_7.out.below hb X_7.out.lt)
    have Y_8 := Lib.hid (Y_7.out.below hb Y_7.out.lt)
    have Z_8 := Lib.hid (Z_7.out.below hb Z_7.out.lt)
    have R_8 := Lib.hid (R_7.out.below hb R_7.out.lt)
    have TX_8 := Lib.hid (TX_7.out.below hb)
    have S_8 := Lib.hid (S_7.out.below hb)
    clear hb
    clear x0 x1 x2 x3
    obtain ⟨x0, x1, x2, x3, _⟩ := X_8.out.cells4
    obtain ⟨y0, y1, y2, y3, _⟩ := Y_8.out.cells4
    go_wp2_with fail
    refine (unify_nil (x := x) (y := y) (ax := ax) (ay := ay) (cx := cx) (cy := cy) w8).mono ?_
    rintro e w9 ⟨rfl, hb⟩
    have HB_9 : Hid (Below w.heap.size w w9) := Lib.hid (HB_8.out.trans (hb.mono HB_8.out.size))
    have X_9 := Lib.hid (X_8.out.below hb X_8.out.lt)
    have Y_9 := Lib.hid (Y_8.out.below hb Y_8.out.lt)
    have Z_9 := Lib.hid (Z_8.out.below hb Z_8.out.lt)
    have R_9 := Lib.hid (R_8.out.below hb R_8.out.lt)
    have TX_9 := Lib.hid (TX_8.out.below hb)
    have S_9 := Lib.hid (S_8.out.below hb)
    clear hb
    clear x0 x1 x2 x3 y0 y1 y2 y3
    obtain ⟨z0, z1, z2, z3, _⟩ := Z_9.out.cells4
    go_wp2_with fail
    refine (same_zero w9).mono ?_
    rintro e w10 ⟨rfl, hb⟩
    have HB_10 : Hid (Below w.heap.size w w10) := Lib.hid (HB_9.out.trans (hb.mono HB_9.out.size))
    have X_10 := Lib.hid (X_9.out.below hb X_9.out.lt)
    have Y_10 := Lib.hid (Y_9.out.below hb Y_9.out.lt)
    have Z_10 := Lib.hid (Z_9.out.below hb Z_9.out.lt)
    have R_10 := Lib.hid (R_9.out.below hb R_9.out.lt)
    have TX_10 := Lib.hid (TX_9.out.below hb)
    have S_10 := Lib.hid (S_9.out.below hb)
    clear hb
    clear z0 z1 z2 z3
    go_wp2_with fail
    refine (fresh_nil w10).mono ?_
    rintro e w11 ⟨rfl, hb⟩
    have HB_11 : Hid (Below w.heap.size w w11) := Lib.hid (HB_10.out.trans (hb.mono HB_10.out.size))
    have X_11 := Lib.hid (X_10.out.below hb X_10.out.lt)
    have Y_11 := Lib.hid (Y_10.out.below hb Y_10.out.lt)
    have Z_11 := Lib.hid (Z_10.out.below hb Z_10.out.lt)
    have R_11 := Lib.hid (R_10.out.below hb R_10.out.lt)
    have TX_11 := Lib.hid (TX_10.out.below hb)
    have S_11 := Lib.hid (S_10.out.below hb)
    clear hb
    go_wp2_with fail
    refine (rvar_any 0 w11).mono ?_
    rintro e w12 ⟨a12, c12, rfl, -, hb⟩
    simp only [vrT, Tys.len]
    have HB_12 : Hid (Below w.heap.size w w12) := Lib.hid (HB_11.out.trans (hb.mono HB_11.out.size))
    have X_12 := Lib.hid (X_11.out.below hb X_11.out.lt)
    have Y_12 := Lib.hid (Y_11.out.below hb Y_11.out.lt)
    have Z_12 := Lib.hid (Z_11.out.below hb Z_11.out.lt)
    have R_12 := Lib.hid (R_11.out.below hb R_11.out.lt)
    have TX_12 := Lib.hid (TX_11.out.below hb)
    have S_12 := Lib.hid (S_11.out.below hb)
    clear hb
    go_wp2_with fail
    refine (same_var (n := 0) w12).mono ?_
    rintro e w13 ⟨rfl, hb⟩
    have HB_13 : Hid (Below w.heap.size w w13) := Lib.hid (HB_12.out.trans (hb.mono HB_12.out.size))
    have X_13 := Lib.hid (X_12.out.below hb X_12.out.lt)
    have Y_13 := Lib.hid (Y_12.out.below hb Y_12.out.lt)
    have Z_13 := Lib.hid (Z_12.out.below hb Z_12.out.lt)
    have R_13 := Lib.hid (R_12.out.below hb R_12.out.lt)
    have TX_13 := Lib.hid (TX_12.out.below hb)
    have S_13 := Lib.hid (S_12.out.below hb)
    clear hb
    obtain ⟨r0, r1, r2, r3, _⟩ := R_13.out.cells4
    go_wp2_with fail
    refine (same_zero w13).mono ?_
    rintro e w14 ⟨rfl, hb⟩
    have HB_14 : Hid (Below w.heap.size w w14) := Lib.hid (HB_13.out.trans (hb.mono HB_13.out.size))
    have X_14 := Lib.hid (X_13.out.below hb X_13.out.lt)
    have Y_14 := Lib.hid (Y_13.out.below hb Y_13.out.lt)
    have Z_14 := Lib.hid (Z_13.out.below hb Z_13.out.lt)
    have R_14 := Lib.hid (R_13.out.below hb R_13.out.lt)
    have TX_14 := Lib.hid (TX_13.out.below hb)
    have S_14 := Lib.hid (S_13.out.below hb)
    clear hb
    clear r0 r1 r2 r3
    go_wp2_with fail
    refine (known_any w14).mono ?_
    rintro e w15 ⟨rfl, hb⟩
    have HB_15 : Hid (Below w.heap.size w w15) := Lib.hid (HB_14.out.trans (hb.mono HB_14.out.size))
    have TX_15 := Lib.hid (TX_14.out.below hb)
    clear hb
    go_wp2_with fail
    go_ret
    exact ⟨rfl, HB_15.out⟩
  have HOK := Lib.hid hok
  obtain ⟨L, hL⟩ := open_total hok HN.out
  have HOL := Lib.hid hL
  obtain ⟨⟨ro, oy⟩, hr⟩ := whole_total hok
  have HRS := Lib.hid (resolve_ok (q := 1) (k := 256) (cx := cx) w4 S_4.out HB_4.out.size TX_4.out hok hr)
  clear hok hL hr
  go_wp2_with fail
  refine HRS.out.mono ?_
  rintro e w5 ⟨hV, hS, hk⟩
  have HB_5 : Hid (Below w.heap.size w w5) := Lib.hid (HB_4.out.trans (Kept.below hk HB_4.out.size (fun b e => by rw [e]; exact S_4.out.bs)))
  have X_5 := Lib.hid (hk.box X_4.out (fun e => absurd ((show Box w4 s TT _ by rw [← e]; exact X_4.out).same S_4.out.box) (by decide)))
  have Y_5 := Lib.hid (hk.box Y_4.out (fun e => absurd ((show Box w4 s TT _ by rw [← e]; exact Y_4.out).same S_4.out.box) (by decide)))
  have Z_5 := Lib.hid (hk.box Z_4.out (fun e => absurd ((show Box w4 s TT _ by rw [← e]; exact Z_4.out).same S_4.out.box) (by decide)))
  have TX_5 := Lib.hid (TX_4.out.kept hk (fun b e => by rw [e]; exact ⟨S_4.out.bs, Box.notTyB S_4.out.box (by decide)⟩))
  have S_5 := Lib.hid hS
  clear hk hS
  cases oy with
  | none =>
    have he : e = .returned (.tuple #[zeroTV, .int .i64 102]) := hV
    subst he
    clear hV
    clear x0 x1 x2 x3
    obtain ⟨w6, hw6⟩ : ∃ w6, w5.alloc (.cells zeroT TT) = w6 := ⟨_, rfl⟩
    have hb : Below w5.heap.size w5 w6 := by rw [← hw6]; exact (Below.refl _ w5).alloc (Nat.le_refl _) _
    have R_6 := Lib.hid (show Box w6 w5.heap.size TT zeroT by rw [← hw6]; exact Box.new _ _ _)
    have HB_6 : Hid (Below w.heap.size w w6) := Lib.hid (HB_5.out.trans (hb.mono HB_5.out.size))
    have X_6 := Lib.hid (X_5.out.below hb X_5.out.lt)
    have Y_6 := Lib.hid (Y_5.out.below hb Y_5.out.lt)
    have Z_6 := Lib.hid (Z_5.out.below hb Z_5.out.lt)
    have TX_6 := Lib.hid (TX_5.out.below hb)
    have S_6 := Lib.hid (S_5.out.below hb)
    clear hb
    have HW_6 := Lib.hid hw6
    clear hw6
    obtain ⟨x0, x1, x2, x3, _⟩ := X_6.out.cells4
    go_upto_region 8 with fail
    rw [HW_6.out]
    have HRI := Lib.hid (rright_any x.args.nodes x (Nat.le_refl _) ax cx w6 TX_6.out.1 (fun b hz => hz.lt) TX_6.out.2.1)
    unfold tyV at HRI
    rw [HOK.out] at HRI
    go_wp2_with fail
    refine HRI.out.mono ?_
    rintro e w7 ⟨rfl, hb⟩
    have HB_7 : Hid (Below w.heap.size w w7) := Lib.hid (HB_6.out.trans (hb.mono HB_6.out.size))
    have X_7 := Lib.hid (X_6.out.below hb X_6.out.lt)
    have Y_7 := Lib.hid (Y_6.out.below hb Y_6.out.lt)
    have Z_7 := Lib.hid (Z_6.out.below hb Z_6.out.lt)
    have R_7 := Lib.hid (R_6.out.below hb R_6.out.lt)
    have TX_7 := Lib.hid (TX_6.out.below hb)
    have S_7 := Lib.hid (S_6.out.below hb)
    clear hb
    clear x0 x1 x2 x3
    obtain ⟨x0, x1, x2, x3, _⟩ := X_7.out.cells4
    have HLV := Lib.hid (leaves_ok (q := 1) (d := 1048577) (cx := cx) w7 S_7.out HB_7.out.size TX_7.out HOK.out (by decide) HOL.out)
    go_wp2_with fail
    refine HLV.out.mono ?_
    rintro e w8 ⟨a8, c8, rfl, -, hS, hk⟩
    have HB_8 : Hid (Below w.heap.size w w8) := Lib.hid (HB_7.out.trans (Kept.below hk HB_7.out.size (fun b e => by rw [e]; exact S_7.out.bs)))
    have X_8 := Lib.hid (hk.box X_7.out (fun e => absurd ((show Box w7 s TT _ by rw [← e]; exact X_7.out).same S_7.out.box) (by decide)))
    have Y_8 := Lib.hid (hk.box Y_7.out (fun e => absurd ((show Box w7 s TT _ by rw [← e]; exact Y_7.out).same S_7.out.box) (by decide)))
    have Z_8 := Lib.hid (hk.box Z_7.out (fun e => absurd ((show Box w7 s TT _ by rw [← e]; exact Z_7.out).same S_7.out.box) (by decide)))
    have R_8 := Lib.hid (hk.box R_7.out (fun e => absurd ((show Box w7 s TT _ by rw [← e]; exact R_7.out).same S_7.out.box) (by decide)))
    have TX_8 := Lib.hid (TX_7.out.kept hk (fun b e => by rw [e]; exact ⟨S_7.out.bs, Box.notTyB S_7.out.box (by decide)⟩))
    have S_8 := Lib.hid hS
    clear hk hS
    clear x0 x1 x2 x3
    obtain ⟨x0, x1, x2, x3, _⟩ := X_8.out.cells4
    obtain ⟨y0, y1, y2, y3, _⟩ := Y_8.out.cells4
    go_wp2_with fail
    refine (unify_nil (x := x) (y := y) (ax := ax) (ay := ay) (cx := cx) (cy := cy) w8).mono ?_
    rintro e w9 ⟨rfl, hb⟩
    have HB_9 : Hid (Below w.heap.size w w9) := Lib.hid (HB_8.out.trans (hb.mono HB_8.out.size))
    have X_9 := Lib.hid (X_8.out.below hb X_8.out.lt)
    have Y_9 := Lib.hid (Y_8.out.below hb Y_8.out.lt)
    have Z_9 := Lib.hid (Z_8.out.below hb Z_8.out.lt)
    have R_9 := Lib.hid (R_8.out.below hb R_8.out.lt)
    have TX_9 := Lib.hid (TX_8.out.below hb)
    have S_9 := Lib.hid (S_8.out.below hb)
    clear hb
    clear x0 x1 x2 x3 y0 y1 y2 y3
    obtain ⟨z0, z1, z2, z3, _⟩ := Z_9.out.cells4
    go_wp2_with fail
    refine (same_zero w9).mono ?_
    rintro e w10 ⟨rfl, hb⟩
    have HB_10 : Hid (Below w.heap.size w w10) := Lib.hid (HB_9.out.trans (hb.mono HB_9.out.size))
    have X_10 := Lib.hid (X_9.out.below hb X_9.out.lt)
    have Y_10 := Lib.hid (Y_9.out.below hb Y_9.out.lt)
    have Z_10 := Lib.hid (Z_9.out.below hb Z_9.out.lt)
    have R_10 := Lib.hid (R_9.out.below hb R_9.out.lt)
    have TX_10 := Lib.hid (TX_9.out.below hb)
    have S_10 := Lib.hid (S_9.out.below hb)
    clear hb
    clear z0 z1 z2 z3
    go_wp2_with fail
    refine (fresh_nil w10).mono ?_
    rintro e w11 ⟨rfl, hb⟩
    have HB_11 : Hid (Below w.heap.size w w11) := Lib.hid (HB_10.out.trans (hb.mono HB_10.out.size))
    have X_11 := Lib.hid (X_10.out.below hb X_10.out.lt)
    have Y_11 := Lib.hid (Y_10.out.below hb Y_10.out.lt)
    have Z_11 := Lib.hid (Z_10.out.below hb Z_10.out.lt)
    have R_11 := Lib.hid (R_10.out.below hb R_10.out.lt)
    have TX_11 := Lib.hid (TX_10.out.below hb)
    have S_11 := Lib.hid (S_10.out.below hb)
    clear hb
    go_wp2_with fail
    refine (rvar_any 0 w11).mono ?_
    rintro e w12 ⟨a12, c12, rfl, -, hb⟩
    simp only [vrT, Tys.len]
    have HB_12 : Hid (Below w.heap.size w w12) := Lib.hid (HB_11.out.trans (hb.mono HB_11.out.size))
    have X_12 := Lib.hid (X_11.out.below hb X_11.out.lt)
    have Y_12 := Lib.hid (Y_11.out.below hb Y_11.out.lt)
    have Z_12 := Lib.hid (Z_11.out.below hb Z_11.out.lt)
    have R_12 := Lib.hid (R_11.out.below hb R_11.out.lt)
    have TX_12 := Lib.hid (TX_11.out.below hb)
    have S_12 := Lib.hid (S_11.out.below hb)
    clear hb
    go_wp2_with fail
    refine (same_var (n := 0) w12).mono ?_
    rintro e w13 ⟨rfl, hb⟩
    have HB_13 : Hid (Below w.heap.size w w13) := Lib.hid (HB_12.out.trans (hb.mono HB_12.out.size))
    have X_13 := Lib.hid (X_12.out.below hb X_12.out.lt)
    have Y_13 := Lib.hid (Y_12.out.below hb Y_12.out.lt)
    have Z_13 := Lib.hid (Z_12.out.below hb Z_12.out.lt)
    have R_13 := Lib.hid (R_12.out.below hb R_12.out.lt)
    have TX_13 := Lib.hid (TX_12.out.below hb)
    have S_13 := Lib.hid (S_12.out.below hb)
    clear hb
    obtain ⟨r0, r1, r2, r3, _⟩ := R_13.out.cells4
    go_wp2_with fail
    refine (same_zero w13).mono ?_
    rintro e w14 ⟨rfl, hb⟩
    have HB_14 : Hid (Below w.heap.size w w14) := Lib.hid (HB_13.out.trans (hb.mono HB_13.out.size))
    have X_14 := Lib.hid (X_13.out.below hb X_13.out.lt)
    have Y_14 := Lib.hid (Y_13.out.below hb Y_13.out.lt)
    have Z_14 := Lib.hid (Z_13.out.below hb Z_13.out.lt)
    have R_14 := Lib.hid (R_13.out.below hb R_13.out.lt)
    have TX_14 := Lib.hid (TX_13.out.below hb)
    have S_14 := Lib.hid (S_13.out.below hb)
    clear hb
    clear r0 r1 r2 r3
    go_wp2_with fail
    refine (known_any w14).mono ?_
    rintro e w15 ⟨rfl, hb⟩
    have HB_15 : Hid (Below w.heap.size w w15) := Lib.hid (HB_14.out.trans (hb.mono HB_14.out.size))
    have TX_15 := Lib.hid (TX_14.out.below hb)
    clear hb
    go_wp2_with fail
    go_ret
    exact ⟨rfl, HB_15.out⟩
  | some y2 =>
    obtain ⟨a5, c5, rfl, -, -, -⟩ := hV
    clear x0 x1 x2 x3
    obtain ⟨w6, hw6⟩ : ∃ w6, w5.alloc (.cells #[.int .i64 y2.kd, .int .i64 y2.n, .string y2.nm, .slice a5 y2.args.len c5] TT) = w6 := ⟨_, rfl⟩
    have hb : Below w5.heap.size w5 w6 := by rw [← hw6]; exact (Below.refl _ w5).alloc (Nat.le_refl _) _
    have R_6 := Lib.hid (show Box w6 w5.heap.size TT #[.int .i64 y2.kd, .int .i64 y2.n, .string y2.nm, .slice a5 y2.args.len c5] by rw [← hw6]; exact Box.new _ _ _)
    have HB_6 : Hid (Below w.heap.size w w6) := Lib.hid (HB_5.out.trans (hb.mono HB_5.out.size))
    have X_6 := Lib.hid (X_5.out.below hb X_5.out.lt)
    have Y_6 := Lib.hid (Y_5.out.below hb Y_5.out.lt)
    have Z_6 := Lib.hid (Z_5.out.below hb Z_5.out.lt)
    have TX_6 := Lib.hid (TX_5.out.below hb)
    have S_6 := Lib.hid (S_5.out.below hb)
    clear hb
    have HW_6 := Lib.hid hw6
    clear hw6
    obtain ⟨x0, x1, x2, x3, _⟩ := X_6.out.cells4
    go_upto_region 8 with fail
    rw [HW_6.out]
    have HRI := Lib.hid (rright_any x.args.nodes x (Nat.le_refl _) ax cx w6 TX_6.out.1 (fun b hz => hz.lt) TX_6.out.2.1)
    unfold tyV at HRI
    rw [HOK.out] at HRI
    go_wp2_with fail
    refine HRI.out.mono ?_
    rintro e w7 ⟨rfl, hb⟩
    have HB_7 : Hid (Below w.heap.size w w7) := Lib.hid (HB_6.out.trans (hb.mono HB_6.out.size))
    have X_7 := Lib.hid (X_6.out.below hb X_6.out.lt)
    have Y_7 := Lib.hid (Y_6.out.below hb Y_6.out.lt)
    have Z_7 := Lib.hid (Z_6.out.below hb Z_6.out.lt)
    have R_7 := Lib.hid (R_6.out.below hb R_6.out.lt)
    have TX_7 := Lib.hid (TX_6.out.below hb)
    have S_7 := Lib.hid (S_6.out.below hb)
    clear hb
    clear x0 x1 x2 x3
    obtain ⟨x0, x1, x2, x3, _⟩ := X_7.out.cells4
    have HLV := Lib.hid (leaves_ok (q := 1) (d := 1048577) (cx := cx) w7 S_7.out HB_7.out.size TX_7.out HOK.out (by decide) HOL.out)
    go_wp2_with fail
    refine HLV.out.mono ?_
    rintro e w8 ⟨a8, c8, rfl, -, hS, hk⟩
    have HB_8 : Hid (Below w.heap.size w w8) := Lib.hid (HB_7.out.trans (Kept.below hk HB_7.out.size (fun b e => by rw [e]; exact S_7.out.bs)))
    have X_8 := Lib.hid (hk.box X_7.out (fun e => absurd ((show Box w7 s TT _ by rw [← e]; exact X_7.out).same S_7.out.box) (by decide)))
    have Y_8 := Lib.hid (hk.box Y_7.out (fun e => absurd ((show Box w7 s TT _ by rw [← e]; exact Y_7.out).same S_7.out.box) (by decide)))
    have Z_8 := Lib.hid (hk.box Z_7.out (fun e => absurd ((show Box w7 s TT _ by rw [← e]; exact Z_7.out).same S_7.out.box) (by decide)))
    have R_8 := Lib.hid (hk.box R_7.out (fun e => absurd ((show Box w7 s TT _ by rw [← e]; exact R_7.out).same S_7.out.box) (by decide)))
    have TX_8 := Lib.hid (TX_7.out.kept hk (fun b e => by rw [e]; exact ⟨S_7.out.bs, Box.notTyB S_7.out.box (by decide)⟩))
    have S_8 := Lib.hid hS
    clear hk hS
    clear x0 x1 x2 x3
    obtain ⟨x0, x1, x2, x3, _⟩ := X_8.out.cells4
    obtain ⟨y0, y1, y2, y3, _⟩ := Y_8.out.cells4
    go_wp2_with fail
    refine (unify_nil (x := x) (y := y) (ax := ax) (ay := ay) (cx := cx) (cy := cy) w8).mono ?_
    rintro e w9 ⟨rfl, hb⟩
    have HB_9 : Hid (Below w.heap.size w w9) := Lib.hid (HB_8.out.trans (hb.mono HB_8.out.size))
    have X_9 := Lib.hid (X_8.out.below hb X_8.out.lt)
    have Y_9 := Lib.hid (Y_8.out.below hb Y_8.out.lt)
    have Z_9 := Lib.hid (Z_8.out.below hb Z_8.out.lt)
    have R_9 := Lib.hid (R_8.out.below hb R_8.out.lt)
    have TX_9 := Lib.hid (TX_8.out.below hb)
    have S_9 := Lib.hid (S_8.out.below hb)
    clear hb
    clear x0 x1 x2 x3 y0 y1 y3
    obtain ⟨z0, z1, z2, z3, _⟩ := Z_9.out.cells4
    go_wp2_with fail
    refine (same_zero w9).mono ?_
    rintro e w10 ⟨rfl, hb⟩
    have HB_10 : Hid (Below w.heap.size w w10) := Lib.hid (HB_9.out.trans (hb.mono HB_9.out.size))
    have X_10 := Lib.hid (X_9.out.below hb X_9.out.lt)
    have Y_10 := Lib.hid (Y_9.out.below hb Y_9.out.lt)
    have Z_10 := Lib.hid (Z_9.out.below hb Z_9.out.lt)
    have R_10 := Lib.hid (R_9.out.below hb R_9.out.lt)
    have TX_10 := Lib.hid (TX_9.out.below hb)
    have S_10 := Lib.hid (S_9.out.below hb)
    clear hb
    clear z0 z1 z2 z3
    go_wp2_with fail
    refine (fresh_nil w10).mono ?_
    rintro e w11 ⟨rfl, hb⟩
    have HB_11 : Hid (Below w.heap.size w w11) := Lib.hid (HB_10.out.trans (hb.mono HB_10.out.size))
    have X_11 := Lib.hid (X_10.out.below hb X_10.out.lt)
    have Y_11 := Lib.hid (Y_10.out.below hb Y_10.out.lt)
    have Z_11 := Lib.hid (Z_10.out.below hb Z_10.out.lt)
    have R_11 := Lib.hid (R_10.out.below hb R_10.out.lt)
    have TX_11 := Lib.hid (TX_10.out.below hb)
    have S_11 := Lib.hid (S_10.out.below hb)
    clear hb
    go_wp2_with fail
    refine (rvar_any 0 w11).mono ?_
    rintro e w12 ⟨a12, c12, rfl, -, hb⟩
    simp only [vrT, Tys.len]
    have HB_12 : Hid (Below w.heap.size w w12) := Lib.hid (HB_11.out.trans (hb.mono HB_11.out.size))
    have X_12 := Lib.hid (X_11.out.below hb X_11.out.lt)
    have Y_12 := Lib.hid (Y_11.out.below hb Y_11.out.lt)
    have Z_12 := Lib.hid (Z_11.out.below hb Z_11.out.lt)
    have R_12 := Lib.hid (R_11.out.below hb R_11.out.lt)
    have TX_12 := Lib.hid (TX_11.out.below hb)
    have S_12 := Lib.hid (S_11.out.below hb)
    clear hb
    go_wp2_with fail
    refine (same_var (n := 0) w12).mono ?_
    rintro e w13 ⟨rfl, hb⟩
    have HB_13 : Hid (Below w.heap.size w w13) := Lib.hid (HB_12.out.trans (hb.mono HB_12.out.size))
    have X_13 := Lib.hid (X_12.out.below hb X_12.out.lt)
    have Y_13 := Lib.hid (Y_12.out.below hb Y_12.out.lt)
    have Z_13 := Lib.hid (Z_12.out.below hb Z_12.out.lt)
    have R_13 := Lib.hid (R_12.out.below hb R_12.out.lt)
    have TX_13 := Lib.hid (TX_12.out.below hb)
    have S_13 := Lib.hid (S_12.out.below hb)
    clear hb
    go_wp2_with fail
    refine (known_any w13).mono ?_
    rintro e w14 ⟨rfl, hb⟩
    have HB_14 : Hid (Below w.heap.size w w14) := Lib.hid (HB_13.out.trans (hb.mono HB_13.out.size))
    have TX_14 := Lib.hid (TX_13.out.below hb)
    clear hb
    go_wp2_with fail
    go_ret
    exact ⟨rfl, HB_14.out⟩
end Go.Proofs.Ytgomafdhckfnbaa.UnifyNil
