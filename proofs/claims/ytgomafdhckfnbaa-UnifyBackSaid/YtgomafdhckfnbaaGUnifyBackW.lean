/-
  The walk of the law changelinglaw10.UnifyBack: what can't be made the same leaves all as it was.
-/
import Derived.Test.YtgomafdhckfnbaaGE
import Derived.Test.YtgomafdhckfnbaaGPrF
import Derived.Maps.AppendAt
namespace Go.Proofs.Ytgomafdhckfnbaa.UnifyBack
open Go.RowKit Go.Shelf Mm Tm Mk Un Go.Maps Go.ChangeMaps Go.MapKept Go.WideMaps Ua
set_option linter.unusedVariables false
set_option linter.unusedSimpArgs false
set_option maxRecDepth 100000 in
set_option maxHeartbeats 16000000 in
theorem walk (q d kk : Nat) (hN : Nums q d kk) (a : Option Addr) (n c : Nat) (l : List Pr) (x y : Ty) (ax : Option Addr) (cx : Nat) (ay : Option Addr) (cy : Nat) (w : World) (hln : l.length = n) (hn : n * 112 ≤ 140737488355328) (hr : Prs (· < w.heap.size) w a l) (hqx : x.nm.size ≤ 9223372036854775807 ∧ x.args.len * 56 ≤ 140737488355328 ∧ RdT (· < w.heap.size) w ax x.args 0) (hqy : y.nm.size ≤ 9223372036854775807 ∧ y.args.len * 56 ≤ 140737488355328 ∧ RdT (· < w.heap.size) w ay y.args 0) :
    Calls Try.prog 5 #[.slice a n c, .agg #[.int .i64 x.kd, .int .i64 x.n, .string x.nm, .slice ax x.args.len cx, .int .i64 y.kd, .int .i64 y.n, .string y.nm, .slice ay y.args.len cy]] w fun e w' => e = .returned (.bool true) ∧ Below w.heap.size w w' := by
  obtain ⟨i0, hi, hz0, hz1, hz2'⟩ := info_parts Ttype
  obtain ⟨w0, hw0⟩ : ∃ w0, w.alloc (.cells #[.int .i64 x.kd, .int .i64 x.n, .string x.nm, .slice ax x.args.len cx, .int .i64 y.kd, .int .i64 y.n, .string y.nm, .slice ay y.args.len cy] TPr) = w0 := ⟨_, rfl⟩
  have hB0 : Below w.heap.size w w0 := by rw [← hw0]; exact (Below.refl w.heap.size w).alloc (Nat.le_refl _) _
  have hP0 : Box w0 w.heap.size TPr #[.int .i64 x.kd, .int .i64 x.n, .string x.nm, .slice ax x.args.len cx, .int .i64 y.kd, .int .i64 y.n, .string y.nm, .slice ay y.args.len cy] := by rw [← hw0]; exact Box.new _ _ _
  have hsz0 : w0.heap.size = w.heap.size + 1 := by rw [← hw0]; simp
  obtain ⟨base, hbase⟩ : ∃ base, base = w0.heap.size := ⟨_, rfl⟩
  have hlow : ∀ b, b < w.heap.size → b < base := fun b h => by omega
  have HBW := Lib.hid hB0
  have HP0 := Lib.hid hP0
  have HPB := Lib.hid (show w.heap.size < base by omega)
  have HL := Lib.hid (show Prs (· < base) w0 a l from (hr.below hB0 fun b h => h).mono hlow)
  have HX := Lib.hid (And.intro hqx.1 (And.intro hqx.2.1 ((hqx.2.2.below hB0 fun b h => h).mono hlow)))
  have HY := Lib.hid (And.intro hqy.1 (And.intro hqy.2.1 ((hqy.2.2.below hB0 fun b h => h).mono hlow)))
  have HLN := Lib.hid (And.intro hln hn)
  have HNN := Lib.hid hN
  have HBS := Lib.hid hbase
  have hn40 : n ≤ 140737488355328 := by omega
  clear hr hqx hqy hln hn hB0 hP0 hN hlow
  go_enter Try.func5, Try.ntmps5
  go_wp2_with fail
  refine (joined_any HNN.out (base := base) (c := c) w0 HBS.out HLN.out.1 HLN.out.2 HL.out).mono ?_
  rintro e w1 ⟨s, m, nx0, v, rfl, hb, _, ht⟩
  have HB1 := Lib.hid hb
  have hz1' : base ≤ w1.heap.size := by have := hb.size; have := HBS.out; omega
  have HT := Lib.hid ht
  clear hb ht hw0
  have HEND : Hid (∀ W W', Below base w0 W → Below W.heap.size W W' → base ≤ W.heap.size → Below w.heap.size w W') := Lib.hid fun W W' h1 h2 h3 => HBW.out.trans ((h1.trans (h2.mono h3)).mono (Nat.le_of_lt HPB.out))
  cases v with
  | false =>
    go_wp2_with fail
    refine (known_any w1).mono ?_
    rintro e w2 ⟨rfl, hb2⟩
    have HB2 := Lib.hid (HEND.out w1 w2 HB1.out hb2 hz1')
    clear hb2
    go_wp2_with fail
    go_ret
    exact ⟨rfl, HB2.out⟩
  | true =>
  obtain ⟨hfew, K, cnt, hj, hS⟩ := HT.out rfl
  have HFEW := Lib.hid hfew
  have HJ := Lib.hid hj
  have HKB := Lib.hid (hj.kb HNN.out (by have := hfew.1; omega) hfew.2)
  have HS1 := Lib.hid hS
  have hP1 := HP0.out.below HB1.out HPB.out
  have x0 := hP1.cell 0
  have x1 := hP1.cell 1
  have x2 := hP1.cell 2
  have x3 := hP1.cell 3
  have x4 := hP1.cell 4
  have x5 := hP1.cell 5
  have x6 := hP1.cell 6
  have x7 := hP1.cell 7
  clear hfew hj hS hP1 HT
  obtain ⟨w2, hw2⟩ : ∃ w2, w1.alloc (.cells #[.int .i64 x.kd, .int .i64 x.n, .string x.nm, .slice ax x.args.len cx, .int .i64 y.kd, .int .i64 y.n, .string y.nm, .slice ay y.args.len cy] TPr) = w2 := ⟨_, rfl⟩
  have hb12 : Below w1.heap.size w1 w2 := by rw [← hw2]; exact (Below.refl _ w1).alloc (Nat.le_refl _) _
  have hQ2 : Box w2 w1.heap.size TPr #[.int .i64 x.kd, .int .i64 x.n, .string x.nm, .slice ax x.args.len cx, .int .i64 y.kd, .int .i64 y.n, .string y.nm, .slice ay y.args.len cy] := by rw [← hw2]; exact Box.new _ _ _
  have hB2 := HB1.out.trans (hb12.mono hz1')
  have hz2 : base ≤ w2.heap.size := Nat.le_trans hz1' hb12.size
  have HPR2 := Lib.hid (prs_one (Z := fun b => b < w2.heap.size) hQ2 hQ2.lt HX.out.1 HX.out.2.1 ((HX.out.2.2.below hB2 fun b h => h).mono fun b h => Nat.lt_of_lt_of_le h hz2) HY.out.1 HY.out.2.1 ((HY.out.2.2.below hB2 fun b h => h).mono fun b h => Nat.lt_of_lt_of_le h hz2))
  have HS2 := Lib.hid (HS1.out.below hb12)
  have HB2 := Lib.hid hB2
  have HW2 := Lib.hid hw2
  have HFP := Lib.hid (few_any (c := 1) w2 (n := 1) rfl (by decide) HPR2.out fun b h => h)
  clear hb12 hQ2 hB2 hw2
  by_cases hfp : fewP [(x, y)]
  case neg =>
    rw [decide_eq_false hfp] at HFP
    clear hfp
    go_wp2_with fail
    rw [HW2.out]
    refine HFP.out.mono ?_
    rintro e w3 ⟨rfl, hb3⟩
    have HB3 := Lib.hid (HB2.out.trans (hb3.mono hz2))
    have hz3 : base ≤ w3.heap.size := Nat.le_trans hz2 hb3.size
    clear hb3 x0 x1 x2 x3 x4 x5 x6 x7
    go_wp2_with fail
    refine (known_any w3).mono ?_
    rintro e w4 ⟨rfl, hb4⟩
    have HB4 := Lib.hid (HEND.out w3 w4 HB3.out hb4 hz3)
    clear hb4
    go_wp2_with fail
    go_ret
    exact ⟨rfl, HB4.out⟩
  rw [decide_eq_true hfp] at HFP
  have HSM := Lib.hid (hfp.2 (x, y) (by simp))
  clear hfp
  go_wp2_with fail
  rw [HW2.out]
  refine HFP.out.mono ?_
  rintro e w3 ⟨rfl, hb3⟩
  have HB3 := Lib.hid (HB2.out.trans (hb3.mono hz2))
  have hz3 : base ≤ w3.heap.size := Nat.le_trans hz2 hb3.size
  have HS3 := Lib.hid (HS2.out.below hb3)
  have hP3 := HP0.out.below HB3.out HPB.out
  clear hb3 x0 x1 x2 x3 x4 x5 x6 x7
  have x0 := hP3.cell 0
  have x1 := hP3.cell 1
  have x2 := hP3.cell 2
  have x3 := hP3.cell 3
  have x4 := hP3.cell 4
  have x5 := hP3.cell 5
  have x6 := hP3.cell 6
  have x7 := hP3.cell 7
  clear hP3
  have HRI := Lib.hid (pright_any (Z := (· < base)) (c := cx) (e := cy) w3 (HX.out.2.2.below HB3.out fun b h => h) (HY.out.2.2.below HB3.out fun b h => h) HX.out.2.1 HY.out.2.1 fun b h => Nat.lt_of_lt_of_le h hz3)
  cases hok : okTy x && okTy y with
  | false =>
    rw [hok] at HRI
    clear hok
    go_wp2_with fail
    refine HRI.out.mono ?_
    rintro e w4 ⟨rfl, hb4⟩
    have HB4 := Lib.hid (HB3.out.trans (hb4.mono hz3))
    have hz4 : base ≤ w4.heap.size := Nat.le_trans hz3 hb4.size
    clear hb4 x0 x1 x2 x3 x4 x5 x6 x7
    go_wp2_with fail
    refine (known_any w4).mono ?_
    rintro e w5 ⟨rfl, hb5⟩
    have HB5 := Lib.hid (HEND.out w4 w5 HB4.out hb5 hz4)
    clear hb5
    go_wp2_with fail
    go_ret
    exact ⟨rfl, HB5.out⟩
  | true =>
  rw [hok] at HRI
  rw [Bool.and_eq_true] at hok
  have HOK := Lib.hid hok
  clear hok
  go_wp2_with fail
  refine HRI.out.mono ?_
  rintro e w4 ⟨rfl, hb4⟩
  have HB4 := Lib.hid (HB3.out.trans (hb4.mono hz3))
  have hz4 : base ≤ w4.heap.size := Nat.le_trans hz3 hb4.size
  have HS4 := Lib.hid (HS3.out.below hb4)
  clear hb4 x0 x1 x2 x3 x4 x5 x6 x7
  have hs4 := HS4.out.box.lt
  have h40 := HFEW.out.1
  go_wp2_with fail
  go_loopg [7, 8] n (fun dd v7 v8 wr => ∃ (k : Nat) (nx : Int), k + dd = n ∧ v8 = .int .i64 k ∧ OwnT w4.heap.size TT wr v7 (befL q K (l.take k)) ∧ Box wr s TSt #[.map (some m), .int .i64 nx] ∧ Kept (fun b => b = s) w4 wr)
  case atStart => exact ⟨0, _, by omega, rfl, OwnT.nil _ _ _, HS4.out.box, Kept.refl _ _⟩
  case round =>
    obtain ⟨k, nx, hkd, rfl, hown, hbox, hkept⟩ := hrel
    have HK := Lib.hid hkd
    have HO := Lib.hid hown
    have HSB := Lib.hid hbox
    have HKP := Lib.hid hkept
    have HSR := Lib.hid (HS4.out.given hbox hkept)
    have HBR := Lib.hid (HB4.out.trans (Kept.below hkept hz4 fun b e => by rw [e]; exact HS4.out.bs))
    have hzr : w4.heap.size ≤ wr.heap.size := hkept.size
    have hzb : base ≤ wr.heap.size := by omega
    have hkle : k ≤ n := by omega
    have hlk : (befL q K (l.take k)).length = k := by unfold befL; rw [List.length_map, List.length_take]; have := HLN.out.1; omega
    have hsl := hown.slice
    rw [hlk] at hsl
    obtain ⟨a7, c7, rfl⟩ := hsl
    have HLK := Lib.hid hlk
    clear hkd hown hbox hkept hlk
    by_cases hlt : k < n
    · have hlt' : (k : Int) < n := by omega
      have hkL : k < l.length := by rw [HLN.out.1]; exact hlt
      have hx := HL.out.below HBR.out (fun b h => h) k l[k] (List.getElem?_eq_getElem hkL)
      have HMM := Lib.hid (List.getElem?_eq_getElem hkL)
      generalize l[k] = p at hx HMM
      obtain ⟨x9, y9⟩ := p
      obtain ⟨ad, a2, c2, a3, c3, rfl, _, z0, z1, z2, z3, z4, z5, z6, z7, nx1, lx, rx, ny1, ly, ry⟩ := hx
      have HRS := Lib.hid (resolve_is HNN.out (cx := c2) wr HKB.out (by omega) HSR.out hzb (tyR_low rx (Below.refl _ _) hzb lx nx1) (HJ.out.ok _ (List.mem_of_getElem? HMM.out)).1)
      clear rx ry
      obtain ⟨r9, hr9⟩ : ∃ r9, resP q K x9 = r9 := ⟨_, rfl⟩
      obtain ⟨e9, he9⟩ : ∃ e9, resE q K x9 = e9 := ⟨_, rfl⟩
      rw [hr9, he9] at HRS
      have HR9 := Lib.hid hr9
      clear hr9 he9
      go_wp2_with fail
      refine HRS.out.mono ?_
      rintro e w5 ⟨a5, c5, nx5, rfl, hrd, hl5, hn5, hbox5, hk5⟩
      have HRD := Lib.hid (And.intro hrd (And.intro hl5 hn5))
      have HBX := Lib.hid hbox5
      have HK5 := Lib.hid (HKP.out.trans hk5)
      have HO5 := Lib.hid ((HSR.out.keepT hk5).own HO.out)
      have hz5 : wr.heap.size ≤ w5.heap.size := hk5.size
      clear hrd hl5 hn5 hbox5 hk5 z0 z1 z2 z3 z4 z5 z6 z7
      obtain ⟨w6, hw6⟩ : ∃ w6, w5.alloc (.cells #[.int .i64 r9.kd, .int .i64 r9.n, .string r9.nm, .slice a5 r9.args.len c5] TT) = w6 := ⟨_, rfl⟩
      have hb56 : Below w5.heap.size w5 w6 := by rw [← hw6]; exact (Below.refl _ w5).alloc (Nat.le_refl _) _
      have hX6 : Box w6 w5.heap.size TT #[.int .i64 r9.kd, .int .i64 r9.n, .string r9.nm, .slice a5 r9.args.len c5] := by rw [← hw6]; exact Box.new _ _ _
      have HO6 := Lib.hid (HO5.out.here hb56)
      have HBX6 := Lib.hid (HBX.out.below hb56 HBX.out.lt)
      have HK6 := Lib.hid (HK5.out.trans (Kept.of_below hb56 (Nat.le_refl _) _))
      have HRD6 := Lib.hid ((KeepT.of_below hb56).zn HRD.out.1)
      have hz6 : w5.heap.size ≤ w6.heap.size := hb56.size
      have HW6 := Lib.hid hw6
      obtain ⟨y0, y1, y2, y3, _⟩ := hX6.cells4
      clear hb56 hw6 hX6
      go_upto_region 9 with fail
      rw [HW6.out]
      obtain ⟨vs, how, hrow⟩ := HO6.out
      rw [HLK.out] at how
      have HOW := Lib.hid how
      have HROW := Lib.hid hrow
      clear how hrow
      go_wp2_with (at_builtin; refine wpList_append_own_at _ rfl _ _ 27 rfl w4.heap.size TT i0 _ 4 56 Try.underlying27 hi hz0 hz1 hz2' rfl (by decide) _ _ _ rfl (HOW.out.alloc _) ⟨w6.heap.size, 0, none⟩ 1 1 [.int .i64 r9.kd, .int .i64 r9.n, .string r9.nm, .slice a5 r9.args.len c5] rfl rfl (news_new w6 #[.int .i64 r9.kd, .int .i64 r9.n, .string r9.nm, .slice a5 r9.args.len c5] TT) (fun u hu => by simp only [List.mem_cons, List.not_mem_nil, or_false] at hu; rcases hu with rfl | rfl | rfl | rfl <;> rfl) (by unfold maxLen; omega) (by omega) (by simp; omega) ?_)
      intro v7 w7 hown hgrow _ hat
      have hrow7 : RdT (fun b => w4.heap.size ≤ b ∧ TyB TT w6 b ∧ (Value.slice a7 k c7).ownBlock ≠ some b) w6 a5 r9.args 0 := HRD6.out.mono fun b hb => ⟨by have := hb.1; omega, hb.2, fun e => by
        have := (ownT_block HO.out e).2.lt; have := hb.1; omega⟩
      have HOT := Lib.hid (OwnT.more HROW.out (by omega) HRD.out.2.2 HRD.out.2.1 hrow7 (by rw [HLK.out]; exact hown) hgrow (by rwa [World.size_alloc]))
      have hgl : ∀ g, (Value.slice a7 k c7).ownBlock = some g → w4.heap.size ≤ g := fun g e => (ownT_block HO.out e).1
      have HK7 := Lib.hid ((HK6.out.alloc (.cells #[.int .i64 r9.kd, .int .i64 r9.n, .string r9.nm, .slice a5 r9.args.len c5] TT)).grown hgrow (fun g e h => by have := hgl g e; omega))
      have HBX7 := Lib.hid ((HBX6.out.alloc (.cells #[.int .i64 r9.kd, .int .i64 r9.n, .string r9.nm, .slice a5 r9.args.len c5] TT)).grown hgrow (fun e => by have := hgl s e.symm; omega))
      obtain ⟨a8, c8, rfl⟩ := own_slice hown
      clear hown hgrow hat hrow7 hgl
      go_wp2_with fail
      go_roundg (n - (k + 1))
      case measure => have := HK.out; omega
      case rel => exact ⟨k + 1, nx5, by have := HK.out; omega, by go_num, by rw [befL_next HMM.out, HR9.out]; exact HOT.out, HBX7.out, HK7.out⟩
    · have hge : ¬ (k : Int) < n := by omega
      obtain rfl : n = k := by omega
      have HOL := Lib.hid (show OwnT w4.heap.size TT wr (.slice a7 n c7) (befL q K l) by have h := HO.out; rw [List.take_of_length_le (by rw [HLN.out.1]; omega)] at h; exact h)
      obtain ⟨rx, hrx⟩ : ∃ rx, resP q K x = rx := ⟨_, rfl⟩
      obtain ⟨ry, hry⟩ : ∃ ry, resP q K y = ry := ⟨_, rfl⟩
      obtain ⟨ex, hex⟩ : ∃ ex, resE q K x = ex := ⟨_, rfl⟩
      obtain ⟨ey, hey⟩ : ∃ ey, resE q K y = ey := ⟨_, rfl⟩
      have HRXY := Lib.hid (And.intro hrx (And.intro hry (And.intro hex hey)))
      clear hrx hry hex hey
      obtain ⟨B0, hB00⟩ : ∃ B0, wr.heap.size = B0 := ⟨_, rfl⟩
      have HBB := Lib.hid hB00
      clear hB00
      have HS8 := HSR
      have HB8 := HBR
      have HKP8 := HKP
      have HO8 := HOL
      have hz8 : base ≤ wr.heap.size := hzb
      have hPc := HP0.out.below HB8.out HPB.out
      have x0 := hPc.cell 0
      have x1 := hPc.cell 1
      have x2 := hPc.cell 2
      have x3 := hPc.cell 3
      have x4 := hPc.cell 4
      have x5 := hPc.cell 5
      have x6 := hPc.cell 6
      have x7 := hPc.cell 7
      clear hPc
      have HRS := Lib.hid (resolve_is HNN.out (cx := cx) wr HKB.out (by omega) HS8.out hz8 (tyR_low HX.out.2.2 HB8.out hz8 HX.out.2.1 HX.out.1) HOK.out.1)
      rw [HRXY.out.1, HRXY.out.2.2.1] at HRS
      go_wp2_with fail
      refine HRS.out.mono ?_
      rintro e w9 ⟨a9, c9, nx9, rfl, hrd, hl9, hn9, hbox, hk⟩
      have HKT := Lib.hid (HS8.out.keepT hk)
      have HKP9 := Lib.hid (HKP8.out.trans hk)
      have HS9 := Lib.hid (HS4.out.given hbox HKP9.out)
      have HB9 := Lib.hid (HB8.out.trans (Kept.below hk hz8 fun b e => by rw [e]; exact HS8.out.bs))
      have HO9 := Lib.hid (HKT.out.own HO8.out)
      have hz9 : base ≤ w9.heap.size := Nat.le_trans hz8 hk.size
      rw [HBB.out] at hrd
      have R9_9 := Lib.hid hrd
      have HLE9 := Lib.hid (And.intro hl9 hn9)
      clear hrd hl9 hn9 hbox hk x0 x1 x2 x3 x4 x5 x6 x7
      obtain ⟨w10, hw⟩ : ∃ w10, w9.alloc (.cells #[.int .i64 rx.kd, .int .i64 rx.n, .string rx.nm, .slice a9 rx.args.len c9] TT) = w10 := ⟨_, rfl⟩
      have hb : Below w9.heap.size w9 w10 := by rw [← hw]; exact (Below.refl _ w9).alloc (Nat.le_refl _) _
      have X9_10 := Lib.hid (show Box w10 w9.heap.size TT #[.int .i64 rx.kd, .int .i64 rx.n, .string rx.nm, .slice a9 rx.args.len c9] by rw [← hw]; exact Box.new _ _ _)
      have HKT := Lib.hid (KeepT.of_below hb)
      have HKP10 := Lib.hid (HKP9.out.trans (Kept.of_below hb (Nat.le_refl _) _))
      have HS10 := Lib.hid (HS9.out.below hb)
      have HB10 := Lib.hid (HB9.out.trans (hb.mono hz9))
      have HO10 := Lib.hid (HKT.out.own HO9.out)
      have hz10 : base ≤ w10.heap.size := Nat.le_trans hz9 hb.size
      have R9_10 := Lib.hid (HKT.out.zn R9_9.out)
      have HW10 := Lib.hid hw
      clear hw hb
      go_upto_region 11 with fail
      rw [HW10.out]
      have hPc := HP0.out.below HB10.out HPB.out
      have x0 := hPc.cell 0
      have x1 := hPc.cell 1
      have x2 := hPc.cell 2
      have x3 := hPc.cell 3
      have x4 := hPc.cell 4
      have x5 := hPc.cell 5
      have x6 := hPc.cell 6
      have x7 := hPc.cell 7
      clear hPc
      have HRS := Lib.hid (resolve_is HNN.out (cx := cy) w10 HKB.out (by omega) HS10.out hz10 (tyR_low HY.out.2.2 HB10.out hz10 HY.out.2.1 HY.out.1) HOK.out.2)
      rw [HRXY.out.2.1, HRXY.out.2.2.2] at HRS
      go_wp2_with fail
      refine HRS.out.mono ?_
      rintro e w11 ⟨a11, c11, nx11, rfl, hrd, hl11, hn11, hbox, hk⟩
      have HKT := Lib.hid (HS10.out.keepT hk)
      have HKP11 := Lib.hid (HKP10.out.trans hk)
      have HS11 := Lib.hid (HS4.out.given hbox HKP11.out)
      have HB11 := Lib.hid (HB10.out.trans (Kept.below hk hz10 fun b e => by rw [e]; exact HS10.out.bs))
      have HO11 := Lib.hid (HKT.out.own HO10.out)
      have hz11 : base ≤ w11.heap.size := Nat.le_trans hz10 hk.size
      have X9_11 := Lib.hid (HKT.out.box X9_10.out)
      have R9_11 := Lib.hid (HKT.out.zn R9_10.out)
      have R11_11 := Lib.hid hrd
      have HLE11 := Lib.hid (And.intro hl11 hn11)
      clear hrd hl11 hn11 hbox hk x0 x1 x2 x3 x4 x5 x6 x7
      obtain ⟨w12, hw⟩ : ∃ w12, w11.alloc (.cells #[.int .i64 ry.kd, .int .i64 ry.n, .string ry.nm, .slice a11 ry.args.len c11] TT) = w12 := ⟨_, rfl⟩
      have hb : Below w11.heap.size w11 w12 := by rw [← hw]; exact (Below.refl _ w11).alloc (Nat.le_refl _) _
      have X11_12 := Lib.hid (show Box w12 w11.heap.size TT #[.int .i64 ry.kd, .int .i64 ry.n, .string ry.nm, .slice a11 ry.args.len c11] by rw [← hw]; exact Box.new _ _ _)
      have HKT := Lib.hid (KeepT.of_below hb)
      have HKP12 := Lib.hid (HKP11.out.trans (Kept.of_below hb (Nat.le_refl _) _))
      have HS12 := Lib.hid (HS11.out.below hb)
      have HB12 := Lib.hid (HB11.out.trans (hb.mono hz11))
      have HO12 := Lib.hid (HKT.out.own HO11.out)
      have hz12 : base ≤ w12.heap.size := Nat.le_trans hz11 hb.size
      have X9_12 := Lib.hid (HKT.out.box X9_11.out)
      have R9_12 := Lib.hid (HKT.out.zn R9_11.out)
      have R11_12 := Lib.hid (HKT.out.zn R11_11.out)
      have HW12 := Lib.hid hw
      clear hw hb
      go_upto_region 12 with fail
      rw [HW12.out]
      have hPc := HP0.out.below HB12.out HPB.out
      have x0 := hPc.cell 0
      have x1 := hPc.cell 1
      have x2 := hPc.cell 2
      have x3 := hPc.cell 3
      have x4 := hPc.cell 4
      have x5 := hPc.cell 5
      have x6 := hPc.cell 6
      have x7 := hPc.cell 7
      clear hPc
      obtain ⟨er, K', c', hu, _⟩ := HKB.out.unify HNN.out h40 HOK.out.1 HOK.out.2 HSM.out.1 HSM.out.2
      have HU := Lib.hid (unify_any (cx := cx) (cy := cy) w12 HS12.out hz12 (tyR_low HX.out.2.2 HB12.out hz12 HX.out.2.1 HX.out.1) (tyR_low HY.out.2.2 HB12.out hz12 HY.out.2.1 HY.out.1) HOK.out.1 HOK.out.2 (Nat.le_of_eq HNN.out.d) (Nat.le_of_eq HNN.out.k) (by have := HKB.out.2; omega) hu)
      have HUQ := Lib.hid hu
      clear hu
      by_cases he : er = 0
      · have q9 : (er == 0) = true := by simpa using he
        clear he
        go_wp2_with fail
        refine HU.out.mono ?_
        rintro e w13 ⟨rfl, hS13, hk13⟩
        have HB13 := Lib.hid (HB12.out.trans (KG.below hk13 hz12))
        have hz13 : base ≤ w13.heap.size := Nat.le_trans hz12 (KG.size hk13)
        clear hS13 hk13 x0 x1 x2 x3 x4 x5 x6 x7
        go_wp2_with fail
        refine (known_any w13).mono ?_
        rintro e w14 ⟨rfl, hb⟩
        have HB14 := Lib.hid (HEND.out w13 w14 HB13.out hb hz13)
        clear hb
        go_wp2_with fail
        go_ret
        exact ⟨rfl, HB14.out⟩
      have q9 : (er == 0) = false := by simpa using he
      obtain ⟨hK', hc'⟩ := unifyQ_err HUQ.out he
      have HKC := Lib.hid (And.intro hK' hc')
      clear he hK' hc'
      go_wp2_with fail
      refine HU.out.mono ?_
      rintro e w13 ⟨rfl, hS13, hk13⟩
      have HKT := Lib.hid (HS12.out.keepU hk13)
      have HB13 := Lib.hid (HB12.out.trans (KG.below hk13 hz12))
      have hz13 : base ≤ w13.heap.size := Nat.le_trans hz12 (KG.size hk13)
      have HO13 := Lib.hid (HKT.out.own HO12.out)
      have HS13 : Hid (StoreI base w13 s m (given1 (given1 _ x) y) K cnt) := Lib.hid (by
        have h := hS13
        dsimp only at h
        rw [HKC.out.1, HKC.out.2] at h
        exact h)
      have X9_13 := Lib.hid (HKT.out.box X9_12.out)
      have X11_13 := Lib.hid (HKT.out.box X11_12.out)
      have R9_13 := Lib.hid (HKT.out.zn R9_12.out)
      have R11_13 := Lib.hid (HKT.out.zn R11_12.out)
      clear hS13 hk13 x0 x1 x2 x3 x4 x5 x6 x7
      have hs13 := HS13.out.box.lt
      go_wp2_with fail
      go_loopg [15] n (fun dd v15 wv => ∃ (j : Nat) (nx : Int), j + dd = n ∧ v15 = .int .i64 j ∧ Box wv s TSt #[.map (some m), .int .i64 nx] ∧ Kept (fun b => b = s) w13 wv)
      case atStart => exact ⟨0, _, by omega, rfl, HS13.out.box, Kept.refl _ _⟩
      case round =>
        obtain ⟨j, nx, hjd, rfl, hbox, hkept⟩ := hrel
        have HK := Lib.hid hjd
        have HSB := Lib.hid hbox
        have HKP16 := Lib.hid hkept
        have HS16 := Lib.hid (HS13.out.given hbox hkept)
        have HB16 := Lib.hid (HB13.out.trans (Kept.below hkept hz13 fun b e => by rw [e]; exact HS13.out.bs))
        have hz16 : base ≤ wr.heap.size := Nat.le_trans hz13 hkept.size
        have hjle : j ≤ n := by omega
        have HKT := Lib.hid (HS13.out.keepT hkept)
        have HO16 := Lib.hid (HKT.out.own HO13.out)
        have X9_16 := Lib.hid (HKT.out.box X9_13.out)
        have X11_16 := Lib.hid (HKT.out.box X11_13.out)
        have R9_16 := Lib.hid (HKT.out.zn R9_13.out)
        have R11_16 := Lib.hid (HKT.out.zn R11_13.out)
        clear hjd hbox hkept
        by_cases hlt : j < n
        · have hlt' : (j : Int) < n := by omega
          have hkL : j < l.length := by rw [HLN.out.1]; exact hlt
          have hx := HL.out.below HB16.out (fun b h => h) j l[j] (List.getElem?_eq_getElem hkL)
          have HMM := Lib.hid (List.getElem?_eq_getElem hkL)
          generalize l[j] = p at hx HMM
          obtain ⟨x9, y9⟩ := p
          obtain ⟨ad, a2, c2, a3, c3, rfl, _, z0, z1, z2, z3, z4, z5, z6, z7, nx1, lx, rx1, ny1, ly, ry1⟩ := hx
          have HRS := Lib.hid (resolve_is HNN.out (cx := c2) wr HKB.out (by omega) HS16.out hz16 (tyR_low rx1 (Below.refl _ _) hz16 lx nx1) (HJ.out.ok _ (List.mem_of_getElem? HMM.out)).1)
          clear rx1 ry1
          have HGET := Lib.hid (befL_get (q := q) (K := K) HMM.out)
          dsimp only at HGET
          obtain ⟨r9, hr9⟩ : ∃ r9, resP q K x9 = r9 := ⟨_, rfl⟩
          obtain ⟨e9, he9⟩ : ∃ e9, resE q K x9 = e9 := ⟨_, rfl⟩
          rw [hr9, he9] at HRS
          rw [hr9] at HGET
          clear hr9 he9
          go_wp2_with fail
          refine HRS.out.mono ?_
          rintro e w14 ⟨a14, c14, nx14, rfl, hrd, hl14, hn14, hbox, hk⟩
          have HKT := Lib.hid (HS16.out.keepT hk)
          have HKP14 := Lib.hid (HKP16.out.trans hk)
          have HBX14 := Lib.hid hbox
          have HO14 := Lib.hid (HKT.out.own HO16.out)
          have HRD14 := Lib.hid (And.intro hrd (And.intro hl14 hn14))
          have hz14 : wr.heap.size ≤ w14.heap.size := hk.size
          clear hrd hl14 hn14 hbox hk z0 z1 z2 z3 z4 z5 z6 z7
          obtain ⟨w15, hw⟩ : ∃ w15, w14.alloc (.cells #[.int .i64 r9.kd, .int .i64 r9.n, .string r9.nm, .slice a14 r9.args.len c14] TT) = w15 := ⟨_, rfl⟩
          have hb : Below w14.heap.size w14 w15 := by rw [← hw]; exact (Below.refl _ w14).alloc (Nat.le_refl _) _
          have hX15 : Box w15 w14.heap.size TT #[.int .i64 r9.kd, .int .i64 r9.n, .string r9.nm, .slice a14 r9.args.len c14] := by rw [← hw]; exact Box.new _ _ _
          have HKT := Lib.hid (KeepT.of_below hb)
          have HKP15 := Lib.hid (HKP14.out.trans (Kept.of_below hb (Nat.le_refl _) _))
          have HBX15 := Lib.hid (HBX14.out.below hb HBX14.out.lt)
          have HRD15 := Lib.hid (HKT.out.zn HRD14.out.1)
          have hz15 : w14.heap.size < w15.heap.size := hX15.lt
          have hy := (HKT.out.own HO14.out).reads.at_ j r9 HGET.out
          rw [Nat.zero_add] at hy
          obtain ⟨ad7, a20, c20, rfl, hzb7, u0, u1, u2, u3, _, hl20, hr20⟩ := hy
          obtain ⟨y0, y1, y2, y3, _⟩ := hX15.cells4
          have zb : (ad7.add (j * 4)).block < w15.heap.size := by rw [add_block]; exact hzb7.2.lt
          have HSA := Lib.hid (rsame_any (Z := ZN wr.heap.size w15) (Z' := fun b => w4.heap.size ≤ b ∧ TyB TT w15 b) r9.args.nodes r9 r9 (Nat.le_refl _) a14 a20 c14 c20 w15.drew HRD15.out.drew hr20.drew (fun b q => q.2.lt) (fun b q => q.2.lt) hl20)
          unfold tyV at HSA
          have HW15 := Lib.hid hw
          clear hw hb hX15 hr20
          go_upto_region 18 with fail
          rw [HW15.out]
          go_region_held3 (fun w' => (w'.cell? ⟨w14.heap.size, 0, none⟩ = some (.int .i64 r9.kd) ∧ w'.cell? ⟨w14.heap.size, 1, none⟩ = some (.int .i64 r9.n) ∧ w'.cell? ⟨w14.heap.size, 2, none⟩ = some (.string r9.nm) ∧ w'.cell? ⟨w14.heap.size, 3, none⟩ = some (.slice a14 r9.args.len c14)) ∧
      (w'.cell? (ad7.add (j * 4)) = some (.int .i64 r9.kd) ∧ w'.cell? ⟨(ad7.add (j * 4)).block, (ad7.add (j * 4)).off + 1, none⟩ = some (.int .i64 r9.n) ∧ w'.cell? ⟨(ad7.add (j * 4)).block, (ad7.add (j * 4)).off + 2, none⟩ = some (.string r9.nm) ∧ w'.cell? ⟨(ad7.add (j * 4)).block, (ad7.add (j * 4)).off + 3, none⟩ = some (.slice a20 r9.args.len c20)))
    (first
      | exact ⟨⟨y0, y1, y2, y3⟩, ⟨u0, u1, u2, u3⟩⟩
      | exact ⟨⟨k0, k1, k2, k3⟩, ⟨k4, k5, k6, k7⟩⟩
      | go_keep)
    (first
      | (go_at_call 12; refine HSA.out.mono ?_; rintro e w17 ⟨v, rfl, hv, hb⟩; obtain rfl : v = true := hv.2 rfl; replace hb : Below w15.heap.size w15 w17 := ⟨hb.os, hb.tape, hb.output, hb.size, hb.block⟩; have k0 := (hb.cell (p := ⟨w14.heap.size, 0, none⟩) hz15).trans y0; have k1 := (hb.cell (p := ⟨w14.heap.size, 1, none⟩) hz15).trans y1; have k2 := (hb.cell (p := ⟨w14.heap.size, 2, none⟩) hz15).trans y2; have k3 := (hb.cell (p := ⟨w14.heap.size, 3, none⟩) hz15).trans y3; have k4 := (hb.cell zb).trans u0; have k5 := (hb.cell (p := ⟨_, _, none⟩) zb).trans u1; have k6 := (hb.cell (p := ⟨_, _, none⟩) zb).trans u2; have k7 := (hb.cell (p := ⟨_, _, none⟩) zb).trans u3))
          have HKP17 := Lib.hid (HKP15.out.trans (Kept.of_below hb (Nat.le_refl _) _))
          have HBX17 := Lib.hid (HBX15.out.below hb HBX15.out.lt)
          clear hv hb k0 k1 k2 k3 k4 k5 k6 k7 y0 y1 y2 y3 u0 u1 u2 u3
          go_wp2_with fail
          go_roundg (n - (j + 1))
          case measure => have := HK.out; omega
          case rel => exact ⟨j + 1, nx14, by have := HK.out; omega, by go_num, HBX17.out, HKP17.out⟩
        · have hge : ¬ (j : Int) < n := by omega
          have hPc := HP0.out.below HB16.out HPB.out
          have x0 := hPc.cell 0
          have x1 := hPc.cell 1
          have x2 := hPc.cell 2
          have x3 := hPc.cell 3
          have x4 := hPc.cell 4
          have x5 := hPc.cell 5
          have x6 := hPc.cell 6
          have x7 := hPc.cell 7
          clear hPc
          have HRS := Lib.hid (resolve_is HNN.out (cx := cx) wr HKB.out (by omega) HS16.out hz16 (tyR_low HX.out.2.2 HB16.out hz16 HX.out.2.1 HX.out.1) HOK.out.1)
          rw [HRXY.out.1, HRXY.out.2.2.1] at HRS
          go_wp2_with fail
          refine HRS.out.mono ?_
          rintro e w17 ⟨a17, c17, nx17, rfl, hrd, hl17, hn17, hbox, hk⟩
          have HKT := Lib.hid (HS16.out.keepT hk)
          have HKP17 := Lib.hid (HKP16.out.trans hk)
          have HS17 := Lib.hid (HS13.out.given hbox HKP17.out)
          have HB17 := Lib.hid (HB16.out.trans (Kept.below hk hz16 fun b e => by rw [e]; exact HS16.out.bs))
          have HO17 := Lib.hid (HKT.out.own HO16.out)
          have hz17 : base ≤ w17.heap.size := Nat.le_trans hz16 hk.size
          have X9_17 := Lib.hid (HKT.out.box X9_16.out)
          have X11_17 := Lib.hid (HKT.out.box X11_16.out)
          have R9_17 := Lib.hid (HKT.out.zn R9_16.out)
          have R11_17 := Lib.hid (HKT.out.zn R11_16.out)
          have R17_17 := Lib.hid hrd
          have HLE17 := Lib.hid (And.intro hl17 hn17)
          clear hrd hl17 hn17 hbox hk x0 x1 x2 x3 x4 x5 x6 x7
          obtain ⟨w18, hw⟩ : ∃ w18, w17.alloc (.cells #[.int .i64 rx.kd, .int .i64 rx.n, .string rx.nm, .slice a17 rx.args.len c17] TT) = w18 := ⟨_, rfl⟩
          have hb : Below w17.heap.size w17 w18 := by rw [← hw]; exact (Below.refl _ w17).alloc (Nat.le_refl _) _
          have X17_18 := Lib.hid (show Box w18 w17.heap.size TT #[.int .i64 rx.kd, .int .i64 rx.n, .string rx.nm, .slice a17 rx.args.len c17] by rw [← hw]; exact Box.new _ _ _)
          have HKT := Lib.hid (KeepT.of_below hb)
          have HKP18 := Lib.hid (HKP17.out.trans (Kept.of_below hb (Nat.le_refl _) _))
          have HS18 := Lib.hid (HS17.out.below hb)
          have HB18 := Lib.hid (HB17.out.trans (hb.mono hz17))
          have HO18 := Lib.hid (HKT.out.own HO17.out)
          have hz18 : base ≤ w18.heap.size := Nat.le_trans hz17 hb.size
          have X9_18 := Lib.hid (HKT.out.box X9_17.out)
          have X11_18 := Lib.hid (HKT.out.box X11_17.out)
          have R9_18 := Lib.hid (HKT.out.zn R9_17.out)
          have R11_18 := Lib.hid (HKT.out.zn R11_17.out)
          have R17_18 := Lib.hid (HKT.out.zn R17_17.out)
          have HW18 := Lib.hid hw
          clear hw hb
          go_upto_region 21 with fail
          rw [HW18.out]
          have hPc := HP0.out.below HB18.out HPB.out
          have x0 := hPc.cell 0
          have x1 := hPc.cell 1
          have x2 := hPc.cell 2
          have x3 := hPc.cell 3
          have x4 := hPc.cell 4
          have x5 := hPc.cell 5
          have x6 := hPc.cell 6
          have x7 := hPc.cell 7
          clear hPc
          have HRS := Lib.hid (resolve_is HNN.out (cx := cy) w18 HKB.out (by omega) HS18.out hz18 (tyR_low HY.out.2.2 HB18.out hz18 HY.out.2.1 HY.out.1) HOK.out.2)
          rw [HRXY.out.2.1, HRXY.out.2.2.2] at HRS
          go_wp2_with fail
          refine HRS.out.mono ?_
          rintro e w19 ⟨a19, c19, nx19, rfl, hrd, hl19, hn19, hbox, hk⟩
          have HKT := Lib.hid (HS18.out.keepT hk)
          have HKP19 := Lib.hid (HKP18.out.trans hk)
          have HS19 := Lib.hid (HS13.out.given hbox HKP19.out)
          have HB19 := Lib.hid (HB18.out.trans (Kept.below hk hz18 fun b e => by rw [e]; exact HS18.out.bs))
          have HO19 := Lib.hid (HKT.out.own HO18.out)
          have hz19 : base ≤ w19.heap.size := Nat.le_trans hz18 hk.size
          have X9_19 := Lib.hid (HKT.out.box X9_18.out)
          have X11_19 := Lib.hid (HKT.out.box X11_18.out)
          have X17_19 := Lib.hid (HKT.out.box X17_18.out)
          have R9_19 := Lib.hid (HKT.out.zn R9_18.out)
          have R11_19 := Lib.hid (HKT.out.zn R11_18.out)
          have R17_19 := Lib.hid (HKT.out.zn R17_18.out)
          have R19_19 := Lib.hid hrd
          have HLE19 := Lib.hid (And.intro hl19 hn19)
          clear hrd hl19 hn19 hbox hk x0 x1 x2 x3 x4 x5 x6 x7
          obtain ⟨w20, hw⟩ : ∃ w20, w19.alloc (.cells #[.int .i64 ry.kd, .int .i64 ry.n, .string ry.nm, .slice a19 ry.args.len c19] TT) = w20 := ⟨_, rfl⟩
          have hb : Below w19.heap.size w19 w20 := by rw [← hw]; exact (Below.refl _ w19).alloc (Nat.le_refl _) _
          have X19_20 := Lib.hid (show Box w20 w19.heap.size TT #[.int .i64 ry.kd, .int .i64 ry.n, .string ry.nm, .slice a19 ry.args.len c19] by rw [← hw]; exact Box.new _ _ _)
          have HKT := Lib.hid (KeepT.of_below hb)
          have HKP20 := Lib.hid (HKP19.out.trans (Kept.of_below hb (Nat.le_refl _) _))
          have HS20 := Lib.hid (HS19.out.below hb)
          have HB20 := Lib.hid (HB19.out.trans (hb.mono hz19))
          have HO20 := Lib.hid (HKT.out.own HO19.out)
          have hz20 : base ≤ w20.heap.size := Nat.le_trans hz19 hb.size
          have X9_20 := Lib.hid (HKT.out.box X9_19.out)
          have X11_20 := Lib.hid (HKT.out.box X11_19.out)
          have X17_20 := Lib.hid (HKT.out.box X17_19.out)
          have R9_20 := Lib.hid (HKT.out.zn R9_19.out)
          have R11_20 := Lib.hid (HKT.out.zn R11_19.out)
          have R17_20 := Lib.hid (HKT.out.zn R17_19.out)
          have R19_20 := Lib.hid (HKT.out.zn R19_19.out)
          have HW20 := Lib.hid hw
          clear hw hb
          go_upto_region 22 with fail
          rw [HW20.out]
          obtain ⟨p0, p1, p2, p3, _⟩ := X9_20.out.cells4
          obtain ⟨q0, q1, q2, q3, _⟩ := X17_20.out.cells4
          have HSA := Lib.hid (rsame_any (Z := ZN B0 w20) (Z' := ZN wr.heap.size w20) rx.args.nodes rx rx (Nat.le_refl _) a9 a17 c9 c17 w20 R9_20.out R17_20.out (fun b q => q.2.lt) (fun b q => q.2.lt) HLE9.out.1)
          unfold tyV at HSA
          go_wp2_with fail
          refine HSA.out.mono ?_
          rintro e w21 ⟨v, rfl, hv, hb⟩
          obtain rfl : v = true := hv.2 rfl
          have HKT := Lib.hid (KeepT.of_below hb)
          have HB21 := Lib.hid (HB20.out.trans (hb.mono hz20))
          have hz21 : base ≤ w21.heap.size := Nat.le_trans hz20 hb.size
          have X11_21 := Lib.hid (HKT.out.box X11_20.out)
          have X19_21 := Lib.hid (HKT.out.box X19_20.out)
          have R11_21 := Lib.hid (HKT.out.zn R11_20.out)
          have R19_21 := Lib.hid (HKT.out.zn R19_20.out)
          clear hv hb p0 p1 p2 p3 q0 q1 q2 q3
          obtain ⟨p0, p1, p2, p3, _⟩ := X11_21.out.cells4
          obtain ⟨q0, q1, q2, q3, _⟩ := X19_21.out.cells4
          have HSB := Lib.hid (rsame_any (Z := ZN w10.heap.size w21) (Z' := ZN w18.heap.size w21) ry.args.nodes ry ry (Nat.le_refl _) a11 a19 c11 c19 w21 R11_21.out R19_21.out (fun b q => q.2.lt) (fun b q => q.2.lt) HLE11.out.1)
          unfold tyV at HSB
          go_wp2_with fail
          refine HSB.out.mono ?_
          rintro e w22 ⟨v, rfl, hv, hb⟩
          obtain rfl : v = true := hv.2 rfl
          have HB22 := Lib.hid (HB21.out.trans (hb.mono hz21))
          have hz22 : base ≤ w22.heap.size := Nat.le_trans hz21 hb.size
          clear hv hb p0 p1 p2 p3 q0 q1 q2 q3
          go_wp2_with fail
          refine (known_any w22).mono ?_
          rintro e w23 ⟨rfl, hb⟩
          have HB23 := Lib.hid (HEND.out w22 w23 HB22.out hb hz22)
          clear hb
          go_wp2_with fail
          go_ret
          exact ⟨rfl, HB23.out⟩
theorem law (a : Option Addr) (n c : Nat) (hn : n * 112 ≤ 140737488355328) (l : List Pr) (x y : Ty) (ax : Option Addr) (cx : Nat) (ay : Option Addr) (cy : Nat) (w : World) (hl : l.length = n ∧ Prs (· < w.heap.size) w a l) (hq : (x.nm.size ≤ 9223372036854775807 ∧ x.args.len * 56 ≤ 140737488355328 ∧ RdT (· < w.heap.size) w ax x.args 0) ∧ (y.nm.size ≤ 9223372036854775807 ∧ y.args.len * 56 ≤ 140737488355328 ∧ RdT (· < w.heap.size) w ay y.args 0)) :
    Calls Try.prog 5 #[.slice a n c, .agg #[.int .i64 x.kd, .int .i64 x.n, .string x.nm, .slice ax x.args.len cx, .int .i64 y.kd, .int .i64 y.n, .string y.nm, .slice ay y.args.len cy]] w fun e w' => e = .returned (.bool true) ∧ Below w.heap.size w w' :=
  walk 10000000000 1000000000 999999999 ⟨Nat.le_refl _, rfl, rfl⟩ a n c l x y ax cx ay cy w hl.1 hn hl.2 hq.1 hq.2
end Go.Proofs.Ytgomafdhckfnbaa.UnifyBack
