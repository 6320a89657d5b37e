/-
  The walk of the law changelinglaw10.UnifyTurns: which side is which turns nothing.
-/
import Derived.Test.YtcaioffdcbjbjaaGTuR
import Derived.Deep.DeepCutAuto
namespace Go.Proofs.Ytcaioffdcbjbjaa.UnifyTurns
open Go.RowKit Go.Shelf Mm Tm Mk Un Go.Maps Go.ChangeMaps Go.MapKept Go.WideMaps Ua
set_option linter.unusedVariables false
set_option linter.unusedSimpArgs false
/-- the copies of a pair's types -/
def CutT (x y : Ty) (va vb : Value) (wr : World) (v6 v7 : Value) (wx : World) : Prop := ∃ b6 b7, v6 = .pointer (some ⟨b6, 0, none⟩) ∧ v7 = .pointer (some ⟨b7, 0, none⟩) ∧ Box wx b6 TT #[.int .i64 x.kd, .int .i64 x.n, .string x.nm, va] ∧ Box wx b7 TT #[.int .i64 y.kd, .int .i64 y.n, .string y.nm, vb] ∧ Below wr.heap.size wr wx
set_option maxRecDepth 100000 in
set_option maxHeartbeats 16000000 in
theorem walk (q d kk : Nat) (hN : Nums q d kk) (a : Option Addr) (n c : Nat) (l : List Pr) (w : World) (hln : l.length = n) (hn : n * 112 ≤ 140737488355328) (hr : Prs (· < w.heap.size) w a l) :
    Calls Try.prog 3 #[.slice a n c] w fun e w' => e = .returned (.bool true) ∧ Below w.heap.size w w' := by
  obtain ⟨base, hbase⟩ : ∃ base, base = w.heap.size := ⟨_, rfl⟩
  have HL := Lib.hid (show Prs (· < base) w a l by rw [hbase]; exact hr)
  have HLN := Lib.hid hln
  have HNN := Lib.hid hN
  have HBS := Lib.hid hbase
  have hn40 : n ≤ 140737488355328 := by omega
  have HFW := Lib.hid (few_any (c := c) w hln hn hr fun b h => h)
  have HKN := Lib.hid (fun w => known_any w)
  clear hr hln hn hN
  go_enter Try.func3, Try.ntmps3
  by_cases hfew : fewP l
  case neg =>
    rw [decide_eq_false hfew] at HFW
    clear hfew
    go_wp2_with fail
    refine HFW.out.mono ?_
    rintro e w1 ⟨rfl, hb1⟩
    have HB1 := Lib.hid hb1
    clear hb1
    go_wp2_with fail
    refine (HKN.out _).mono ?_
    rintro e w2 ⟨rfl, hb2⟩
    have HB2 := Lib.hid (HB1.out.trans (hb2.mono HB1.out.size))
    clear hb2
    go_wp2_with fail
    go_ret
    exact ⟨rfl, HB2.out⟩
  rw [decide_eq_true hfew] at HFW
  have HFEW := Lib.hid hfew
  have h40 : n ≤ 40 := by rw [← HLN.out]; exact hfew.1
  clear hfew
  go_wp2_with fail
  refine HFW.out.mono ?_
  rintro e w1 ⟨rfl, hb1⟩
  have HB1 : Hid (Below base w w1) := Lib.hid (by rw [HBS.out]; exact hb1)
  have hz1 : base ≤ w1.heap.size := by have := hb1.size; have := HBS.out; omega
  clear hb1
  go_wp2_with fail
  refine (new_store (base := base) w1 hz1).mono ?_
  rintro e w2 ⟨s1, m1, rfl, hs1, hm1, hS1, hb2⟩
  have HS1 := Lib.hid hS1
  have HB2 := Lib.hid (HB1.out.trans (hb2.mono hz1))
  have hz2 : base ≤ w2.heap.size := Nat.le_trans hz1 hb2.size
  have hl1 : s1 < w2.heap.size := hS1.box.lt
  have hl2 : m1 < w2.heap.size := hS1.kn.lt
  clear hS1 hb2 hs1 hm1
  go_wp2_with fail
  refine (new_store (base := base) w2 hz2).mono ?_
  rintro e w3 ⟨s2, m2, rfl, hs2, hm2, hS2, hb3⟩
  have HT3 := Lib.hid (show TwoS base w3 s1 m1 s2 m2 K0 K0 0 0 from ⟨⟨0, HS1.out.below hb3⟩, ⟨0, hS2⟩, by omega, by omega⟩)
  have HB3 := Lib.hid (HB2.out.trans (hb3.mono hz2))
  have hz3 : base ≤ w3.heap.size := Nat.le_trans hz2 hb3.size
  have HEND : Hid (∀ W W', Below base w W → Below W.heap.size W W' → base ≤ W.heap.size → Below w.heap.size w W') := Lib.hid fun W W' h1 h2 h3 => by rw [← HBS.out]; exact h1.trans (h2.mono h3)
  clear hS2 hb3 hs2 hm2 hl1 hl2
  go_wp2_with fail
  go_loopg [5] n (fun dd v5 wr => ∃ (k : Nat) (K1 K2 : PS) (cnt : Nat), k + dd = n ∧ v5 = .int .i64 k ∧ TwoK k cnt K1 K2 ∧ TwoS base wr s1 m1 s2 m2 K1 K2 cnt cnt ∧ Below base w wr)
  case atStart => exact ⟨0, _, _, 0, by omega, rfl, TwoK.zero, HT3.out, HB3.out⟩
  case round =>
    obtain ⟨k, K1, K2, cnt, hkd, rfl, hK, hS, hb⟩ := hrel
    have HK := Lib.hid hkd
    have HTK := Lib.hid hK
    have HTS := Lib.hid hS
    have HBR := Lib.hid hb
    have hkle : k ≤ n := by omega
    have hwr : base ≤ wr.heap.size := by have := hb.size; have := HBS.out; omega
    clear hkd hK hS hb
    by_cases hlt : k < n
    · have hlt' : (k : Int) < n := by omega
      have hkL : k < l.length := by rw [HLN.out]; exact hlt
      have hx := HL.out.below HBR.out (fun b h => h) k l[k] (List.getElem?_eq_getElem hkL)
      have hsm := HFEW.out.2 _ (List.getElem_mem hkL)
      generalize l[k] = p at hx hsm
      obtain ⟨x, y⟩ := p
      obtain ⟨ad, a2, c2, a3, c3, rfl, hzb, z0, z1, z2, z3, z4, z5, z6, z7, nx1, lx, rx, ny1, ly, ry⟩ := hx
      have HU := Lib.hid (fun (wz : World) (hz : Below wr.heap.size wr wz) => unify_two HNN.out (cx := c2) (cy := c3) wz (Nat.le_trans hwr hz.size) (HTS.out.below hz) HTK.out (by omega) (rx.below (hz.mono hwr) fun b h => h) lx nx1 (ry.below (hz.mono hwr) fun b h => h) ly ny1 hsm.1 hsm.2)
      have za : (ad.add (k * 8)).block < wr.heap.size := by rw [add_block]; exact Nat.lt_of_lt_of_le hzb hwr
      clear rx ry hsm
      go_wp2_with fail
      go_cut [6, 7] (fun v6 v7 wx => CutT x y (.slice a2 x.args.len c2) (.slice a3 y.args.len c3) wr v6 v7 wx)
      case first =>
        go_region
        all_goals
          go_wp2_with fail
          go_meet
          first
            | exact ⟨_, _, rfl, rfl, (Box.new wr _ _).alloc _, Box.at_ (w := wr.alloc _) _ _ (by simp), ((((Below.refl wr.heap.size wr).alloc (Nat.le_refl _) _).alloc (by simp) _).drew)⟩
            | exact ⟨_, _, rfl, rfl, Box.at_ (w := wr.alloc _) _ _ (by simp), (Box.new wr _ _).alloc _, ((((Below.refl wr.heap.size wr).alloc (Nat.le_refl _) _).alloc (by simp) _).drew)⟩
      case rest =>
        obtain ⟨b6, b7, rfl, rfl, hx6, hx7, hbx⟩ := hcut
        obtain ⟨p0, p1, p2, p3, _⟩ := hx6.cells4
        obtain ⟨r0, r1, r2, r3, _⟩ := hx7.cells4
        have HX6 := Lib.hid hx6
        have HX7 := Lib.hid hx7
        have HU1 := Lib.hid (HU.out wc.drew hbx.drew)
        have HBx := Lib.hid (HBR.out.trans (hbx.drew.mono hwr))
        clear hx6 hx7 hbx z0 z1 z2 z3 z4 z5 z6 z7
        go_wp2_with fail
        go_region_held3 (fun w' => (w'.cell? ⟨b6, 0, none⟩ = some (.int .i64 x.kd) ∧ w'.cell? ⟨b6, 1, none⟩ = some (.int .i64 x.n) ∧ w'.cell? ⟨b6, 2, none⟩ = some (.string x.nm) ∧ w'.cell? ⟨b6, 3, none⟩ = some (.slice a2 x.args.len c2)) ∧ (w'.cell? ⟨b7, 0, none⟩ = some (.int .i64 y.kd) ∧ w'.cell? ⟨b7, 1, none⟩ = some (.int .i64 y.n) ∧ w'.cell? ⟨b7, 2, none⟩ = some (.string y.nm) ∧ w'.cell? ⟨b7, 3, none⟩ = some (.slice a3 y.args.len c3)))
          (first
            | exact ⟨⟨p0, p1, p2, p3⟩, ⟨r0, r1, r2, r3⟩⟩
            | exact ⟨⟨g0, g1, g2, g3⟩, ⟨h0, h1, h2, h3⟩⟩
            | exact ⟨⟨i0, i1, i2, i3⟩, ⟨j0, j1, j2, j3⟩⟩
            | go_keep)
          (first
            | (go_at_call 7; have hgd := HC5; clear hgd; refine HC5.out.mono ?_; rintro e w6 ⟨rfl, ht6, hb6, hkt6⟩; obtain ⟨i0, i1, i2, i3, _⟩ := (hkt6.box (HKT5.out.box HX6.out.drew)).cells4; obtain ⟨j0, j1, j2, j3, _⟩ := (hkt6.box (HKT5.out.box HX7.out.drew)).cells4; have HT6 := Lib.hid ht6; have HB6 := Lib.hid (HB5.out.trans hb6); clear ht6 hb6 hkt6)
            | (go_at_call 7; refine HU1.out.mono ?_; rintro e w5 ⟨er, K1', K2', c', rfl, hk5, hb5, hkt5, hcall⟩; obtain ⟨g0, g1, g2, g3, _⟩ := (hkt5.box HX6.out.drew).cells4; obtain ⟨h0, h1, h2, h3, _⟩ := (hkt5.box HX7.out.drew).cells4; have HC5 := Lib.hid (hcall w5 (Below.refl _ _)); have HTK5 := Lib.hid hk5; have HKT5 := Lib.hid hkt5; have HB5 := Lib.hid (HBx.out.trans hb5); clear hk5 hb5 hkt5 hcall))
        clear p0 p1 p2 p3 r0 r1 r2 r3 g0 g1 g2 g3 h0 h1 h2 h3 i0 i1 i2 i3 j0 j1 j2 j3
        go_wp2_with fail
        go_roundg (n - (k + 1))
        case measure => have := HK.out; omega
        case rel => exact ⟨k + 1, K1', K2', c', by have := HK.out; omega, by go_num, HTK5.out, HT6.out, HB6.out⟩
    · have hge : ¬ (k : Int) < n := by omega
      obtain rfl : k = n := by omega
      go_wp2_with fail
      obtain ⟨wq, hwq⟩ : ∃ q, q = wr := ⟨_, rfl⟩
      subst hwq
      go_loopg [8] k (fun dd v8 wz => ∃ (i : Nat), i + dd = k ∧ v8 = .int .i64 i ∧ TwoS base wz s1 m1 s2 m2 K1 K2 cnt cnt ∧ Below base w wz)
      case atStart => exact ⟨0, by omega, rfl, HTS.out, HBR.out⟩
      case round =>
        obtain ⟨i, hid, rfl, hS, hb⟩ := hrel
        have HI := Lib.hid hid
        have HSI := Lib.hid hS
        have HBI := Lib.hid hb
        have hile : i ≤ k := by omega
        have hwi : base ≤ wr.heap.size := by have := hb.size; have := HBS.out; omega
        clear hid hS hb
        by_cases hlt : i < k
        · have hlt' : (i : Int) < k := by omega
          have hiL : i < l.length := by rw [HLN.out]; exact hlt
          have hx := HL.out.below HBI.out (fun b h => h) i l[i] (List.getElem?_eq_getElem hiL)
          have HMM := Lib.hid (List.getElem?_eq_getElem hiL)
          generalize l[i] = p at hx HMM
          obtain ⟨x9, y9⟩ := p
          obtain ⟨ad, a2, c2, a3, c3, rfl, hza, z0, z1, z2, z3, z4, z5, z6, z7, nx1, lx, rx, ny1, ly, ry⟩ := hx
          obtain ⟨r9, e9, HR1, HR2⟩ := resolve_two HNN.out (s1 := s1) (m1 := m1) (s2 := s2) (m2 := m2) (cx := c2) wr HTK.out (by omega) rx lx nx1
          have HRS := Lib.hid (HR1 wr (Below.refl _ _) hwi HSI.out)
          have HR2 := Lib.hid HR2
          have zb : (ad.add (i * 8)).block < base := by rw [add_block]; exact hza
          have HZ := Lib.hid (fun (w' : World) (hb : Below base wr w') => And.intro ((hb.cell zb).trans z0) (And.intro ((hb.cell (p := ⟨(ad.add (i * 8)).block, (ad.add (i * 8)).off + 1, none⟩) zb).trans z1) (And.intro ((hb.cell (p := ⟨(ad.add (i * 8)).block, (ad.add (i * 8)).off + 2, none⟩) zb).trans z2) ((hb.cell (p := ⟨(ad.add (i * 8)).block, (ad.add (i * 8)).off + 3, none⟩) zb).trans z3))))
          clear rx ry HR1
          go_wp2_with fail
          refine HRS.out.mono ?_
          rintro e w5 ⟨a5, c5, nx5, rfl, hrd, hl5, hn5, hbox5, hk5⟩
          have HRD := Lib.hid (And.intro hrd (And.intro hl5 hn5))
          have HS5 := Lib.hid (HSI.out.given hbox5 hk5)
          have hb5 : Below base wr w5 := Kept.below hk5 hwi fun b e => by obtain ⟨_, h⟩ := HSI.out.a; rw [e]; exact h.bs
          have HB5 := Lib.hid (HBI.out.trans hb5)
          have HBW5 := Lib.hid hb5
          have hz5 : base ≤ w5.heap.size := Nat.le_trans hwi hk5.size
          clear hrd hl5 hn5 hbox5 hk5 hb5 z0 z1 z2 z3 z4 z5 z6 z7
          obtain ⟨w6, hw6⟩ : ∃ w6, w5.alloc (.cells #[.int .i64 r9.kd, .int .i64 r9.n, .string r9.nm, .slice a5 r9.args.len c5] TT) = w6 := ⟨_, rfl⟩
          have hb56 : Below w5.heap.size w5 w6 := by rw [← hw6]; exact (Below.refl _ w5).alloc (Nat.le_refl _) _
          have HX6 := Lib.hid (show Box w6 w5.heap.size TT #[.int .i64 r9.kd, .int .i64 r9.n, .string r9.nm, .slice a5 r9.args.len c5] by rw [← hw6]; exact Box.new _ _ _)
          have HS6 := Lib.hid (HS5.out.below hb56)
          have HB6 := Lib.hid (HB5.out.trans (hb56.mono hz5))
          have HRD6 := Lib.hid ((KeepT.of_below hb56).zn HRD.out.1)
          have hz6 : base ≤ w6.heap.size := Nat.le_trans hz5 hb56.size
          have HW6 := Lib.hid hw6
          have HBW6 := Lib.hid (HBW5.out.trans (hb56.mono hz5))
          obtain ⟨z0, z1, z2, z3⟩ := HZ.out w6 HBW6.out
          have HRS2 := Lib.hid (HR2.out w6 HBW6.out hz6 HS6.out)
          clear hb56 hw6
          go_upto_region 16 with fail
          rw [HW6.out]
          go_wp2_with fail
          refine HRS2.out.mono ?_
          rintro e w7 ⟨a7, c7, nx7, rfl, hrd, hl7, hn7, hbox7, hk7⟩
          obtain ⟨nxb, hst2⟩ := HS6.out.b
          have HKT := Lib.hid (hst2.keepT hk7)
          have HRE := Lib.hid hrd
          have HS7 := Lib.hid (HS6.out.swap.given hbox7 hk7).swap
          have HB7 := Lib.hid (HB6.out.trans (Kept.below hk7 hz6 fun b e => by rw [e]; exact hst2.bs))
          have hz7 : base ≤ w7.heap.size := Nat.le_trans hz6 hk7.size
          have HX7 := Lib.hid (HKT.out.box HX6.out)
          have HRD7 := Lib.hid (HKT.out.zn HRD6.out)
          clear hrd hl7 hn7 hbox7 hk7 hst2 z0 z1 z2 z3
          obtain ⟨w8, hw8⟩ : ∃ w8, w7.alloc (.cells #[.int .i64 r9.kd, .int .i64 r9.n, .string r9.nm, .slice a7 r9.args.len c7] TT) = w8 := ⟨_, rfl⟩
          have hb78 : Below w7.heap.size w7 w8 := by rw [← hw8]; exact (Below.refl _ w7).alloc (Nat.le_refl _) _
          have HY8 := Lib.hid (show Box w8 w7.heap.size TT #[.int .i64 r9.kd, .int .i64 r9.n, .string r9.nm, .slice a7 r9.args.len c7] by rw [← hw8]; exact Box.new _ _ _)
          have HKT8 := Lib.hid (KeepT.of_below hb78)
          have HX8 := Lib.hid (HKT8.out.box HX7.out)
          have HRD8 := Lib.hid (HKT8.out.zn HRD7.out)
          have HRE8 := Lib.hid (HKT8.out.zn HRE.out)
          have HS8 := Lib.hid (HS7.out.below hb78)
          have HB8 := Lib.hid (HB7.out.trans (hb78.mono hz7))
          have hz8 : base ≤ w8.heap.size := Nat.le_trans hz7 hb78.size
          have HW8 := Lib.hid hw8
          obtain ⟨p0, p1, p2, p3, _⟩ := HX8.out.cells4
          obtain ⟨q0, q1, q2, q3, _⟩ := HY8.out.cells4
          have HSA := Lib.hid (rsame_any (Z := ZN wr.heap.size w8) (Z' := ZN w6.heap.size w8) r9.args.nodes r9 r9 (Nat.le_refl _) a5 a7 c5 c7 w8 HRD8.out HRE8.out (fun b q => q.2.lt) (fun b q => q.2.lt) HRD.out.2.1)
          unfold tyV at HSA
          clear hb78 hw8
          go_upto_region 17 with fail
          rw [HW8.out]
          go_wp2_with fail
          refine HSA.out.mono ?_
          rintro e w9 ⟨v, rfl, hv, hb⟩
          obtain rfl : v = true := hv.2 rfl
          have HB9 := Lib.hid (HB8.out.trans (hb.mono hz8))
          have HS9 := Lib.hid (HS8.out.below hb)
          clear hv hb p0 p1 p2 p3 q0 q1 q2 q3
          go_wp2_with fail
          go_roundg (k - (i + 1))
          case measure => have := HI.out; omega
          case rel => exact ⟨i + 1, by have := HI.out; omega, by go_num, HS9.out, HB9.out⟩
        · have hge : ¬ (i : Int) < k := by omega
          go_wp2_with fail
          refine (known_any wr).mono ?_
          rintro e w9 ⟨rfl, hb⟩
          have HB9 := Lib.hid (HEND.out wr w9 HBI.out hb hwi)
          clear hb
          go_wp2_with fail
          go_ret
          exact ⟨rfl, HB9.out⟩
theorem law (a : Option Addr) (n c : Nat) (hn : n * 112 ≤ 140737488355328) (l : List Pr) (w : World) (hl : l.length = n ∧ Prs (· < w.heap.size) w a l) :
    Calls Try.prog 3 #[.slice a n c] w fun e w' => e = .returned (.bool true) ∧ Below w.heap.size w w' :=
  walk 10000000000 1000000000 999999999 ⟨Nat.le_refl _, rfl, rfl⟩ a n c l w hl.1 hn hl.2
end Go.Proofs.Ytcaioffdcbjbjaa.UnifyTurns
