/-
  The walk of the law changelinglaw10.UnifySame: what was made the same resolves to the same.
-/
import Derived.Test.YtgomafdhckfnbaaGE
import Derived.Test.YtgomafdhckfnbaaGPrF
import Derived.Test.YtgomafdhckfnbaaGSmE

namespace Go.Proofs.Ytgomafdhckfnbaa.UnifySame
open Go.RowKit Go.Shelf Mm Tm Mk Un Go.Maps Go.ChangeMaps Go.MapKept Go.WideMaps Ua
set_option linter.unusedVariables false
set_option linter.unusedSimpArgs false
theorem resE_or (q : Nat) (K : PS) (x : Ty) : resE q K x = 0 ∨ resE q K x = 102 := by
  unfold resE
  split
  · exact .inl rfl
  · exact .inr rfl
set_option maxRecDepth 100000 in
set_option maxHeartbeats 16000000 in
theorem walk (q d kk : Nat) (hN : Nums q d kk) (a : Option Addr) (n c : Nat) (l : List Pr) (w : World) (hln : l.length = n) (hn : n * 112 ≤ 140737488355328) (hr : Prs (· < w.heap.size) w a l) :
    Calls Try.prog 3 #[.slice a n c] w fun e w' => e = .returned (.bool true) ∧ Below w.heap.size w w' := by
  obtain ⟨base, hbase⟩ : ∃ base, base = w.heap.size := ⟨_, rfl⟩
  have HL := Lib.hid (show Prs (· < base) w a l by rw [hbase]; exact hr)
  have HLN := Lib.hid (And.intro hln hn)
  have HNN := Lib.hid hN
  have HBS := Lib.hid hbase
  have hn40 : n ≤ 140737488355328 := by omega
  clear hr hln hn hN
  go_enter Try.func3, Try.ntmps3
  go_wp2_with fail
  refine (joined_any HNN.out (base := base) (c := c) w HBS.out HLN.out.1 HLN.out.2 HL.out).mono ?_
  rintro e w1 ⟨s, m, nx0, v, rfl, hb, _, ht⟩
  have HB1 := Lib.hid hb
  have hz1' : base ≤ w1.heap.size := by have := hb.size; have := HBS.out; omega
  have HT := Lib.hid ht
  clear hb ht
  have HEND : Hid (∀ W W', Below base w W → Below W.heap.size W W' → base ≤ W.heap.size → Below w.heap.size w W') := Lib.hid fun W W' h1 h2 h3 => by rw [← HBS.out]; exact h1.trans (h2.mono h3)
  cases v with
  | false =>
    go_wp2_with fail
    refine (known_any w1).mono ?_
    rintro e w2 ⟨rfl, hb2⟩
    have HB2 := Lib.hid (HEND.out w1 w2 HB1.out hb2 hz1')
    clear hb2
    go_wp2_with fail
    go_ret
    exact ⟨rfl, HB2.out⟩
  | true =>
  obtain ⟨hfew, K, cnt, hj, hS⟩ := HT.out rfl
  have HFEW := Lib.hid hfew
  have HJ := Lib.hid hj
  have HKB := Lib.hid (hj.kb HNN.out (by have := hfew.1; omega) hfew.2)
  have HWH := Lib.hid (hj.whole HNN.out (by have := hfew.1; omega) hfew.2)
  have HS1 := Lib.hid hS
  have h40 := hfew.1
  clear hfew hj hS HT
  go_wp2_with fail
  go_loopg [5] n (fun dd v5 wr => ∃ (k : Nat) (nx : Int), k + dd = n ∧ v5 = .int .i64 k ∧ StoreI base wr s m nx K cnt ∧ Below base w wr)
  case atStart => exact ⟨0, _, by omega, rfl, HS1.out, HB1.out⟩
  case round =>
    obtain ⟨k, nx, hkd, rfl, hS, hb⟩ := hrel
    have HK := Lib.hid hkd
    have HSR := Lib.hid hS
    have HBR := Lib.hid hb
    have hzb : base ≤ wr.heap.size := by have := hb.size; have := HBS.out; omega
    have hkle : k ≤ n := by omega
    clear hkd hS hb
    by_cases hlt : k < n
    · have hlt' : (k : Int) < n := by omega
      have hkL : k < l.length := by rw [HLN.out.1]; exact hlt
      have hx := HL.out.below HBR.out (fun b h => h) k l[k] (List.getElem?_eq_getElem hkL)
      have HMM := Lib.hid (List.getElem?_eq_getElem hkL)
      generalize l[k] = p at hx HMM
      obtain ⟨x9, y9⟩ := p
      obtain ⟨ad, a2, c2, a3, c3, rfl, hza, z0, z1, z2, z3, z4, z5, z6, z7, nx1, lx, rx, ny1, ly, ry⟩ := hx
      have HOKP := Lib.hid (HJ.out.ok _ (List.mem_of_getElem? HMM.out))
      have HRS := Lib.hid (resolve_is HNN.out (cx := c2) wr HKB.out (by omega) HSR.out hzb (tyR_low rx (Below.refl _ _) hzb lx nx1) HOKP.out.1)
      have HRY := Lib.hid (And.intro ry (And.intro ly ny1))
      have heq := HWH.out _ (List.mem_of_getElem? HMM.out) 256 256
      dsimp only at heq
      have hr1 : resP q K y9 = resP q K x9 := by unfold resP; rw [heq]
      have hr2 : resE q K y9 = resE q K x9 := by unfold resE; rw [heq]
      have her := resE_or q K x9
      obtain ⟨r9, hr9⟩ : ∃ r9, resP q K x9 = r9 := ⟨_, rfl⟩
      obtain ⟨e9, he9⟩ : ∃ e9, resE q K x9 = e9 := ⟨_, rfl⟩
      rw [hr9, he9] at HRS
      rw [hr9] at hr1
      rw [he9] at hr2 her
      have HR9 := Lib.hid (And.intro hr1 hr2)
      have HER := Lib.hid her
      clear hr9 he9 hr1 hr2 her heq rx ry
      go_wp2_with fail
      refine HRS.out.mono ?_
      rintro e w5 ⟨a5, c5, nx5, rfl, hrd, hl5, hn5, hbox5, hk5⟩
      have HRD := Lib.hid (And.intro hrd (And.intro hl5 hn5))
      have HS5 := Lib.hid (HSR.out.given hbox5 hk5)
      have HB5 := Lib.hid (HBR.out.trans (Kept.below hk5 hzb fun b e => by rw [e]; exact HSR.out.bs))
      have hz5 : base ≤ w5.heap.size := Nat.le_trans hzb hk5.size
      clear hrd hl5 hn5 hbox5 hk5 z0 z1 z2 z3 z4 z5 z6 z7
      obtain ⟨w6, hw6⟩ : ∃ w6, w5.alloc (.cells #[.int .i64 r9.kd, .int .i64 r9.n, .string r9.nm, .slice a5 r9.args.len c5] TT) = w6 := ⟨_, rfl⟩
      have hb56 : Below w5.heap.size w5 w6 := by rw [← hw6]; exact (Below.refl _ w5).alloc (Nat.le_refl _) _
      have HX6 := Lib.hid (show Box w6 w5.heap.size TT #[.int .i64 r9.kd, .int .i64 r9.n, .string r9.nm, .slice a5 r9.args.len c5] by rw [← hw6]; exact Box.new _ _ _)
      have HS6 := Lib.hid (HS5.out.below hb56)
      have HB6 := Lib.hid (HB5.out.trans (hb56.mono hz5))
      have HRD6 := Lib.hid ((KeepT.of_below hb56).zn HRD.out.1)
      have hz6 : base ≤ w6.heap.size := Nat.le_trans hz5 hb56.size
      have HW6 := Lib.hid hw6
      have hx6 := HL.out.below HB6.out (fun b h => h) k (x9, y9) HMM.out
      obtain ⟨ad', a2', c2', a3', c3', hae, _, z0, z1, z2, z3, z4, z5, z6, z7, _, _, _, ny1, ly, ry⟩ := hx6
      obtain rfl : ad = ad' := Option.some.inj hae
      have HRS2 := Lib.hid (resolve_is HNN.out (cx := c3') w6 HKB.out (by omega) HS6.out hz6 (tyR_low ry (Below.refl _ _) hz6 ly ny1) HOKP.out.2)
      dsimp only at HRS2
      rw [HR9.out.1, HR9.out.2] at HRS2
      clear hb56 hw6 ry
      go_upto_region 8 with fail
      rw [HW6.out]
      go_wp2_with fail
      refine HRS2.out.mono ?_
      rintro e w7 ⟨a7, c7, nx7, rfl, hrd, hl7, hn7, hbox7, hk7⟩
      have HKT := Lib.hid (HS6.out.keepT hk7)
      have HRE := Lib.hid hrd
      have HS7 := Lib.hid (HS6.out.given hbox7 hk7)
      have HB7 := Lib.hid (HB6.out.trans (Kept.below hk7 hz6 fun b e => by rw [e]; exact HS6.out.bs))
      have hz7 : base ≤ w7.heap.size := Nat.le_trans hz6 hk7.size
      have HX7 := Lib.hid (HKT.out.box HX6.out)
      have HRD7 := Lib.hid (HKT.out.zn HRD6.out)
      clear hrd hl7 hn7 hbox7 hk7 z0 z1 z2 z3 z4 z5 z6 z7
      obtain ⟨w8, hw8⟩ : ∃ w8, w7.alloc (.cells #[.int .i64 r9.kd, .int .i64 r9.n, .string r9.nm, .slice a7 r9.args.len c7] TT) = w8 := ⟨_, rfl⟩
      have hb78 : Below w7.heap.size w7 w8 := by rw [← hw8]; exact (Below.refl _ w7).alloc (Nat.le_refl _) _
      have HY8 := Lib.hid (show Box w8 w7.heap.size TT #[.int .i64 r9.kd, .int .i64 r9.n, .string r9.nm, .slice a7 r9.args.len c7] by rw [← hw8]; exact Box.new _ _ _)
      have HKT := Lib.hid (KeepT.of_below hb78)
      have HX8 := Lib.hid (HKT.out.box HX7.out)
      have HRD8 := Lib.hid (HKT.out.zn HRD7.out)
      have HRE8 := Lib.hid (HKT.out.zn HRE.out)
      have HS8 := Lib.hid (HS7.out.below hb78)
      have HB8 := Lib.hid (HB7.out.trans (hb78.mono hz7))
      have hz8 : base ≤ w8.heap.size := Nat.le_trans hz7 hb78.size
      have HW8 := Lib.hid hw8
      obtain ⟨p0, p1, p2, p3, _⟩ := HX8.out.cells4
      obtain ⟨q0, q1, q2, q3, _⟩ := HY8.out.cells4
      have HSA := Lib.hid (rsame_any (Z := ZN wr.heap.size w8) (Z' := ZN w6.heap.size w8) r9.args.nodes r9 r9 (Nat.le_refl _) a5 a7 c5 c7 w8 HRD8.out HRE8.out (fun b q => q.2.lt) (fun b q => q.2.lt) HRD.out.2.1)
      unfold tyV at HSA
      clear hb78 hw8
      go_upto_region 9 with fail
      rw [HW8.out]
      rcases HER.out with rfl | rfl
      · go_wp2_with fail
        refine HSA.out.mono ?_
        rintro e w9 ⟨v, rfl, hv, hb⟩
        obtain rfl : v = true := hv.2 rfl
        have HB9 := Lib.hid (HB8.out.trans (hb.mono hz8))
        have HS9 := Lib.hid (HS8.out.below hb)
        clear hv hb p0 p1 p2 p3 q0 q1 q2 q3
        go_wp2_with fail
        go_roundg (n - (k + 1))
        case measure => have := HK.out; omega
        case rel => exact ⟨k + 1, _, by have := HK.out; omega, by go_num, HS9.out, HB9.out⟩
      · go_wp2_with fail
        refine HSA.out.mono ?_
        rintro e w9 ⟨v, rfl, hv, hb⟩
        obtain rfl : v = true := hv.2 rfl
        have HB9 := Lib.hid (HB8.out.trans (hb.mono hz8))
        have HS9 := Lib.hid (HS8.out.below hb)
        clear hv hb p0 p1 p2 p3 q0 q1 q2 q3
        go_wp2_with fail
        go_roundg (n - (k + 1))
        case measure => have := HK.out; omega
        case rel => exact ⟨k + 1, _, by have := HK.out; omega, by go_num, HS9.out, HB9.out⟩
    · have hge : ¬ (k : Int) < n := by omega
      go_wp2_with fail
      refine (known_any wr).mono ?_
      rintro e w9 ⟨rfl, hb⟩
      have HB9 := Lib.hid (HEND.out wr w9 HBR.out hb hzb)
      clear hb
      go_wp2_with fail
      go_ret
      exact ⟨rfl, HB9.out⟩
theorem law (a : Option Addr) (n c : Nat) (hn : n * 112 ≤ 140737488355328) (l : List Pr) (w : World) (hl : l.length = n ∧ Prs (· < w.heap.size) w a l) :
    Calls Try.prog 3 #[.slice a n c] w fun e w' => e = .returned (.bool true) ∧ Below w.heap.size w w' :=
  walk 10000000000 1000000000 999999999 ⟨Nat.le_refl _, rfl, rfl⟩ a n c l w hl.1 hn hl.2
end Go.Proofs.Ytgomafdhckfnbaa.UnifySame
