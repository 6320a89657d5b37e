/-
  CONTRACTS: the document's own looks at what was copied without places: an expression. Written by gen_stsame.py.
-/
import Derived.Test.YtdajihpfedbihaaGreatGYg
import Derived.Deep.DeepCutAuto
namespace Go.Proofs.YtdajihpfedbihaaGreat.St
open Go.RowKit Mm Tm
set_option linter.unusedVariables false
set_option linter.unusedSimpArgs false
theorem RowG.single {w : World} {g k : Nat} {t : TypeId} {cs : List Value} (h : Box w g t cs.toArray) (hl : cs.length = k) : RowG (· < w.heap.size) w (some ⟨g, 0, none⟩) 1 k (fun _ => cs) := fun i hi => by
  obtain rfl : i = 0 := by omega
  have hadd : ((⟨g, 0, none⟩ : Addr).add (0 * k)) = ⟨g, 0, none⟩ := by simp [Addr.add]
  refine ⟨⟨g, 0, none⟩, rfl, h.lt, hl, fun u hu => ?_, fun j u _ hu => ?_⟩
  · rw [hadd, h.cell 0]; simpa using hu
  · rw [hadd]; show w.cell? ⟨g, 0 + j, none⟩ = _; rw [Nat.zero_add, h.cell j]; simpa using hu
theorem twoAlloc (w : World) (o1 o2 : Obj) : Below w.heap.size w ((w.alloc o1).alloc o2).drew := todrew (((Below.refl _ _).alloc (Nat.le_refl _) _).alloc (by simp) _)
theorem boxA (w : World) (cs : Array Value) (t : TypeId) (o : Obj) : Box ((w.alloc (.cells cs t)).alloc o).drew w.heap.size t cs := (Box.new w _ _).alloc _
theorem boxB (w : World) (cs : Array Value) (t : TypeId) (o : Obj) : Box ((w.alloc o).alloc (.cells cs t)).drew (w.heap.size + 1) t cs := (Box.at_ (w := w.alloc o) _ _ (by simp) : Box _ _ _ _)
set_option maxRecDepth 100000 in
set_option maxHeartbeats 8000000 in
theorem sameExpr_of {d : Nat} (hin : SmX d) : SmX (d + 1) := by
  intro w cs ds hm
  have hmf : MF (M (· < w.heap.size) w d) (· < w.heap.size) w (schema .ex) cs ds := hm
  obtain ⟨x00, s01, x02, a03, n03, c03, b03, e03, S03, a04, n04, c04, b04, e04, C04, D04, a05, n05, c05, b05, e05, C05, D05, a06, n06, c06, b06, e06, C06, D06, x07, x08, rfl, rfl, -, q03, q04, q05, q06⟩ := inw_ex hmf
  clear hm hmf
  show Calls Tryz.prog 10 #[.agg #[.int .i64 x00, .string s01, .int .i64 x02, .slice a03 n03 c03, .slice a04 n04 c04, .slice a05 n05 c05, .slice a06 n06 c06, .int .i64 x07, .int .i64 x08], .agg #[.int .i64 x00, .string s01, .int .i64 x02, .slice b03 n03 e03, .slice b04 n04 e04, .slice b05 n05 e05, .slice b06 n06 e06, .int .i64 0, .int .i64 0], .bool false] w (Tr w)
  have HIN := Lib.hid hin
  obtain ⟨W2, hW2⟩ : ∃ W2, (w.alloc (.cells #[.int .i64 x00, .string s01, .int .i64 x02, .slice a03 n03 c03, .slice a04 n04 c04, .slice a05 n05 c05, .slice a06 n06 c06, .int .i64 x07, .int .i64 x08] 33)).alloc (.cells #[.int .i64 x00, .string s01, .int .i64 x02, .slice b03 n03 e03, .slice b04 n04 e04, .slice b05 n05 e05, .slice b06 n06 e06, .int .i64 0, .int .i64 0] 33) = W2 := ⟨_, rfl⟩
  have HB2 := Lib.hid (show Below w.heap.size w W2 from by rw [← hW2]; exact ((Below.refl _ _).alloc (Nat.le_refl _) _).alloc (by simp) _)
  have HX8 := Lib.hid (show Box W2 w.heap.size 33 #[.int .i64 x00, .string s01, .int .i64 x02, .slice a03 n03 c03, .slice a04 n04 c04, .slice a05 n05 c05, .slice a06 n06 c06, .int .i64 x07, .int .i64 x08] from by rw [← hW2]; exact (Box.new w _ _).alloc _)
  have HX9 := Lib.hid (show Box W2 (w.heap.size + 1) 33 #[.int .i64 x00, .string s01, .int .i64 x02, .slice b03 n03 e03, .slice b04 n04 e04, .slice b05 n05 e05, .slice b06 n06 e06, .int .i64 0, .int .i64 0] from by rw [← hW2]; exact Box.at_ _ _ (by simp))
  have HQ3 := Lib.hid q03
  have HQ4 := Lib.hid (q04.at_ HB2.out)
  have HQ5 := Lib.hid (q05.at_ HB2.out)
  have HQ6 := Lib.hid (q06.at_ HB2.out)
  have HN3 : n03 * 16 ≤ 140737488355328 := q03.1
  have HN5 : n05 * 96 ≤ 140737488355328 := q05.1
  clear hin q03 q04 q05 q06
  obtain ⟨p0, p1, p2, p3, p4, p5, p6, p7, p8⟩ := bc9 HX8.out
  obtain ⟨r0, r1, r2, r3, r4, r5, r6, r7, r8⟩ := bc9 HX9.out
  go_enter Tryz.func10, Tryz.ntmps10
  go_wp2_with fail
  go_loopg [7] n03 (fun dd v wr => ∃ k : Nat, k + dd = n03 ∧ v = .int .i64 k ∧ Below W2.heap.size W2 wr)
  case atStart => exact ⟨0, by omega, rfl, Below.refl _ _⟩
  case round =>
    obtain ⟨k, hk, rfl, hb⟩ := hrel
    have HK := Lib.hid hk
    have HB := Lib.hid hb
    have hkle : k ≤ n03 := by omega
    have HY8 := Lib.hid (HX8.out.below hb HX8.out.lt)
    have HY9 := Lib.hid (HX9.out.below hb HX9.out.lt)
    clear hk hb p0 r0 p1 r1 p2 r2 p3 r3 p4 r4 p5 r5 p6 r6 p7 r7 p8 r8
    obtain ⟨p0, p1, p2, p3, p4, p5, p6, p7, p8⟩ := bc9 HY8.out
    obtain ⟨r0, r1, r2, r3, r4, r5, r6, r7, r8⟩ := bc9 HY9.out
    by_cases hlt : k < n03
    · have hlt' : (k : Int) < n03 := by omega
      obtain ⟨ad, rfl, -, -, ga0, -⟩ := HQ3.out.2.1 k hlt
      obtain ⟨bd, rfl, -, -, gb0, -⟩ := HQ3.out.2.2 k hlt
      have z0 : wr.cell? (ad.add k) = some (.string (S03 k)) := by have := cellb (cellb (ga0 _ rfl) HB2.out) HB.out; rwa [Nat.mul_one] at this
      have y0 : wr.cell? (bd.add k) = some (.string (S03 k)) := by have := cellb (cellb (gb0 _ rfl) HB2.out) HB.out; rwa [Nat.mul_one] at this
      clear ga0 gb0
      go_wp2_with fail
      go_quiet (fail)
      go_wp2_with fail
      go_roundg (n03 - (k + 1))
      case measure => have := HK.out; omega
      case rel => exact ⟨k + 1, by have := HK.out; omega, by go_num, todrewN HB.out _⟩
    · have hge : ¬ (k : Int) < n03 := by omega
      go_wp2_with fail
      go_loopg [8] n05 (fun dd v wj => ∃ i : Nat, i + dd = n05 ∧ v = .int .i64 i ∧ Below W2.heap.size W2 wj)
      case atStart => exact ⟨0, by omega, rfl, HB.out⟩
      case round =>
        obtain ⟨i, hi, rfl, hbi⟩ := hrel
        have HI := Lib.hid hi
        have HBI := Lib.hid hbi
        have hile : i ≤ n05 := by omega
        have HU8 := Lib.hid (HX8.out.below hbi HX8.out.lt)
        have HU9 := Lib.hid (HX9.out.below hbi HX9.out.lt)
        clear hi hbi p0 r0 p1 r1 p2 r2 p3 r3 p4 r4 p5 r5 p6 r6 p7 r7 p8 r8
        obtain ⟨p0, p1, p2, p3, p4, p5, p6, p7, p8⟩ := bc9 HU8.out
        obtain ⟨r0, r1, r2, r3, r4, r5, r6, r7, r8⟩ := bc9 HU9.out
        by_cases hit : i < n05
        · have hit' : (i : Int) < n05 := by omega
          obtain ⟨ae, rfl, -, -, ga0, ga1⟩ := HQ5.out.2.1 i hit
          obtain ⟨be, rfl, -, -, gb0, gb1⟩ := HQ5.out.2.2.1 i hit
          have hm := HQ5.out.2.2.2 i hit
          obtain ⟨cs, hcs⟩ : ∃ cs, C05 i = cs := ⟨_, rfl⟩
          obtain ⟨ds, hds⟩ : ∃ ds, D05 i = ds := ⟨_, rfl⟩
          rw [hcs] at ga0 ga1 hm
          rw [hds] at gb0 gb1 hm
          clear hcs hds
          obtain ⟨d5, hd5, hmf⟩ := hm.mf
          obtain ⟨us, vs, a56, n56, c56, b56, e56, C56, D56, rfl, rfl, hmp, q56⟩ := splitw_al hmf
          have hme : M (· < W2.heap.size) W2 d .pt us vs := by rw [hd5]; exact hmp
          obtain ⟨x50, s51, x52, a53, n53, c53, b53, e53, C53, D53, x54, x55, rfl, rfl, -, -⟩ := inw_pt hmp
          have z50 : wr.cell? (ae.add (i * 7)) = some (.int .i64 x50) := cellb (ga0 _ rfl) HBI.out
          have y50 : wr.cell? (be.add (i * 7)) = some (.int .i64 x50) := cellb (gb0 _ rfl) HBI.out
          have z51 : wr.cell? ⟨(ae.add (i * 7)).block, (ae.add (i * 7)).off + 1, none⟩ = some (.string s51) := cellb (ga1 1 _ (by decide) rfl) HBI.out
          have y51 : wr.cell? ⟨(be.add (i * 7)).block, (be.add (i * 7)).off + 1, none⟩ = some (.string s51) := cellb (gb1 1 _ (by decide) rfl) HBI.out
          have z52 : wr.cell? ⟨(ae.add (i * 7)).block, (ae.add (i * 7)).off + 2, none⟩ = some (.int .i64 x52) := cellb (ga1 2 _ (by decide) rfl) HBI.out
          have y52 : wr.cell? ⟨(be.add (i * 7)).block, (be.add (i * 7)).off + 2, none⟩ = some (.int .i64 x52) := cellb (gb1 2 _ (by decide) rfl) HBI.out
          have z53 : wr.cell? ⟨(ae.add (i * 7)).block, (ae.add (i * 7)).off + 3, none⟩ = some (.slice a53 n53 c53) := cellb (ga1 3 _ (by decide) rfl) HBI.out
          have y53 : wr.cell? ⟨(be.add (i * 7)).block, (be.add (i * 7)).off + 3, none⟩ = some (.slice b53 n53 e53) := cellb (gb1 3 _ (by decide) rfl) HBI.out
          have z54 : wr.cell? ⟨(ae.add (i * 7)).block, (ae.add (i * 7)).off + 4, none⟩ = some (.int .i64 x54) := cellb (ga1 4 _ (by decide) rfl) HBI.out
          have y54 : wr.cell? ⟨(be.add (i * 7)).block, (be.add (i * 7)).off + 4, none⟩ = some (.int .i64 0) := cellb (gb1 4 _ (by decide) rfl) HBI.out
          have z55 : wr.cell? ⟨(ae.add (i * 7)).block, (ae.add (i * 7)).off + 5, none⟩ = some (.int .i64 x55) := cellb (ga1 5 _ (by decide) rfl) HBI.out
          have y55 : wr.cell? ⟨(be.add (i * 7)).block, (be.add (i * 7)).off + 5, none⟩ = some (.int .i64 0) := cellb (gb1 5 _ (by decide) rfl) HBI.out
          have z56 : wr.cell? ⟨(ae.add (i * 7)).block, (ae.add (i * 7)).off + 6, none⟩ = some (.slice a56 n56 c56) := cellb (ga1 6 _ (by decide) rfl) HBI.out
          have y56 : wr.cell? ⟨(be.add (i * 7)).block, (be.add (i * 7)).off + 6, none⟩ = some (.slice b56 n56 e56) := cellb (gb1 6 _ (by decide) rfl) HBI.out
          have zl5 : (ae.add (i * 7)).block < wr.heap.size := World.block_lt_of_cell? _ _ z50
          have yl5 : (be.add (i * 7)).block < wr.heap.size := World.block_lt_of_cell? _ _ y50
          clear ga0 ga1 gb0 gb1
          have HQR := Lib.hid q56
          have HD5 := Lib.hid hd5
          have HWA1 := Lib.hid (show Below wr.heap.size wr (wr.alloc (.cells #[.int .i64 x50, .string s51, .int .i64 x52, .slice a53 n53 c53, .int .i64 x54, .int .i64 x55] 83)).drew from todrew ((Below.refl _ _).alloc (Nat.le_refl _) _))
          have HWA2 := Lib.hid (show Below wr.heap.size wr ((wr.alloc (.cells #[.int .i64 x50, .string s51, .int .i64 x52, .slice a53 n53 c53, .int .i64 x54, .int .i64 x55] 83)).alloc (.cells #[.int .i64 x50, .string s51, .int .i64 x52, .slice b53 n53 e53, .int .i64 0, .int .i64 0] 83)).drew from twoAlloc wr _ _)
          have HWB1 := Lib.hid (show Below wr.heap.size wr (wr.alloc (.cells #[.int .i64 x50, .string s51, .int .i64 x52, .slice b53 n53 e53, .int .i64 0, .int .i64 0] 83)).drew from todrew ((Below.refl _ _).alloc (Nat.le_refl _) _))
          have HWB2 := Lib.hid (show Below wr.heap.size wr ((wr.alloc (.cells #[.int .i64 x50, .string s51, .int .i64 x52, .slice b53 n53 e53, .int .i64 0, .int .i64 0] 83)).alloc (.cells #[.int .i64 x50, .string s51, .int .i64 x52, .slice a53 n53 c53, .int .i64 x54, .int .i64 x55] 83)).drew from twoAlloc wr _ _)
          have HP := Lib.hid (show ∀ (W : World) (gx gy : Nat), Box W gx 83 #[.int .i64 x50, .string s51, .int .i64 x52, .slice a53 n53 c53, .int .i64 x54, .int .i64 x55] → Box W gy 83 #[.int .i64 x50, .string s51, .int .i64 x52, .slice b53 n53 e53, .int .i64 0, .int .i64 0] → Below wr.heap.size wr W → Calls Tryz.prog 35 #[.slice (some ⟨gx, 0, none⟩) 1 1, .slice (some ⟨gy, 0, none⟩) 1 1, .bool false] W (fun r W' => r = .returned (.bool true) ∧ Below wr.heap.size wr W') from fun W gx gy hx hy hw => (samePats d W (some ⟨gx, 0, none⟩) (some ⟨gy, 0, none⟩) 1 1 1 (fun _ => [.int .i64 x50, .string s51, .int .i64 x52, .slice a53 n53 c53, .int .i64 x54, .int .i64 x55]) (fun _ => [.int .i64 x50, .string s51, .int .i64 x52, .slice b53 n53 e53, .int .i64 0, .int .i64 0]) ⟨by decide, RowG.single hx rfl, RowG.single hy rfl, fun _ _ => hme.at_ (HBI.out.trans (hw.mono HBI.out.size))⟩).mono fun r W' h => ⟨h.1, hw.trans (h.2.mono hw.size)⟩)
          clear hmf hm hmp hme q56
          go_wp2_with fail
          go_region_held3 (fun w' => w'.cell? ⟨w.heap.size, 5, none⟩ = some (.slice (some ae) n05 c05) ∧ w'.cell? ⟨w.heap.size + 1, 5, none⟩ = some (.slice (some be) n05 e05) ∧ w'.cell? (ae.add (i * 7)) = some (.int .i64 x50) ∧ w'.cell? ⟨(ae.add (i * 7)).block, (ae.add (i * 7)).off + 1, none⟩ = some (.string s51) ∧ w'.cell? ⟨(ae.add (i * 7)).block, (ae.add (i * 7)).off + 2, none⟩ = some (.int .i64 x52) ∧ w'.cell? ⟨(ae.add (i * 7)).block, (ae.add (i * 7)).off + 3, none⟩ = some (.slice a53 n53 c53) ∧ w'.cell? ⟨(ae.add (i * 7)).block, (ae.add (i * 7)).off + 4, none⟩ = some (.int .i64 x54) ∧ w'.cell? ⟨(ae.add (i * 7)).block, (ae.add (i * 7)).off + 5, none⟩ = some (.int .i64 x55) ∧ w'.cell? ⟨(ae.add (i * 7)).block, (ae.add (i * 7)).off + 6, none⟩ = some (.slice a56 n56 c56) ∧ w'.cell? (be.add (i * 7)) = some (.int .i64 x50) ∧ w'.cell? ⟨(be.add (i * 7)).block, (be.add (i * 7)).off + 1, none⟩ = some (.string s51) ∧ w'.cell? ⟨(be.add (i * 7)).block, (be.add (i * 7)).off + 2, none⟩ = some (.int .i64 x52) ∧ w'.cell? ⟨(be.add (i * 7)).block, (be.add (i * 7)).off + 3, none⟩ = some (.slice b53 n53 e53) ∧ w'.cell? ⟨(be.add (i * 7)).block, (be.add (i * 7)).off + 4, none⟩ = some (.int .i64 0) ∧ w'.cell? ⟨(be.add (i * 7)).block, (be.add (i * 7)).off + 5, none⟩ = some (.int .i64 0) ∧ w'.cell? ⟨(be.add (i * 7)).block, (be.add (i * 7)).off + 6, none⟩ = some (.slice b56 n56 e56))
            (first
              | exact ⟨p5, r5, z50, z51, z52, z53, z54, z55, z56, y50, y51, y52, y53, y54, y55, y56⟩
              | exact ⟨t1_0, t1_1, t1_2, t1_3, t1_4, t1_5, t1_6, t1_7, t1_8, t1_9, t1_10, t1_11, t1_12, t1_13, t1_14, t1_15⟩
              | exact ⟨t0_0, t0_1, t0_2, t0_3, t0_4, t0_5, t0_6, t0_7, t0_8, t0_9, t0_10, t0_11, t0_12, t0_13, t0_14, t0_15⟩
              | with_reducible exact ⟨cellb p5 HWA1.out, cellb r5 HWA1.out, cellb z50 HWA1.out, cellb z51 HWA1.out, cellb z52 HWA1.out, cellb z53 HWA1.out, cellb z54 HWA1.out, cellb z55 HWA1.out, cellb z56 HWA1.out, cellb y50 HWA1.out, cellb y51 HWA1.out, cellb y52 HWA1.out, cellb y53 HWA1.out, cellb y54 HWA1.out, cellb y55 HWA1.out, cellb y56 HWA1.out⟩
              | with_reducible exact ⟨cellb p5 HWA2.out, cellb r5 HWA2.out, cellb z50 HWA2.out, cellb z51 HWA2.out, cellb z52 HWA2.out, cellb z53 HWA2.out, cellb z54 HWA2.out, cellb z55 HWA2.out, cellb z56 HWA2.out, cellb y50 HWA2.out, cellb y51 HWA2.out, cellb y52 HWA2.out, cellb y53 HWA2.out, cellb y54 HWA2.out, cellb y55 HWA2.out, cellb y56 HWA2.out⟩
              | with_reducible exact ⟨cellb p5 HWB1.out, cellb r5 HWB1.out, cellb z50 HWB1.out, cellb z51 HWB1.out, cellb z52 HWB1.out, cellb z53 HWB1.out, cellb z54 HWB1.out, cellb z55 HWB1.out, cellb z56 HWB1.out, cellb y50 HWB1.out, cellb y51 HWB1.out, cellb y52 HWB1.out, cellb y53 HWB1.out, cellb y54 HWB1.out, cellb y55 HWB1.out, cellb y56 HWB1.out⟩
              | with_reducible exact ⟨cellb p5 HWB2.out, cellb r5 HWB2.out, cellb z50 HWB2.out, cellb z51 HWB2.out, cellb z52 HWB2.out, cellb z53 HWB2.out, cellb z54 HWB2.out, cellb z55 HWB2.out, cellb z56 HWB2.out, cellb y50 HWB2.out, cellb y51 HWB2.out, cellb y52 HWB2.out, cellb y53 HWB2.out, cellb y54 HWB2.out, cellb y55 HWB2.out, cellb y56 HWB2.out⟩
              | go_keep)
            (first
              | (have h := G1; clear h; go_at_call 36; refine HT.out.mono ?_; rintro e W1 ⟨rfl, hb⟩; have HW1 := Lib.hid (HW0.out.trans (hb.mono HW0.out.size)); have t1_0 := cellb t0_0 hb; have t1_1 := cellb t0_1 hb; have t1_2 := cellb t0_2 hb; have t1_3 := cellb t0_3 hb; have t1_4 := cellb t0_4 hb; have t1_5 := cellb t0_5 hb; have t1_6 := cellb t0_6 hb; have t1_7 := cellb t0_7 hb; have t1_8 := cellb t0_8 hb; have t1_9 := cellb t0_9 hb; have t1_10 := cellb t0_10 hb; have t1_11 := cellb t0_11 hb; have t1_12 := cellb t0_12 hb; have t1_13 := cellb t0_13 hb; have t1_14 := cellb t0_14 hb; have t1_15 := cellb t0_15 hb; clear hb)
              | (go_at_call 35; refine (HP.out _ _ _ ?_ ?_ ?_).mono ?_; (first | with_reducible exact boxA _ _ _ _ | with_reducible exact boxB _ _ _ _); (first | with_reducible exact boxA _ _ _ _ | with_reducible exact boxB _ _ _ _); exact twoAlloc _ _ _; rintro e W0 ⟨rfl, hb⟩; have HW0 := Lib.hid hb; have t0_0 := cellb p5 hb; have t0_1 := cellb r5 hb; have t0_2 := cellb z50 hb; have t0_3 := cellb z51 hb; have t0_4 := cellb z52 hb; have t0_5 := cellb z53 hb; have t0_6 := cellb z54 hb; have t0_7 := cellb z55 hb; have t0_8 := cellb z56 hb; have t0_9 := cellb y50 hb; have t0_10 := cellb y51 hb; have t0_11 := cellb y52 hb; have t0_12 := cellb y53 hb; have t0_13 := cellb y54 hb; have t0_14 := cellb y55 hb; have t0_15 := cellb y56 hb; clear hb; have HT := Lib.hid (sameRhs_of (SmX.down (HD5.out ▸ HIN.out)) W0 a56 b56 n56 c56 e56 C56 D56 (HQR.out.at_ (HBI.out.trans (HW0.out.mono HBI.out.size)))); have G1 := Lib.hid True.intro))
          all_goals
            go_wp2_with fail
            go_roundg (n05 - (i + 1))
            case measure => have := HI.out; omega
            case rel => exact ⟨i + 1, by have := HI.out; omega, by go_num, HBI.out.trans (HW1.out.mono HBI.out.size)⟩
        · have hige : ¬ (i : Int) < n05 := by omega
          have HS1 := Lib.hid (sameExprs_of HIN.out wr a04 b04 n04 c04 e04 C04 D04 (HQ4.out.at_ HBI.out))
          go_wp2_with fail
          refine HS1.out.mono ?_
          rintro e W0 ⟨rfl, hb⟩
          have HBJ := Lib.hid (HBI.out.trans (hb.mono HBI.out.size))
          have HS2 := Lib.hid (sameBinds_of HIN.out W0 a06 b06 n06 c06 e06 C06 D06 (HQ6.out.at_ HBJ.out))
          have u6 := cellb p6 hb
          have t6 := cellb r6 hb
          clear hb p0 r0 p1 r1 p2 r2 p3 r3 p4 r4 p5 r5 p6 r6 p7 r7 p8 r8
          go_wp2_with fail
          refine HS2.out.mono ?_
          rintro e W1 ⟨rfl, hb⟩
          have HBL := Lib.hid (HB2.out.trans ((HBJ.out.trans (hb.mono HBJ.out.size)).mono HB2.out.size))
          clear hb
          go_wp2_with fail
          go_ret
          exact ⟨rfl, HBL.out⟩
theorem sameExpr : ∀ d, SmX d
  | 0 => fun w cs ds h => absurd h id
  | d + 1 => sameExpr_of (sameExpr d)
end Go.Proofs.YtdajihpfedbihaaGreat.St
