/-
  CONTRACTS: the document's own looks at what was copied without places: data types, programs. Written by gen_stsame.py.
-/
import Derived.Test.YtdajihpfedbihaaGreatGYh
import Derived.Deep.DeepCutAuto
namespace Go.Proofs.YtdajihpfedbihaaGreat.St
open Go.RowKit Mm Tm
set_option linter.unusedVariables false
set_option linter.unusedSimpArgs false
set_option maxRecDepth 100000 in
set_option maxHeartbeats 8000000 in
theorem sameDatas {d : Nat} : SmR 32 .dt d := by
  intro w a b n c e C D hr
  have HN : n * 80 ≤ 140737488355328 := hr.1
  have HR := Lib.hid hr
  clear hr
  go_enter Tryz.func32, Tryz.ntmps32
  go_wp2_with fail
  go_loopg [7] n (fun dd v wr => ∃ k : Nat, k + dd = n ∧ v = .int .i64 k ∧ Below w.heap.size w wr)
  case atStart => exact ⟨0, by omega, rfl, Below.refl _ _⟩
  case round =>
    obtain ⟨k, hk, rfl, hb⟩ := hrel
    have HK := Lib.hid hk
    have HB := Lib.hid hb
    have hkle : k ≤ n := by omega
    clear hk hb
    by_cases hlt : k < n
    · have hlt' : (k : Int) < n := by omega
      obtain ⟨ad, rfl, -, -, ga0, ga1⟩ := HR.out.2.1 k hlt
      obtain ⟨bd, rfl, -, -, gb0, gb1⟩ := HR.out.2.2.1 k hlt
      have hm := HR.out.2.2.2 k hlt
      obtain ⟨cs, hcs⟩ : ∃ cs, C k = cs := ⟨_, rfl⟩
      obtain ⟨ds, hds⟩ : ∃ ds, D k = ds := ⟨_, rfl⟩
      rw [hcs] at ga0 ga1 hm
      rw [hds] at gb0 gb1 hm
      clear hcs hds
      obtain ⟨d0, hd0, hmf⟩ := hm.mf
      obtain ⟨s00, a01, n01, c01, b01, e01, S01, a02, n02, c02, b02, e02, C02, D02, x03, x04, rfl, rfl, -, q01, q02⟩ := inw_dt hmf
      have z00 : wr.cell? (ad.add (k * 5)) = some (.string s00) := cellb (ga0 _ rfl) HB.out
      have y00 : wr.cell? (bd.add (k * 5)) = some (.string s00) := cellb (gb0 _ rfl) HB.out
      have z01 : wr.cell? ⟨(ad.add (k * 5)).block, (ad.add (k * 5)).off + 1, none⟩ = some (.slice a01 n01 c01) := cellb (ga1 1 _ (by decide) rfl) HB.out
      have y01 : wr.cell? ⟨(bd.add (k * 5)).block, (bd.add (k * 5)).off + 1, none⟩ = some (.slice b01 n01 e01) := cellb (gb1 1 _ (by decide) rfl) HB.out
      have z02 : wr.cell? ⟨(ad.add (k * 5)).block, (ad.add (k * 5)).off + 2, none⟩ = some (.slice a02 n02 c02) := cellb (ga1 2 _ (by decide) rfl) HB.out
      have y02 : wr.cell? ⟨(bd.add (k * 5)).block, (bd.add (k * 5)).off + 2, none⟩ = some (.slice b02 n02 e02) := cellb (gb1 2 _ (by decide) rfl) HB.out
      have z03 : wr.cell? ⟨(ad.add (k * 5)).block, (ad.add (k * 5)).off + 3, none⟩ = some (.int .i64 x03) := cellb (ga1 3 _ (by decide) rfl) HB.out
      have y03 : wr.cell? ⟨(bd.add (k * 5)).block, (bd.add (k * 5)).off + 3, none⟩ = some (.int .i64 0) := cellb (gb1 3 _ (by decide) rfl) HB.out
      have z04 : wr.cell? ⟨(ad.add (k * 5)).block, (ad.add (k * 5)).off + 4, none⟩ = some (.int .i64 x04) := cellb (ga1 4 _ (by decide) rfl) HB.out
      have y04 : wr.cell? ⟨(bd.add (k * 5)).block, (bd.add (k * 5)).off + 4, none⟩ = some (.int .i64 0) := cellb (gb1 4 _ (by decide) rfl) HB.out
      have zl0 : (ad.add (k * 5)).block < wr.heap.size := World.block_lt_of_cell? _ _ z00
      have yl0 : (bd.add (k * 5)).block < wr.heap.size := World.block_lt_of_cell? _ _ y00
      clear ga0 ga1 gb0 gb1
      have HQ1 := Lib.hid q01
      have HQ2 := Lib.hid q02
      clear hmf hm
      go_wp2_with fail
      go_cut [8, 9] (fun va vb wx => ∃ b8 b9, va = .pointer (some ⟨b8, 0, none⟩) ∧ vb = .pointer (some ⟨b9, 0, none⟩) ∧ Box wx b8 72 #[.string s00, .slice a01 n01 c01, .slice a02 n02 c02, .int .i64 x03, .int .i64 x04] ∧ Box wx b9 72 #[.string s00, .slice b01 n01 e01, .slice b02 n02 e02, .int .i64 0, .int .i64 0] ∧ Below wr.heap.size wr wx)
      case first =>
        go_region
        all_goals
          go_wp2_with fail
          go_meet
          first
            | exact ⟨_, _, rfl, rfl, (Box.new wr _ _).alloc _, Box.at_ (w := wr.alloc _) _ _ (by simp), ((((Below.refl wr.heap.size wr).alloc (Nat.le_refl _) _).alloc (by simp) _).drew)⟩
            | exact ⟨_, _, rfl, rfl, Box.at_ (w := wr.alloc _) _ _ (by simp), (Box.new wr _ _).alloc _, ((((Below.refl wr.heap.size wr).alloc (Nat.le_refl _) _).alloc (by simp) _).drew)⟩
      case rest =>
        obtain ⟨b8, b9, rfl, rfl, hx8, hx9, hbx⟩ := hcut
        obtain ⟨p0, p1, p2, p3, p4⟩ := bc5 hx8
        obtain ⟨r0, r1, r2, r3, r4⟩ := bc5 hx9
        have HX8 := Lib.hid hx8
        have HX9 := Lib.hid hx9
        have HBW := Lib.hid (HB.out.trans (hbx.mono HB.out.size))
        have HQC := Lib.hid (HQ2.out.at_ HBW.out)
        have HN1 : n01 * 16 ≤ 140737488355328 := HQ1.out.1
        have HN2 : n02 * 56 ≤ 140737488355328 := HQ2.out.1
        clear hx8 hx9 hbx
        go_wp2_with fail
        go_loopg [10] n01 (fun dd v wi => ∃ i : Nat, i + dd = n01 ∧ v = .int .i64 i ∧ Below wc.heap.size wc wi)
        case atStart => exact ⟨0, by omega, rfl, Below.refl _ _⟩
        case round =>
          obtain ⟨i, hi, rfl, hbi⟩ := hrel
          have HI := Lib.hid hi
          have HBI := Lib.hid hbi
          have hile : i ≤ n01 := by omega
          have HY8 := Lib.hid (HX8.out.below hbi HX8.out.lt)
          have HY9 := Lib.hid (HX9.out.below hbi HX9.out.lt)
          clear hi hbi p0 p1 p2 p3 p4 r0 r1 r2 r3 r4
          obtain ⟨p0, p1, p2, p3, p4⟩ := bc5 HY8.out
          obtain ⟨r0, r1, r2, r3, r4⟩ := bc5 HY9.out
          by_cases hit : i < n01
          · have hit' : (i : Int) < n01 := by omega
            obtain ⟨ae, rfl, -, -, ga0, -⟩ := HQ1.out.2.1 i hit
            obtain ⟨be, rfl, -, -, gb0, -⟩ := HQ1.out.2.2 i hit
            have g0 : wr.cell? (ae.add i) = some (.string (S01 i)) := by have := cellb (cellb (ga0 _ rfl) HBW.out) HBI.out; rwa [Nat.mul_one] at this
            have g1 : wr.cell? (be.add i) = some (.string (S01 i)) := by have := cellb (cellb (gb0 _ rfl) HBW.out) HBI.out; rwa [Nat.mul_one] at this
            clear ga0 gb0
            go_wp2_with fail
            go_quiet (fail)
            go_wp2_with fail
            go_roundg (n01 - (i + 1))
            case measure => have := HI.out; omega
            case rel => exact ⟨i + 1, by have := HI.out; omega, by go_num, todrewN HBI.out _⟩
          · have hige : ¬ (i : Int) < n01 := by omega
            go_wp2_with fail
            go_loopg [11] n02 (fun dd v wj => ∃ j : Nat, j + dd = n02 ∧ v = .int .i64 j ∧ Below wc.heap.size wc wj)
            case atStart => exact ⟨0, by omega, rfl, HBI.out⟩
            case round =>
              obtain ⟨j, hj, rfl, hbj⟩ := hrel
              have HJ := Lib.hid hj
              have HBJ := Lib.hid hbj
              have hjle : j ≤ n02 := by omega
              have HU8 := Lib.hid (HX8.out.below hbj HX8.out.lt)
              have HU9 := Lib.hid (HX9.out.below hbj HX9.out.lt)
              have hl8 := HU8.out.lt
              have hl9 := HU9.out.lt
              clear hj hbj p0 p1 p2 p3 p4 r0 r1 r2 r3 r4
              obtain ⟨p0, p1, p2, p3, p4⟩ := bc5 HU8.out
              obtain ⟨r0, r1, r2, r3, r4⟩ := bc5 HU9.out
              by_cases hjt : j < n02
              · have hjt' : (j : Int) < n02 := by omega
                obtain ⟨af, rfl, -, -, ga0, ga1⟩ := HQC.out.2.1 j hjt
                obtain ⟨bf, rfl, -, -, gb0, gb1⟩ := HQC.out.2.2.1 j hjt
                have hm := HQC.out.2.2.2 j hjt
                obtain ⟨cs, hcs⟩ : ∃ cs, C02 j = cs := ⟨_, rfl⟩
                obtain ⟨ds, hds⟩ : ∃ ds, D02 j = ds := ⟨_, rfl⟩
                rw [hcs] at ga0 ga1 hm
                rw [hds] at gb0 gb1 hm
                clear hcs hds
                obtain ⟨d5, hd5, hmf⟩ := hm.mf
                obtain ⟨s50, a51, n51, c51, b51, e51, C51, D51, x52, x53, rfl, rfl, -, q51⟩ := inw_cn hmf
                have z50 : wr.cell? (af.add (j * 4)) = some (.string s50) := cellb (ga0 _ rfl) HBJ.out
                have y50 : wr.cell? (bf.add (j * 4)) = some (.string s50) := cellb (gb0 _ rfl) HBJ.out
                have z51 : wr.cell? ⟨(af.add (j * 4)).block, (af.add (j * 4)).off + 1, none⟩ = some (.slice a51 n51 c51) := cellb (ga1 1 _ (by decide) rfl) HBJ.out
                have y51 : wr.cell? ⟨(bf.add (j * 4)).block, (bf.add (j * 4)).off + 1, none⟩ = some (.slice b51 n51 e51) := cellb (gb1 1 _ (by decide) rfl) HBJ.out
                have z52 : wr.cell? ⟨(af.add (j * 4)).block, (af.add (j * 4)).off + 2, none⟩ = some (.int .i64 x52) := cellb (ga1 2 _ (by decide) rfl) HBJ.out
                have y52 : wr.cell? ⟨(bf.add (j * 4)).block, (bf.add (j * 4)).off + 2, none⟩ = some (.int .i64 0) := cellb (gb1 2 _ (by decide) rfl) HBJ.out
                have z53 : wr.cell? ⟨(af.add (j * 4)).block, (af.add (j * 4)).off + 3, none⟩ = some (.int .i64 x53) := cellb (ga1 3 _ (by decide) rfl) HBJ.out
                have y53 : wr.cell? ⟨(bf.add (j * 4)).block, (bf.add (j * 4)).off + 3, none⟩ = some (.int .i64 0) := cellb (gb1 3 _ (by decide) rfl) HBJ.out
                have zl5 : (af.add (j * 4)).block < wr.heap.size := World.block_lt_of_cell? _ _ z50
                have yl5 : (bf.add (j * 4)).block < wr.heap.size := World.block_lt_of_cell? _ _ y50
                clear ga0 ga1 gb0 gb1
                have HQ5 := Lib.hid q51
                clear hmf hm
                go_wp2_with fail
                go_cut [12, 13] (fun va vb wx => ∃ b12 b13, va = .pointer (some ⟨b12, 0, none⟩) ∧ vb = .pointer (some ⟨b13, 0, none⟩) ∧ Box wx b12 92 #[.string s50, .slice a51 n51 c51, .int .i64 x52, .int .i64 x53] ∧ Box wx b13 92 #[.string s50, .slice b51 n51 e51, .int .i64 0, .int .i64 0] ∧ Below wr.heap.size wr wx)
                case first =>
                  go_region
                  all_goals
                    go_wp2_with fail
                    go_meet
                    first
                      | exact ⟨_, _, rfl, rfl, (Box.new wr _ _).alloc _, Box.at_ (w := wr.alloc _) _ _ (by simp), ((((Below.refl wr.heap.size wr).alloc (Nat.le_refl _) _).alloc (by simp) _).drew)⟩
                      | exact ⟨_, _, rfl, rfl, Box.at_ (w := wr.alloc _) _ _ (by simp), (Box.new wr _ _).alloc _, ((((Below.refl wr.heap.size wr).alloc (Nat.le_refl _) _).alloc (by simp) _).drew)⟩
                case rest =>
                  obtain ⟨b12, b13, rfl, rfl, hx12, hx13, hbx⟩ := hcut
                  obtain ⟨i0, i1, i2, i3⟩ := bc4 hx12
                  obtain ⟨j0, j1, j2, j3⟩ := bc4 hx13
                  have HBY := Lib.hid (HBJ.out.trans (hbx.mono HBJ.out.size))
                  have HS := Lib.hid (sameTypes d5 _ a51 b51 n51 c51 e51 C51 D51 (HQ5.out.at_ HBY.out))
                  clear hx12 hx13 hbx
                  go_wp2_with fail
                  refine HS.out.mono ?_
                  rintro e' w4 ⟨rfl, hb4⟩
                  have HBL := Lib.hid (HBY.out.trans (hb4.mono HBY.out.size))
                  clear hb4
                  go_wp2_with fail
                  go_roundg (n02 - (j + 1))
                  case measure => have := HJ.out; omega
                  case rel => exact ⟨j + 1, by have := HJ.out; omega, by go_num, HBL.out⟩
              · have hjge : ¬ (j : Int) < n02 := by omega
                have HBE := Lib.hid (HBW.out.trans (HBJ.out.mono HBW.out.size))
                go_wp2_with fail
                go_roundg (n - (k + 1))
                case measure => have := HK.out; omega
                case rel => exact ⟨k + 1, by have := HK.out; omega, by go_num, HBE.out⟩
    · have hge : ¬ (k : Int) < n := by omega
      go_wp2_with fail
      go_ret
      exact ⟨rfl, HB.out⟩
set_option maxRecDepth 100000 in
set_option maxHeartbeats 8000000 in
theorem samePrograms {d : Nat} {cs ds : List Value} (w : World) (hm : MF (M (· < w.heap.size) w d) (· < w.heap.size) w [.row .dt, .row .fx, .row .bd] cs ds) : Calls Tryz.prog 8 #[.agg cs.toArray, .agg ds.toArray, .bool false] w (Tr w) := by
  obtain ⟨a0, n0, c0, b0, e0, C0, D0, a1, n1, c1, b1, e1, C1, D1, a2, n2, c2, b2, e2, C2, D2, rfl, rfl, q0, q1, q2⟩ := inw_pg hm
  show Calls Tryz.prog 8 #[.agg #[.slice a0 n0 c0, .slice a1 n1 c1, .slice a2 n2 c2], .agg #[.slice b0 n0 e0, .slice b1 n1 e1, .slice b2 n2 e2], .bool false] w (Tr w)
  obtain ⟨W2, hW2⟩ : ∃ W2, (w.alloc (.cells #[.slice a0 n0 c0, .slice a1 n1 c1, .slice a2 n2 c2] 26)).alloc (.cells #[.slice b0 n0 e0, .slice b1 n1 e1, .slice b2 n2 e2] 26) = W2 := ⟨_, rfl⟩
  have HB2 := Lib.hid (show Below w.heap.size w W2 from by rw [← hW2]; exact ((Below.refl _ _).alloc (Nat.le_refl _) _).alloc (by simp) _)
  have HX8 := Lib.hid (show Box W2 w.heap.size 26 #[.slice a0 n0 c0, .slice a1 n1 c1, .slice a2 n2 c2] from by rw [← hW2]; exact (Box.new w _ _).alloc _)
  have HX9 := Lib.hid (show Box W2 (w.heap.size + 1) 26 #[.slice b0 n0 e0, .slice b1 n1 e1, .slice b2 n2 e2] from by rw [← hW2]; exact Box.at_ _ _ (by simp))
  have HQ0 := Lib.hid (q0.at_ HB2.out)
  have HQ1 := Lib.hid (q1.at_ HB2.out)
  have HQ2 := Lib.hid (q2.at_ HB2.out)
  have HN1 : n1 * 48 ≤ 140737488355328 := q1.1
  clear hm q0 q1 q2
  obtain ⟨p0, p1, p2⟩ := bc3 HX8.out
  obtain ⟨r0, r1, r2⟩ := bc3 HX9.out
  go_enter Tryz.func8, Tryz.ntmps8
  go_wp2_with fail
  go_loopg [7] n1 (fun dd v wr => ∃ k : Nat, k + dd = n1 ∧ v = .int .i64 k ∧ Below W2.heap.size W2 wr)
  case atStart => exact ⟨0, by omega, rfl, Below.refl _ _⟩
  case round =>
    obtain ⟨k, hk, rfl, hb⟩ := hrel
    have HK := Lib.hid hk
    have HB := Lib.hid hb
    have hkle : k ≤ n1 := by omega
    have HY8 := Lib.hid (HX8.out.below hb HX8.out.lt)
    have HY9 := Lib.hid (HX9.out.below hb HX9.out.lt)
    have hl8 := HY8.out.lt
    have hl9 := HY9.out.lt
    clear hk hb p0 p1 p2 r0 r1 r2
    obtain ⟨p0, p1, p2⟩ := bc3 HY8.out
    obtain ⟨r0, r1, r2⟩ := bc3 HY9.out
    by_cases hlt : k < n1
    · have hlt' : (k : Int) < n1 := by omega
      obtain ⟨ad, rfl, -, -, ga0, ga1⟩ := HQ1.out.2.1 k hlt
      obtain ⟨bd, rfl, -, -, gb0, gb1⟩ := HQ1.out.2.2.1 k hlt
      have hm := HQ1.out.2.2.2 k hlt
      obtain ⟨cs, hcs⟩ : ∃ cs, C1 k = cs := ⟨_, rfl⟩
      obtain ⟨ds, hds⟩ : ∃ ds, D1 k = ds := ⟨_, rfl⟩
      rw [hcs] at ga0 ga1 hm
      rw [hds] at gb0 gb1 hm
      clear hcs hds
      obtain ⟨d5, hd5, hmf⟩ := hm.mf
      obtain ⟨s50, x51, x52, x53, x54, rfl, rfl, -⟩ := inw_fx hmf
      have z50 : wr.cell? (ad.add (k * 5)) = some (.string s50) := cellb (ga0 _ rfl) HB.out
      have y50 : wr.cell? (bd.add (k * 5)) = some (.string s50) := cellb (gb0 _ rfl) HB.out
      have z51 : wr.cell? ⟨(ad.add (k * 5)).block, (ad.add (k * 5)).off + 1, none⟩ = some (.int .i64 x51) := cellb (ga1 1 _ (by decide) rfl) HB.out
      have y51 : wr.cell? ⟨(bd.add (k * 5)).block, (bd.add (k * 5)).off + 1, none⟩ = some (.int .i64 x51) := cellb (gb1 1 _ (by decide) rfl) HB.out
      have z52 : wr.cell? ⟨(ad.add (k * 5)).block, (ad.add (k * 5)).off + 2, none⟩ = some (.int .i64 x52) := cellb (ga1 2 _ (by decide) rfl) HB.out
      have y52 : wr.cell? ⟨(bd.add (k * 5)).block, (bd.add (k * 5)).off + 2, none⟩ = some (.int .i64 x52) := cellb (gb1 2 _ (by decide) rfl) HB.out
      have z53 : wr.cell? ⟨(ad.add (k * 5)).block, (ad.add (k * 5)).off + 3, none⟩ = some (.int .i64 x53) := cellb (ga1 3 _ (by decide) rfl) HB.out
      have y53 : wr.cell? ⟨(bd.add (k * 5)).block, (bd.add (k * 5)).off + 3, none⟩ = some (.int .i64 0) := cellb (gb1 3 _ (by decide) rfl) HB.out
      have z54 : wr.cell? ⟨(ad.add (k * 5)).block, (ad.add (k * 5)).off + 4, none⟩ = some (.int .i64 x54) := cellb (ga1 4 _ (by decide) rfl) HB.out
      have y54 : wr.cell? ⟨(bd.add (k * 5)).block, (bd.add (k * 5)).off + 4, none⟩ = some (.int .i64 0) := cellb (gb1 4 _ (by decide) rfl) HB.out
      have zl5 : (ad.add (k * 5)).block < wr.heap.size := World.block_lt_of_cell? _ _ z50
      have yl5 : (bd.add (k * 5)).block < wr.heap.size := World.block_lt_of_cell? _ _ y50
      clear ga0 ga1 gb0 gb1
      clear hmf hm
      go_wp2_with fail
      go_cut [8, 9] (fun va vb wx => ∃ b8 b9, va = .pointer (some ⟨b8, 0, none⟩) ∧ vb = .pointer (some ⟨b9, 0, none⟩) ∧ Box wx b8 58 #[.string s50, .int .i64 x51, .int .i64 x52, .int .i64 x53, .int .i64 x54] ∧ Box wx b9 58 #[.string s50, .int .i64 x51, .int .i64 x52, .int .i64 0, .int .i64 0] ∧ Below wr.heap.size wr wx)
      case first =>
        go_region
        all_goals
          go_wp2_with fail
          go_meet
          first
            | exact ⟨_, _, rfl, rfl, (Box.new wr _ _).alloc _, Box.at_ (w := wr.alloc _) _ _ (by simp), ((((Below.refl wr.heap.size wr).alloc (Nat.le_refl _) _).alloc (by simp) _).drew)⟩
            | exact ⟨_, _, rfl, rfl, Box.at_ (w := wr.alloc _) _ _ (by simp), (Box.new wr _ _).alloc _, ((((Below.refl wr.heap.size wr).alloc (Nat.le_refl _) _).alloc (by simp) _).drew)⟩
      case rest =>
        obtain ⟨b8, b9, rfl, rfl, hx8, hx9, hbx⟩ := hcut
        obtain ⟨i0, i1, i2, i3, i4⟩ := bc5 hx8
        obtain ⟨j0, j1, j2, j3, j4⟩ := bc5 hx9
        have HBL := Lib.hid (HB.out.trans (hbx.mono HB.out.size))
        clear hx8 hx9 hbx
        go_wp2_with fail
        go_roundg (n1 - (k + 1))
        case measure => have := HK.out; omega
        case rel => exact ⟨k + 1, by have := HK.out; omega, by go_num, HBL.out⟩
    · have hge : ¬ (k : Int) < n1 := by omega
      have HS1 := Lib.hid (sameDatas wr a0 b0 n0 c0 e0 C0 D0 (HQ0.out.at_ HB.out))
      go_wp2_with fail
      refine HS1.out.mono ?_
      rintro e W0 ⟨rfl, hb⟩
      have HBJ := Lib.hid (HB.out.trans (hb.mono HB.out.size))
      have HS2 := Lib.hid (sameBinds_of (sameExpr d) W0 a2 b2 n2 c2 e2 C2 D2 (HQ2.out.at_ HBJ.out))
      have u2 := cellb p2 hb
      have t2 := cellb r2 hb
      clear hb p0 p1 p2 r0 r1 r2
      go_wp2_with fail
      refine HS2.out.mono ?_
      rintro e W1 ⟨rfl, hb⟩
      have HBL := Lib.hid (HB2.out.trans ((HBJ.out.trans (hb.mono HBJ.out.size)).mono HB2.out.size))
      clear hb
      go_wp2_with fail
      go_ret
      exact ⟨rfl, HBL.out⟩
end Go.Proofs.YtdajihpfedbihaaGreat.St
