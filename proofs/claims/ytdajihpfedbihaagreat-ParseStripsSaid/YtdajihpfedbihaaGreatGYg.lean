/-
  CONTRACTS: the document's own looks at what was copied without places: bodies, bindings. Written by gen_stsame.py.
-/
import Derived.Test.YtdajihpfedbihaaGreatGYf
import Derived.Deep.DeepCutAuto
namespace Go.Proofs.YtdajihpfedbihaaGreat.St
open Go.RowKit Mm Tm
set_option linter.unusedVariables false
set_option linter.unusedSimpArgs false
theorem SmX.down {d : Nat} (h : SmX (d + 1)) : SmX d := fun w cs ds hm => h w cs ds hm.up
theorem splitw_rh {R2 : Kd → List Value → List Value → Prop} {Z : Nat → Prop} {w : World} {cs ds : List Value} (h : MF R2 Z w (schema .rh) cs ds) : ∃ (a : Option Addr) (n c : Nat) (b : Option Addr) (e : Nat) (C D : Nat → List Value) (us vs : List Value), cs = .slice a n c :: us ∧ ds = .slice b n e :: vs ∧ RowT2 R2 Z w .ex a b n C D ∧ MF R2 Z w (schema .ex) us vs := by
  revert h
  show MF R2 Z w (.row .ex :: schema .ex) cs ds → _
  intro h
  cases h with | row r1 r2 r3 r4 h =>
  exact ⟨_, _, _, _, _, _, _, _, _, rfl, rfl, ⟨r1, r2, r3, r4⟩, h⟩
theorem splitw_al {R2 : Kd → List Value → List Value → Prop} {Z : Nat → Prop} {w : World} {cs ds : List Value} (h : MF R2 Z w (schema .al) cs ds) : ∃ (us vs : List Value) (a : Option Addr) (n c : Nat) (b : Option Addr) (e : Nat) (C D : Nat → List Value), cs = us ++ [.slice a n c] ∧ ds = vs ++ [.slice b n e] ∧ MF R2 Z w (schema .pt) us vs ∧ RowT2 R2 Z w .rh a b n C D := by
  revert h
  show MF R2 Z w [.int, .str, .int, .row .pt, .pos, .pos, .row .rh] cs ds → _
  intro h
  cases h with | int h =>
  cases h with | str q h =>
  cases h with | int h =>
  cases h with | row q1 q2 q3 q4 h =>
  cases h with | pos h =>
  cases h with | pos h =>
  cases h with | row r1 r2 r3 r4 h =>
  cases h
  exact ⟨[_, _, _, _, _, _], [_, _, _, _, _, _], _, _, _, _, _, _, _, rfl, rfl, .int (.str q (.int (.row q1 q2 q3 q4 (.pos (.pos .nil))))), ⟨r1, r2, r3, r4⟩⟩
set_option maxRecDepth 100000 in
set_option maxHeartbeats 8000000 in
theorem sameRhs_of {d : Nat} (hin : SmX d) : SmR 36 .rh d := by
  intro w a b n c e C D hr
  have HN : n * 168 ≤ 140737488355328 := hr.1
  have HR := Lib.hid hr
  clear hr
  go_enter Tryz.func36, Tryz.ntmps36
  go_wp2_with fail
  go_loopg [7] n (fun dd v wr => ∃ k : Nat, k + dd = n ∧ v = .int .i64 k ∧ Below w.heap.size w wr)
  case atStart => exact ⟨0, by omega, rfl, Below.refl _ _⟩
  case round =>
    obtain ⟨k, hk, rfl, hb⟩ := hrel
    have HK := Lib.hid hk
    have HB := Lib.hid hb
    have hkle : k ≤ n := by omega
    clear hk hb
    by_cases hlt : k < n
    · have hlt' : (k : Int) < n := by omega
      obtain ⟨ad, rfl, -, -, ga0, ga1⟩ := HR.out.2.1 k hlt
      obtain ⟨bd, rfl, -, -, gb0, gb1⟩ := HR.out.2.2.1 k hlt
      have hm := HR.out.2.2.2 k hlt
      obtain ⟨cs, hcs⟩ : ∃ cs, C k = cs := ⟨_, rfl⟩
      obtain ⟨ds, hds⟩ : ∃ ds, D k = ds := ⟨_, rfl⟩
      rw [hcs] at ga0 ga1 hm
      rw [hds] at gb0 gb1 hm
      clear hcs hds
      obtain ⟨d0, hd0, hmf⟩ := hm.mf
      obtain ⟨a00, n00, c00, b00, e00, C00, D00, us, vs, rfl, rfl, q00, hmt⟩ := splitw_rh hmf
      have hme : M (· < w.heap.size) w d .ex us vs := by rw [hd0]; exact hmt
      obtain ⟨x01, s02, x03, a04, n04, c04, b04, e04, S04, a05, n05, c05, b05, e05, C05, D05, a06, n06, c06, b06, e06, C06, D06, a07, n07, c07, b07, e07, C07, D07, x08, x09, rfl, rfl, -, -, -, -, -⟩ := inw_ex hmt
      have z00 : wr.cell? (ad.add (k * 10)) = some (.slice a00 n00 c00) := cellb (ga0 _ rfl) HB.out
      have y00 : wr.cell? (bd.add (k * 10)) = some (.slice b00 n00 e00) := cellb (gb0 _ rfl) HB.out
      have z01 : wr.cell? ⟨(ad.add (k * 10)).block, (ad.add (k * 10)).off + 1, none⟩ = some (.int .i64 x01) := cellb (ga1 1 _ (by decide) rfl) HB.out
      have y01 : wr.cell? ⟨(bd.add (k * 10)).block, (bd.add (k * 10)).off + 1, none⟩ = some (.int .i64 x01) := cellb (gb1 1 _ (by decide) rfl) HB.out
      have z02 : wr.cell? ⟨(ad.add (k * 10)).block, (ad.add (k * 10)).off + 2, none⟩ = some (.string s02) := cellb (ga1 2 _ (by decide) rfl) HB.out
      have y02 : wr.cell? ⟨(bd.add (k * 10)).block, (bd.add (k * 10)).off + 2, none⟩ = some (.string s02) := cellb (gb1 2 _ (by decide) rfl) HB.out
      have z03 : wr.cell? ⟨(ad.add (k * 10)).block, (ad.add (k * 10)).off + 3, none⟩ = some (.int .i64 x03) := cellb (ga1 3 _ (by decide) rfl) HB.out
      have y03 : wr.cell? ⟨(bd.add (k * 10)).block, (bd.add (k * 10)).off + 3, none⟩ = some (.int .i64 x03) := cellb (gb1 3 _ (by decide) rfl) HB.out
      have z04 : wr.cell? ⟨(ad.add (k * 10)).block, (ad.add (k * 10)).off + 4, none⟩ = some (.slice a04 n04 c04) := cellb (ga1 4 _ (by decide) rfl) HB.out
      have y04 : wr.cell? ⟨(bd.add (k * 10)).block, (bd.add (k * 10)).off + 4, none⟩ = some (.slice b04 n04 e04) := cellb (gb1 4 _ (by decide) rfl) HB.out
      have z05 : wr.cell? ⟨(ad.add (k * 10)).block, (ad.add (k * 10)).off + 5, none⟩ = some (.slice a05 n05 c05) := cellb (ga1 5 _ (by decide) rfl) HB.out
      have y05 : wr.cell? ⟨(bd.add (k * 10)).block, (bd.add (k * 10)).off + 5, none⟩ = some (.slice b05 n05 e05) := cellb (gb1 5 _ (by decide) rfl) HB.out
      have z06 : wr.cell? ⟨(ad.add (k * 10)).block, (ad.add (k * 10)).off + 6, none⟩ = some (.slice a06 n06 c06) := cellb (ga1 6 _ (by decide) rfl) HB.out
      have y06 : wr.cell? ⟨(bd.add (k * 10)).block, (bd.add (k * 10)).off + 6, none⟩ = some (.slice b06 n06 e06) := cellb (gb1 6 _ (by decide) rfl) HB.out
      have z07 : wr.cell? ⟨(ad.add (k * 10)).block, (ad.add (k * 10)).off + 7, none⟩ = some (.slice a07 n07 c07) := cellb (ga1 7 _ (by decide) rfl) HB.out
      have y07 : wr.cell? ⟨(bd.add (k * 10)).block, (bd.add (k * 10)).off + 7, none⟩ = some (.slice b07 n07 e07) := cellb (gb1 7 _ (by decide) rfl) HB.out
      have z08 : wr.cell? ⟨(ad.add (k * 10)).block, (ad.add (k * 10)).off + 8, none⟩ = some (.int .i64 x08) := cellb (ga1 8 _ (by decide) rfl) HB.out
      have y08 : wr.cell? ⟨(bd.add (k * 10)).block, (bd.add (k * 10)).off + 8, none⟩ = some (.int .i64 0) := cellb (gb1 8 _ (by decide) rfl) HB.out
      have z09 : wr.cell? ⟨(ad.add (k * 10)).block, (ad.add (k * 10)).off + 9, none⟩ = some (.int .i64 x09) := cellb (ga1 9 _ (by decide) rfl) HB.out
      have y09 : wr.cell? ⟨(bd.add (k * 10)).block, (bd.add (k * 10)).off + 9, none⟩ = some (.int .i64 0) := cellb (gb1 9 _ (by decide) rfl) HB.out
      have zl0 : (ad.add (k * 10)).block < wr.heap.size := World.block_lt_of_cell? _ _ z00
      have yl0 : (bd.add (k * 10)).block < wr.heap.size := World.block_lt_of_cell? _ _ y00
      clear ga0 ga1 gb0 gb1
      have HX := Lib.hid hin
      have HME := Lib.hid hme
      have HS := Lib.hid (sameExprs_of (SmX.down (hd0 ▸ hin)) wr.drew a00 b00 n00 c00 e00 C00 D00 (q00.at_ (todrew HB.out)))
      clear hmt hme q00
      clear hmf hm
      go_wp2_with fail
      go_region_held3 (fun w' => w'.cell? (ad.add (k * 10)) = some (.slice a00 n00 c00) ∧ w'.cell? ⟨(ad.add (k * 10)).block, (ad.add (k * 10)).off + 1, none⟩ = some (.int .i64 x01) ∧ w'.cell? ⟨(ad.add (k * 10)).block, (ad.add (k * 10)).off + 2, none⟩ = some (.string s02) ∧ w'.cell? ⟨(ad.add (k * 10)).block, (ad.add (k * 10)).off + 3, none⟩ = some (.int .i64 x03) ∧ w'.cell? ⟨(ad.add (k * 10)).block, (ad.add (k * 10)).off + 4, none⟩ = some (.slice a04 n04 c04) ∧ w'.cell? ⟨(ad.add (k * 10)).block, (ad.add (k * 10)).off + 5, none⟩ = some (.slice a05 n05 c05) ∧ w'.cell? ⟨(ad.add (k * 10)).block, (ad.add (k * 10)).off + 6, none⟩ = some (.slice a06 n06 c06) ∧ w'.cell? ⟨(ad.add (k * 10)).block, (ad.add (k * 10)).off + 7, none⟩ = some (.slice a07 n07 c07) ∧ w'.cell? ⟨(ad.add (k * 10)).block, (ad.add (k * 10)).off + 8, none⟩ = some (.int .i64 x08) ∧ w'.cell? ⟨(ad.add (k * 10)).block, (ad.add (k * 10)).off + 9, none⟩ = some (.int .i64 x09) ∧ w'.cell? (bd.add (k * 10)) = some (.slice b00 n00 e00) ∧ w'.cell? ⟨(bd.add (k * 10)).block, (bd.add (k * 10)).off + 1, none⟩ = some (.int .i64 x01) ∧ w'.cell? ⟨(bd.add (k * 10)).block, (bd.add (k * 10)).off + 2, none⟩ = some (.string s02) ∧ w'.cell? ⟨(bd.add (k * 10)).block, (bd.add (k * 10)).off + 3, none⟩ = some (.int .i64 x03) ∧ w'.cell? ⟨(bd.add (k * 10)).block, (bd.add (k * 10)).off + 4, none⟩ = some (.slice b04 n04 e04) ∧ w'.cell? ⟨(bd.add (k * 10)).block, (bd.add (k * 10)).off + 5, none⟩ = some (.slice b05 n05 e05) ∧ w'.cell? ⟨(bd.add (k * 10)).block, (bd.add (k * 10)).off + 6, none⟩ = some (.slice b06 n06 e06) ∧ w'.cell? ⟨(bd.add (k * 10)).block, (bd.add (k * 10)).off + 7, none⟩ = some (.slice b07 n07 e07) ∧ w'.cell? ⟨(bd.add (k * 10)).block, (bd.add (k * 10)).off + 8, none⟩ = some (.int .i64 0) ∧ w'.cell? ⟨(bd.add (k * 10)).block, (bd.add (k * 10)).off + 9, none⟩ = some (.int .i64 0))
        (first
          | exact ⟨z00, z01, z02, z03, z04, z05, z06, z07, z08, z09, y00, y01, y02, y03, y04, y05, y06, y07, y08, y09⟩
          | exact ⟨t0_0, t0_1, t0_2, t0_3, t0_4, t0_5, t0_6, t0_7, t0_8, t0_9, t0_10, t0_11, t0_12, t0_13, t0_14, t0_15, t0_16, t0_17, t0_18, t0_19⟩
          | exact ⟨t1_0, t1_1, t1_2, t1_3, t1_4, t1_5, t1_6, t1_7, t1_8, t1_9, t1_10, t1_11, t1_12, t1_13, t1_14, t1_15, t1_16, t1_17, t1_18, t1_19⟩)
        (first
          | (go_at_call 37; refine HS.out.mono ?_; rintro e W0 ⟨rfl, hb⟩; replace hb := undrew hb; have HW0 := Lib.hid hb; have t0_0 := cellb z00 hb; have t0_1 := cellb z01 hb; have t0_2 := cellb z02 hb; have t0_3 := cellb z03 hb; have t0_4 := cellb z04 hb; have t0_5 := cellb z05 hb; have t0_6 := cellb z06 hb; have t0_7 := cellb z07 hb; have t0_8 := cellb z08 hb; have t0_9 := cellb z09 hb; have t0_10 := cellb y00 hb; have t0_11 := cellb y01 hb; have t0_12 := cellb y02 hb; have t0_13 := cellb y03 hb; have t0_14 := cellb y04 hb; have t0_15 := cellb y05 hb; have t0_16 := cellb y06 hb; have t0_17 := cellb y07 hb; have t0_18 := cellb y08 hb; have t0_19 := cellb y09 hb; clear hb; have HT := Lib.hid (show Calls Tryz.prog 10 #[.agg #[.int .i64 x01, .string s02, .int .i64 x03, .slice a04 n04 c04, .slice a05 n05 c05, .slice a06 n06 c06, .slice a07 n07 c07, .int .i64 x08, .int .i64 x09], .agg #[.int .i64 x01, .string s02, .int .i64 x03, .slice b04 n04 e04, .slice b05 n05 e05, .slice b06 n06 e06, .slice b07 n07 e07, .int .i64 0, .int .i64 0], .bool false] _ (Tr _) from HX.out W0 _ _ (HME.out.at_ (HB.out.trans (HW0.out.mono HB.out.size)))))
          | (go_at_call 10; refine HT.out.mono ?_; rintro e W1 ⟨rfl, hb⟩; have HW1 := Lib.hid (HW0.out.trans (hb.mono HW0.out.size)); have t1_0 := cellb t0_0 hb; have t1_1 := cellb t0_1 hb; have t1_2 := cellb t0_2 hb; have t1_3 := cellb t0_3 hb; have t1_4 := cellb t0_4 hb; have t1_5 := cellb t0_5 hb; have t1_6 := cellb t0_6 hb; have t1_7 := cellb t0_7 hb; have t1_8 := cellb t0_8 hb; have t1_9 := cellb t0_9 hb; have t1_10 := cellb t0_10 hb; have t1_11 := cellb t0_11 hb; have t1_12 := cellb t0_12 hb; have t1_13 := cellb t0_13 hb; have t1_14 := cellb t0_14 hb; have t1_15 := cellb t0_15 hb; have t1_16 := cellb t0_16 hb; have t1_17 := cellb t0_17 hb; have t1_18 := cellb t0_18 hb; have t1_19 := cellb t0_19 hb; clear hb))
      have HWL := Lib.hid HW1.out
      go_wp2_with fail
      go_roundg (n - (k + 1))
      case measure => have := HK.out; omega
      case rel => exact ⟨k + 1, by have := HK.out; omega, by go_num, HB.out.trans (HWL.out.mono HB.out.size)⟩
    · have hge : ¬ (k : Int) < n := by omega
      go_wp2_with fail
      go_ret
      exact ⟨rfl, HB.out⟩
set_option maxRecDepth 100000 in
set_option maxHeartbeats 8000000 in
theorem sameBinds_of {d : Nat} (hin : SmX d) : SmR 33 .bd d := by
  intro w a b n c e C D hr
  have HN : n * 56 ≤ 140737488355328 := hr.1
  have HR := Lib.hid hr
  have HIN := Lib.hid hin
  clear hr hin
  go_enter Tryz.func33, Tryz.ntmps33
  go_wp2_with fail
  go_loopg [7] n (fun dd v wr => ∃ k : Nat, k + dd = n ∧ v = .int .i64 k ∧ Below w.heap.size w wr)
  case atStart => exact ⟨0, by omega, rfl, Below.refl _ _⟩
  case round =>
    obtain ⟨k, hk, rfl, hb⟩ := hrel
    have HK := Lib.hid hk
    have HB := Lib.hid hb
    have hkle : k ≤ n := by omega
    clear hk hb
    by_cases hlt : k < n
    · have hlt' : (k : Int) < n := by omega
      obtain ⟨ad, rfl, -, -, ga0, ga1⟩ := HR.out.2.1 k hlt
      obtain ⟨bd, rfl, -, -, gb0, gb1⟩ := HR.out.2.2.1 k hlt
      have hm := HR.out.2.2.2 k hlt
      obtain ⟨cs, hcs⟩ : ∃ cs, C k = cs := ⟨_, rfl⟩
      obtain ⟨ds, hds⟩ : ∃ ds, D k = ds := ⟨_, rfl⟩
      rw [hcs] at ga0 ga1 hm
      rw [hds] at gb0 gb1 hm
      clear hcs hds
      obtain ⟨d0, hd0, hmf⟩ := hm.mf
      obtain ⟨s00, a01, n01, c01, b01, e01, C01, D01, x02, x03, rfl, rfl, -, q01⟩ := inw_bd hmf
      have z00 : wr.cell? (ad.add (k * 4)) = some (.string s00) := cellb (ga0 _ rfl) HB.out
      have y00 : wr.cell? (bd.add (k * 4)) = some (.string s00) := cellb (gb0 _ rfl) HB.out
      have z01 : wr.cell? ⟨(ad.add (k * 4)).block, (ad.add (k * 4)).off + 1, none⟩ = some (.slice a01 n01 c01) := cellb (ga1 1 _ (by decide) rfl) HB.out
      have y01 : wr.cell? ⟨(bd.add (k * 4)).block, (bd.add (k * 4)).off + 1, none⟩ = some (.slice b01 n01 e01) := cellb (gb1 1 _ (by decide) rfl) HB.out
      have z02 : wr.cell? ⟨(ad.add (k * 4)).block, (ad.add (k * 4)).off + 2, none⟩ = some (.int .i64 x02) := cellb (ga1 2 _ (by decide) rfl) HB.out
      have y02 : wr.cell? ⟨(bd.add (k * 4)).block, (bd.add (k * 4)).off + 2, none⟩ = some (.int .i64 0) := cellb (gb1 2 _ (by decide) rfl) HB.out
      have z03 : wr.cell? ⟨(ad.add (k * 4)).block, (ad.add (k * 4)).off + 3, none⟩ = some (.int .i64 x03) := cellb (ga1 3 _ (by decide) rfl) HB.out
      have y03 : wr.cell? ⟨(bd.add (k * 4)).block, (bd.add (k * 4)).off + 3, none⟩ = some (.int .i64 0) := cellb (gb1 3 _ (by decide) rfl) HB.out
      have zl0 : (ad.add (k * 4)).block < wr.heap.size := World.block_lt_of_cell? _ _ z00
      have yl0 : (bd.add (k * 4)).block < wr.heap.size := World.block_lt_of_cell? _ _ y00
      clear ga0 ga1 gb0 gb1
      have HQ := Lib.hid q01
      have HD := Lib.hid hd0
      clear hmf hm
      go_wp2_with fail
      go_cut [8, 9] (fun v8 v9 wx => ∃ b8 b9, v8 = .pointer (some ⟨b8, 0, none⟩) ∧ v9 = .pointer (some ⟨b9, 0, none⟩) ∧ Box wx b8 51 #[.string s00, .slice a01 n01 c01, .int .i64 x02, .int .i64 x03] ∧ Box wx b9 51 #[.string s00, .slice b01 n01 e01, .int .i64 0, .int .i64 0] ∧ Below wr.heap.size wr wx)
      case first =>
        go_region
        all_goals
          go_wp2_with fail
          go_meet
          first
            | exact ⟨_, _, rfl, rfl, (Box.new wr _ _).alloc _, Box.at_ (w := wr.alloc _) _ _ (by simp), ((((Below.refl wr.heap.size wr).alloc (Nat.le_refl _) _).alloc (by simp) _).drew)⟩
            | exact ⟨_, _, rfl, rfl, Box.at_ (w := wr.alloc _) _ _ (by simp), (Box.new wr _ _).alloc _, ((((Below.refl wr.heap.size wr).alloc (Nat.le_refl _) _).alloc (by simp) _).drew)⟩
      case rest =>
        obtain ⟨b8, b9, rfl, rfl, hx8, hx9, hbx⟩ := hcut
        obtain ⟨p0, p1, p2, p3⟩ := bc4 hx8
        obtain ⟨r0, r1, r2, r3⟩ := bc4 hx9
        have HX8 := Lib.hid hx8
        have HX9 := Lib.hid hx9
        have HBW := Lib.hid (HB.out.trans (hbx.mono HB.out.size))
        have HQC := Lib.hid (HQ.out.at_ (HB.out.trans (hbx.mono HB.out.size)))
        have HNC : n01 * 48 ≤ 140737488355328 := HQ.out.1
        clear hx8 hx9 hbx
        go_wp2_with fail
        go_loopg [10] n01 (fun dd v wi => ∃ i : Nat, i + dd = n01 ∧ v = .int .i64 i ∧ Below wc.heap.size wc wi)
        case atStart => exact ⟨0, by omega, rfl, Below.refl _ _⟩
        case round =>
          obtain ⟨i, hi, rfl, hbi⟩ := hrel
          have HI := Lib.hid hi
          have HBI := Lib.hid hbi
          have hile : i ≤ n01 := by omega
          have HY8 := Lib.hid (HX8.out.below hbi HX8.out.lt)
          have HY9 := Lib.hid (HX9.out.below hbi HX9.out.lt)
          clear hi hbi p0 p1 p2 p3 r0 r1 r2 r3
          obtain ⟨p0, p1, p2, p3⟩ := bc4 HY8.out
          obtain ⟨r0, r1, r2, r3⟩ := bc4 HY9.out
          by_cases hit : i < n01
          · have hit' : (i : Int) < n01 := by omega
            obtain ⟨ae, rfl, -, -, ga0, ga1⟩ := HQC.out.2.1 i hit
            obtain ⟨be, rfl, -, -, gb0, gb1⟩ := HQC.out.2.2.1 i hit
            have hm := HQC.out.2.2.2 i hit
            obtain ⟨cs, hcs⟩ : ∃ cs, C01 i = cs := ⟨_, rfl⟩
            obtain ⟨ds, hds⟩ : ∃ ds, D01 i = ds := ⟨_, rfl⟩
            rw [hcs] at ga0 ga1 hm
            rw [hds] at gb0 gb1 hm
            clear hcs hds
            obtain ⟨d5, hd5, hmf⟩ := hm.mf
            obtain ⟨a50, n50, c50, b50, e50, C50, D50, a51, n51, c51, b51, e51, C51, D51, rfl, rfl, q50, q51⟩ := inw_cl hmf
            have z50 : wr.cell? (ae.add (i * 2)) = some (.slice a50 n50 c50) := cellb (ga0 _ rfl) HBI.out
            have y50 : wr.cell? (be.add (i * 2)) = some (.slice b50 n50 e50) := cellb (gb0 _ rfl) HBI.out
            have z51 : wr.cell? ⟨(ae.add (i * 2)).block, (ae.add (i * 2)).off + 1, none⟩ = some (.slice a51 n51 c51) := cellb (ga1 1 _ (by decide) rfl) HBI.out
            have y51 : wr.cell? ⟨(be.add (i * 2)).block, (be.add (i * 2)).off + 1, none⟩ = some (.slice b51 n51 e51) := cellb (gb1 1 _ (by decide) rfl) HBI.out
            have zl5 : (ae.add (i * 2)).block < wr.heap.size := World.block_lt_of_cell? _ _ z50
            have yl5 : (be.add (i * 2)).block < wr.heap.size := World.block_lt_of_cell? _ _ y50
            clear ga0 ga1 gb0 gb1
            have HQR := Lib.hid q51
            have HD5 := Lib.hid hd5
            have HS := Lib.hid (samePats d5 wr.drew a50 b50 n50 c50 e50 C50 D50 (q50.at_ (todrew HBI.out)))
            clear hmf hm q50 q51
            go_wp2_with fail
            go_region_held3 (fun w' => w'.cell? ⟨b8, 1, none⟩ = some (.slice (some ae) n01 c01) ∧ w'.cell? ⟨b9, 1, none⟩ = some (.slice (some be) n01 e01) ∧ w'.cell? (ae.add (i * 2)) = some (.slice a50 n50 c50) ∧ w'.cell? ⟨(ae.add (i * 2)).block, (ae.add (i * 2)).off + 1, none⟩ = some (.slice a51 n51 c51) ∧ w'.cell? (be.add (i * 2)) = some (.slice b50 n50 e50) ∧ w'.cell? ⟨(be.add (i * 2)).block, (be.add (i * 2)).off + 1, none⟩ = some (.slice b51 n51 e51))
              (first
                | exact ⟨p1, r1, z50, z51, y50, y51⟩
                | exact ⟨t0_0, t0_1, t0_2, t0_3, t0_4, t0_5⟩
                | exact ⟨t1_0, t1_1, t1_2, t1_3, t1_4, t1_5⟩)
              (first
                | (go_at_call 35; refine HS.out.mono ?_; rintro e W0 ⟨rfl, hb⟩; replace hb := undrew hb; have HW0 := Lib.hid hb; have t0_0 := cellb p1 hb; have t0_1 := cellb r1 hb; have t0_2 := cellb z50 hb; have t0_3 := cellb z51 hb; have t0_4 := cellb y50 hb; have t0_5 := cellb y51 hb; clear hb; have HT := Lib.hid (sameRhs_of (SmX.down (HD5.out ▸ SmX.down (HD.out ▸ HIN.out))) W0 a51 b51 n51 c51 e51 C51 D51 (HQR.out.at_ (HBI.out.trans (HW0.out.mono HBI.out.size)))))
                | (go_at_call 36; refine HT.out.mono ?_; rintro e W1 ⟨rfl, hb⟩; have HW1 := Lib.hid (HW0.out.trans (hb.mono HW0.out.size)); have t1_0 := cellb t0_0 hb; have t1_1 := cellb t0_1 hb; have t1_2 := cellb t0_2 hb; have t1_3 := cellb t0_3 hb; have t1_4 := cellb t0_4 hb; have t1_5 := cellb t0_5 hb; clear hb))
            go_wp2_with fail
            go_roundg (n01 - (i + 1))
            case measure => have := HI.out; omega
            case rel => exact ⟨i + 1, by have := HI.out; omega, by go_num, HBI.out.trans (HW1.out.mono HBI.out.size)⟩
          · have hige : ¬ (i : Int) < n01 := by omega
            have HBE := Lib.hid (HBW.out.trans (HBI.out.mono HBW.out.size))
            go_wp2_with fail
            go_roundg (n - (k + 1))
            case measure => have := HK.out; omega
            case rel => exact ⟨k + 1, by have := HK.out; omega, by go_num, HBE.out⟩
    · have hge : ¬ (k : Int) < n := by omega
      go_wp2_with fail
      go_ret
      exact ⟨rfl, HB.out⟩
end Go.Proofs.YtdajihpfedbihaaGreat.St
