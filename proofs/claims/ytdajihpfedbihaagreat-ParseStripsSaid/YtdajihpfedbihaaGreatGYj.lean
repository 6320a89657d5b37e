/-
  CONTRACTS: the document's own looks at what was copied without places: bare. Written by gen_stsame.py.
-/
import Derived.Test.YtdajihpfedbihaaGreatGYi
import Derived.Deep.DeepCutAuto
namespace Go.Proofs.YtdajihpfedbihaaGreat.St
open Go.RowKit Mm Tm
set_option linter.unusedVariables false
set_option linter.unusedSimpArgs false
/-- a row of copies -/
def RowB (d : Nat) (κ : Kd) (b : Option Addr) (n : Nat) (D : Nat → List Value) (w : World) : Prop := n * bytes κ ≤ 140737488355328 ∧ RowG (· < w.heap.size) w b n (wide κ) D ∧ ∀ i, i < n → ∃ cs, M (· < w.heap.size) w d κ cs (D i)
section
variable {w w' : World} {d : Nat} {κ : Kd} {a b : Option Addr} {n : Nat} {C D : Nat → List Value} {cs ds : List Value}
theorem RowB.at_ (h : RowB d κ b n D w) (hb : Below w.heap.size w w') : RowB d κ b n D w' :=
  ⟨h.1, h.2.1.frame (fun x hx => hb.block x hx) fun x hx => Nat.lt_of_lt_of_le hx hb.size, fun i hi => let ⟨cs, hm⟩ := h.2.2 i hi; ⟨cs, hm.at_ hb⟩⟩
theorem RowB.up (h : RowB d κ b n D w) : RowB (d + 1) κ b n D w := ⟨h.1, h.2.1, fun i hi => let ⟨cs, hm⟩ := h.2.2 i hi; ⟨cs, hm.up⟩⟩
theorem RowT2.tob (h : RowT2 (M (· < w.heap.size) w d) (· < w.heap.size) w κ a b n C D) : RowB d κ b n D w := ⟨h.1, h.2.2.1, fun i hi => ⟨_, h.2.2.2 i hi⟩⟩
theorem RowB.single {g : Nat} {t : TypeId} (hb : bytes κ ≤ 140737488355328) (h : Box w g t ds.toArray) (hl : ds.length = wide κ) (hm : M (· < w.heap.size) w d κ cs ds) : RowB d κ (some ⟨g, 0, none⟩) 1 (fun _ => ds) w := ⟨by rw [Nat.one_mul]; exact hb, RowG.single h hl, fun _ _ => ⟨cs, hm⟩⟩
end
def BrR (f : Nat) (κ : Kd) (d : Nat) : Prop := ∀ (w : World) (b : Option Addr) (n e : Nat) (D : Nat → List Value), RowB d κ b n D w → Calls Tryz.prog f #[.slice b n e] w (Tr w)
theorem BrR.down {f : Nat} {κ : Kd} {d : Nat} (h : BrR f κ (d + 1)) : BrR f κ d := fun w b n e D hr => h w b n e D hr.up
set_option maxRecDepth 100000 in
set_option maxHeartbeats 8000000 in
theorem barePats_of {d : Nat} (hin : ∀ d', d = d' + 1 → BrR 38 .pt d') : BrR 38 .pt d := by
  intro w b n e D hr
  have HN : n * 72 ≤ 140737488355328 := hr.1
  have HR := Lib.hid hr
  clear hr
  go_enter Tryz.func38, Tryz.ntmps38
  go_wp2_with fail
  go_loopg [3] n (fun dd v wr => ∃ k : Nat, k + dd = n ∧ v = .int .i64 k ∧ Below w.heap.size w wr)
  case atStart => exact ⟨0, by omega, rfl, Below.refl _ _⟩
  case round =>
    obtain ⟨k, hk, rfl, hb⟩ := hrel
    have HK := Lib.hid hk
    have HB := Lib.hid hb
    have hkle : k ≤ n := by omega
    clear hk hb
    by_cases hlt : k < n
    · have hlt' : (k : Int) < n := by omega
      obtain ⟨bd, rfl, -, -, gb0, gb1⟩ := HR.out.2.1 k hlt
      obtain ⟨cs, hm⟩ := HR.out.2.2 k hlt
      obtain ⟨ds, hds⟩ : ∃ ds, D k = ds := ⟨_, rfl⟩
      rw [hds] at gb0 gb1 hm
      clear hds
      obtain ⟨d0, hd0, hmf⟩ := hm.mf
      obtain ⟨x00, s01, x02, a03, n03, c03, b03, e03, C03, D03, x04, x05, rfl, rfl, -, q03⟩ := inw_pt hmf
      have y00 : wr.cell? (bd.add (k * 6)) = some (.int .i64 x00) := cellb (gb0 _ rfl) HB.out
      have y01 : wr.cell? ⟨(bd.add (k * 6)).block, (bd.add (k * 6)).off + 1, none⟩ = some (.string s01) := cellb (gb1 1 _ (by decide) rfl) HB.out
      have y02 : wr.cell? ⟨(bd.add (k * 6)).block, (bd.add (k * 6)).off + 2, none⟩ = some (.int .i64 x02) := cellb (gb1 2 _ (by decide) rfl) HB.out
      have y03 : wr.cell? ⟨(bd.add (k * 6)).block, (bd.add (k * 6)).off + 3, none⟩ = some (.slice b03 n03 e03) := cellb (gb1 3 _ (by decide) rfl) HB.out
      have y04 : wr.cell? ⟨(bd.add (k * 6)).block, (bd.add (k * 6)).off + 4, none⟩ = some (.int .i64 0) := cellb (gb1 4 _ (by decide) rfl) HB.out
      have y05 : wr.cell? ⟨(bd.add (k * 6)).block, (bd.add (k * 6)).off + 5, none⟩ = some (.int .i64 0) := cellb (gb1 5 _ (by decide) rfl) HB.out
      have yl0 : (bd.add (k * 6)).block < wr.heap.size := World.block_lt_of_cell? _ _ y00
      clear gb0 gb1
      have HS := Lib.hid (hin d0 hd0 wr b03 n03 e03 D03 (q03.tob.at_ HB.out))
      clear hmf hm
      go_wp2_with fail
      refine HS.out.mono ?_
      rintro e' w4 ⟨rfl, hb4⟩
      have HBL := Lib.hid (HB.out.trans (hb4.mono HB.out.size))
      clear hb4
      go_wp2_with fail
      go_roundg (n - (k + 1))
      case measure => have := HK.out; omega
      case rel => exact ⟨k + 1, by have := HK.out; omega, by go_num, HBL.out⟩
    · have hge : ¬ (k : Int) < n := by omega
      go_wp2_with fail
      go_ret
      exact ⟨rfl, HB.out⟩
theorem barePats : ∀ d, BrR 38 .pt d
  | 0 => barePats_of fun d' h => by omega
  | d + 1 => barePats_of fun d' h => Nat.succ.inj h ▸ barePats d
set_option maxRecDepth 100000 in
set_option maxHeartbeats 8000000 in
theorem bareRhs_of {d : Nat} (hin : BrR 11 .ex d) : BrR 39 .rh d := by
  intro w b n e D hr
  have HN : n * 168 ≤ 140737488355328 := hr.1
  have HR := Lib.hid hr
  clear hr
  go_enter Tryz.func39, Tryz.ntmps39
  go_wp2_with fail
  go_loopg [3] n (fun dd v wr => ∃ k : Nat, k + dd = n ∧ v = .int .i64 k ∧ Below w.heap.size w wr)
  case atStart => exact ⟨0, by omega, rfl, Below.refl _ _⟩
  case round =>
    obtain ⟨k, hk, rfl, hb⟩ := hrel
    have HK := Lib.hid hk
    have HB := Lib.hid hb
    have hkle : k ≤ n := by omega
    clear hk hb
    by_cases hlt : k < n
    · have hlt' : (k : Int) < n := by omega
      obtain ⟨bd, rfl, -, -, gb0, gb1⟩ := HR.out.2.1 k hlt
      obtain ⟨cs, hm⟩ := HR.out.2.2 k hlt
      obtain ⟨ds, hds⟩ : ∃ ds, D k = ds := ⟨_, rfl⟩
      rw [hds] at gb0 gb1 hm
      clear hds
      obtain ⟨d0, hd0, hmf⟩ := hm.mf
      obtain ⟨a00, n00, c00, b00, e00, C00, D00, us, vs, rfl, rfl, q00, hmt⟩ := splitw_rh hmf
      have hme : M (· < w.heap.size) w d .ex us vs := by rw [hd0]; exact hmt
      obtain ⟨x01, s02, x03, a04, n04, c04, b04, e04, S04, a05, n05, c05, b05, e05, C05, D05, a06, n06, c06, b06, e06, C06, D06, a07, n07, c07, b07, e07, C07, D07, x08, x09, rfl, rfl, -, -, -, -, -⟩ := inw_ex hmt
      have y00 : wr.cell? (bd.add (k * 10)) = some (.slice b00 n00 e00) := cellb (gb0 _ rfl) HB.out
      have y01 : wr.cell? ⟨(bd.add (k * 10)).block, (bd.add (k * 10)).off + 1, none⟩ = some (.int .i64 x01) := cellb (gb1 1 _ (by decide) rfl) HB.out
      have y02 : wr.cell? ⟨(bd.add (k * 10)).block, (bd.add (k * 10)).off + 2, none⟩ = some (.string s02) := cellb (gb1 2 _ (by decide) rfl) HB.out
      have y03 : wr.cell? ⟨(bd.add (k * 10)).block, (bd.add (k * 10)).off + 3, none⟩ = some (.int .i64 x03) := cellb (gb1 3 _ (by decide) rfl) HB.out
      have y04 : wr.cell? ⟨(bd.add (k * 10)).block, (bd.add (k * 10)).off + 4, none⟩ = some (.slice b04 n04 e04) := cellb (gb1 4 _ (by decide) rfl) HB.out
      have y05 : wr.cell? ⟨(bd.add (k * 10)).block, (bd.add (k * 10)).off + 5, none⟩ = some (.slice b05 n05 e05) := cellb (gb1 5 _ (by decide) rfl) HB.out
      have y06 : wr.cell? ⟨(bd.add (k * 10)).block, (bd.add (k * 10)).off + 6, none⟩ = some (.slice b06 n06 e06) := cellb (gb1 6 _ (by decide) rfl) HB.out
      have y07 : wr.cell? ⟨(bd.add (k * 10)).block, (bd.add (k * 10)).off + 7, none⟩ = some (.slice b07 n07 e07) := cellb (gb1 7 _ (by decide) rfl) HB.out
      have y08 : wr.cell? ⟨(bd.add (k * 10)).block, (bd.add (k * 10)).off + 8, none⟩ = some (.int .i64 0) := cellb (gb1 8 _ (by decide) rfl) HB.out
      have y09 : wr.cell? ⟨(bd.add (k * 10)).block, (bd.add (k * 10)).off + 9, none⟩ = some (.int .i64 0) := cellb (gb1 9 _ (by decide) rfl) HB.out
      have yl0 : (bd.add (k * 10)).block < wr.heap.size := World.block_lt_of_cell? _ _ y00
      clear gb0 gb1
      have HIN := Lib.hid hin
      have HME := Lib.hid (hme.at_ HB.out)
      have HS := Lib.hid (BrR.down (hd0 ▸ hin) wr b00 n00 e00 D00 (q00.tob.at_ HB.out))
      clear hmf hm hmt hme q00
      go_wp2_with fail
      refine HS.out.mono ?_
      rintro e' w4 ⟨rfl, hb4⟩
      have t0 := cellb y00 hb4
      have t1 := cellb y01 hb4
      have t2 := cellb y02 hb4
      have t3 := cellb y03 hb4
      have t4 := cellb y04 hb4
      have t5 := cellb y05 hb4
      have t6 := cellb y06 hb4
      have t7 := cellb y07 hb4
      have t8 := cellb y08 hb4
      have t9 := cellb y09 hb4
      have HW4 := Lib.hid hb4
      have HBL := Lib.hid (HB.out.trans (hb4.mono HB.out.size))
      have HBA := Lib.hid ((Below.refl w4.heap.size w4).alloc (Nat.le_refl _) (.cells #[.int .i64 x01, .string s02, .int .i64 x03, .slice b04 n04 e04, .slice b05 n05 e05, .slice b06 n06 e06, .slice b07 n07 e07, .int .i64 0, .int .i64 0] 33))
      have HT := Lib.hid (HIN.out _ (some ⟨w4.heap.size, 0, none⟩) 1 1 (fun _ => [.int .i64 x01, .string s02, .int .i64 x03, .slice b04 n04 e04, .slice b05 n05 e05, .slice b06 n06 e06, .slice b07 n07 e07, .int .i64 0, .int .i64 0]) (RowB.single (by decide) (Box.new w4 #[.int .i64 x01, .string s02, .int .i64 x03, .slice b04 n04 e04, .slice b05 n05 e05, .slice b06 n06 e06, .slice b07 n07 e07, .int .i64 0, .int .i64 0] 33) rfl ((HME.out.at_ hb4).at_ HBA.out)))
      clear hb4 y00 y01 y02 y03 y04 y05 y06 y07 y08 y09
      go_wp2_with fail
      refine HT.out.mono ?_
      rintro e' w5 ⟨rfl, hb5⟩
      have HBZ := Lib.hid (HBL.out.trans (((Below.refl _ _).trans (HBA.out.trans (hb5.mono HBA.out.size))).mono HBL.out.size))
      clear hb5
      go_wp2_with fail
      go_roundg (n - (k + 1))
      case measure => have := HK.out; omega
      case rel => exact ⟨k + 1, by have := HK.out; omega, by go_num, HBZ.out⟩
    · have hge : ¬ (k : Int) < n := by omega
      go_wp2_with fail
      go_ret
      exact ⟨rfl, HB.out⟩
set_option maxRecDepth 100000 in
set_option maxHeartbeats 8000000 in
theorem bareBinds_of {d : Nat} (hin : BrR 11 .ex d) : BrR 34 .bd d := by
  intro w b n e D hr
  have HN : n * 56 ≤ 140737488355328 := hr.1
  have HR := Lib.hid hr
  clear hr
  go_enter Tryz.func34, Tryz.ntmps34
  go_wp2_with fail
  go_loopg [3] n (fun dd v wr => ∃ k : Nat, k + dd = n ∧ v = .int .i64 k ∧ Below w.heap.size w wr)
  case atStart => exact ⟨0, by omega, rfl, Below.refl _ _⟩
  case round =>
    obtain ⟨k, hk, rfl, hb⟩ := hrel
    have HK := Lib.hid hk
    have HB := Lib.hid hb
    have hkle : k ≤ n := by omega
    clear hk hb
    by_cases hlt : k < n
    · have hlt' : (k : Int) < n := by omega
      obtain ⟨bd, rfl, -, -, gb0, gb1⟩ := HR.out.2.1 k hlt
      obtain ⟨cs, hm⟩ := HR.out.2.2 k hlt
      obtain ⟨ds, hds⟩ : ∃ ds, D k = ds := ⟨_, rfl⟩
      rw [hds] at gb0 gb1 hm
      clear hds
      obtain ⟨d0, hd0, hmf⟩ := hm.mf
      obtain ⟨s00, a01, n01, c01, b01, e01, C01, D01, x02, x03, rfl, rfl, -, q01⟩ := inw_bd hmf
      have y00 : wr.cell? (bd.add (k * 4)) = some (.string s00) := cellb (gb0 _ rfl) HB.out
      have y01 : wr.cell? ⟨(bd.add (k * 4)).block, (bd.add (k * 4)).off + 1, none⟩ = some (.slice b01 n01 e01) := cellb (gb1 1 _ (by decide) rfl) HB.out
      have y02 : wr.cell? ⟨(bd.add (k * 4)).block, (bd.add (k * 4)).off + 2, none⟩ = some (.int .i64 0) := cellb (gb1 2 _ (by decide) rfl) HB.out
      have y03 : wr.cell? ⟨(bd.add (k * 4)).block, (bd.add (k * 4)).off + 3, none⟩ = some (.int .i64 0) := cellb (gb1 3 _ (by decide) rfl) HB.out
      have yl0 : (bd.add (k * 4)).block < wr.heap.size := World.block_lt_of_cell? _ _ y00
      clear gb0 gb1
      have HIN := Lib.hid hin
      have HD := Lib.hid hd0
      have HQC := Lib.hid (q01.tob.at_ HB.out)
      have HN1 : n01 * 48 ≤ 140737488355328 := q01.1
      have HY := Lib.hid (And.intro y00 (And.intro y01 (And.intro y02 y03)))
      obtain ⟨wc, hwc⟩ : ∃ wc, wr = wc := ⟨_, rfl⟩
      have HBW := Lib.hid (show Below w.heap.size w wc from hwc ▸ HB.out)
      have HYC := Lib.hid (hwc ▸ HY.out)
      have HQW := Lib.hid (show RowB d0 .cl b01 n01 D01 wc from hwc ▸ HQC.out)
      have HWC := Lib.hid hwc
      clear hmf hm q01 hwc
      go_wp2_with fail
      go_loopg [4] n01 (fun dd v wi => ∃ i : Nat, i + dd = n01 ∧ v = .int .i64 i ∧ Below wc.heap.size wc wi)
      case atStart => exact ⟨0, by omega, rfl, by rw [HWC.out]; exact Below.refl _ _⟩
      case round =>
        obtain ⟨i, hi, rfl, hbi⟩ := hrel
        have HI := Lib.hid hi
        have HBI := Lib.hid hbi
        have hile : i ≤ n01 := by omega
        obtain ⟨x0, x1, x2, x3⟩ := HYC.out
        have u0 := cellb x0 hbi
        have u1 := cellb x1 hbi
        have u2 := cellb x2 hbi
        have u3 := cellb x3 hbi
        clear hi hbi x0 x1 x2 x3
        by_cases hit : i < n01
        · have hit' : (i : Int) < n01 := by omega
          obtain ⟨be, rfl, -, -, gb0, gb1⟩ := HQW.out.2.1 i hit
          obtain ⟨cs, hm⟩ := HQW.out.2.2 i hit
          obtain ⟨ds, hds⟩ : ∃ ds, D01 i = ds := ⟨_, rfl⟩
          rw [hds] at gb0 gb1 hm
          clear hds
          obtain ⟨d5, hd5, hmf⟩ := hm.mf
          obtain ⟨a50, n50, c50, b50, e50, C50, D50, a51, n51, c51, b51, e51, C51, D51, rfl, rfl, q50, q51⟩ := inw_cl hmf
          have y50 : wr.cell? (be.add (i * 2)) = some (.slice b50 n50 e50) := cellb (gb0 _ rfl) HBI.out
          have y51 : wr.cell? ⟨(be.add (i * 2)).block, (be.add (i * 2)).off + 1, none⟩ = some (.slice b51 n51 e51) := cellb (gb1 1 _ (by decide) rfl) HBI.out
          have yl5 : (be.add (i * 2)).block < wr.heap.size := World.block_lt_of_cell? _ _ y50
          clear gb0 gb1
          have HQR := Lib.hid q51.tob
          have HD5 := Lib.hid hd5
          have HS := Lib.hid (barePats d5 wr b50 n50 e50 D50 (q50.tob.at_ HBI.out))
          clear hmf hm q50 q51
          go_wp2_with fail
          refine HS.out.mono ?_
          rintro e' w4 ⟨rfl, hb4⟩
          have t1 := cellb u1 hb4
          have s0 := cellb y50 hb4
          have s1 := cellb y51 hb4
          have HBL := Lib.hid (HBI.out.trans (hb4.mono HBI.out.size))
          have HT := Lib.hid (bareRhs_of (BrR.down (HD5.out ▸ BrR.down (HD.out ▸ HIN.out))) w4 b51 n51 e51 D51 (HQR.out.at_ HBL.out))
          clear hb4 y50 y51 u0 u1 u2 u3
          go_wp2_with fail
          refine HT.out.mono ?_
          rintro e' w5 ⟨rfl, hb5⟩
          have HBZ := Lib.hid (HBL.out.trans (hb5.mono HBL.out.size))
          clear hb5
          go_wp2_with fail
          go_roundg (n01 - (i + 1))
          case measure => have := HI.out; omega
          case rel => exact ⟨i + 1, by have := HI.out; omega, by go_num, HBZ.out⟩
        · have hige : ¬ (i : Int) < n01 := by omega
          have HBE := Lib.hid (HBW.out.trans (HBI.out.mono HBW.out.size))
          go_wp2_with fail
          go_roundg (n - (k + 1))
          case measure => have := HK.out; omega
          case rel => exact ⟨k + 1, by have := HK.out; omega, by go_num, HBE.out⟩
    · have hge : ¬ (k : Int) < n := by omega
      go_wp2_with fail
      go_ret
      exact ⟨rfl, HB.out⟩
end Go.Proofs.YtdajihpfedbihaaGreat.St
/-
  CONTRACTS: the document's own looks at what was copied without places: bare expressions, bare programs. Written by gen_stsame.py.
-/
namespace Go.Proofs.YtdajihpfedbihaaGreat.St
open Go.RowKit Mm Tm
set_option linter.unusedVariables false
set_option linter.unusedSimpArgs false
set_option maxRecDepth 100000 in
set_option maxHeartbeats 8000000 in
theorem bareExprs_of {d : Nat} (hin : ∀ d', d = d' + 1 → BrR 11 .ex d') : BrR 11 .ex d := by
  intro w b n e D hr
  have HN : n * 144 ≤ 140737488355328 := hr.1
  have HR := Lib.hid hr
  have HIN := Lib.hid hin
  clear hr hin
  go_enter Tryz.func11, Tryz.ntmps11
  go_wp2_with fail
  go_loopg [3] n (fun dd v wr => ∃ k : Nat, k + dd = n ∧ v = .int .i64 k ∧ Below w.heap.size w wr)
  case atStart => exact ⟨0, by omega, rfl, Below.refl _ _⟩
  case round =>
    obtain ⟨k, hk, rfl, hb⟩ := hrel
    have HK := Lib.hid hk
    have HB := Lib.hid hb
    have hkle : k ≤ n := by omega
    clear hk hb
    by_cases hlt : k < n
    · have hlt' : (k : Int) < n := by omega
      obtain ⟨bd, rfl, -, -, gb0, gb1⟩ := HR.out.2.1 k hlt
      obtain ⟨cs, hm⟩ := HR.out.2.2 k hlt
      obtain ⟨ds, hds⟩ : ∃ ds, D k = ds := ⟨_, rfl⟩
      rw [hds] at gb0 gb1 hm
      clear hds
      obtain ⟨d0, hd0, hmf⟩ := hm.mf
      obtain ⟨x00, s01, x02, a03, n03, c03, b03, e03, S03, a04, n04, c04, b04, e04, C04, D04, a05, n05, c05, b05, e05, C05, D05, a06, n06, c06, b06, e06, C06, D06, x07, x08, rfl, rfl, -, q03, q04, q05, q06⟩ := inw_ex hmf
      have y00 : wr.cell? (bd.add (k * 9)) = some (.int .i64 x00) := cellb (gb0 _ rfl) HB.out
      have y01 : wr.cell? ⟨(bd.add (k * 9)).block, (bd.add (k * 9)).off + 1, none⟩ = some (.string s01) := cellb (gb1 1 _ (by decide) rfl) HB.out
      have y02 : wr.cell? ⟨(bd.add (k * 9)).block, (bd.add (k * 9)).off + 2, none⟩ = some (.int .i64 x02) := cellb (gb1 2 _ (by decide) rfl) HB.out
      have y03 : wr.cell? ⟨(bd.add (k * 9)).block, (bd.add (k * 9)).off + 3, none⟩ = some (.slice b03 n03 e03) := cellb (gb1 3 _ (by decide) rfl) HB.out
      have y04 : wr.cell? ⟨(bd.add (k * 9)).block, (bd.add (k * 9)).off + 4, none⟩ = some (.slice b04 n04 e04) := cellb (gb1 4 _ (by decide) rfl) HB.out
      have y05 : wr.cell? ⟨(bd.add (k * 9)).block, (bd.add (k * 9)).off + 5, none⟩ = some (.slice b05 n05 e05) := cellb (gb1 5 _ (by decide) rfl) HB.out
      have y06 : wr.cell? ⟨(bd.add (k * 9)).block, (bd.add (k * 9)).off + 6, none⟩ = some (.slice b06 n06 e06) := cellb (gb1 6 _ (by decide) rfl) HB.out
      have y07 : wr.cell? ⟨(bd.add (k * 9)).block, (bd.add (k * 9)).off + 7, none⟩ = some (.int .i64 0) := cellb (gb1 7 _ (by decide) rfl) HB.out
      have y08 : wr.cell? ⟨(bd.add (k * 9)).block, (bd.add (k * 9)).off + 8, none⟩ = some (.int .i64 0) := cellb (gb1 8 _ (by decide) rfl) HB.out
      have yl0 : (bd.add (k * 9)).block < wr.heap.size := World.block_lt_of_cell? _ _ y00
      clear gb0 gb1
      have HD := Lib.hid hd0
      have HN5 : n05 * 96 ≤ 140737488355328 := q05.1
      have HBA := Lib.hid ((Below.refl wr.heap.size wr).alloc (Nat.le_refl _) (.cells #[.int .i64 x00, .string s01, .int .i64 x02, .slice b03 n03 e03, .slice b04 n04 e04, .slice b05 n05 e05, .slice b06 n06 e06, .int .i64 0, .int .i64 0] 33))
      have HX := Lib.hid (Box.new wr #[.int .i64 x00, .string s01, .int .i64 x02, .slice b03 n03 e03, .slice b04 n04 e04, .slice b05 n05 e05, .slice b06 n06 e06, .int .i64 0, .int .i64 0] 33)
      have HB1 := Lib.hid (HB.out.trans (HBA.out.mono HB.out.size))
      have HQ5 := Lib.hid q05.tob
      have HQ6 := Lib.hid q06.tob
      have HS := Lib.hid (HIN.out d0 hd0 _ b04 n04 e04 D04 (q04.tob.at_ HB1.out))
      clear hmf hm q04 q05 q06
      go_wp2_with fail
      refine HS.out.mono ?_
      rintro e' w4 ⟨rfl, hb4⟩
      have HX4 := Lib.hid (HX.out.below hb4 HX.out.lt)
      have HB4 := Lib.hid (HB1.out.trans (hb4.mono HB1.out.size))
      have HT := Lib.hid (bareBinds_of (HIN.out d0 HD.out) w4 b06 n06 e06 D06 (HQ6.out.at_ HB4.out))
      obtain ⟨p0, p1, p2, p3, p4, p5, p6, p7, p8⟩ := bc9 HX4.out
      clear hb4 y00 y01 y02 y03 y04 y05 y06 y07 y08
      go_wp2_with fail
      refine HT.out.mono ?_
      rintro e' w5 ⟨rfl, hb5⟩
      have HX5 := Lib.hid (HX4.out.below hb5 HX4.out.lt)
      have HBW := Lib.hid (HB4.out.trans (hb5.mono HB4.out.size))
      have HQW := Lib.hid (HQ5.out.at_ HBW.out)
      clear hb5 p0 p1 p2 p3 p4 p5 p6 p7 p8
      obtain ⟨p0, p1, p2, p3, p4, p5, p6, p7, p8⟩ := bc9 HX5.out
      go_wp2_with fail
      go_loopg [5] n05 (fun dd v wi => ∃ i : Nat, i + dd = n05 ∧ v = .int .i64 i ∧ Below w5.heap.size w5 wi)
      case atStart => exact ⟨0, by omega, rfl, Below.refl _ _⟩
      case round =>
        obtain ⟨i, hi, rfl, hbi⟩ := hrel
        have HI := Lib.hid hi
        have HBI := Lib.hid hbi
        have hile : i ≤ n05 := by omega
        have HX6 := Lib.hid (HX5.out.below hbi HX5.out.lt)
        clear hi hbi p0 p1 p2 p3 p4 p5 p6 p7 p8
        obtain ⟨p0, p1, p2, p3, p4, p5, p6, p7, p8⟩ := bc9 HX6.out
        by_cases hit : i < n05
        · have hit' : (i : Int) < n05 := by omega
          obtain ⟨be, rfl, -, -, gb0, gb1⟩ := HQW.out.2.1 i hit
          obtain ⟨cs, hm⟩ := HQW.out.2.2 i hit
          obtain ⟨ds, hds⟩ : ∃ ds, D05 i = ds := ⟨_, rfl⟩
          rw [hds] at gb0 gb1 hm
          clear hds
          obtain ⟨d5, hd5, hmf⟩ := hm.mf
          obtain ⟨us, vs, a56, n56, c56, b56, e56, C56, D56, rfl, rfl, hmp, q56⟩ := splitw_al hmf
          have hme : M (· < w5.heap.size) w5 d0 .pt us vs := by rw [hd5]; exact hmp
          obtain ⟨x50, s51, x52, a53, n53, c53, b53, e53, C53, D53, x54, x55, rfl, rfl, -, -⟩ := inw_pt hmp
          have y50 : wr.cell? (be.add (i * 7)) = some (.int .i64 x50) := cellb (gb0 _ rfl) HBI.out
          have y51 : wr.cell? ⟨(be.add (i * 7)).block, (be.add (i * 7)).off + 1, none⟩ = some (.string s51) := cellb (gb1 1 _ (by decide) rfl) HBI.out
          have y52 : wr.cell? ⟨(be.add (i * 7)).block, (be.add (i * 7)).off + 2, none⟩ = some (.int .i64 x52) := cellb (gb1 2 _ (by decide) rfl) HBI.out
          have y53 : wr.cell? ⟨(be.add (i * 7)).block, (be.add (i * 7)).off + 3, none⟩ = some (.slice b53 n53 e53) := cellb (gb1 3 _ (by decide) rfl) HBI.out
          have y54 : wr.cell? ⟨(be.add (i * 7)).block, (be.add (i * 7)).off + 4, none⟩ = some (.int .i64 0) := cellb (gb1 4 _ (by decide) rfl) HBI.out
          have y55 : wr.cell? ⟨(be.add (i * 7)).block, (be.add (i * 7)).off + 5, none⟩ = some (.int .i64 0) := cellb (gb1 5 _ (by decide) rfl) HBI.out
          have y56 : wr.cell? ⟨(be.add (i * 7)).block, (be.add (i * 7)).off + 6, none⟩ = some (.slice b56 n56 e56) := cellb (gb1 6 _ (by decide) rfl) HBI.out
          have yl5 : (be.add (i * 7)).block < wr.heap.size := World.block_lt_of_cell? _ _ y50
          clear gb0 gb1
          have HQR := Lib.hid q56.tob
          have HD5 := Lib.hid hd5
          have HBC := Lib.hid ((Below.refl wr.heap.size wr).alloc (Nat.le_refl _) (.cells #[.int .i64 x50, .string s51, .int .i64 x52, .slice b53 n53 e53, .int .i64 0, .int .i64 0] 83))
          have HB6 := Lib.hid (HBI.out.trans (HBC.out.mono HBI.out.size))
          have HS6 := Lib.hid (barePats d0 _ (some ⟨wr.heap.size, 0, none⟩) 1 1 (fun _ => [.int .i64 x50, .string s51, .int .i64 x52, .slice b53 n53 e53, .int .i64 0, .int .i64 0]) (RowB.single (by decide) (Box.new wr #[.int .i64 x50, .string s51, .int .i64 x52, .slice b53 n53 e53, .int .i64 0, .int .i64 0] 83) rfl (hme.at_ HB6.out)))
          clear hmf hm hmp hme q56
          go_wp2_with fail
          refine HS6.out.mono ?_
          rintro e' w6 ⟨rfl, hb6⟩
          have HB7 := Lib.hid (HB6.out.trans (hb6.mono HB6.out.size))
          have t5 := cellb (cellb p5 HBC.out) hb6
          have s6 := cellb (cellb y56 HBC.out) hb6
          have HT6 := Lib.hid (bareRhs_of (BrR.down (HD5.out ▸ HIN.out d0 HD.out)) w6 b56 n56 e56 D56 (HQR.out.at_ HB7.out))
          clear hb6 p0 p1 p2 p3 p4 p5 p6 p7 p8 y50 y51 y52 y53 y54 y55 y56
          go_wp2_with fail
          refine HT6.out.mono ?_
          rintro e' w7 ⟨rfl, hb7⟩
          have HB8 := Lib.hid (HB7.out.trans (hb7.mono HB7.out.size))
          clear hb7
          go_wp2_with fail
          go_roundg (n05 - (i + 1))
          case measure => have := HI.out; omega
          case rel => exact ⟨i + 1, by have := HI.out; omega, by go_num, HB8.out⟩
        · have hige : ¬ (i : Int) < n05 := by omega
          have HBE := Lib.hid (HBW.out.trans (HBI.out.mono HBW.out.size))
          go_wp2_with fail
          go_roundg (n - (k + 1))
          case measure => have := HK.out; omega
          case rel => exact ⟨k + 1, by have := HK.out; omega, by go_num, HBE.out⟩
    · have hge : ¬ (k : Int) < n := by omega
      go_wp2_with fail
      go_ret
      exact ⟨rfl, HB.out⟩
theorem bareExprs : ∀ d, BrR 11 .ex d
  | 0 => bareExprs_of fun d' h => by omega
  | d + 1 => bareExprs_of fun d' h => Nat.succ.inj h ▸ bareExprs d
set_option maxRecDepth 100000 in
set_option maxHeartbeats 8000000 in
theorem bareProgram {d : Nat} {b0 b1 b2 : Option Addr} {n0 n1 n2 e0 e1 e2 : Nat} {D0 D1 D2 : Nat → List Value} (w : World) (q0 : RowB d .dt b0 n0 D0 w) (q1 : RowB d .fx b1 n1 D1 w) (q2 : RowB d .bd b2 n2 D2 w) : Calls Tryz.prog 9 #[.agg #[.slice b0 n0 e0, .slice b1 n1 e1, .slice b2 n2 e2]] w (Tr w) := by
  obtain ⟨W2, hW2⟩ : ∃ W2, (w.alloc (.cells #[.slice b0 n0 e0, .slice b1 n1 e1, .slice b2 n2 e2] 26)).alloc (.cells #[.slice b0 n0 e0, .slice b1 n1 e1, .slice b2 n2 e2] 26) = W2 := ⟨_, rfl⟩
  have HB2 := Lib.hid (show Below w.heap.size w W2 from by rw [← hW2]; exact ((Below.refl _ _).alloc (Nat.le_refl _) _).alloc (by simp) _)
  have HX8 := Lib.hid (show Box W2 w.heap.size 26 #[.slice b0 n0 e0, .slice b1 n1 e1, .slice b2 n2 e2] from by rw [← hW2]; exact (Box.new w _ _).alloc _)
  have HX9 := Lib.hid (show Box W2 (w.heap.size + 1) 26 #[.slice b0 n0 e0, .slice b1 n1 e1, .slice b2 n2 e2] from by rw [← hW2]; exact Box.at_ _ _ (by simp))
  have HQ0 := Lib.hid (q0.at_ HB2.out)
  have HQ1 := Lib.hid (q1.at_ HB2.out)
  have HQ2 := Lib.hid (q2.at_ HB2.out)
  have HN0 : n0 * 80 ≤ 140737488355328 := q0.1
  have HN1 : n1 * 48 ≤ 140737488355328 := q1.1
  have HE2 := Lib.hid hW2
  clear q0 q1 q2 hW2
  go_enter Tryz.func9, Tryz.ntmps9
  go_wp2_with fail
  rw [HE2.out]
  obtain ⟨p0, p1, p2⟩ := bc3 HX8.out
  obtain ⟨r0, r1, r2⟩ := bc3 HX9.out
  go_loopg [4] n0 (fun dd v wr => ∃ k : Nat, k + dd = n0 ∧ v = .int .i64 k ∧ ∃ m, wr = W2.drewN m)
  case atStart => exact ⟨0, by omega, rfl, 0, rfl⟩
  case round =>
    obtain ⟨k, hk, rfl, m, rfl⟩ := hrel
    have HK := Lib.hid hk
    have HB := Lib.hid (todrewN (Below.refl W2.heap.size W2) m)
    have hkle : k ≤ n0 := by omega
    clear hk
    by_cases hlt : k < n0
    · have hlt' : (k : Int) < n0 := by omega
      obtain ⟨bd, rfl, -, -, gb0, gb1⟩ := HQ0.out.2.1 k hlt
      obtain ⟨cs, hm⟩ := HQ0.out.2.2 k hlt
      obtain ⟨ds, hds⟩ : ∃ ds, D0 k = ds := ⟨_, rfl⟩
      rw [hds] at gb0 gb1 hm
      clear hds
      obtain ⟨d0, hd0, hmf⟩ := hm.mf
      obtain ⟨s00, a01, n01, c01, b01, e01, S01, a02, n02, c02, b02, e02, C02, D02, x03, x04, rfl, rfl, -, q01, q02⟩ := inw_dt hmf
      have y00 : W2.cell? (bd.add (k * 5)) = some (.string s00) := gb0 _ rfl
      have y01 : W2.cell? ⟨(bd.add (k * 5)).block, (bd.add (k * 5)).off + 1, none⟩ = some (.slice b01 n01 e01) := (gb1 1 _ (by decide) rfl)
      have y02 : W2.cell? ⟨(bd.add (k * 5)).block, (bd.add (k * 5)).off + 2, none⟩ = some (.slice b02 n02 e02) := (gb1 2 _ (by decide) rfl)
      have y03 : W2.cell? ⟨(bd.add (k * 5)).block, (bd.add (k * 5)).off + 3, none⟩ = some (.int .i64 0) := (gb1 3 _ (by decide) rfl)
      have y04 : W2.cell? ⟨(bd.add (k * 5)).block, (bd.add (k * 5)).off + 4, none⟩ = some (.int .i64 0) := (gb1 4 _ (by decide) rfl)
      have yl0 : (bd.add (k * 5)).block < W2.heap.size := World.block_lt_of_cell? _ _ y00
      clear gb0 gb1
      have HQC := Lib.hid q02.tob
      have HN2 : n02 * 56 ≤ 140737488355328 := q02.1
      clear hmf hm q02
      go_wp2_with fail
      go_loopg [5] n02 (fun dd v wi => ∃ i : Nat, i + dd = n02 ∧ v = .int .i64 i ∧ ∃ m, wi = W2.drewN m)
      case atStart => exact ⟨0, by omega, rfl, m, rfl⟩
      case round =>
        obtain ⟨i, hi, rfl, m2, rfl⟩ := hrel
        have HI := Lib.hid hi
        have hile : i ≤ n02 := by omega
        clear hi
        by_cases hit : i < n02
        · have hit' : (i : Int) < n02 := by omega
          obtain ⟨be, rfl, -, -, gb0, gb1⟩ := HQC.out.2.1 i hit
          obtain ⟨cs, hm⟩ := HQC.out.2.2 i hit
          obtain ⟨ds, hds⟩ : ∃ ds, D02 i = ds := ⟨_, rfl⟩
          rw [hds] at gb0 gb1 hm
          clear hds
          obtain ⟨d5, hd5, hmf⟩ := hm.mf
          obtain ⟨s50, a51, n51, c51, b51, e51, C51, D51, x52, x53, rfl, rfl, -, q51⟩ := inw_cn hmf
          have y50 : W2.cell? (be.add (i * 4)) = some (.string s50) := gb0 _ rfl
          have y51 : W2.cell? ⟨(be.add (i * 4)).block, (be.add (i * 4)).off + 1, none⟩ = some (.slice b51 n51 e51) := (gb1 1 _ (by decide) rfl)
          have y52 : W2.cell? ⟨(be.add (i * 4)).block, (be.add (i * 4)).off + 2, none⟩ = some (.int .i64 0) := (gb1 2 _ (by decide) rfl)
          have y53 : W2.cell? ⟨(be.add (i * 4)).block, (be.add (i * 4)).off + 3, none⟩ = some (.int .i64 0) := (gb1 3 _ (by decide) rfl)
          have yl5 : (be.add (i * 4)).block < W2.heap.size := World.block_lt_of_cell? _ _ y50
          clear gb0 gb1
          clear hmf hm
          go_wp2_with fail
          go_roundg (n02 - (i + 1))
          case measure => have := HI.out; omega
          case rel => exact ⟨i + 1, by have := HI.out; omega, by go_num, _, rfl⟩
        · have hige : ¬ (i : Int) < n02 := by omega
          go_wp2_with fail
          go_roundg (n0 - (k + 1))
          case measure => have := HK.out; omega
          case rel => exact ⟨k + 1, by have := HK.out; omega, by go_num, _, rfl⟩
    · have hge : ¬ (k : Int) < n0 := by omega
      go_wp2_with fail
      go_loopg [6] n1 (fun dd v wi => ∃ i : Nat, i + dd = n1 ∧ v = .int .i64 i ∧ ∃ m, wi = W2.drewN m)
      case atStart => exact ⟨0, by omega, rfl, m, rfl⟩
      case round =>
        obtain ⟨i, hi, rfl, m2, rfl⟩ := hrel
        have HI := Lib.hid hi
        have hile : i ≤ n1 := by omega
        clear hi
        by_cases hit : i < n1
        · have hit' : (i : Int) < n1 := by omega
          obtain ⟨be, rfl, -, -, gb0, gb1⟩ := HQ1.out.2.1 i hit
          obtain ⟨cs, hm⟩ := HQ1.out.2.2 i hit
          obtain ⟨ds, hds⟩ : ∃ ds, D1 i = ds := ⟨_, rfl⟩
          rw [hds] at gb0 gb1 hm
          clear hds
          obtain ⟨d5, hd5, hmf⟩ := hm.mf
          obtain ⟨s50, x51, x52, x53, x54, rfl, rfl, -⟩ := inw_fx hmf
          have y50 : W2.cell? (be.add (i * 5)) = some (.string s50) := gb0 _ rfl
          have y51 : W2.cell? ⟨(be.add (i * 5)).block, (be.add (i * 5)).off + 1, none⟩ = some (.int .i64 x51) := (gb1 1 _ (by decide) rfl)
          have y52 : W2.cell? ⟨(be.add (i * 5)).block, (be.add (i * 5)).off + 2, none⟩ = some (.int .i64 x52) := (gb1 2 _ (by decide) rfl)
          have y53 : W2.cell? ⟨(be.add (i * 5)).block, (be.add (i * 5)).off + 3, none⟩ = some (.int .i64 0) := (gb1 3 _ (by decide) rfl)
          have y54 : W2.cell? ⟨(be.add (i * 5)).block, (be.add (i * 5)).off + 4, none⟩ = some (.int .i64 0) := (gb1 4 _ (by decide) rfl)
          have yl5 : (be.add (i * 5)).block < W2.heap.size := World.block_lt_of_cell? _ _ y50
          clear gb0 gb1
          clear hmf hm
          go_wp2_with fail
          go_roundg (n1 - (i + 1))
          case measure => have := HI.out; omega
          case rel => exact ⟨i + 1, by have := HI.out; omega, by go_num, _, rfl⟩
        · have hige : ¬ (i : Int) < n1 := by omega
          have HBM := Lib.hid (todrewN (Below.refl W2.heap.size W2) m2)
          have HS := Lib.hid (bareBinds_of (bareExprs d) (W2.drewN m2) b2 n2 e2 D2 (HQ2.out.at_ HBM.out))
          go_wp2_with fail
          refine HS.out.mono ?_
          rintro e' w6 ⟨rfl, hb6⟩
          have HBL := Lib.hid (HB2.out.trans ((HBM.out.trans (hb6.mono HBM.out.size)).mono HB2.out.size))
          clear hb6
          go_wp2_with fail
          go_ret
          exact ⟨rfl, HBL.out⟩
end Go.Proofs.YtdajihpfedbihaaGreat.St
