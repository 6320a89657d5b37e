/-
  CONTRACTS: the document's own looks at what was copied without places: types, patterns, expressions in a row, bodies, bindings. Written by gen_stsame.py.
-/
import Derived.Test.YtdajihpfedbihaaGreatGYe
import Derived.Deep.DeepCutAuto
namespace Go.Proofs.YtdajihpfedbihaaGreat.St
open Go.RowKit Mm Tm
set_option linter.unusedVariables false
set_option linter.unusedSimpArgs false
def Tr (w : World) (r : Ending) (w' : World) : Prop := r = .returned (.bool true) ∧ Below w.heap.size w w'
theorem cellb {w w' : World} {p : Addr} {v : Value} (h : w.cell? p = some v) (hb : Below w.heap.size w w') : w'.cell? p = some v := (hb.cell (World.block_lt_of_cell? w p h)).trans h
theorem undrew {w w' : World} (h : Below w.drew.heap.size w.drew w') : Below w.heap.size w w' := ⟨h.os, h.tape, h.output, h.size, h.block⟩
theorem todrew {w w' : World} {B : Nat} (h : Below B w w') : Below B w w'.drew := ⟨h.os, h.tape, h.output, h.size, h.block⟩
theorem todrewN {w w' : World} {B : Nat} (h : Below B w w') (n : Nat) : Below B w (w'.drewN n) := ⟨h.os, h.tape, h.output, h.size, h.block⟩
section
variable {w w' : World} {d : Nat} {κ : Kd} {a b : Option Addr} {n : Nat} {C D : Nat → List Value} {cs ds : List Value}
theorem M.at_ (h : M (· < w.heap.size) w d κ cs ds) (hb : Below w.heap.size w w') : M (· < w'.heap.size) w' d κ cs ds := h.frame (fun x hx => hb.block x hx) fun x hx => Nat.lt_of_lt_of_le hx hb.size
theorem RowT2.at_ (h : RowT2 (M (· < w.heap.size) w d) (· < w.heap.size) w κ a b n C D) (hb : Below w.heap.size w w') : RowT2 (M (· < w'.heap.size) w' d) (· < w'.heap.size) w' κ a b n C D :=
  ⟨h.1, h.2.1.frame (fun x hx => hb.block x hx) fun x hx => Nat.lt_of_lt_of_le hx hb.size, h.2.2.1.frame (fun x hx => hb.block x hx) fun x hx => Nat.lt_of_lt_of_le hx hb.size, fun i hi => (h.2.2.2 i hi).at_ hb⟩
theorem RowT2.up {Z : Nat → Prop} (h : RowT2 (M Z w d) Z w κ a b n C D) : RowT2 (M Z w (d + 1)) Z w κ a b n C D := ⟨h.1, h.2.1, h.2.2.1, fun i hi => (h.2.2.2 i hi).up⟩
end
/-- rows of types, copied, are the same -/
def SmTy (d : Nat) : Prop := ∀ (w : World) (a b : Option Addr) (n c e : Nat) (C D : Nat → List Value), RowT2 (M (· < w.heap.size) w d) (· < w.heap.size) w .ty a b n C D → Calls Tryz.prog 57 #[.slice a n c, .slice b n e] w (Tr w)
/-- rows, copied, are the same but for places -/
def SmR (f : Nat) (κ : Kd) (d : Nat) : Prop := ∀ (w : World) (a b : Option Addr) (n c e : Nat) (C D : Nat → List Value), RowT2 (M (· < w.heap.size) w d) (· < w.heap.size) w κ a b n C D → Calls Tryz.prog f #[.slice a n c, .slice b n e, .bool false] w (Tr w)
def SmX (d : Nat) : Prop := ∀ (w : World) (cs ds : List Value), M (· < w.heap.size) w d .ex cs ds → Calls Tryz.prog 10 #[.agg cs.toArray, .agg ds.toArray, .bool false] w (Tr w)
set_option maxRecDepth 100000 in
set_option maxHeartbeats 8000000 in
theorem sameTypes_of {d : Nat} (hin : ∀ d', d = d' + 1 → SmTy d') : SmTy d := by
  intro w a b n c e C D hr
  have HN : n * 56 ≤ 140737488355328 := hr.1
  have HR := Lib.hid hr
  clear hr
  go_enter Tryz.func57, Tryz.ntmps57
  go_wp2_with fail
  go_loopg [5] n (fun dd v wr => ∃ k : Nat, k + dd = n ∧ v = .int .i64 k ∧ Below w.heap.size w wr)
  case atStart => exact ⟨0, by omega, rfl, Below.refl _ _⟩
  case round =>
    obtain ⟨k, hk, rfl, hb⟩ := hrel
    have HK := Lib.hid hk
    have HB := Lib.hid hb
    have hkle : k ≤ n := by omega
    clear hk hb
    by_cases hlt : k < n
    · have hlt' : (k : Int) < n := by omega
      obtain ⟨ad, rfl, -, -, ga0, ga1⟩ := HR.out.2.1 k hlt
      obtain ⟨bd, rfl, -, -, gb0, gb1⟩ := HR.out.2.2.1 k hlt
      have hm := HR.out.2.2.2 k hlt
      obtain ⟨cs, hcs⟩ : ∃ cs, C k = cs := ⟨_, rfl⟩
      obtain ⟨ds, hds⟩ : ∃ ds, D k = ds := ⟨_, rfl⟩
      rw [hcs] at ga0 ga1 hm
      rw [hds] at gb0 gb1 hm
      clear hcs hds
      obtain ⟨d0, hd0, hmf⟩ := hm.mf
      obtain ⟨x00, x01, s02, a03, n03, c03, b03, e03, C03, D03, rfl, rfl, -, q03⟩ := inw_ty hmf
      have z00 : wr.cell? (ad.add (k * 4)) = some (.int .i64 x00) := cellb (ga0 _ rfl) HB.out
      have y00 : wr.cell? (bd.add (k * 4)) = some (.int .i64 x00) := cellb (gb0 _ rfl) HB.out
      have z01 : wr.cell? ⟨(ad.add (k * 4)).block, (ad.add (k * 4)).off + 1, none⟩ = some (.int .i64 x01) := cellb (ga1 1 _ (by decide) rfl) HB.out
      have y01 : wr.cell? ⟨(bd.add (k * 4)).block, (bd.add (k * 4)).off + 1, none⟩ = some (.int .i64 x01) := cellb (gb1 1 _ (by decide) rfl) HB.out
      have z02 : wr.cell? ⟨(ad.add (k * 4)).block, (ad.add (k * 4)).off + 2, none⟩ = some (.string s02) := cellb (ga1 2 _ (by decide) rfl) HB.out
      have y02 : wr.cell? ⟨(bd.add (k * 4)).block, (bd.add (k * 4)).off + 2, none⟩ = some (.string s02) := cellb (gb1 2 _ (by decide) rfl) HB.out
      have z03 : wr.cell? ⟨(ad.add (k * 4)).block, (ad.add (k * 4)).off + 3, none⟩ = some (.slice a03 n03 c03) := cellb (ga1 3 _ (by decide) rfl) HB.out
      have y03 : wr.cell? ⟨(bd.add (k * 4)).block, (bd.add (k * 4)).off + 3, none⟩ = some (.slice b03 n03 e03) := cellb (gb1 3 _ (by decide) rfl) HB.out
      have zl0 : (ad.add (k * 4)).block < wr.heap.size := World.block_lt_of_cell? _ _ z00
      have yl0 : (bd.add (k * 4)).block < wr.heap.size := World.block_lt_of_cell? _ _ y00
      clear ga0 ga1 gb0 gb1
      have HS := Lib.hid (hin d0 hd0 wr.drew a03 b03 n03 c03 e03 C03 D03 (q03.at_ (todrew HB.out)))
      clear hmf hm
      go_wp2_with fail
      go_region_held3 (fun w' => w'.cell? (ad.add (k * 4)) = some (.int .i64 x00) ∧ w'.cell? ⟨(ad.add (k * 4)).block, (ad.add (k * 4)).off + 1, none⟩ = some (.int .i64 x01) ∧ w'.cell? ⟨(ad.add (k * 4)).block, (ad.add (k * 4)).off + 2, none⟩ = some (.string s02) ∧ w'.cell? ⟨(ad.add (k * 4)).block, (ad.add (k * 4)).off + 3, none⟩ = some (.slice a03 n03 c03) ∧ w'.cell? (bd.add (k * 4)) = some (.int .i64 x00) ∧ w'.cell? ⟨(bd.add (k * 4)).block, (bd.add (k * 4)).off + 1, none⟩ = some (.int .i64 x01) ∧ w'.cell? ⟨(bd.add (k * 4)).block, (bd.add (k * 4)).off + 2, none⟩ = some (.string s02) ∧ w'.cell? ⟨(bd.add (k * 4)).block, (bd.add (k * 4)).off + 3, none⟩ = some (.slice b03 n03 e03))
        (first
          | exact ⟨z00, z01, z02, z03, y00, y01, y02, y03⟩
          | exact ⟨t0_0, t0_1, t0_2, t0_3, t0_4, t0_5, t0_6, t0_7⟩)
        (first
          | (go_at_call 57; refine HS.out.mono ?_; rintro e W0 ⟨rfl, hb⟩; replace hb := undrew hb; have HW0 := Lib.hid hb; have t0_0 := cellb z00 hb; have t0_1 := cellb z01 hb; have t0_2 := cellb z02 hb; have t0_3 := cellb z03 hb; have t0_4 := cellb y00 hb; have t0_5 := cellb y01 hb; have t0_6 := cellb y02 hb; have t0_7 := cellb y03 hb; clear hb))
      have HWL := Lib.hid HW0.out
      go_wp2_with fail
      go_roundg (n - (k + 1))
      case measure => have := HK.out; omega
      case rel => exact ⟨k + 1, by have := HK.out; omega, by go_num, HB.out.trans (HWL.out.mono HB.out.size)⟩
    · have hge : ¬ (k : Int) < n := by omega
      go_wp2_with fail
      go_ret
      exact ⟨rfl, HB.out⟩
theorem sameTypes : ∀ d, SmTy d
  | 0 => sameTypes_of fun d' h => by omega
  | d + 1 => sameTypes_of fun d' h => Nat.succ.inj h ▸ sameTypes d
set_option maxRecDepth 100000 in
set_option maxHeartbeats 8000000 in
theorem samePats_of {d : Nat} (hin : ∀ d', d = d' + 1 → SmR 35 .pt d') : SmR 35 .pt d := by
  intro w a b n c e C D hr
  have HN : n * 72 ≤ 140737488355328 := hr.1
  have HR := Lib.hid hr
  clear hr
  go_enter Tryz.func35, Tryz.ntmps35
  go_wp2_with fail
  go_loopg [7] n (fun dd v wr => ∃ k : Nat, k + dd = n ∧ v = .int .i64 k ∧ Below w.heap.size w wr)
  case atStart => exact ⟨0, by omega, rfl, Below.refl _ _⟩
  case round =>
    obtain ⟨k, hk, rfl, hb⟩ := hrel
    have HK := Lib.hid hk
    have HB := Lib.hid hb
    have hkle : k ≤ n := by omega
    clear hk hb
    by_cases hlt : k < n
    · have hlt' : (k : Int) < n := by omega
      obtain ⟨ad, rfl, -, -, ga0, ga1⟩ := HR.out.2.1 k hlt
      obtain ⟨bd, rfl, -, -, gb0, gb1⟩ := HR.out.2.2.1 k hlt
      have hm := HR.out.2.2.2 k hlt
      obtain ⟨cs, hcs⟩ : ∃ cs, C k = cs := ⟨_, rfl⟩
      obtain ⟨ds, hds⟩ : ∃ ds, D k = ds := ⟨_, rfl⟩
      rw [hcs] at ga0 ga1 hm
      rw [hds] at gb0 gb1 hm
      clear hcs hds
      obtain ⟨d0, hd0, hmf⟩ := hm.mf
      obtain ⟨x00, s01, x02, a03, n03, c03, b03, e03, C03, D03, x04, x05, rfl, rfl, -, q03⟩ := inw_pt hmf
      have z00 : wr.cell? (ad.add (k * 6)) = some (.int .i64 x00) := cellb (ga0 _ rfl) HB.out
      have y00 : wr.cell? (bd.add (k * 6)) = some (.int .i64 x00) := cellb (gb0 _ rfl) HB.out
      have z01 : wr.cell? ⟨(ad.add (k * 6)).block, (ad.add (k * 6)).off + 1, none⟩ = some (.string s01) := cellb (ga1 1 _ (by decide) rfl) HB.out
      have y01 : wr.cell? ⟨(bd.add (k * 6)).block, (bd.add (k * 6)).off + 1, none⟩ = some (.string s01) := cellb (gb1 1 _ (by decide) rfl) HB.out
      have z02 : wr.cell? ⟨(ad.add (k * 6)).block, (ad.add (k * 6)).off + 2, none⟩ = some (.int .i64 x02) := cellb (ga1 2 _ (by decide) rfl) HB.out
      have y02 : wr.cell? ⟨(bd.add (k * 6)).block, (bd.add (k * 6)).off + 2, none⟩ = some (.int .i64 x02) := cellb (gb1 2 _ (by decide) rfl) HB.out
      have z03 : wr.cell? ⟨(ad.add (k * 6)).block, (ad.add (k * 6)).off + 3, none⟩ = some (.slice a03 n03 c03) := cellb (ga1 3 _ (by decide) rfl) HB.out
      have y03 : wr.cell? ⟨(bd.add (k * 6)).block, (bd.add (k * 6)).off + 3, none⟩ = some (.slice b03 n03 e03) := cellb (gb1 3 _ (by decide) rfl) HB.out
      have z04 : wr.cell? ⟨(ad.add (k * 6)).block, (ad.add (k * 6)).off + 4, none⟩ = some (.int .i64 x04) := cellb (ga1 4 _ (by decide) rfl) HB.out
      have y04 : wr.cell? ⟨(bd.add (k * 6)).block, (bd.add (k * 6)).off + 4, none⟩ = some (.int .i64 0) := cellb (gb1 4 _ (by decide) rfl) HB.out
      have z05 : wr.cell? ⟨(ad.add (k * 6)).block, (ad.add (k * 6)).off + 5, none⟩ = some (.int .i64 x05) := cellb (ga1 5 _ (by decide) rfl) HB.out
      have y05 : wr.cell? ⟨(bd.add (k * 6)).block, (bd.add (k * 6)).off + 5, none⟩ = some (.int .i64 0) := cellb (gb1 5 _ (by decide) rfl) HB.out
      have zl0 : (ad.add (k * 6)).block < wr.heap.size := World.block_lt_of_cell? _ _ z00
      have yl0 : (bd.add (k * 6)).block < wr.heap.size := World.block_lt_of_cell? _ _ y00
      clear ga0 ga1 gb0 gb1
      have HQ := Lib.hid q03
      clear hmf hm
      go_wp2_with fail
      go_cut [8, 9] (fun v8 v9 wx => ∃ b8 b9, v8 = .pointer (some ⟨b8, 0, none⟩) ∧ v9 = .pointer (some ⟨b9, 0, none⟩) ∧ Box wx b8 83 #[.int .i64 x00, .string s01, .int .i64 x02, .slice a03 n03 c03, .int .i64 x04, .int .i64 x05] ∧ Box wx b9 83 #[.int .i64 x00, .string s01, .int .i64 x02, .slice b03 n03 e03, .int .i64 0, .int .i64 0] ∧ Below wr.heap.size wr wx)
      case first =>
        go_region
        all_goals
          go_wp2_with fail
          go_meet
          first
            | exact ⟨_, _, rfl, rfl, (Box.new wr _ _).alloc _, Box.at_ (w := wr.alloc _) _ _ (by simp), ((((Below.refl wr.heap.size wr).alloc (Nat.le_refl _) _).alloc (by simp) _).drew)⟩
            | exact ⟨_, _, rfl, rfl, Box.at_ (w := wr.alloc _) _ _ (by simp), (Box.new wr _ _).alloc _, ((((Below.refl wr.heap.size wr).alloc (Nat.le_refl _) _).alloc (by simp) _).drew)⟩
      case rest =>
        obtain ⟨b8, b9, rfl, rfl, hx8, hx9, hbx⟩ := hcut
        obtain ⟨p0, p1, p2, p3, p4, p5⟩ := bc6 hx8
        obtain ⟨r0, r1, r2, r3, r4, r5⟩ := bc6 hx9
        have HBx := Lib.hid hbx
        have HS := Lib.hid (hin d0 hd0 wc a03 b03 n03 c03 e03 C03 D03 (HQ.out.at_ (HB.out.trans (hbx.mono HB.out.size))))
        clear hx8 hx9 hbx
        go_wp2_with fail
        refine HS.out.mono ?_
        rintro e' w4 ⟨rfl, hb4⟩
        have HWL := Lib.hid (HBx.out.trans (hb4.mono HBx.out.size))
        clear hb4
        go_wp2_with fail
        go_roundg (n - (k + 1))
        case measure => have := HK.out; omega
        case rel => exact ⟨k + 1, by have := HK.out; omega, by go_num, HB.out.trans (HWL.out.mono HB.out.size)⟩
    · have hge : ¬ (k : Int) < n := by omega
      go_wp2_with fail
      go_ret
      exact ⟨rfl, HB.out⟩
theorem samePats : ∀ d, SmR 35 .pt d
  | 0 => samePats_of fun d' h => by omega
  | d + 1 => samePats_of fun d' h => Nat.succ.inj h ▸ samePats d
set_option maxRecDepth 100000 in
set_option maxHeartbeats 8000000 in
theorem sameExprs_of {d : Nat} (hin : SmX d) : SmR 37 .ex d := by
  intro w a b n c e C D hr
  have HN : n * 144 ≤ 140737488355328 := hr.1
  have HR := Lib.hid hr
  clear hr
  go_enter Tryz.func37, Tryz.ntmps37
  go_wp2_with fail
  go_loopg [7] n (fun dd v wr => ∃ k : Nat, k + dd = n ∧ v = .int .i64 k ∧ Below w.heap.size w wr)
  case atStart => exact ⟨0, by omega, rfl, Below.refl _ _⟩
  case round =>
    obtain ⟨k, hk, rfl, hb⟩ := hrel
    have HK := Lib.hid hk
    have HB := Lib.hid hb
    have hkle : k ≤ n := by omega
    clear hk hb
    by_cases hlt : k < n
    · have hlt' : (k : Int) < n := by omega
      obtain ⟨ad, rfl, -, -, ga0, ga1⟩ := HR.out.2.1 k hlt
      obtain ⟨bd, rfl, -, -, gb0, gb1⟩ := HR.out.2.2.1 k hlt
      have hm := HR.out.2.2.2 k hlt
      obtain ⟨cs, hcs⟩ : ∃ cs, C k = cs := ⟨_, rfl⟩
      obtain ⟨ds, hds⟩ : ∃ ds, D k = ds := ⟨_, rfl⟩
      rw [hcs] at ga0 ga1 hm
      rw [hds] at gb0 gb1 hm
      clear hcs hds
      obtain ⟨d0, hd0, hmf⟩ := hm.mf
      obtain ⟨x00, s01, x02, a03, n03, c03, b03, e03, S03, a04, n04, c04, b04, e04, C04, D04, a05, n05, c05, b05, e05, C05, D05, a06, n06, c06, b06, e06, C06, D06, x07, x08, rfl, rfl, -, q03, q04, q05, q06⟩ := inw_ex hmf
      have z00 : wr.cell? (ad.add (k * 9)) = some (.int .i64 x00) := cellb (ga0 _ rfl) HB.out
      have y00 : wr.cell? (bd.add (k * 9)) = some (.int .i64 x00) := cellb (gb0 _ rfl) HB.out
      have z01 : wr.cell? ⟨(ad.add (k * 9)).block, (ad.add (k * 9)).off + 1, none⟩ = some (.string s01) := cellb (ga1 1 _ (by decide) rfl) HB.out
      have y01 : wr.cell? ⟨(bd.add (k * 9)).block, (bd.add (k * 9)).off + 1, none⟩ = some (.string s01) := cellb (gb1 1 _ (by decide) rfl) HB.out
      have z02 : wr.cell? ⟨(ad.add (k * 9)).block, (ad.add (k * 9)).off + 2, none⟩ = some (.int .i64 x02) := cellb (ga1 2 _ (by decide) rfl) HB.out
      have y02 : wr.cell? ⟨(bd.add (k * 9)).block, (bd.add (k * 9)).off + 2, none⟩ = some (.int .i64 x02) := cellb (gb1 2 _ (by decide) rfl) HB.out
      have z03 : wr.cell? ⟨(ad.add (k * 9)).block, (ad.add (k * 9)).off + 3, none⟩ = some (.slice a03 n03 c03) := cellb (ga1 3 _ (by decide) rfl) HB.out
      have y03 : wr.cell? ⟨(bd.add (k * 9)).block, (bd.add (k * 9)).off + 3, none⟩ = some (.slice b03 n03 e03) := cellb (gb1 3 _ (by decide) rfl) HB.out
      have z04 : wr.cell? ⟨(ad.add (k * 9)).block, (ad.add (k * 9)).off + 4, none⟩ = some (.slice a04 n04 c04) := cellb (ga1 4 _ (by decide) rfl) HB.out
      have y04 : wr.cell? ⟨(bd.add (k * 9)).block, (bd.add (k * 9)).off + 4, none⟩ = some (.slice b04 n04 e04) := cellb (gb1 4 _ (by decide) rfl) HB.out
      have z05 : wr.cell? ⟨(ad.add (k * 9)).block, (ad.add (k * 9)).off + 5, none⟩ = some (.slice a05 n05 c05) := cellb (ga1 5 _ (by decide) rfl) HB.out
      have y05 : wr.cell? ⟨(bd.add (k * 9)).block, (bd.add (k * 9)).off + 5, none⟩ = some (.slice b05 n05 e05) := cellb (gb1 5 _ (by decide) rfl) HB.out
      have z06 : wr.cell? ⟨(ad.add (k * 9)).block, (ad.add (k * 9)).off + 6, none⟩ = some (.slice a06 n06 c06) := cellb (ga1 6 _ (by decide) rfl) HB.out
      have y06 : wr.cell? ⟨(bd.add (k * 9)).block, (bd.add (k * 9)).off + 6, none⟩ = some (.slice b06 n06 e06) := cellb (gb1 6 _ (by decide) rfl) HB.out
      have z07 : wr.cell? ⟨(ad.add (k * 9)).block, (ad.add (k * 9)).off + 7, none⟩ = some (.int .i64 x07) := cellb (ga1 7 _ (by decide) rfl) HB.out
      have y07 : wr.cell? ⟨(bd.add (k * 9)).block, (bd.add (k * 9)).off + 7, none⟩ = some (.int .i64 0) := cellb (gb1 7 _ (by decide) rfl) HB.out
      have z08 : wr.cell? ⟨(ad.add (k * 9)).block, (ad.add (k * 9)).off + 8, none⟩ = some (.int .i64 x08) := cellb (ga1 8 _ (by decide) rfl) HB.out
      have y08 : wr.cell? ⟨(bd.add (k * 9)).block, (bd.add (k * 9)).off + 8, none⟩ = some (.int .i64 0) := cellb (gb1 8 _ (by decide) rfl) HB.out
      have zl0 : (ad.add (k * 9)).block < wr.heap.size := World.block_lt_of_cell? _ _ z00
      have yl0 : (bd.add (k * 9)).block < wr.heap.size := World.block_lt_of_cell? _ _ y00
      clear ga0 ga1 gb0 gb1
      have HS := Lib.hid (show Calls Tryz.prog 10 #[.agg #[.int .i64 x00, .string s01, .int .i64 x02, .slice a03 n03 c03, .slice a04 n04 c04, .slice a05 n05 c05, .slice a06 n06 c06, .int .i64 x07, .int .i64 x08], .agg #[.int .i64 x00, .string s01, .int .i64 x02, .slice b03 n03 e03, .slice b04 n04 e04, .slice b05 n05 e05, .slice b06 n06 e06, .int .i64 0, .int .i64 0], .bool false] _ (Tr _) from hin wr.drew _ _ (hm.at_ (todrew HB.out)))
      clear hmf hm
      go_wp2_with fail
      go_region_held3 (fun w' => w'.cell? (ad.add (k * 9)) = some (.int .i64 x00) ∧ w'.cell? ⟨(ad.add (k * 9)).block, (ad.add (k * 9)).off + 1, none⟩ = some (.string s01) ∧ w'.cell? ⟨(ad.add (k * 9)).block, (ad.add (k * 9)).off + 2, none⟩ = some (.int .i64 x02) ∧ w'.cell? ⟨(ad.add (k * 9)).block, (ad.add (k * 9)).off + 3, none⟩ = some (.slice a03 n03 c03) ∧ w'.cell? ⟨(ad.add (k * 9)).block, (ad.add (k * 9)).off + 4, none⟩ = some (.slice a04 n04 c04) ∧ w'.cell? ⟨(ad.add (k * 9)).block, (ad.add (k * 9)).off + 5, none⟩ = some (.slice a05 n05 c05) ∧ w'.cell? ⟨(ad.add (k * 9)).block, (ad.add (k * 9)).off + 6, none⟩ = some (.slice a06 n06 c06) ∧ w'.cell? ⟨(ad.add (k * 9)).block, (ad.add (k * 9)).off + 7, none⟩ = some (.int .i64 x07) ∧ w'.cell? ⟨(ad.add (k * 9)).block, (ad.add (k * 9)).off + 8, none⟩ = some (.int .i64 x08) ∧ w'.cell? (bd.add (k * 9)) = some (.int .i64 x00) ∧ w'.cell? ⟨(bd.add (k * 9)).block, (bd.add (k * 9)).off + 1, none⟩ = some (.string s01) ∧ w'.cell? ⟨(bd.add (k * 9)).block, (bd.add (k * 9)).off + 2, none⟩ = some (.int .i64 x02) ∧ w'.cell? ⟨(bd.add (k * 9)).block, (bd.add (k * 9)).off + 3, none⟩ = some (.slice b03 n03 e03) ∧ w'.cell? ⟨(bd.add (k * 9)).block, (bd.add (k * 9)).off + 4, none⟩ = some (.slice b04 n04 e04) ∧ w'.cell? ⟨(bd.add (k * 9)).block, (bd.add (k * 9)).off + 5, none⟩ = some (.slice b05 n05 e05) ∧ w'.cell? ⟨(bd.add (k * 9)).block, (bd.add (k * 9)).off + 6, none⟩ = some (.slice b06 n06 e06) ∧ w'.cell? ⟨(bd.add (k * 9)).block, (bd.add (k * 9)).off + 7, none⟩ = some (.int .i64 0) ∧ w'.cell? ⟨(bd.add (k * 9)).block, (bd.add (k * 9)).off + 8, none⟩ = some (.int .i64 0))
        (first
          | exact ⟨z00, z01, z02, z03, z04, z05, z06, z07, z08, y00, y01, y02, y03, y04, y05, y06, y07, y08⟩
          | exact ⟨t0_0, t0_1, t0_2, t0_3, t0_4, t0_5, t0_6, t0_7, t0_8, t0_9, t0_10, t0_11, t0_12, t0_13, t0_14, t0_15, t0_16, t0_17⟩)
        (first
          | (go_at_call 10; refine HS.out.mono ?_; rintro e W0 ⟨rfl, hb⟩; replace hb := undrew hb; have HW0 := Lib.hid hb; have t0_0 := cellb z00 hb; have t0_1 := cellb z01 hb; have t0_2 := cellb z02 hb; have t0_3 := cellb z03 hb; have t0_4 := cellb z04 hb; have t0_5 := cellb z05 hb; have t0_6 := cellb z06 hb; have t0_7 := cellb z07 hb; have t0_8 := cellb z08 hb; have t0_9 := cellb y00 hb; have t0_10 := cellb y01 hb; have t0_11 := cellb y02 hb; have t0_12 := cellb y03 hb; have t0_13 := cellb y04 hb; have t0_14 := cellb y05 hb; have t0_15 := cellb y06 hb; have t0_16 := cellb y07 hb; have t0_17 := cellb y08 hb; clear hb))
      have HWL := Lib.hid HW0.out
      go_wp2_with fail
      go_roundg (n - (k + 1))
      case measure => have := HK.out; omega
      case rel => exact ⟨k + 1, by have := HK.out; omega, by go_num, HB.out.trans (HWL.out.mono HB.out.size)⟩
    · have hge : ¬ (k : Int) < n := by omega
      go_wp2_with fail
      go_ret
      exact ⟨rfl, HB.out⟩
end Go.Proofs.YtdajihpfedbihaaGreat.St
