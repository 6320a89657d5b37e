/-
  CONTRACTS of layer parse: each of a row is copied without places (cl, bd, al, cn, dt). Written by gen_steach.py.
-/
import Derived.Test.YtdajihpfedbihaaGreatGYa

namespace Go.Proofs.YtdajihpfedbihaaGreat.St
open Go.RowKit Mm Tm
set_option linter.unusedVariables false
set_option linter.unusedSimpArgs false
theorem info_cl : (Tryz.prog.info? 100).map (fun i => (i.zero, i.size, i.bytes)) = some (some (.agg #[.slice none 0 0, .slice none 0 0]), 2, 48) := by kernel_rfl
set_option maxRecDepth 100000 in
set_option maxHeartbeats 4000000 in
theorem each_cl {d S kf n c : Nat} {a : Option Addr} {C : Nat → List Value} (w : World) (hk : ∀ args w, (callFunc kf args).run Tryz.prog w = .ok (.enter kf args) w) (hcp : Cps kf .cl d) (hS : S ≤ w.heap.size) (hr : RowF (G (· < S) w d) (· < S) w .cl a n C) :
    Calls Tryz.prog 52 #[.slice a n c, .func (.func kf) #[] #[]] w (CpRow .cl d S n C w) := by
  obtain ⟨i0, hi0, hi1, hi2, hi3⟩ := info_parts info_cl
  have HN : n * 48 ≤ 140737488355328 := hr.1
  have HR := Lib.hid hr
  have HCP := Lib.hid hcp
  have HS := Lib.hid hS
  clear hr hcp hS
  go_enter Tryz.func52, Tryz.ntmps52
  go_wp2_with fail
  go_loopg [5, 10] n (fun dd v5 v wr => ∃ (k : Nat) (vs : List Value), k + dd = n ∧ v = .int .i64 k ∧ OwnM d .cl 100 S w.heap.size wr v5 k C vs ∧ Below w.heap.size w wr)
  case atStart => exact ⟨0, [], by omega, rfl, OwnM.nil _, Below.refl _ _⟩
  case round =>
    obtain ⟨k, vs, hk', rfl, ho, hb⟩ := hrel
    obtain ⟨aw, cw, rfl⟩ := ho.slice
    have HK := Lib.hid hk'
    have HO := Lib.hid ho
    have HB := Lib.hid hb
    have hkle : k ≤ n := by omega
    have hzB := hb.size
    clear hk' ho hb
    by_cases hlt : k < n
    · have hlt' : (k : Int) < n := by omega
      obtain ⟨ad, rfl, hz, -, g0, g1⟩ := HR.out.2.1 k hlt
      have hel := HR.out.2.2 k hlt
      have HCk := Lib.hid (rfl : C k = C k)
      obtain ⟨cs, hcs⟩ : ∃ cs, C k = cs := ⟨_, rfl⟩
      rw [hcs] at g0 g1 hel
      have HCS := Lib.hid hcs
      clear hcs
      obtain ⟨d1, -, hff⟩ := hel.ff
      obtain ⟨a0, n0, c0, C0, a1, n1, c1, C1, rfl, -⟩ := inv_cl hff
      clear hff
      have hzw : ad.block < w.heap.size := Nat.lt_of_lt_of_le hz HS.out
      have z0 : wr.cell? (ad.add (k * 2)) = some (.slice a0 n0 c0) := (HB.out.cell (by rw [add_block]; exact hzw)).trans (g0 _ rfl)
      have z1 : wr.cell? ⟨(ad.add (k * 2)).block, (ad.add (k * 2)).off + 1, none⟩ = some (.slice a1 n1 c1) := (HB.out.cell (p := ⟨_, _, none⟩) (by show (ad.add _).block < _; rw [add_block]; exact hzw)).trans (g1 1 _ (by decide) rfl)
      have hzl : (ad.add (k * 2)).block < wr.heap.size := by rw [add_block]; omega
      have HBA := Lib.hid (HB.out.alloc hzB (.cells #[.slice a0 n0 c0, .slice a1 n1 c1] 100))
      have hS1 : S ≤ (wr.alloc (.cells #[.slice a0 n0 c0, .slice a1 n1 c1] 100)).heap.size := Nat.le_trans HS.out HBA.out.size
      have HCX := Lib.hid (show Calls Tryz.prog kf #[.agg #[.slice a0 n0 c0, .slice a1 n1 c1]] _ (CpPost .cl d S [.slice a0 n0 c0, .slice a1 n1 c1] _) from HCP.out S _ _ hS1 (hel.frame (fun b hb => HBA.out.block b (Nat.lt_of_lt_of_le hb HS.out)) fun b hb => hb))
      have HOA := Lib.hid (HO.out.below ((Below.refl wr.heap.size wr).alloc (Nat.le_refl _) (.cells #[.slice a0 n0 c0, .slice a1 n1 c1] 100)))
      clear hel g0 g1 hS1
      go_wp2_with fail
      refine HCX.out.mono ?_
      rintro e w3 ⟨ds, rfl, hm3, hb3⟩
      obtain ⟨d2, -, hmf⟩ := hm3.mf
      obtain ⟨g0, m0, k0, b0, e0, P0, Q0, g1, m1, k1, b1, e1, P1, Q1, -, rfl, -⟩ := inw_cl hmf
      have HONE := Lib.hid hmf.one
      clear hmf
      have HB3 := Lib.hid (HBA.out.trans (hb3.mono HBA.out.size))
      have HSZ := Lib.hid (show wr.heap.size + 1 ≤ w3.heap.size by have := hb3.size; rw [World.size_alloc] at this; exact this)
      have HO3 := Lib.hid (HOA.out.below hb3)
      have HM3 := Lib.hid (show M (fun b => Zs S w.heap.size w3 b ∧ (Value.slice aw k cw).ownBlock ≠ some b) w3 d .cl (C k) [.slice b0 m0 e0, .slice b1 m1 e1] from by
        rw [HCS.out]
        refine hm3.frame (fun _ _ => rfl) fun b hb => ⟨⟨hb.1.imp id fun q => Nat.le_trans HBA.out.size q, hb.2⟩, fun e => ?_⟩
        have h1 := HO.out.own.lt b e
        have h2 := HS.out
        have h3 := hb.1
        rw [World.size_alloc] at h3
        omega)
      clear hm3 hb3
      go_wp2_with (at_builtin; refine wpList_append_own_at _ rfl _ _ 49 rfl w.heap.size 100 i0 _ 2 48 Tryz.underlying49 hi0 hi1 hi2 hi3 rfl (by decide) _ _ _ rfl (HO3.out.own.alloc _) ⟨w3.heap.size, 0, none⟩ 1 1 [.slice b0 m0 e0, .slice b1 m1 e1] rfl rfl (news_new w3 #[.slice b0 m0 e0, .slice b1 m1 e1] 100) HONE.out (by unfold maxLen; omega) (by omega) (by have := HB3.out.size; simp; omega) ?_)
      intro v7 w7 hown hgrow _ hat
      have HO7 := Lib.hid (HO3.out.more (C := C) (new := [.slice b0 m0 e0, .slice b1 m1 e1]) HM3.out rfl hown hgrow (by rwa [World.size_alloc]))
      have HB7 := Lib.hid ((HB3.out.alloc (by have := HB3.out.size; omega) (.cells #[.slice b0 m0 e0, .slice b1 m1 e1] 100)).grown hgrow (by have := HB3.out.size; simp; omega) (fun q hq => (HO.out.own.lt q hq).1))
      obtain ⟨ay, cy, rfl⟩ := own_slice hown
      clear hown hgrow hat
      go_wp2_with fail
      go_roundg (n - (k + 1))
      case measure => have := HK.out; omega
      case rel => exact ⟨k + 1, _, by have := HK.out; omega, by go_num, HO7.out, HB7.out⟩
    · have hge : ¬ (k : Int) < n := by omega
      obtain rfl : k = n := by omega
      go_wp2_with fail
      go_ret
      exact ⟨aw, cw, _, rfl, HO.out.row, HO.out.all, HB.out⟩
theorem info_bd : (Tryz.prog.info? 51).map (fun i => (i.zero, i.size, i.bytes)) = some (some (.agg #[.string ⟨#[]⟩, .slice none 0 0, .int .i64 0, .int .i64 0]), 4, 56) := by kernel_rfl
set_option maxRecDepth 100000 in
set_option maxHeartbeats 4000000 in
theorem each_bd {d S kf n c : Nat} {a : Option Addr} {C : Nat → List Value} (w : World) (hk : ∀ args w, (callFunc kf args).run Tryz.prog w = .ok (.enter kf args) w) (hcp : Cps kf .bd d) (hS : S ≤ w.heap.size) (hr : RowF (G (· < S) w d) (· < S) w .bd a n C) :
    Calls Tryz.prog 26 #[.slice a n c, .func (.func kf) #[] #[]] w (CpRow .bd d S n C w) := by
  obtain ⟨i0, hi0, hi1, hi2, hi3⟩ := info_parts info_bd
  have HN : n * 56 ≤ 140737488355328 := hr.1
  have HR := Lib.hid hr
  have HCP := Lib.hid hcp
  have HS := Lib.hid hS
  clear hr hcp hS
  go_enter Tryz.func26, Tryz.ntmps26
  go_wp2_with fail
  go_loopg [5, 10] n (fun dd v5 v wr => ∃ (k : Nat) (vs : List Value), k + dd = n ∧ v = .int .i64 k ∧ OwnM d .bd 51 S w.heap.size wr v5 k C vs ∧ Below w.heap.size w wr)
  case atStart => exact ⟨0, [], by omega, rfl, OwnM.nil _, Below.refl _ _⟩
  case round =>
    obtain ⟨k, vs, hk', rfl, ho, hb⟩ := hrel
    obtain ⟨aw, cw, rfl⟩ := ho.slice
    have HK := Lib.hid hk'
    have HO := Lib.hid ho
    have HB := Lib.hid hb
    have hkle : k ≤ n := by omega
    have hzB := hb.size
    clear hk' ho hb
    by_cases hlt : k < n
    · have hlt' : (k : Int) < n := by omega
      obtain ⟨ad, rfl, hz, -, g0, g1⟩ := HR.out.2.1 k hlt
      have hel := HR.out.2.2 k hlt
      have HCk := Lib.hid (rfl : C k = C k)
      obtain ⟨cs, hcs⟩ : ∃ cs, C k = cs := ⟨_, rfl⟩
      rw [hcs] at g0 g1 hel
      have HCS := Lib.hid hcs
      clear hcs
      obtain ⟨d1, -, hff⟩ := hel.ff
      obtain ⟨s0, a1, n1, c1, C1, x2, x3, rfl, -⟩ := inv_bd hff
      clear hff
      have hzw : ad.block < w.heap.size := Nat.lt_of_lt_of_le hz HS.out
      have z0 : wr.cell? (ad.add (k * 4)) = some (.string s0) := (HB.out.cell (by rw [add_block]; exact hzw)).trans (g0 _ rfl)
      have z1 : wr.cell? ⟨(ad.add (k * 4)).block, (ad.add (k * 4)).off + 1, none⟩ = some (.slice a1 n1 c1) := (HB.out.cell (p := ⟨_, _, none⟩) (by show (ad.add _).block < _; rw [add_block]; exact hzw)).trans (g1 1 _ (by decide) rfl)
      have z2 : wr.cell? ⟨(ad.add (k * 4)).block, (ad.add (k * 4)).off + 2, none⟩ = some (.int .i64 x2) := (HB.out.cell (p := ⟨_, _, none⟩) (by show (ad.add _).block < _; rw [add_block]; exact hzw)).trans (g1 2 _ (by decide) rfl)
      have z3 : wr.cell? ⟨(ad.add (k * 4)).block, (ad.add (k * 4)).off + 3, none⟩ = some (.int .i64 x3) := (HB.out.cell (p := ⟨_, _, none⟩) (by show (ad.add _).block < _; rw [add_block]; exact hzw)).trans (g1 3 _ (by decide) rfl)
      have hzl : (ad.add (k * 4)).block < wr.heap.size := by rw [add_block]; omega
      have HBA := Lib.hid (HB.out.alloc hzB (.cells #[.string s0, .slice a1 n1 c1, .int .i64 x2, .int .i64 x3] 51))
      have hS1 : S ≤ (wr.alloc (.cells #[.string s0, .slice a1 n1 c1, .int .i64 x2, .int .i64 x3] 51)).heap.size := Nat.le_trans HS.out HBA.out.size
      have HCX := Lib.hid (show Calls Tryz.prog kf #[.agg #[.string s0, .slice a1 n1 c1, .int .i64 x2, .int .i64 x3]] _ (CpPost .bd d S [.string s0, .slice a1 n1 c1, .int .i64 x2, .int .i64 x3] _) from HCP.out S _ _ hS1 (hel.frame (fun b hb => HBA.out.block b (Nat.lt_of_lt_of_le hb HS.out)) fun b hb => hb))
      have HOA := Lib.hid (HO.out.below ((Below.refl wr.heap.size wr).alloc (Nat.le_refl _) (.cells #[.string s0, .slice a1 n1 c1, .int .i64 x2, .int .i64 x3] 51)))
      clear hel g0 g1 hS1
      go_wp2_with fail
      refine HCX.out.mono ?_
      rintro e w3 ⟨ds, rfl, hm3, hb3⟩
      obtain ⟨d2, -, hmf⟩ := hm3.mf
      obtain ⟨v0, g1, m1, k1, b1, e1, P1, Q1, u2, u3, -, rfl, -⟩ := inw_bd hmf
      have HONE := Lib.hid hmf.one
      clear hmf
      have HB3 := Lib.hid (HBA.out.trans (hb3.mono HBA.out.size))
      have HSZ := Lib.hid (show wr.heap.size + 1 ≤ w3.heap.size by have := hb3.size; rw [World.size_alloc] at this; exact this)
      have HO3 := Lib.hid (HOA.out.below hb3)
      have HM3 := Lib.hid (show M (fun b => Zs S w.heap.size w3 b ∧ (Value.slice aw k cw).ownBlock ≠ some b) w3 d .bd (C k) [.string v0, .slice b1 m1 e1, .int .i64 0, .int .i64 0] from by
        rw [HCS.out]
        refine hm3.frame (fun _ _ => rfl) fun b hb => ⟨⟨hb.1.imp id fun q => Nat.le_trans HBA.out.size q, hb.2⟩, fun e => ?_⟩
        have h1 := HO.out.own.lt b e
        have h2 := HS.out
        have h3 := hb.1
        rw [World.size_alloc] at h3
        omega)
      clear hm3 hb3
      go_wp2_with (at_builtin; refine wpList_append_own_at _ rfl _ _ 24 rfl w.heap.size 51 i0 _ 4 56 Tryz.underlying24 hi0 hi1 hi2 hi3 rfl (by decide) _ _ _ rfl (HO3.out.own.alloc _) ⟨w3.heap.size, 0, none⟩ 1 1 [.string v0, .slice b1 m1 e1, .int .i64 0, .int .i64 0] rfl rfl (news_new w3 #[.string v0, .slice b1 m1 e1, .int .i64 0, .int .i64 0] 51) HONE.out (by unfold maxLen; omega) (by omega) (by have := HB3.out.size; simp; omega) ?_)
      intro v7 w7 hown hgrow _ hat
      have HO7 := Lib.hid (HO3.out.more (C := C) (new := [.string v0, .slice b1 m1 e1, .int .i64 0, .int .i64 0]) HM3.out rfl hown hgrow (by rwa [World.size_alloc]))
      have HB7 := Lib.hid ((HB3.out.alloc (by have := HB3.out.size; omega) (.cells #[.string v0, .slice b1 m1 e1, .int .i64 0, .int .i64 0] 51)).grown hgrow (by have := HB3.out.size; simp; omega) (fun q hq => (HO.out.own.lt q hq).1))
      obtain ⟨ay, cy, rfl⟩ := own_slice hown
      clear hown hgrow hat
      go_wp2_with fail
      go_roundg (n - (k + 1))
      case measure => have := HK.out; omega
      case rel => exact ⟨k + 1, _, by have := HK.out; omega, by go_num, HO7.out, HB7.out⟩
    · have hge : ¬ (k : Int) < n := by omega
      obtain rfl : k = n := by omega
      go_wp2_with fail
      go_ret
      exact ⟨aw, cw, _, rfl, HO.out.row, HO.out.all, HB.out⟩
theorem info_al : (Tryz.prog.info? 86).map (fun i => (i.zero, i.size, i.bytes)) = some (some (.agg #[.int .i64 0, .string ⟨#[]⟩, .int .i64 0, .slice none 0 0, .int .i64 0, .int .i64 0, .slice none 0 0]), 7, 96) := by kernel_rfl
set_option maxRecDepth 100000 in
set_option maxHeartbeats 4000000 in
theorem each_al {d S kf n c : Nat} {a : Option Addr} {C : Nat → List Value} (w : World) (hk : ∀ args w, (callFunc kf args).run Tryz.prog w = .ok (.enter kf args) w) (hcp : Cps kf .al d) (hS : S ≤ w.heap.size) (hr : RowF (G (· < S) w d) (· < S) w .al a n C) :
    Calls Tryz.prog 30 #[.slice a n c, .func (.func kf) #[] #[]] w (CpRow .al d S n C w) := by
  obtain ⟨i0, hi0, hi1, hi2, hi3⟩ := info_parts info_al
  have HN : n * 96 ≤ 140737488355328 := hr.1
  have HR := Lib.hid hr
  have HCP := Lib.hid hcp
  have HS := Lib.hid hS
  clear hr hcp hS
  go_enter Tryz.func30, Tryz.ntmps30
  go_wp2_with fail
  go_loopg [5, 10] n (fun dd v5 v wr => ∃ (k : Nat) (vs : List Value), k + dd = n ∧ v = .int .i64 k ∧ OwnM d .al 86 S w.heap.size wr v5 k C vs ∧ Below w.heap.size w wr)
  case atStart => exact ⟨0, [], by omega, rfl, OwnM.nil _, Below.refl _ _⟩
  case round =>
    obtain ⟨k, vs, hk', rfl, ho, hb⟩ := hrel
    obtain ⟨aw, cw, rfl⟩ := ho.slice
    have HK := Lib.hid hk'
    have HO := Lib.hid ho
    have HB := Lib.hid hb
    have hkle : k ≤ n := by omega
    have hzB := hb.size
    clear hk' ho hb
    by_cases hlt : k < n
    · have hlt' : (k : Int) < n := by omega
      obtain ⟨ad, rfl, hz, -, g0, g1⟩ := HR.out.2.1 k hlt
      have hel := HR.out.2.2 k hlt
      have HCk := Lib.hid (rfl : C k = C k)
      obtain ⟨cs, hcs⟩ : ∃ cs, C k = cs := ⟨_, rfl⟩
      rw [hcs] at g0 g1 hel
      have HCS := Lib.hid hcs
      clear hcs
      obtain ⟨d1, -, hff⟩ := hel.ff
      obtain ⟨x0, s1, x2, a3, n3, c3, C3, x4, x5, a6, n6, c6, C6, rfl, -⟩ := inv_al hff
      clear hff
      have hzw : ad.block < w.heap.size := Nat.lt_of_lt_of_le hz HS.out
      have z0 : wr.cell? (ad.add (k * 7)) = some (.int .i64 x0) := (HB.out.cell (by rw [add_block]; exact hzw)).trans (g0 _ rfl)
      have z1 : wr.cell? ⟨(ad.add (k * 7)).block, (ad.add (k * 7)).off + 1, none⟩ = some (.string s1) := (HB.out.cell (p := ⟨_, _, none⟩) (by show (ad.add _).block < _; rw [add_block]; exact hzw)).trans (g1 1 _ (by decide) rfl)
      have z2 : wr.cell? ⟨(ad.add (k * 7)).block, (ad.add (k * 7)).off + 2, none⟩ = some (.int .i64 x2) := (HB.out.cell (p := ⟨_, _, none⟩) (by show (ad.add _).block < _; rw [add_block]; exact hzw)).trans (g1 2 _ (by decide) rfl)
      have z3 : wr.cell? ⟨(ad.add (k * 7)).block, (ad.add (k * 7)).off + 3, none⟩ = some (.slice a3 n3 c3) := (HB.out.cell (p := ⟨_, _, none⟩) (by show (ad.add _).block < _; rw [add_block]; exact hzw)).trans (g1 3 _ (by decide) rfl)
      have z4 : wr.cell? ⟨(ad.add (k * 7)).block, (ad.add (k * 7)).off + 4, none⟩ = some (.int .i64 x4) := (HB.out.cell (p := ⟨_, _, none⟩) (by show (ad.add _).block < _; rw [add_block]; exact hzw)).trans (g1 4 _ (by decide) rfl)
      have z5 : wr.cell? ⟨(ad.add (k * 7)).block, (ad.add (k * 7)).off + 5, none⟩ = some (.int .i64 x5) := (HB.out.cell (p := ⟨_, _, none⟩) (by show (ad.add _).block < _; rw [add_block]; exact hzw)).trans (g1 5 _ (by decide) rfl)
      have z6 : wr.cell? ⟨(ad.add (k * 7)).block, (ad.add (k * 7)).off + 6, none⟩ = some (.slice a6 n6 c6) := (HB.out.cell (p := ⟨_, _, none⟩) (by show (ad.add _).block < _; rw [add_block]; exact hzw)).trans (g1 6 _ (by decide) rfl)
      have hzl : (ad.add (k * 7)).block < wr.heap.size := by rw [add_block]; omega
      have HBA := Lib.hid (HB.out.alloc hzB (.cells #[.int .i64 x0, .string s1, .int .i64 x2, .slice a3 n3 c3, .int .i64 x4, .int .i64 x5, .slice a6 n6 c6] 86))
      have hS1 : S ≤ (wr.alloc (.cells #[.int .i64 x0, .string s1, .int .i64 x2, .slice a3 n3 c3, .int .i64 x4, .int .i64 x5, .slice a6 n6 c6] 86)).heap.size := Nat.le_trans HS.out HBA.out.size
      have HCX := Lib.hid (show Calls Tryz.prog kf #[.agg #[.int .i64 x0, .string s1, .int .i64 x2, .slice a3 n3 c3, .int .i64 x4, .int .i64 x5, .slice a6 n6 c6]] _ (CpPost .al d S [.int .i64 x0, .string s1, .int .i64 x2, .slice a3 n3 c3, .int .i64 x4, .int .i64 x5, .slice a6 n6 c6] _) from HCP.out S _ _ hS1 (hel.frame (fun b hb => HBA.out.block b (Nat.lt_of_lt_of_le hb HS.out)) fun b hb => hb))
      have HOA := Lib.hid (HO.out.below ((Below.refl wr.heap.size wr).alloc (Nat.le_refl _) (.cells #[.int .i64 x0, .string s1, .int .i64 x2, .slice a3 n3 c3, .int .i64 x4, .int .i64 x5, .slice a6 n6 c6] 86)))
      clear hel g0 g1 hS1
      go_wp2_with fail
      refine HCX.out.mono ?_
      rintro e w3 ⟨ds, rfl, hm3, hb3⟩
      obtain ⟨d2, -, hmf⟩ := hm3.mf
      obtain ⟨u0, v1, u2, g3, m3, k3, b3, e3, P3, Q3, u4, u5, g6, m6, k6, b6, e6, P6, Q6, -, rfl, -⟩ := inw_al hmf
      have HONE := Lib.hid hmf.one
      clear hmf
      have HB3 := Lib.hid (HBA.out.trans (hb3.mono HBA.out.size))
      have HSZ := Lib.hid (show wr.heap.size + 1 ≤ w3.heap.size by have := hb3.size; rw [World.size_alloc] at this; exact this)
      have HO3 := Lib.hid (HOA.out.below hb3)
      have HM3 := Lib.hid (show M (fun b => Zs S w.heap.size w3 b ∧ (Value.slice aw k cw).ownBlock ≠ some b) w3 d .al (C k) [.int .i64 u0, .string v1, .int .i64 u2, .slice b3 m3 e3, .int .i64 0, .int .i64 0, .slice b6 m6 e6] from by
        rw [HCS.out]
        refine hm3.frame (fun _ _ => rfl) fun b hb => ⟨⟨hb.1.imp id fun q => Nat.le_trans HBA.out.size q, hb.2⟩, fun e => ?_⟩
        have h1 := HO.out.own.lt b e
        have h2 := HS.out
        have h3 := hb.1
        rw [World.size_alloc] at h3
        omega)
      clear hm3 hb3
      go_wp2_with (at_builtin; refine wpList_append_own_at _ rfl _ _ 29 rfl w.heap.size 86 i0 _ 7 96 Tryz.underlying29 hi0 hi1 hi2 hi3 rfl (by decide) _ _ _ rfl (HO3.out.own.alloc _) ⟨w3.heap.size, 0, none⟩ 1 1 [.int .i64 u0, .string v1, .int .i64 u2, .slice b3 m3 e3, .int .i64 0, .int .i64 0, .slice b6 m6 e6] rfl rfl (news_new w3 #[.int .i64 u0, .string v1, .int .i64 u2, .slice b3 m3 e3, .int .i64 0, .int .i64 0, .slice b6 m6 e6] 86) HONE.out (by unfold maxLen; omega) (by omega) (by have := HB3.out.size; simp; omega) ?_)
      intro v7 w7 hown hgrow _ hat
      have HO7 := Lib.hid (HO3.out.more (C := C) (new := [.int .i64 u0, .string v1, .int .i64 u2, .slice b3 m3 e3, .int .i64 0, .int .i64 0, .slice b6 m6 e6]) HM3.out rfl hown hgrow (by rwa [World.size_alloc]))
      have HB7 := Lib.hid ((HB3.out.alloc (by have := HB3.out.size; omega) (.cells #[.int .i64 u0, .string v1, .int .i64 u2, .slice b3 m3 e3, .int .i64 0, .int .i64 0, .slice b6 m6 e6] 86)).grown hgrow (by have := HB3.out.size; simp; omega) (fun q hq => (HO.out.own.lt q hq).1))
      obtain ⟨ay, cy, rfl⟩ := own_slice hown
      clear hown hgrow hat
      go_wp2_with fail
      go_roundg (n - (k + 1))
      case measure => have := HK.out; omega
      case rel => exact ⟨k + 1, _, by have := HK.out; omega, by go_num, HO7.out, HB7.out⟩
    · have hge : ¬ (k : Int) < n := by omega
      obtain rfl : k = n := by omega
      go_wp2_with fail
      go_ret
      exact ⟨aw, cw, _, rfl, HO.out.row, HO.out.all, HB.out⟩
theorem info_cn : (Tryz.prog.info? 92).map (fun i => (i.zero, i.size, i.bytes)) = some (some (.agg #[.string ⟨#[]⟩, .slice none 0 0, .int .i64 0, .int .i64 0]), 4, 56) := by kernel_rfl
set_option maxRecDepth 100000 in
set_option maxHeartbeats 4000000 in
theorem each_cn {d S kf n c : Nat} {a : Option Addr} {C : Nat → List Value} (w : World) (hk : ∀ args w, (callFunc kf args).run Tryz.prog w = .ok (.enter kf args) w) (hcp : Cps kf .cn d) (hS : S ≤ w.heap.size) (hr : RowF (G (· < S) w d) (· < S) w .cn a n C) :
    Calls Tryz.prog 50 #[.slice a n c, .func (.func kf) #[] #[]] w (CpRow .cn d S n C w) := by
  obtain ⟨i0, hi0, hi1, hi2, hi3⟩ := info_parts info_cn
  have HN : n * 56 ≤ 140737488355328 := hr.1
  have HR := Lib.hid hr
  have HCP := Lib.hid hcp
  have HS := Lib.hid hS
  clear hr hcp hS
  go_enter Tryz.func50, Tryz.ntmps50
  go_wp2_with fail
  go_loopg [5, 10] n (fun dd v5 v wr => ∃ (k : Nat) (vs : List Value), k + dd = n ∧ v = .int .i64 k ∧ OwnM d .cn 92 S w.heap.size wr v5 k C vs ∧ Below w.heap.size w wr)
  case atStart => exact ⟨0, [], by omega, rfl, OwnM.nil _, Below.refl _ _⟩
  case round =>
    obtain ⟨k, vs, hk', rfl, ho, hb⟩ := hrel
    obtain ⟨aw, cw, rfl⟩ := ho.slice
    have HK := Lib.hid hk'
    have HO := Lib.hid ho
    have HB := Lib.hid hb
    have hkle : k ≤ n := by omega
    have hzB := hb.size
    clear hk' ho hb
    by_cases hlt : k < n
    · have hlt' : (k : Int) < n := by omega
      obtain ⟨ad, rfl, hz, -, g0, g1⟩ := HR.out.2.1 k hlt
      have hel := HR.out.2.2 k hlt
      have HCk := Lib.hid (rfl : C k = C k)
      obtain ⟨cs, hcs⟩ : ∃ cs, C k = cs := ⟨_, rfl⟩
      rw [hcs] at g0 g1 hel
      have HCS := Lib.hid hcs
      clear hcs
      obtain ⟨d1, -, hff⟩ := hel.ff
      obtain ⟨s0, a1, n1, c1, C1, x2, x3, rfl, -⟩ := inv_cn hff
      clear hff
      have hzw : ad.block < w.heap.size := Nat.lt_of_lt_of_le hz HS.out
      have z0 : wr.cell? (ad.add (k * 4)) = some (.string s0) := (HB.out.cell (by rw [add_block]; exact hzw)).trans (g0 _ rfl)
      have z1 : wr.cell? ⟨(ad.add (k * 4)).block, (ad.add (k * 4)).off + 1, none⟩ = some (.slice a1 n1 c1) := (HB.out.cell (p := ⟨_, _, none⟩) (by show (ad.add _).block < _; rw [add_block]; exact hzw)).trans (g1 1 _ (by decide) rfl)
      have z2 : wr.cell? ⟨(ad.add (k * 4)).block, (ad.add (k * 4)).off + 2, none⟩ = some (.int .i64 x2) := (HB.out.cell (p := ⟨_, _, none⟩) (by show (ad.add _).block < _; rw [add_block]; exact hzw)).trans (g1 2 _ (by decide) rfl)
      have z3 : wr.cell? ⟨(ad.add (k * 4)).block, (ad.add (k * 4)).off + 3, none⟩ = some (.int .i64 x3) := (HB.out.cell (p := ⟨_, _, none⟩) (by show (ad.add _).block < _; rw [add_block]; exact hzw)).trans (g1 3 _ (by decide) rfl)
      have hzl : (ad.add (k * 4)).block < wr.heap.size := by rw [add_block]; omega
      have HBA := Lib.hid (HB.out.alloc hzB (.cells #[.string s0, .slice a1 n1 c1, .int .i64 x2, .int .i64 x3] 92))
      have hS1 : S ≤ (wr.alloc (.cells #[.string s0, .slice a1 n1 c1, .int .i64 x2, .int .i64 x3] 92)).heap.size := Nat.le_trans HS.out HBA.out.size
      have HCX := Lib.hid (show Calls Tryz.prog kf #[.agg #[.string s0, .slice a1 n1 c1, .int .i64 x2, .int .i64 x3]] _ (CpPost .cn d S [.string s0, .slice a1 n1 c1, .int .i64 x2, .int .i64 x3] _) from HCP.out S _ _ hS1 (hel.frame (fun b hb => HBA.out.block b (Nat.lt_of_lt_of_le hb HS.out)) fun b hb => hb))
      have HOA := Lib.hid (HO.out.below ((Below.refl wr.heap.size wr).alloc (Nat.le_refl _) (.cells #[.string s0, .slice a1 n1 c1, .int .i64 x2, .int .i64 x3] 92)))
      clear hel g0 g1 hS1
      go_wp2_with fail
      refine HCX.out.mono ?_
      rintro e w3 ⟨ds, rfl, hm3, hb3⟩
      obtain ⟨d2, -, hmf⟩ := hm3.mf
      obtain ⟨v0, g1, m1, k1, b1, e1, P1, Q1, u2, u3, -, rfl, -⟩ := inw_cn hmf
      have HONE := Lib.hid hmf.one
      clear hmf
      have HB3 := Lib.hid (HBA.out.trans (hb3.mono HBA.out.size))
      have HSZ := Lib.hid (show wr.heap.size + 1 ≤ w3.heap.size by have := hb3.size; rw [World.size_alloc] at this; exact this)
      have HO3 := Lib.hid (HOA.out.below hb3)
      have HM3 := Lib.hid (show M (fun b => Zs S w.heap.size w3 b ∧ (Value.slice aw k cw).ownBlock ≠ some b) w3 d .cn (C k) [.string v0, .slice b1 m1 e1, .int .i64 0, .int .i64 0] from by
        rw [HCS.out]
        refine hm3.frame (fun _ _ => rfl) fun b hb => ⟨⟨hb.1.imp id fun q => Nat.le_trans HBA.out.size q, hb.2⟩, fun e => ?_⟩
        have h1 := HO.out.own.lt b e
        have h2 := HS.out
        have h3 := hb.1
        rw [World.size_alloc] at h3
        omega)
      clear hm3 hb3
      go_wp2_with (at_builtin; refine wpList_append_own_at _ rfl _ _ 70 rfl w.heap.size 92 i0 _ 4 56 Tryz.underlying70 hi0 hi1 hi2 hi3 rfl (by decide) _ _ _ rfl (HO3.out.own.alloc _) ⟨w3.heap.size, 0, none⟩ 1 1 [.string v0, .slice b1 m1 e1, .int .i64 0, .int .i64 0] rfl rfl (news_new w3 #[.string v0, .slice b1 m1 e1, .int .i64 0, .int .i64 0] 92) HONE.out (by unfold maxLen; omega) (by omega) (by have := HB3.out.size; simp; omega) ?_)
      intro v7 w7 hown hgrow _ hat
      have HO7 := Lib.hid (HO3.out.more (C := C) (new := [.string v0, .slice b1 m1 e1, .int .i64 0, .int .i64 0]) HM3.out rfl hown hgrow (by rwa [World.size_alloc]))
      have HB7 := Lib.hid ((HB3.out.alloc (by have := HB3.out.size; omega) (.cells #[.string v0, .slice b1 m1 e1, .int .i64 0, .int .i64 0] 92)).grown hgrow (by have := HB3.out.size; simp; omega) (fun q hq => (HO.out.own.lt q hq).1))
      obtain ⟨ay, cy, rfl⟩ := own_slice hown
      clear hown hgrow hat
      go_wp2_with fail
      go_roundg (n - (k + 1))
      case measure => have := HK.out; omega
      case rel => exact ⟨k + 1, _, by have := HK.out; omega, by go_num, HO7.out, HB7.out⟩
    · have hge : ¬ (k : Int) < n := by omega
      obtain rfl : k = n := by omega
      go_wp2_with fail
      go_ret
      exact ⟨aw, cw, _, rfl, HO.out.row, HO.out.all, HB.out⟩
theorem info_dt : (Tryz.prog.info? 72).map (fun i => (i.zero, i.size, i.bytes)) = some (some (.agg #[.string ⟨#[]⟩, .slice none 0 0, .slice none 0 0, .int .i64 0, .int .i64 0]), 5, 80) := by kernel_rfl
set_option maxRecDepth 100000 in
set_option maxHeartbeats 4000000 in
theorem each_dt {d S kf n c : Nat} {a : Option Addr} {C : Nat → List Value} (w : World) (hk : ∀ args w, (callFunc kf args).run Tryz.prog w = .ok (.enter kf args) w) (hcp : Cps kf .dt d) (hS : S ≤ w.heap.size) (hr : RowF (G (· < S) w d) (· < S) w .dt a n C) :
    Calls Tryz.prog 22 #[.slice a n c, .func (.func kf) #[] #[]] w (CpRow .dt d S n C w) := by
  obtain ⟨i0, hi0, hi1, hi2, hi3⟩ := info_parts info_dt
  have HN : n * 80 ≤ 140737488355328 := hr.1
  have HR := Lib.hid hr
  have HCP := Lib.hid hcp
  have HS := Lib.hid hS
  clear hr hcp hS
  go_enter Tryz.func22, Tryz.ntmps22
  go_wp2_with fail
  go_loopg [5, 10] n (fun dd v5 v wr => ∃ (k : Nat) (vs : List Value), k + dd = n ∧ v = .int .i64 k ∧ OwnM d .dt 72 S w.heap.size wr v5 k C vs ∧ Below w.heap.size w wr)
  case atStart => exact ⟨0, [], by omega, rfl, OwnM.nil _, Below.refl _ _⟩
  case round =>
    obtain ⟨k, vs, hk', rfl, ho, hb⟩ := hrel
    obtain ⟨aw, cw, rfl⟩ := ho.slice
    have HK := Lib.hid hk'
    have HO := Lib.hid ho
    have HB := Lib.hid hb
    have hkle : k ≤ n := by omega
    have hzB := hb.size
    clear hk' ho hb
    by_cases hlt : k < n
    · have hlt' : (k : Int) < n := by omega
      obtain ⟨ad, rfl, hz, -, g0, g1⟩ := HR.out.2.1 k hlt
      have hel := HR.out.2.2 k hlt
      have HCk := Lib.hid (rfl : C k = C k)
      obtain ⟨cs, hcs⟩ : ∃ cs, C k = cs := ⟨_, rfl⟩
      rw [hcs] at g0 g1 hel
      have HCS := Lib.hid hcs
      clear hcs
      obtain ⟨d1, -, hff⟩ := hel.ff
      obtain ⟨s0, a1, n1, c1, S1, a2, n2, c2, C2, x3, x4, rfl, -⟩ := inv_dt hff
      clear hff
      have hzw : ad.block < w.heap.size := Nat.lt_of_lt_of_le hz HS.out
      have z0 : wr.cell? (ad.add (k * 5)) = some (.string s0) := (HB.out.cell (by rw [add_block]; exact hzw)).trans (g0 _ rfl)
      have z1 : wr.cell? ⟨(ad.add (k * 5)).block, (ad.add (k * 5)).off + 1, none⟩ = some (.slice a1 n1 c1) := (HB.out.cell (p := ⟨_, _, none⟩) (by show (ad.add _).block < _; rw [add_block]; exact hzw)).trans (g1 1 _ (by decide) rfl)
      have z2 : wr.cell? ⟨(ad.add (k * 5)).block, (ad.add (k * 5)).off + 2, none⟩ = some (.slice a2 n2 c2) := (HB.out.cell (p := ⟨_, _, none⟩) (by show (ad.add _).block < _; rw [add_block]; exact hzw)).trans (g1 2 _ (by decide) rfl)
      have z3 : wr.cell? ⟨(ad.add (k * 5)).block, (ad.add (k * 5)).off + 3, none⟩ = some (.int .i64 x3) := (HB.out.cell (p := ⟨_, _, none⟩) (by show (ad.add _).block < _; rw [add_block]; exact hzw)).trans (g1 3 _ (by decide) rfl)
      have z4 : wr.cell? ⟨(ad.add (k * 5)).block, (ad.add (k * 5)).off + 4, none⟩ = some (.int .i64 x4) := (HB.out.cell (p := ⟨_, _, none⟩) (by show (ad.add _).block < _; rw [add_block]; exact hzw)).trans (g1 4 _ (by decide) rfl)
      have hzl : (ad.add (k * 5)).block < wr.heap.size := by rw [add_block]; omega
      have HBA := Lib.hid (HB.out.alloc hzB (.cells #[.string s0, .slice a1 n1 c1, .slice a2 n2 c2, .int .i64 x3, .int .i64 x4] 72))
      have hS1 : S ≤ (wr.alloc (.cells #[.string s0, .slice a1 n1 c1, .slice a2 n2 c2, .int .i64 x3, .int .i64 x4] 72)).heap.size := Nat.le_trans HS.out HBA.out.size
      have HCX := Lib.hid (show Calls Tryz.prog kf #[.agg #[.string s0, .slice a1 n1 c1, .slice a2 n2 c2, .int .i64 x3, .int .i64 x4]] _ (CpPost .dt d S [.string s0, .slice a1 n1 c1, .slice a2 n2 c2, .int .i64 x3, .int .i64 x4] _) from HCP.out S _ _ hS1 (hel.frame (fun b hb => HBA.out.block b (Nat.lt_of_lt_of_le hb HS.out)) fun b hb => hb))
      have HOA := Lib.hid (HO.out.below ((Below.refl wr.heap.size wr).alloc (Nat.le_refl _) (.cells #[.string s0, .slice a1 n1 c1, .slice a2 n2 c2, .int .i64 x3, .int .i64 x4] 72)))
      clear hel g0 g1 hS1
      go_wp2_with fail
      refine HCX.out.mono ?_
      rintro e w3 ⟨ds, rfl, hm3, hb3⟩
      obtain ⟨d2, -, hmf⟩ := hm3.mf
      obtain ⟨v0, g1, m1, k1, b1, e1, R1, g2, m2, k2, b2, e2, P2, Q2, u3, u4, -, rfl, -⟩ := inw_dt hmf
      have HONE := Lib.hid hmf.one
      clear hmf
      have HB3 := Lib.hid (HBA.out.trans (hb3.mono HBA.out.size))
      have HSZ := Lib.hid (show wr.heap.size + 1 ≤ w3.heap.size by have := hb3.size; rw [World.size_alloc] at this; exact this)
      have HO3 := Lib.hid (HOA.out.below hb3)
      have HM3 := Lib.hid (show M (fun b => Zs S w.heap.size w3 b ∧ (Value.slice aw k cw).ownBlock ≠ some b) w3 d .dt (C k) [.string v0, .slice b1 m1 e1, .slice b2 m2 e2, .int .i64 0, .int .i64 0] from by
        rw [HCS.out]
        refine hm3.frame (fun _ _ => rfl) fun b hb => ⟨⟨hb.1.imp id fun q => Nat.le_trans HBA.out.size q, hb.2⟩, fun e => ?_⟩
        have h1 := HO.out.own.lt b e
        have h2 := HS.out
        have h3 := hb.1
        rw [World.size_alloc] at h3
        omega)
      clear hm3 hb3
      go_wp2_with (at_builtin; refine wpList_append_own_at _ rfl _ _ 22 rfl w.heap.size 72 i0 _ 5 80 Tryz.underlying22 hi0 hi1 hi2 hi3 rfl (by decide) _ _ _ rfl (HO3.out.own.alloc _) ⟨w3.heap.size, 0, none⟩ 1 1 [.string v0, .slice b1 m1 e1, .slice b2 m2 e2, .int .i64 0, .int .i64 0] rfl rfl (news_new w3 #[.string v0, .slice b1 m1 e1, .slice b2 m2 e2, .int .i64 0, .int .i64 0] 72) HONE.out (by unfold maxLen; omega) (by omega) (by have := HB3.out.size; simp; omega) ?_)
      intro v7 w7 hown hgrow _ hat
      have HO7 := Lib.hid (HO3.out.more (C := C) (new := [.string v0, .slice b1 m1 e1, .slice b2 m2 e2, .int .i64 0, .int .i64 0]) HM3.out rfl hown hgrow (by rwa [World.size_alloc]))
      have HB7 := Lib.hid ((HB3.out.alloc (by have := HB3.out.size; omega) (.cells #[.string v0, .slice b1 m1 e1, .slice b2 m2 e2, .int .i64 0, .int .i64 0] 72)).grown hgrow (by have := HB3.out.size; simp; omega) (fun q hq => (HO.out.own.lt q hq).1))
      obtain ⟨ay, cy, rfl⟩ := own_slice hown
      clear hown hgrow hat
      go_wp2_with fail
      go_roundg (n - (k + 1))
      case measure => have := HK.out; omega
      case rel => exact ⟨k + 1, _, by have := HK.out; omega, by go_num, HO7.out, HB7.out⟩
    · have hge : ¬ (k : Int) < n := by omega
      obtain rfl : k = n := by omega
      go_wp2_with fail
      go_ret
      exact ⟨aw, cw, _, rfl, HO.out.row, HO.out.all, HB.out⟩
end Go.Proofs.YtdajihpfedbihaaGreat.St
