/-
  CONTRACTS of layer parse: each of a row is copied without places (ty, pt, ex, rh, fx). Written by gen_steach.py.
-/
import Derived.Test.YtdajihpfedbihaaGreatGYa

namespace Go.Proofs.YtdajihpfedbihaaGreat.St
open Go.RowKit Mm Tm
set_option linter.unusedVariables false
set_option linter.unusedSimpArgs false
theorem info_ty : (Tryz.prog.info? 152).map (fun i => (i.zero, i.size, i.bytes)) = some (some (.agg #[.int .i64 0, .int .i64 0, .string ⟨#[]⟩, .slice none 0 0]), 4, 56) := by kernel_rfl
set_option maxRecDepth 100000 in
set_option maxHeartbeats 4000000 in
theorem each_ty {d S kf n c : Nat} {a : Option Addr} {C : Nat → List Value} (w : World) (hk : ∀ args w, (callFunc kf args).run Tryz.prog w = .ok (.enter kf args) w) (hcp : Cps kf .ty d) (hS : S ≤ w.heap.size) (hr : RowF (G (· < S) w d) (· < S) w .ty a n C) :
    Calls Tryz.prog 78 #[.slice a n c, .func (.func kf) #[] #[]] w (CpRow .ty d S n C w) := by
  obtain ⟨i0, hi0, hi1, hi2, hi3⟩ := info_parts info_ty
  have HN : n * 56 ≤ 140737488355328 := hr.1
  have HR := Lib.hid hr
  have HCP := Lib.hid hcp
  have HS := Lib.hid hS
  clear hr hcp hS
  go_enter Tryz.func78, Tryz.ntmps78
  go_wp2_with fail
  go_loopg [5, 10] n (fun dd v5 v wr => ∃ (k : Nat) (vs : List Value), k + dd = n ∧ v = .int .i64 k ∧ OwnM d .ty 152 S w.heap.size wr v5 k C vs ∧ Below w.heap.size w wr)
  case atStart => exact ⟨0, [], by omega, rfl, OwnM.nil _, Below.refl _ _⟩
  case round =>
    obtain ⟨k, vs, hk', rfl, ho, hb⟩ := hrel
    obtain ⟨aw, cw, rfl⟩ := ho.slice
    have HK := Lib.hid hk'
    have HO := Lib.hid ho
    have HB := Lib.hid hb
    have hkle : k ≤ n := by omega
    have hzB := hb.size
    clear hk' ho hb
    by_cases hlt : k < n
    · have hlt' : (k : Int) < n := by omega
      obtain ⟨ad, rfl, hz, -, g0, g1⟩ := HR.out.2.1 k hlt
      have hel := HR.out.2.2 k hlt
      have HCk := Lib.hid (rfl : C k = C k)
      obtain ⟨cs, hcs⟩ : ∃ cs, C k = cs := ⟨_, rfl⟩
      rw [hcs] at g0 g1 hel
      have HCS := Lib.hid hcs
      clear hcs
      obtain ⟨d1, -, hff⟩ := hel.ff
      obtain ⟨x0, x1, s2, a3, n3, c3, C3, rfl, -⟩ := inv_ty hff
      clear hff
      have hzw : ad.block < w.heap.size := Nat.lt_of_lt_of_le hz HS.out
      have z0 : wr.cell? (ad.add (k * 4)) = some (.int .i64 x0) := (HB.out.cell (by rw [add_block]; exact hzw)).trans (g0 _ rfl)
      have z1 : wr.cell? ⟨(ad.add (k * 4)).block, (ad.add (k * 4)).off + 1, none⟩ = some (.int .i64 x1) := (HB.out.cell (p := ⟨_, _, none⟩) (by show (ad.add _).block < _; rw [add_block]; exact hzw)).trans (g1 1 _ (by decide) rfl)
      have z2 : wr.cell? ⟨(ad.add (k * 4)).block, (ad.add (k * 4)).off + 2, none⟩ = some (.string s2) := (HB.out.cell (p := ⟨_, _, none⟩) (by show (ad.add _).block < _; rw [add_block]; exact hzw)).trans (g1 2 _ (by decide) rfl)
      have z3 : wr.cell? ⟨(ad.add (k * 4)).block, (ad.add (k * 4)).off + 3, none⟩ = some (.slice a3 n3 c3) := (HB.out.cell (p := ⟨_, _, none⟩) (by show (ad.add _).block < _; rw [add_block]; exact hzw)).trans (g1 3 _ (by decide) rfl)
      have hzl : (ad.add (k * 4)).block < wr.heap.size := by rw [add_block]; omega
      have HBA := Lib.hid (HB.out.alloc hzB (.cells #[.int .i64 x0, .int .i64 x1, .string s2, .slice a3 n3 c3] 152))
      have hS1 : S ≤ (wr.alloc (.cells #[.int .i64 x0, .int .i64 x1, .string s2, .slice a3 n3 c3] 152)).heap.size := Nat.le_trans HS.out HBA.out.size
      have HCX := Lib.hid (show Calls Tryz.prog kf #[.agg #[.int .i64 x0, .int .i64 x1, .string s2, .slice a3 n3 c3]] _ (CpPost .ty d S [.int .i64 x0, .int .i64 x1, .string s2, .slice a3 n3 c3] _) from HCP.out S _ _ hS1 (hel.frame (fun b hb => HBA.out.block b (Nat.lt_of_lt_of_le hb HS.out)) fun b hb => hb))
      have HOA := Lib.hid (HO.out.below ((Below.refl wr.heap.size wr).alloc (Nat.le_refl _) (.cells #[.int .i64 x0, .int .i64 x1, .string s2, .slice a3 n3 c3] 152)))
      clear hel g0 g1 hS1
      go_wp2_with fail
      refine HCX.out.mono ?_
      rintro e w3 ⟨ds, rfl, hm3, hb3⟩
      obtain ⟨d2, -, hmf⟩ := hm3.mf
      obtain ⟨u0, u1, v2, g3, m3, k3, b3, e3, P3, Q3, -, rfl, -⟩ := inw_ty hmf
      have HONE := Lib.hid hmf.one
      clear hmf
      have HB3 := Lib.hid (HBA.out.trans (hb3.mono HBA.out.size))
      have HSZ := Lib.hid (show wr.heap.size + 1 ≤ w3.heap.size by have := hb3.size; rw [World.size_alloc] at this; exact this)
      have HO3 := Lib.hid (HOA.out.below hb3)
      have HM3 := Lib.hid (show M (fun b => Zs S w.heap.size w3 b ∧ (Value.slice aw k cw).ownBlock ≠ some b) w3 d .ty (C k) [.int .i64 u0, .int .i64 u1, .string v2, .slice b3 m3 e3] from by
        rw [HCS.out]
        refine hm3.frame (fun _ _ => rfl) fun b hb => ⟨⟨hb.1.imp id fun q => Nat.le_trans HBA.out.size q, hb.2⟩, fun e => ?_⟩
        have h1 := HO.out.own.lt b e
        have h2 := HS.out
        have h3 := hb.1
        rw [World.size_alloc] at h3
        omega)
      clear hm3 hb3
      go_wp2_with (at_builtin; refine wpList_append_own_at _ rfl _ _ 90 rfl w.heap.size 152 i0 _ 4 56 Tryz.underlying90 hi0 hi1 hi2 hi3 rfl (by decide) _ _ _ rfl (HO3.out.own.alloc _) ⟨w3.heap.size, 0, none⟩ 1 1 [.int .i64 u0, .int .i64 u1, .string v2, .slice b3 m3 e3] rfl rfl (news_new w3 #[.int .i64 u0, .int .i64 u1, .string v2, .slice b3 m3 e3] 152) HONE.out (by unfold maxLen; omega) (by omega) (by have := HB3.out.size; simp; omega) ?_)
      intro v7 w7 hown hgrow _ hat
      have HO7 := Lib.hid (HO3.out.more (C := C) (new := [.int .i64 u0, .int .i64 u1, .string v2, .slice b3 m3 e3]) HM3.out rfl hown hgrow (by rwa [World.size_alloc]))
      have HB7 := Lib.hid ((HB3.out.alloc (by have := HB3.out.size; omega) (.cells #[.int .i64 u0, .int .i64 u1, .string v2, .slice b3 m3 e3] 152)).grown hgrow (by have := HB3.out.size; simp; omega) (fun q hq => (HO.out.own.lt q hq).1))
      obtain ⟨ay, cy, rfl⟩ := own_slice hown
      clear hown hgrow hat
      go_wp2_with fail
      go_roundg (n - (k + 1))
      case measure => have := HK.out; omega
      case rel => exact ⟨k + 1, _, by have := HK.out; omega, by go_num, HO7.out, HB7.out⟩
    · have hge : ¬ (k : Int) < n := by omega
      obtain rfl : k = n := by omega
      go_wp2_with fail
      go_ret
      exact ⟨aw, cw, _, rfl, HO.out.row, HO.out.all, HB.out⟩
theorem info_pt : (Tryz.prog.info? 83).map (fun i => (i.zero, i.size, i.bytes)) = some (some (.agg #[.int .i64 0, .string ⟨#[]⟩, .int .i64 0, .slice none 0 0, .int .i64 0, .int .i64 0]), 6, 72) := by kernel_rfl
set_option maxRecDepth 100000 in
set_option maxHeartbeats 4000000 in
theorem each_pt {d S kf n c : Nat} {a : Option Addr} {C : Nat → List Value} (w : World) (hk : ∀ args w, (callFunc kf args).run Tryz.prog w = .ok (.enter kf args) w) (hcp : Cps kf .pt d) (hS : S ≤ w.heap.size) (hr : RowF (G (· < S) w d) (· < S) w .pt a n C) :
    Calls Tryz.prog 80 #[.slice a n c, .func (.func kf) #[] #[]] w (CpRow .pt d S n C w) := by
  obtain ⟨i0, hi0, hi1, hi2, hi3⟩ := info_parts info_pt
  have HN : n * 72 ≤ 140737488355328 := hr.1
  have HR := Lib.hid hr
  have HCP := Lib.hid hcp
  have HS := Lib.hid hS
  clear hr hcp hS
  go_enter Tryz.func80, Tryz.ntmps80
  go_wp2_with fail
  go_loopg [5, 10] n (fun dd v5 v wr => ∃ (k : Nat) (vs : List Value), k + dd = n ∧ v = .int .i64 k ∧ OwnM d .pt 83 S w.heap.size wr v5 k C vs ∧ Below w.heap.size w wr)
  case atStart => exact ⟨0, [], by omega, rfl, OwnM.nil _, Below.refl _ _⟩
  case round =>
    obtain ⟨k, vs, hk', rfl, ho, hb⟩ := hrel
    obtain ⟨aw, cw, rfl⟩ := ho.slice
    have HK := Lib.hid hk'
    have HO := Lib.hid ho
    have HB := Lib.hid hb
    have hkle : k ≤ n := by omega
    have hzB := hb.size
    clear hk' ho hb
    by_cases hlt : k < n
    · have hlt' : (k : Int) < n := by omega
      obtain ⟨ad, rfl, hz, -, g0, g1⟩ := HR.out.2.1 k hlt
      have hel := HR.out.2.2 k hlt
      have HCk := Lib.hid (rfl : C k = C k)
      obtain ⟨cs, hcs⟩ : ∃ cs, C k = cs := ⟨_, rfl⟩
      rw [hcs] at g0 g1 hel
      have HCS := Lib.hid hcs
      clear hcs
      obtain ⟨d1, -, hff⟩ := hel.ff
      obtain ⟨x0, s1, x2, a3, n3, c3, C3, x4, x5, rfl, -⟩ := inv_pt hff
      clear hff
      have hzw : ad.block < w.heap.size := Nat.lt_of_lt_of_le hz HS.out
      have z0 : wr.cell? (ad.add (k * 6)) = some (.int .i64 x0) := (HB.out.cell (by rw [add_block]; exact hzw)).trans (g0 _ rfl)
      have z1 : wr.cell? ⟨(ad.add (k * 6)).block, (ad.add (k * 6)).off + 1, none⟩ = some (.string s1) := (HB.out.cell (p := ⟨_, _, none⟩) (by show (ad.add _).block < _; rw [add_block]; exact hzw)).trans (g1 1 _ (by decide) rfl)
      have z2 : wr.cell? ⟨(ad.add (k * 6)).block, (ad.add (k * 6)).off + 2, none⟩ = some (.int .i64 x2) := (HB.out.cell (p := ⟨_, _, none⟩) (by show (ad.add _).block < _; rw [add_block]; exact hzw)).trans (g1 2 _ (by decide) rfl)
      have z3 : wr.cell? ⟨(ad.add (k * 6)).block, (ad.add (k * 6)).off + 3, none⟩ = some (.slice a3 n3 c3) := (HB.out.cell (p := ⟨_, _, none⟩) (by show (ad.add _).block < _; rw [add_block]; exact hzw)).trans (g1 3 _ (by decide) rfl)
      have z4 : wr.cell? ⟨(ad.add (k * 6)).block, (ad.add (k * 6)).off + 4, none⟩ = some (.int .i64 x4) := (HB.out.cell (p := ⟨_, _, none⟩) (by show (ad.add _).block < _; rw [add_block]; exact hzw)).trans (g1 4 _ (by decide) rfl)
      have z5 : wr.cell? ⟨(ad.add (k * 6)).block, (ad.add (k * 6)).off + 5, none⟩ = some (.int .i64 x5) := (HB.out.cell (p := ⟨_, _, none⟩) (by show (ad.add _).block < _; rw [add_block]; exact hzw)).trans (g1 5 _ (by decide) rfl)
      have hzl : (ad.add (k * 6)).block < wr.heap.size := by rw [add_block]; omega
      have HBA := Lib.hid (HB.out.alloc hzB (.cells #[.int .i64 x0, .string s1, .int .i64 x2, .slice a3 n3 c3, .int .i64 x4, .int .i64 x5] 83))
      have hS1 : S ≤ (wr.alloc (.cells #[.int .i64 x0, .string s1, .int .i64 x2, .slice a3 n3 c3, .int .i64 x4, .int .i64 x5] 83)).heap.size := Nat.le_trans HS.out HBA.out.size
      have HCX := Lib.hid (show Calls Tryz.prog kf #[.agg #[.int .i64 x0, .string s1, .int .i64 x2, .slice a3 n3 c3, .int .i64 x4, .int .i64 x5]] _ (CpPost .pt d S [.int .i64 x0, .string s1, .int .i64 x2, .slice a3 n3 c3, .int .i64 x4, .int .i64 x5] _) from HCP.out S _ _ hS1 (hel.frame (fun b hb => HBA.out.block b (Nat.lt_of_lt_of_le hb HS.out)) fun b hb => hb))
      have HOA := Lib.hid (HO.out.below ((Below.refl wr.heap.size wr).alloc (Nat.le_refl _) (.cells #[.int .i64 x0, .string s1, .int .i64 x2, .slice a3 n3 c3, .int .i64 x4, .int .i64 x5] 83)))
      clear hel g0 g1 hS1
      go_wp2_with fail
      refine HCX.out.mono ?_
      rintro e w3 ⟨ds, rfl, hm3, hb3⟩
      obtain ⟨d2, -, hmf⟩ := hm3.mf
      obtain ⟨u0, v1, u2, g3, m3, k3, b3, e3, P3, Q3, u4, u5, -, rfl, -⟩ := inw_pt hmf
      have HONE := Lib.hid hmf.one
      clear hmf
      have HB3 := Lib.hid (HBA.out.trans (hb3.mono HBA.out.size))
      have HSZ := Lib.hid (show wr.heap.size + 1 ≤ w3.heap.size by have := hb3.size; rw [World.size_alloc] at this; exact this)
      have HO3 := Lib.hid (HOA.out.below hb3)
      have HM3 := Lib.hid (show M (fun b => Zs S w.heap.size w3 b ∧ (Value.slice aw k cw).ownBlock ≠ some b) w3 d .pt (C k) [.int .i64 u0, .string v1, .int .i64 u2, .slice b3 m3 e3, .int .i64 0, .int .i64 0] from by
        rw [HCS.out]
        refine hm3.frame (fun _ _ => rfl) fun b hb => ⟨⟨hb.1.imp id fun q => Nat.le_trans HBA.out.size q, hb.2⟩, fun e => ?_⟩
        have h1 := HO.out.own.lt b e
        have h2 := HS.out
        have h3 := hb.1
        rw [World.size_alloc] at h3
        omega)
      clear hm3 hb3
      go_wp2_with (at_builtin; refine wpList_append_own_at _ rfl _ _ 81 rfl w.heap.size 83 i0 _ 6 72 Tryz.underlying81 hi0 hi1 hi2 hi3 rfl (by decide) _ _ _ rfl (HO3.out.own.alloc _) ⟨w3.heap.size, 0, none⟩ 1 1 [.int .i64 u0, .string v1, .int .i64 u2, .slice b3 m3 e3, .int .i64 0, .int .i64 0] rfl rfl (news_new w3 #[.int .i64 u0, .string v1, .int .i64 u2, .slice b3 m3 e3, .int .i64 0, .int .i64 0] 83) HONE.out (by unfold maxLen; omega) (by omega) (by have := HB3.out.size; simp; omega) ?_)
      intro v7 w7 hown hgrow _ hat
      have HO7 := Lib.hid (HO3.out.more (C := C) (new := [.int .i64 u0, .string v1, .int .i64 u2, .slice b3 m3 e3, .int .i64 0, .int .i64 0]) HM3.out rfl hown hgrow (by rwa [World.size_alloc]))
      have HB7 := Lib.hid ((HB3.out.alloc (by have := HB3.out.size; omega) (.cells #[.int .i64 u0, .string v1, .int .i64 u2, .slice b3 m3 e3, .int .i64 0, .int .i64 0] 83)).grown hgrow (by have := HB3.out.size; simp; omega) (fun q hq => (HO.out.own.lt q hq).1))
      obtain ⟨ay, cy, rfl⟩ := own_slice hown
      clear hown hgrow hat
      go_wp2_with fail
      go_roundg (n - (k + 1))
      case measure => have := HK.out; omega
      case rel => exact ⟨k + 1, _, by have := HK.out; omega, by go_num, HO7.out, HB7.out⟩
    · have hge : ¬ (k : Int) < n := by omega
      obtain rfl : k = n := by omega
      go_wp2_with fail
      go_ret
      exact ⟨aw, cw, _, rfl, HO.out.row, HO.out.all, HB.out⟩
theorem info_ex : (Tryz.prog.info? 33).map (fun i => (i.zero, i.size, i.bytes)) = some (some (.agg #[.int .i64 0, .string ⟨#[]⟩, .int .i64 0, .slice none 0 0, .slice none 0 0, .slice none 0 0, .slice none 0 0, .int .i64 0, .int .i64 0]), 9, 144) := by kernel_rfl
set_option maxRecDepth 100000 in
set_option maxHeartbeats 4000000 in
theorem each_ex {d S kf n c : Nat} {a : Option Addr} {C : Nat → List Value} (w : World) (hk : ∀ args w, (callFunc kf args).run Tryz.prog w = .ok (.enter kf args) w) (hcp : Cps kf .ex d) (hS : S ≤ w.heap.size) (hr : RowF (G (· < S) w d) (· < S) w .ex a n C) :
    Calls Tryz.prog 29 #[.slice a n c, .func (.func kf) #[] #[]] w (CpRow .ex d S n C w) := by
  obtain ⟨i0, hi0, hi1, hi2, hi3⟩ := info_parts info_ex
  have HN : n * 144 ≤ 140737488355328 := hr.1
  have HR := Lib.hid hr
  have HCP := Lib.hid hcp
  have HS := Lib.hid hS
  clear hr hcp hS
  go_enter Tryz.func29, Tryz.ntmps29
  go_wp2_with fail
  go_loopg [5, 10] n (fun dd v5 v wr => ∃ (k : Nat) (vs : List Value), k + dd = n ∧ v = .int .i64 k ∧ OwnM d .ex 33 S w.heap.size wr v5 k C vs ∧ Below w.heap.size w wr)
  case atStart => exact ⟨0, [], by omega, rfl, OwnM.nil _, Below.refl _ _⟩
  case round =>
    obtain ⟨k, vs, hk', rfl, ho, hb⟩ := hrel
    obtain ⟨aw, cw, rfl⟩ := ho.slice
    have HK := Lib.hid hk'
    have HO := Lib.hid ho
    have HB := Lib.hid hb
    have hkle : k ≤ n := by omega
    have hzB := hb.size
    clear hk' ho hb
    by_cases hlt : k < n
    · have hlt' : (k : Int) < n := by omega
      obtain ⟨ad, rfl, hz, -, g0, g1⟩ := HR.out.2.1 k hlt
      have hel := HR.out.2.2 k hlt
      have HCk := Lib.hid (rfl : C k = C k)
      obtain ⟨cs, hcs⟩ : ∃ cs, C k = cs := ⟨_, rfl⟩
      rw [hcs] at g0 g1 hel
      have HCS := Lib.hid hcs
      clear hcs
      obtain ⟨d1, -, hff⟩ := hel.ff
      obtain ⟨x0, s1, x2, a3, n3, c3, S3, a4, n4, c4, C4, a5, n5, c5, C5, a6, n6, c6, C6, x7, x8, rfl, -⟩ := inv_ex hff
      clear hff
      have hzw : ad.block < w.heap.size := Nat.lt_of_lt_of_le hz HS.out
      have z0 : wr.cell? (ad.add (k * 9)) = some (.int .i64 x0) := (HB.out.cell (by rw [add_block]; exact hzw)).trans (g0 _ rfl)
      have z1 : wr.cell? ⟨(ad.add (k * 9)).block, (ad.add (k * 9)).off + 1, none⟩ = some (.string s1) := (HB.out.cell (p := ⟨_, _, none⟩) (by show (ad.add _).block < _; rw [add_block]; exact hzw)).trans (g1 1 _ (by decide) rfl)
      have z2 : wr.cell? ⟨(ad.add (k * 9)).block, (ad.add (k * 9)).off + 2, none⟩ = some (.int .i64 x2) := (HB.out.cell (p := ⟨_, _, none⟩) (by show (ad.add _).block < _; rw [add_block]; exact hzw)).trans (g1 2 _ (by decide) rfl)
      have z3 : wr.cell? ⟨(ad.add (k * 9)).block, (ad.add (k * 9)).off + 3, none⟩ = some (.slice a3 n3 c3) := (HB.out.cell (p := ⟨_, _, none⟩) (by show (ad.add _).block < _; rw [add_block]; exact hzw)).trans (g1 3 _ (by decide) rfl)
      have z4 : wr.cell? ⟨(ad.add (k * 9)).block, (ad.add (k * 9)).off + 4, none⟩ = some (.slice a4 n4 c4) := (HB.out.cell (p := ⟨_, _, none⟩) (by show (ad.add _).block < _; rw [add_block]; exact hzw)).trans (g1 4 _ (by decide) rfl)
      have z5 : wr.cell? ⟨(ad.add (k * 9)).block, (ad.add (k * 9)).off + 5, none⟩ = some (.slice a5 n5 c5) := (HB.out.cell (p := ⟨_, _, none⟩) (by show (ad.add _).block < _; rw [add_block]; exact hzw)).trans (g1 5 _ (by decide) rfl)
      have z6 : wr.cell? ⟨(ad.add (k * 9)).block, (ad.add (k * 9)).off + 6, none⟩ = some (.slice a6 n6 c6) := (HB.out.cell (p := ⟨_, _, none⟩) (by show (ad.add _).block < _; rw [add_block]; exact hzw)).trans (g1 6 _ (by decide) rfl)
      have z7 : wr.cell? ⟨(ad.add (k * 9)).block, (ad.add (k * 9)).off + 7, none⟩ = some (.int .i64 x7) := (HB.out.cell (p := ⟨_, _, none⟩) (by show (ad.add _).block < _; rw [add_block]; exact hzw)).trans (g1 7 _ (by decide) rfl)
      have z8 : wr.cell? ⟨(ad.add (k * 9)).block, (ad.add (k * 9)).off + 8, none⟩ = some (.int .i64 x8) := (HB.out.cell (p := ⟨_, _, none⟩) (by show (ad.add _).block < _; rw [add_block]; exact hzw)).trans (g1 8 _ (by decide) rfl)
      have hzl : (ad.add (k * 9)).block < wr.heap.size := by rw [add_block]; omega
      have HBA := Lib.hid (HB.out.alloc hzB (.cells #[.int .i64 x0, .string s1, .int .i64 x2, .slice a3 n3 c3, .slice a4 n4 c4, .slice a5 n5 c5, .slice a6 n6 c6, .int .i64 x7, .int .i64 x8] 33))
      have hS1 : S ≤ (wr.alloc (.cells #[.int .i64 x0, .string s1, .int .i64 x2, .slice a3 n3 c3, .slice a4 n4 c4, .slice a5 n5 c5, .slice a6 n6 c6, .int .i64 x7, .int .i64 x8] 33)).heap.size := Nat.le_trans HS.out HBA.out.size
      have HCX := Lib.hid (show Calls Tryz.prog kf #[.agg #[.int .i64 x0, .string s1, .int .i64 x2, .slice a3 n3 c3, .slice a4 n4 c4, .slice a5 n5 c5, .slice a6 n6 c6, .int .i64 x7, .int .i64 x8]] _ (CpPost .ex d S [.int .i64 x0, .string s1, .int .i64 x2, .slice a3 n3 c3, .slice a4 n4 c4, .slice a5 n5 c5, .slice a6 n6 c6, .int .i64 x7, .int .i64 x8] _) from HCP.out S _ _ hS1 (hel.frame (fun b hb => HBA.out.block b (Nat.lt_of_lt_of_le hb HS.out)) fun b hb => hb))
      have HOA := Lib.hid (HO.out.below ((Below.refl wr.heap.size wr).alloc (Nat.le_refl _) (.cells #[.int .i64 x0, .string s1, .int .i64 x2, .slice a3 n3 c3, .slice a4 n4 c4, .slice a5 n5 c5, .slice a6 n6 c6, .int .i64 x7, .int .i64 x8] 33)))
      clear hel g0 g1 hS1
      go_wp2_with fail
      refine HCX.out.mono ?_
      rintro e w3 ⟨ds, rfl, hm3, hb3⟩
      obtain ⟨d2, -, hmf⟩ := hm3.mf
      obtain ⟨u0, v1, u2, g3, m3, k3, b3, e3, R3, g4, m4, k4, b4, e4, P4, Q4, g5, m5, k5, b5, e5, P5, Q5, g6, m6, k6, b6, e6, P6, Q6, u7, u8, -, rfl, -⟩ := inw_ex hmf
      have HONE := Lib.hid hmf.one
      clear hmf
      have HB3 := Lib.hid (HBA.out.trans (hb3.mono HBA.out.size))
      have HSZ := Lib.hid (show wr.heap.size + 1 ≤ w3.heap.size by have := hb3.size; rw [World.size_alloc] at this; exact this)
      have HO3 := Lib.hid (HOA.out.below hb3)
      have HM3 := Lib.hid (show M (fun b => Zs S w.heap.size w3 b ∧ (Value.slice aw k cw).ownBlock ≠ some b) w3 d .ex (C k) [.int .i64 u0, .string v1, .int .i64 u2, .slice b3 m3 e3, .slice b4 m4 e4, .slice b5 m5 e5, .slice b6 m6 e6, .int .i64 0, .int .i64 0] from by
        rw [HCS.out]
        refine hm3.frame (fun _ _ => rfl) fun b hb => ⟨⟨hb.1.imp id fun q => Nat.le_trans HBA.out.size q, hb.2⟩, fun e => ?_⟩
        have h1 := HO.out.own.lt b e
        have h2 := HS.out
        have h3 := hb.1
        rw [World.size_alloc] at h3
        omega)
      clear hm3 hb3
      go_wp2_with (at_builtin; refine wpList_append_own_at _ rfl _ _ 28 rfl w.heap.size 33 i0 _ 9 144 Tryz.underlying28 hi0 hi1 hi2 hi3 rfl (by decide) _ _ _ rfl (HO3.out.own.alloc _) ⟨w3.heap.size, 0, none⟩ 1 1 [.int .i64 u0, .string v1, .int .i64 u2, .slice b3 m3 e3, .slice b4 m4 e4, .slice b5 m5 e5, .slice b6 m6 e6, .int .i64 0, .int .i64 0] rfl rfl (news_new w3 #[.int .i64 u0, .string v1, .int .i64 u2, .slice b3 m3 e3, .slice b4 m4 e4, .slice b5 m5 e5, .slice b6 m6 e6, .int .i64 0, .int .i64 0] 33) HONE.out (by unfold maxLen; omega) (by omega) (by have := HB3.out.size; simp; omega) ?_)
      intro v7 w7 hown hgrow _ hat
      have HO7 := Lib.hid (HO3.out.more (C := C) (new := [.int .i64 u0, .string v1, .int .i64 u2, .slice b3 m3 e3, .slice b4 m4 e4, .slice b5 m5 e5, .slice b6 m6 e6, .int .i64 0, .int .i64 0]) HM3.out rfl hown hgrow (by rwa [World.size_alloc]))
      have HB7 := Lib.hid ((HB3.out.alloc (by have := HB3.out.size; omega) (.cells #[.int .i64 u0, .string v1, .int .i64 u2, .slice b3 m3 e3, .slice b4 m4 e4, .slice b5 m5 e5, .slice b6 m6 e6, .int .i64 0, .int .i64 0] 33)).grown hgrow (by have := HB3.out.size; simp; omega) (fun q hq => (HO.out.own.lt q hq).1))
      obtain ⟨ay, cy, rfl⟩ := own_slice hown
      clear hown hgrow hat
      go_wp2_with fail
      go_roundg (n - (k + 1))
      case measure => have := HK.out; omega
      case rel => exact ⟨k + 1, _, by have := HK.out; omega, by go_num, HO7.out, HB7.out⟩
    · have hge : ¬ (k : Int) < n := by omega
      obtain rfl : k = n := by omega
      go_wp2_with fail
      go_ret
      exact ⟨aw, cw, _, rfl, HO.out.row, HO.out.all, HB.out⟩
theorem info_rh : (Tryz.prog.info? 102).map (fun i => (i.zero, i.size, i.bytes)) = some (some (.agg #[.slice none 0 0, .int .i64 0, .string ⟨#[]⟩, .int .i64 0, .slice none 0 0, .slice none 0 0, .slice none 0 0, .slice none 0 0, .int .i64 0, .int .i64 0]), 10, 168) := by kernel_rfl
set_option maxRecDepth 100000 in
set_option maxHeartbeats 4000000 in
theorem each_rh {d S kf n c : Nat} {a : Option Addr} {C : Nat → List Value} (w : World) (hk : ∀ args w, (callFunc kf args).run Tryz.prog w = .ok (.enter kf args) w) (hcp : Cps kf .rh d) (hS : S ≤ w.heap.size) (hr : RowF (G (· < S) w d) (· < S) w .rh a n C) :
    Calls Tryz.prog 55 #[.slice a n c, .func (.func kf) #[] #[]] w (CpRow .rh d S n C w) := by
  obtain ⟨i0, hi0, hi1, hi2, hi3⟩ := info_parts info_rh
  have HN : n * 168 ≤ 140737488355328 := hr.1
  have HR := Lib.hid hr
  have HCP := Lib.hid hcp
  have HS := Lib.hid hS
  clear hr hcp hS
  go_enter Tryz.func55, Tryz.ntmps55
  go_wp2_with fail
  go_loopg [5, 10] n (fun dd v5 v wr => ∃ (k : Nat) (vs : List Value), k + dd = n ∧ v = .int .i64 k ∧ OwnM d .rh 102 S w.heap.size wr v5 k C vs ∧ Below w.heap.size w wr)
  case atStart => exact ⟨0, [], by omega, rfl, OwnM.nil _, Below.refl _ _⟩
  case round =>
    obtain ⟨k, vs, hk', rfl, ho, hb⟩ := hrel
    obtain ⟨aw, cw, rfl⟩ := ho.slice
    have HK := Lib.hid hk'
    have HO := Lib.hid ho
    have HB := Lib.hid hb
    have hkle : k ≤ n := by omega
    have hzB := hb.size
    clear hk' ho hb
    by_cases hlt : k < n
    · have hlt' : (k : Int) < n := by omega
      obtain ⟨ad, rfl, hz, -, g0, g1⟩ := HR.out.2.1 k hlt
      have hel := HR.out.2.2 k hlt
      have HCk := Lib.hid (rfl : C k = C k)
      obtain ⟨cs, hcs⟩ : ∃ cs, C k = cs := ⟨_, rfl⟩
      rw [hcs] at g0 g1 hel
      have HCS := Lib.hid hcs
      clear hcs
      obtain ⟨d1, -, hff⟩ := hel.ff
      obtain ⟨a0, n0, c0, C0, x1, s2, x3, a4, n4, c4, S4, a5, n5, c5, C5, a6, n6, c6, C6, a7, n7, c7, C7, x8, x9, rfl, -⟩ := inv_rh hff
      clear hff
      have hzw : ad.block < w.heap.size := Nat.lt_of_lt_of_le hz HS.out
      have z0 : wr.cell? (ad.add (k * 10)) = some (.slice a0 n0 c0) := (HB.out.cell (by rw [add_block]; exact hzw)).trans (g0 _ rfl)
      have z1 : wr.cell? ⟨(ad.add (k * 10)).block, (ad.add (k * 10)).off + 1, none⟩ = some (.int .i64 x1) := (HB.out.cell (p := ⟨_, _, none⟩) (by show (ad.add _).block < _; rw [add_block]; exact hzw)).trans (g1 1 _ (by decide) rfl)
      have z2 : wr.cell? ⟨(ad.add (k * 10)).block, (ad.add (k * 10)).off + 2, none⟩ = some (.string s2) := (HB.out.cell (p := ⟨_, _, none⟩) (by show (ad.add _).block < _; rw [add_block]; exact hzw)).trans (g1 2 _ (by decide) rfl)
      have z3 : wr.cell? ⟨(ad.add (k * 10)).block, (ad.add (k * 10)).off + 3, none⟩ = some (.int .i64 x3) := (HB.out.cell (p := ⟨_, _, none⟩) (by show (ad.add _).block < _; rw [add_block]; exact hzw)).trans (g1 3 _ (by decide) rfl)
      have z4 : wr.cell? ⟨(ad.add (k * 10)).block, (ad.add (k * 10)).off + 4, none⟩ = some (.slice a4 n4 c4) := (HB.out.cell (p := ⟨_, _, none⟩) (by show (ad.add _).block < _; rw [add_block]; exact hzw)).trans (g1 4 _ (by decide) rfl)
      have z5 : wr.cell? ⟨(ad.add (k * 10)).block, (ad.add (k * 10)).off + 5, none⟩ = some (.slice a5 n5 c5) := (HB.out.cell (p := ⟨_, _, none⟩) (by show (ad.add _).block < _; rw [add_block]; exact hzw)).trans (g1 5 _ (by decide) rfl)
      have z6 : wr.cell? ⟨(ad.add (k * 10)).block, (ad.add (k * 10)).off + 6, none⟩ = some (.slice a6 n6 c6) := (HB.out.cell (p := ⟨_, _, none⟩) (by show (ad.add _).block < _; rw [add_block]; exact hzw)).trans (g1 6 _ (by decide) rfl)
      have z7 : wr.cell? ⟨(ad.add (k * 10)).block, (ad.add (k * 10)).off + 7, none⟩ = some (.slice a7 n7 c7) := (HB.out.cell (p := ⟨_, _, none⟩) (by show (ad.add _).block < _; rw [add_block]; exact hzw)).trans (g1 7 _ (by decide) rfl)
      have z8 : wr.cell? ⟨(ad.add (k * 10)).block, (ad.add (k * 10)).off + 8, none⟩ = some (.int .i64 x8) := (HB.out.cell (p := ⟨_, _, none⟩) (by show (ad.add _).block < _; rw [add_block]; exact hzw)).trans (g1 8 _ (by decide) rfl)
      have z9 : wr.cell? ⟨(ad.add (k * 10)).block, (ad.add (k * 10)).off + 9, none⟩ = some (.int .i64 x9) := (HB.out.cell (p := ⟨_, _, none⟩) (by show (ad.add _).block < _; rw [add_block]; exact hzw)).trans (g1 9 _ (by decide) rfl)
      have hzl : (ad.add (k * 10)).block < wr.heap.size := by rw [add_block]; omega
      have HBA := Lib.hid (HB.out.alloc hzB (.cells #[.slice a0 n0 c0, .int .i64 x1, .string s2, .int .i64 x3, .slice a4 n4 c4, .slice a5 n5 c5, .slice a6 n6 c6, .slice a7 n7 c7, .int .i64 x8, .int .i64 x9] 102))
      have hS1 : S ≤ (wr.alloc (.cells #[.slice a0 n0 c0, .int .i64 x1, .string s2, .int .i64 x3, .slice a4 n4 c4, .slice a5 n5 c5, .slice a6 n6 c6, .slice a7 n7 c7, .int .i64 x8, .int .i64 x9] 102)).heap.size := Nat.le_trans HS.out HBA.out.size
      have HCX := Lib.hid (show Calls Tryz.prog kf #[.agg #[.slice a0 n0 c0, .int .i64 x1, .string s2, .int .i64 x3, .slice a4 n4 c4, .slice a5 n5 c5, .slice a6 n6 c6, .slice a7 n7 c7, .int .i64 x8, .int .i64 x9]] _ (CpPost .rh d S [.slice a0 n0 c0, .int .i64 x1, .string s2, .int .i64 x3, .slice a4 n4 c4, .slice a5 n5 c5, .slice a6 n6 c6, .slice a7 n7 c7, .int .i64 x8, .int .i64 x9] _) from HCP.out S _ _ hS1 (hel.frame (fun b hb => HBA.out.block b (Nat.lt_of_lt_of_le hb HS.out)) fun b hb => hb))
      have HOA := Lib.hid (HO.out.below ((Below.refl wr.heap.size wr).alloc (Nat.le_refl _) (.cells #[.slice a0 n0 c0, .int .i64 x1, .string s2, .int .i64 x3, .slice a4 n4 c4, .slice a5 n5 c5, .slice a6 n6 c6, .slice a7 n7 c7, .int .i64 x8, .int .i64 x9] 102)))
      clear hel g0 g1 hS1
      go_wp2_with fail
      refine HCX.out.mono ?_
      rintro e w3 ⟨ds, rfl, hm3, hb3⟩
      obtain ⟨d2, -, hmf⟩ := hm3.mf
      obtain ⟨g0, m0, k0, b0, e0, P0, Q0, u1, v2, u3, g4, m4, k4, b4, e4, R4, g5, m5, k5, b5, e5, P5, Q5, g6, m6, k6, b6, e6, P6, Q6, g7, m7, k7, b7, e7, P7, Q7, u8, u9, -, rfl, -⟩ := inw_rh hmf
      have HONE := Lib.hid hmf.one
      clear hmf
      have HB3 := Lib.hid (HBA.out.trans (hb3.mono HBA.out.size))
      have HSZ := Lib.hid (show wr.heap.size + 1 ≤ w3.heap.size by have := hb3.size; rw [World.size_alloc] at this; exact this)
      have HO3 := Lib.hid (HOA.out.below hb3)
      have HM3 := Lib.hid (show M (fun b => Zs S w.heap.size w3 b ∧ (Value.slice aw k cw).ownBlock ≠ some b) w3 d .rh (C k) [.slice b0 m0 e0, .int .i64 u1, .string v2, .int .i64 u3, .slice b4 m4 e4, .slice b5 m5 e5, .slice b6 m6 e6, .slice b7 m7 e7, .int .i64 0, .int .i64 0] from by
        rw [HCS.out]
        refine hm3.frame (fun _ _ => rfl) fun b hb => ⟨⟨hb.1.imp id fun q => Nat.le_trans HBA.out.size q, hb.2⟩, fun e => ?_⟩
        have h1 := HO.out.own.lt b e
        have h2 := HS.out
        have h3 := hb.1
        rw [World.size_alloc] at h3
        omega)
      clear hm3 hb3
      go_wp2_with (at_builtin; refine wpList_append_own_at _ rfl _ _ 84 rfl w.heap.size 102 i0 _ 10 168 Tryz.underlying84 hi0 hi1 hi2 hi3 rfl (by decide) _ _ _ rfl (HO3.out.own.alloc _) ⟨w3.heap.size, 0, none⟩ 1 1 [.slice b0 m0 e0, .int .i64 u1, .string v2, .int .i64 u3, .slice b4 m4 e4, .slice b5 m5 e5, .slice b6 m6 e6, .slice b7 m7 e7, .int .i64 0, .int .i64 0] rfl rfl (news_new w3 #[.slice b0 m0 e0, .int .i64 u1, .string v2, .int .i64 u3, .slice b4 m4 e4, .slice b5 m5 e5, .slice b6 m6 e6, .slice b7 m7 e7, .int .i64 0, .int .i64 0] 102) HONE.out (by unfold maxLen; omega) (by omega) (by have := HB3.out.size; simp; omega) ?_)
      intro v7 w7 hown hgrow _ hat
      have HO7 := Lib.hid (HO3.out.more (C := C) (new := [.slice b0 m0 e0, .int .i64 u1, .string v2, .int .i64 u3, .slice b4 m4 e4, .slice b5 m5 e5, .slice b6 m6 e6, .slice b7 m7 e7, .int .i64 0, .int .i64 0]) HM3.out rfl hown hgrow (by rwa [World.size_alloc]))
      have HB7 := Lib.hid ((HB3.out.alloc (by have := HB3.out.size; omega) (.cells #[.slice b0 m0 e0, .int .i64 u1, .string v2, .int .i64 u3, .slice b4 m4 e4, .slice b5 m5 e5, .slice b6 m6 e6, .slice b7 m7 e7, .int .i64 0, .int .i64 0] 102)).grown hgrow (by have := HB3.out.size; simp; omega) (fun q hq => (HO.out.own.lt q hq).1))
      obtain ⟨ay, cy, rfl⟩ := own_slice hown
      clear hown hgrow hat
      go_wp2_with fail
      go_roundg (n - (k + 1))
      case measure => have := HK.out; omega
      case rel => exact ⟨k + 1, _, by have := HK.out; omega, by go_num, HO7.out, HB7.out⟩
    · have hge : ¬ (k : Int) < n := by omega
      obtain rfl : k = n := by omega
      go_wp2_with fail
      go_ret
      exact ⟨aw, cw, _, rfl, HO.out.row, HO.out.all, HB.out⟩
theorem info_fx : (Tryz.prog.info? 58).map (fun i => (i.zero, i.size, i.bytes)) = some (some (.agg #[.string ⟨#[]⟩, .int .i64 0, .int .i64 0, .int .i64 0, .int .i64 0]), 5, 48) := by kernel_rfl
set_option maxRecDepth 100000 in
set_option maxHeartbeats 4000000 in
theorem each_fx {d S kf n c : Nat} {a : Option Addr} {C : Nat → List Value} (w : World) (hk : ∀ args w, (callFunc kf args).run Tryz.prog w = .ok (.enter kf args) w) (hcp : Cps kf .fx d) (hS : S ≤ w.heap.size) (hr : RowF (G (· < S) w d) (· < S) w .fx a n C) :
    Calls Tryz.prog 24 #[.slice a n c, .func (.func kf) #[] #[]] w (CpRow .fx d S n C w) := by
  obtain ⟨i0, hi0, hi1, hi2, hi3⟩ := info_parts info_fx
  have HN : n * 48 ≤ 140737488355328 := hr.1
  have HR := Lib.hid hr
  have HCP := Lib.hid hcp
  have HS := Lib.hid hS
  clear hr hcp hS
  go_enter Tryz.func24, Tryz.ntmps24
  go_wp2_with fail
  go_loopg [5, 10] n (fun dd v5 v wr => ∃ (k : Nat) (vs : List Value), k + dd = n ∧ v = .int .i64 k ∧ OwnM d .fx 58 S w.heap.size wr v5 k C vs ∧ Below w.heap.size w wr)
  case atStart => exact ⟨0, [], by omega, rfl, OwnM.nil _, Below.refl _ _⟩
  case round =>
    obtain ⟨k, vs, hk', rfl, ho, hb⟩ := hrel
    obtain ⟨aw, cw, rfl⟩ := ho.slice
    have HK := Lib.hid hk'
    have HO := Lib.hid ho
    have HB := Lib.hid hb
    have hkle : k ≤ n := by omega
    have hzB := hb.size
    clear hk' ho hb
    by_cases hlt : k < n
    · have hlt' : (k : Int) < n := by omega
      obtain ⟨ad, rfl, hz, -, g0, g1⟩ := HR.out.2.1 k hlt
      have hel := HR.out.2.2 k hlt
      have HCk := Lib.hid (rfl : C k = C k)
      obtain ⟨cs, hcs⟩ : ∃ cs, C k = cs := ⟨_, rfl⟩
      rw [hcs] at g0 g1 hel
      have HCS := Lib.hid hcs
      clear hcs
      obtain ⟨d1, -, hff⟩ := hel.ff
      obtain ⟨s0, x1, x2, x3, x4, rfl, -⟩ := inv_fx hff
      clear hff
      have hzw : ad.block < w.heap.size := Nat.lt_of_lt_of_le hz HS.out
      have z0 : wr.cell? (ad.add (k * 5)) = some (.string s0) := (HB.out.cell (by rw [add_block]; exact hzw)).trans (g0 _ rfl)
      have z1 : wr.cell? ⟨(ad.add (k * 5)).block, (ad.add (k * 5)).off + 1, none⟩ = some (.int .i64 x1) := (HB.out.cell (p := ⟨_, _, none⟩) (by show (ad.add _).block < _; rw [add_block]; exact hzw)).trans (g1 1 _ (by decide) rfl)
      have z2 : wr.cell? ⟨(ad.add (k * 5)).block, (ad.add (k * 5)).off + 2, none⟩ = some (.int .i64 x2) := (HB.out.cell (p := ⟨_, _, none⟩) (by show (ad.add _).block < _; rw [add_block]; exact hzw)).trans (g1 2 _ (by decide) rfl)
      have z3 : wr.cell? ⟨(ad.add (k * 5)).block, (ad.add (k * 5)).off + 3, none⟩ = some (.int .i64 x3) := (HB.out.cell (p := ⟨_, _, none⟩) (by show (ad.add _).block < _; rw [add_block]; exact hzw)).trans (g1 3 _ (by decide) rfl)
      have z4 : wr.cell? ⟨(ad.add (k * 5)).block, (ad.add (k * 5)).off + 4, none⟩ = some (.int .i64 x4) := (HB.out.cell (p := ⟨_, _, none⟩) (by show (ad.add _).block < _; rw [add_block]; exact hzw)).trans (g1 4 _ (by decide) rfl)
      have hzl : (ad.add (k * 5)).block < wr.heap.size := by rw [add_block]; omega
      have HBA := Lib.hid (HB.out.alloc hzB (.cells #[.string s0, .int .i64 x1, .int .i64 x2, .int .i64 x3, .int .i64 x4] 58))
      have hS1 : S ≤ (wr.alloc (.cells #[.string s0, .int .i64 x1, .int .i64 x2, .int .i64 x3, .int .i64 x4] 58)).heap.size := Nat.le_trans HS.out HBA.out.size
      have HCX := Lib.hid (show Calls Tryz.prog kf #[.agg #[.string s0, .int .i64 x1, .int .i64 x2, .int .i64 x3, .int .i64 x4]] _ (CpPost .fx d S [.string s0, .int .i64 x1, .int .i64 x2, .int .i64 x3, .int .i64 x4] _) from HCP.out S _ _ hS1 (hel.frame (fun b hb => HBA.out.block b (Nat.lt_of_lt_of_le hb HS.out)) fun b hb => hb))
      have HOA := Lib.hid (HO.out.below ((Below.refl wr.heap.size wr).alloc (Nat.le_refl _) (.cells #[.string s0, .int .i64 x1, .int .i64 x2, .int .i64 x3, .int .i64 x4] 58)))
      clear hel g0 g1 hS1
      go_wp2_with fail
      refine HCX.out.mono ?_
      rintro e w3 ⟨ds, rfl, hm3, hb3⟩
      obtain ⟨d2, -, hmf⟩ := hm3.mf
      obtain ⟨v0, u1, u2, u3, u4, -, rfl, -⟩ := inw_fx hmf
      have HONE := Lib.hid hmf.one
      clear hmf
      have HB3 := Lib.hid (HBA.out.trans (hb3.mono HBA.out.size))
      have HSZ := Lib.hid (show wr.heap.size + 1 ≤ w3.heap.size by have := hb3.size; rw [World.size_alloc] at this; exact this)
      have HO3 := Lib.hid (HOA.out.below hb3)
      have HM3 := Lib.hid (show M (fun b => Zs S w.heap.size w3 b ∧ (Value.slice aw k cw).ownBlock ≠ some b) w3 d .fx (C k) [.string v0, .int .i64 u1, .int .i64 u2, .int .i64 0, .int .i64 0] from by
        rw [HCS.out]
        refine hm3.frame (fun _ _ => rfl) fun b hb => ⟨⟨hb.1.imp id fun q => Nat.le_trans HBA.out.size q, hb.2⟩, fun e => ?_⟩
        have h1 := HO.out.own.lt b e
        have h2 := HS.out
        have h3 := hb.1
        rw [World.size_alloc] at h3
        omega)
      clear hm3 hb3
      go_wp2_with (at_builtin; refine wpList_append_own_at _ rfl _ _ 23 rfl w.heap.size 58 i0 _ 5 48 Tryz.underlying23 hi0 hi1 hi2 hi3 rfl (by decide) _ _ _ rfl (HO3.out.own.alloc _) ⟨w3.heap.size, 0, none⟩ 1 1 [.string v0, .int .i64 u1, .int .i64 u2, .int .i64 0, .int .i64 0] rfl rfl (news_new w3 #[.string v0, .int .i64 u1, .int .i64 u2, .int .i64 0, .int .i64 0] 58) HONE.out (by unfold maxLen; omega) (by omega) (by have := HB3.out.size; simp; omega) ?_)
      intro v7 w7 hown hgrow _ hat
      have HO7 := Lib.hid (HO3.out.more (C := C) (new := [.string v0, .int .i64 u1, .int .i64 u2, .int .i64 0, .int .i64 0]) HM3.out rfl hown hgrow (by rwa [World.size_alloc]))
      have HB7 := Lib.hid ((HB3.out.alloc (by have := HB3.out.size; omega) (.cells #[.string v0, .int .i64 u1, .int .i64 u2, .int .i64 0, .int .i64 0] 58)).grown hgrow (by have := HB3.out.size; simp; omega) (fun q hq => (HO.out.own.lt q hq).1))
      obtain ⟨ay, cy, rfl⟩ := own_slice hown
      clear hown hgrow hat
      go_wp2_with fail
      go_roundg (n - (k + 1))
      case measure => have := HK.out; omega
      case rel => exact ⟨k + 1, _, by have := HK.out; omega, by go_num, HO7.out, HB7.out⟩
    · have hge : ¬ (k : Int) < n := by omega
      obtain rfl : k = n := by omega
      go_wp2_with fail
      go_ret
      exact ⟨aw, cw, _, rfl, HO.out.row, HO.out.all, HB.out⟩
end Go.Proofs.YtdajihpfedbihaaGreat.St
