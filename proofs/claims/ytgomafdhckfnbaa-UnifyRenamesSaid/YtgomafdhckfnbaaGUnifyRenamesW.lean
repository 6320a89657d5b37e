/-
  The walk of the law changelinglaw10.UnifyRenames: types that differ in their variables' numbers alone have one renamed form, which is its own.
-/
import Derived.Test.YtgomafdhckfnbaaGE
import Derived.Test.YtgomafdhckfnbaaGH

namespace Go.Proofs.Ytgomafdhckfnbaa.UnifyRenames
open Go.RowKit Go.Shelf Mm Tm Mk Rn Un Go.Maps Go.ChangeMaps Go.MapKept Go.WideMaps
set_option linter.unusedVariables false
set_option linter.unusedSimpArgs false
theorem okT_sub {f : Int → Option Ty} (hf : ∀ n y, f n = some y → okTy y = true) : ∀ t : Tys, okT t = true → okT (subT f t) = true
  | .nil, _ => rfl
  | .cons kd n nm args rest, h => by
    rw [okT, Bool.and_eq_true] at h
    have h2 := okT_sub hf rest h.2
    rw [subT]
    by_cases hk : kd = 1
    · rw [if_pos hk] at h
      rw [if_pos hk]
      cases e : f n with
      | none =>
        rw [okT, h2, if_pos hk, h.1]
        rfl
      | some y =>
        rw [okT, h2, Bool.and_true]
        exact hf n y e
    · rw [if_neg hk, Bool.and_eq_true] at h
      rw [if_neg hk, okT, h2, if_neg hk, subT_len, h.1.1, okT_sub hf args h.1.2]
      rfl
theorem ok_sub1 {f : Int → Option Ty} (hf : ∀ n y, f n = some y → okTy y = true) {x : Ty} (h : okTy x = true) : okTy (sub1 f x) = true := by
  unfold sub1
  by_cases hk : x.kd = 1
  · rw [if_pos hk]
    cases e : f x.n with
    | none => exact h
    | some y => exact hf _ _ e
  · rw [if_neg hk]
    unfold okTy at h ⊢
    rw [if_neg hk, Bool.and_eq_true] at h
    simp only [if_neg hk]
    rw [subT_len, h.1, okT_sub hf _ h.2]
    rfl
theorem nodes_sub {f : Int → Option Ty} (hf : ∀ n y, f n = some y → y.args = .nil) : ∀ t : Tys, (subT f t).nodes ≤ t.nodes
  | .nil => Nat.le_refl _
  | .cons kd n nm args rest => by
    have h2 := nodes_sub hf rest
    have h1 := nodes_sub hf args
    rw [subT]
    split
    · split
      · rename_i y e
        rw [Tys.nodes, hf n y e, Tys.nodes, Tys.nodes]
        omega
      · rw [Tys.nodes, Tys.nodes]; omega
    · rw [Tys.nodes, Tys.nodes]; omega
theorem nodes_sub1 {f : Int → Option Ty} (hf : ∀ n y, f n = some y → y.args = .nil) (x : Ty) : (sub1 f x).args.nodes ≤ x.args.nodes := by
  unfold sub1
  split
  · cases e : f x.n with
    | none => exact Nat.le_refl _
    | some y => rw [Option.getD_some, hf _ _ e]; exact Nat.zero_le _
  · exact nodes_sub hf _
theorem rn_some {l : List Int} {g : Nat → Int} {n : Int} {y : Ty} (h : rn l g n = some y) : ∃ i, i < l.length ∧ y = vr (g i) := by
  unfold rn at h
  obtain ⟨i, hi, rfl⟩ := Option.map_eq_some_iff.1 h
  exact ⟨i, idx_lt hi, rfl⟩
theorem ok_vr {n : Int} (h0 : 0 ≤ n) (h1 : n ≤ 1073741824) : okTy (vr n) = true := by
  unfold okTy vr headV
  rw [if_pos rfl, decide_eq_true h0, decide_eq_true h1]
  rfl
/-- what the law's own calls end with -/
def OkB (w : World) (e : Ending) (w' : World) : Prop := e = .returned (.bool true) ∧ Below w.heap.size w w'
set_option maxRecDepth 100000 in
set_option maxHeartbeats 8000000 in
theorem law (x : Ty) (a : Option Addr) (c : Nat) (k : Int) (hk0 : -9223372036854775808 ≤ k) (hk1 : k ≤ 9223372036854775807) (w : World) (hq : x.nm.size ≤ 9223372036854775807 ∧ x.args.len * 56 ≤ 140737488355328 ∧ RdT (· < w.heap.size) w a x.args 0) :
    Calls Try.prog 7 #[.agg #[.int .i64 x.kd, .int .i64 x.n, .string x.nm, .slice a x.args.len c], .int .i64 k] w fun e w' => e = .returned (.bool true) ∧ Below w.heap.size w w' := by
  obtain ⟨i0, hi, hz0, hz1, hz2'⟩ := info_parts Ttype
  obtain ⟨hnx, hlx, hr⟩ := hq
  obtain ⟨W0, hW0⟩ : ∃ W0, w.alloc (.cells #[.int .i64 x.kd, .int .i64 x.n, .string x.nm, .slice a x.args.len c] TT) = W0 := ⟨_, rfl⟩
  have hB0 : Below w.heap.size w W0 := by rw [← hW0]; exact (Below.refl w.heap.size w).alloc (Nat.le_refl _) _
  have hX0 : Box W0 w.heap.size TT #[.int .i64 x.kd, .int .i64 x.n, .string x.nm, .slice a x.args.len c] := by rw [← hW0]; exact Box.new w _ _
  have hr0 := hr.below hB0 fun q h => h
  have hw0 : w.heap.size ≤ W0.heap.size := hB0.size
  have HRI := Lib.hid (rright_any x.args.nodes x (Nat.le_refl _) a c W0 hr0 (fun q h => by omega) hlx)
  unfold tyV at HRI
  obtain ⟨x0, x1, x2, x3, _⟩ := hX0.cells4
  have HB0 := Lib.hid hB0
  have HX0 := Lib.hid hX0
  have HR := Lib.hid (And.intro hnx (And.intro hlx hr))
  clear hnx hlx hr hB0 hX0 hr0
  go_enter Try.func7, Try.ntmps7
  by_cases hok : okTy x = true
  case neg =>
    have hok' : okTy x = false := by simpa using hok
    rw [hok'] at HRI
    clear hok hok'
    go_wp2_with fail
    refine HRI.out.mono ?_
    rintro e W1 ⟨rfl, hb1⟩
    have HB1 := Lib.hid (HB0.out.trans (hb1.mono HB0.out.size))
    clear hb1 hW0 x0 x1 x2 x3
    go_wp2_with fail
    refine (known_any W1).mono ?_
    rintro e W2 ⟨rfl, hb2⟩
    have HB2 := Lib.hid (HB1.out.trans (hb2.mono HB1.out.size))
    clear hb2
    go_wp2_with fail
    go_ret
    exact ⟨rfl, HB2.out⟩
  rw [hok] at HRI
  have HOK := Lib.hid hok
  clear hok
  go_wp2_with fail
  refine HRI.out.mono ?_
  rintro e W1 ⟨rfl, hb1⟩
  have HB1 := Lib.hid (HB0.out.trans (hb1.mono HB0.out.size))
  have HX1 := Lib.hid (HX0.out.below hb1 HX0.out.lt)
  have HSZ := Lib.hid (rsize_any x.args.nodes x (Nat.le_refl _) a c 300 W1 (by decide) (HR.out.2.2.below HB1.out fun q h => h) (fun q h => by have := HB1.out.size; omega) HR.out.2.1)
  unfold tyV at HSZ
  clear hb1 hW0 x0 x1 x2 x3
  obtain ⟨x0, x1, x2, x3, _⟩ := HX1.out.cells4
  obtain ⟨s, hs⟩ : ∃ s, min (x.args.nodes + 1) (300 + 1) = s := ⟨_, rfl⟩
  rw [hs] at HSZ
  have HS := Lib.hid hs
  clear hs
  go_wp2_with fail
  refine HSZ.out.mono ?_
  rintro e W2 ⟨rfl, hb2⟩
  have HB2 := Lib.hid (HB1.out.trans (hb2.mono HB1.out.size))
  have HX2 := Lib.hid (HX1.out.below hb2 HX1.out.lt)
  clear hb2 x0 x1 x2 x3
  by_cases h1 : s ≤ 300
  case neg =>
    have q1 : (300 : Int) < (s : Int) := by omega
    go_wp2_with fail
    refine (known_any W2).mono ?_
    rintro e W3 ⟨rfl, hb3⟩
    have HB3 := Lib.hid (HB2.out.trans (hb3.mono HB2.out.size))
    clear hb3
    go_wp2_with fail
    go_ret
    exact ⟨rfl, HB3.out⟩
  have q1 : ¬ (300 : Int) < (s : Int) := by omega
  by_cases h2 : 0 ≤ k
  case neg =>
    have q2 : k < 0 := by omega
    go_wp2_with fail
    refine (known_any W2).mono ?_
    rintro e W3 ⟨rfl, hb3⟩
    have HB3 := Lib.hid (HB2.out.trans (hb3.mono HB2.out.size))
    clear hb3
    go_wp2_with fail
    go_ret
    exact ⟨rfl, HB3.out⟩
  have q2 : ¬ k < 0 := by omega
  by_cases h3 : k ≤ 1000
  case neg =>
    have q3 : 1000 < k := by omega
    go_wp2_with fail
    refine (known_any W2).mono ?_
    rintro e W3 ⟨rfl, hb3⟩
    have HB3 := Lib.hid (HB2.out.trans (hb3.mono HB2.out.size))
    clear hb3
    go_wp2_with fail
    go_ret
    exact ⟨rfl, HB3.out⟩
  have q3 : ¬ 1000 < k := by omega
  have hnodes : x.args.nodes + 1 ≤ 300 := by have := HS.out; omega
  obtain ⟨x0, x1, x2, x3, _⟩ := HX2.out.cells4
  obtain ⟨l, hl⟩ : ∃ l, varsP x = l := ⟨_, rfl⟩
  have hll : l.length ≤ 300 := by rw [← hl]; exact Nat.le_trans (vars_len x) hnodes
  obtain ⟨W3, hW3⟩ : ∃ W3, W2.alloc (.cells #[] TI) = W3 := ⟨_, rfl⟩
  have hB3 : Below W2.heap.size W2 W3 := by rw [← hW3]; exact (Below.refl _ W2).alloc (Nat.le_refl _) _
  have hBW3 := HB2.out.trans (hB3.mono HB2.out.size)
  have HV : Hid (Calls Try.prog 20 #[tyV x a c, .slice (some ⟨W2.heap.size, 0, none⟩) 0 0] W3 (RowB l W3)) := Lib.hid (by
    rw [← hl]
    exact rvars_any x.args.nodes x (Nat.le_refl _) a c [] (some ⟨W2.heap.size, 0, none⟩) 0 W3 ((HR.out.2.2.below hBW3 fun q h => h).mono fun q h => by have := hBW3.size; omega) HR.out.2.1 (RdI.nil _ _ _) (by simp; omega))
  unfold tyV at HV
  have HX3 := Lib.hid (HX2.out.below hB3 HX2.out.lt)
  have HB3 := Lib.hid hBW3
  have HL := Lib.hid hl
  have HND := Lib.hid hnodes
  have zz2 := HX2.out.lt
  have HW3 := Lib.hid hW3
  clear hl hB3 hBW3 hnodes h1 hW3
  go_wp2_with fail
  rw [HW3.out]
  refine HV.out.mono ?_
  rintro e W4 ⟨a4, c4, rfl, hrd4, hb4⟩
  have HI4 := Lib.hid hrd4
  have HB4 := Lib.hid (HB3.out.trans (hb4.mono HB3.out.size))
  have HX4 := Lib.hid (HX3.out.below hb4 HX3.out.lt)
  clear hrd4 hb4 x0 x1 x2 x3 q1 q2 q3
  have hlI : (l.length : Int) ≤ 300 := by omega
  go_wp2_with fail
  go_loopg [6, 7] l.length (fun d v6 v wr => ∃ (i : Nat) (vs : List Value), i + d = l.length ∧ v = .int .i64 i ∧ wr.ownsRow W4.heap.size TT 4 v6 i vs ∧ RowT (fun _ => False) wr vs (vrs (fun j => k + l.length - (j : Nat)) i) ∧ Below W4.heap.size W4 wr)
  case atStart => exact ⟨0, [], by omega, rfl, World.ownsRow_nil _ _ _ _, rfl, Below.refl _ _⟩
  case round =>
    obtain ⟨i, vs, hid, rfl, how, hrow, hb⟩ := hrel
    have HK := Lib.hid hid
    have HOW := Lib.hid how
    have HROW := Lib.hid hrow
    have HB := Lib.hid hb
    have hzw := hb.size
    obtain ⟨a6, c6, rfl⟩ := own_slice how
    have hile : i ≤ l.length := by omega
    clear hid how hrow hb
    by_cases hlt : i < l.length
    · have hlt' : (i : Int) < l.length := by omega
      have hw1 : wrap64 (k + l.length) = k + l.length := IntWalk.wrap64_in _ (by omega)
      have hw2 : wrap64 (k + l.length - i) = k + l.length - i := IntWalk.wrap64_in _ (by omega)
      go_wp2_with fail
      refine (rvar_any (k + l.length - i) wr).mono ?_
      rintro e w3 ⟨a3, c3, rfl, -, hb3⟩
      have HB3' := Lib.hid hb3
      have HO3 := Lib.hid (own_here HOW.out hb3)
      have hz3 := hb3.size
      simp only [vrT, Tys.len]
      clear hb3
      go_wp2_with (at_builtin; refine wpList_append_own _ rfl _ _ 27 rfl W4.heap.size TT i0 _ 4 56 Try.underlying27 hi hz0 hz1 hz2' rfl (by decide) _ _ _ rfl (HO3.out.alloc _) ⟨w3.heap.size, 0, none⟩ 1 1 [.int .i64 1, .int .i64 (k + l.length - i), .string noN, .slice a3 0 c3] rfl rfl (news_new w3 #[.int .i64 1, .int .i64 (k + l.length - i), .string noN, .slice a3 0 c3] TT) (fun u hu => by simp only [List.mem_cons, List.not_mem_nil, or_false] at hu; rcases hu with rfl | rfl | rfl | rfl <;> rfl) (by unfold maxLen; omega) (by omega) (by simp; omega) ?_)
      intro v7 w7 hown hgrow _
      have HO7 := Lib.hid (And.intro hown (show RowT (fun _ => False) w7 (vs ++ [.int .i64 1, .int .i64 (k + l.length - i), .string noN, .slice a3 0 c3]) (vrs (fun j => k + l.length - (j : Nat)) (i + 1)) by
        have e : vrs (fun j => k + l.length - ((j : Nat) : Int)) (i + 1) = vrs (fun j => k + l.length - ((j : Nat) : Int)) i ++ [vr (k + l.length - i)] := by unfold vrs; rw [List.range_succ, List.map_append]; rfl
        rw [e]
        exact RowT.snoc (x := vr (k + l.length - i)) (c2 := c3) (Nat.zero_le _) (by simp [vr, Tys.len]) trivial (HROW.out.frame (fun b o h => h.elim) (fun ad h => h.elim) fun b h => h)))
      have HB7 := Lib.hid (((HB.out.trans (HB3'.out.mono hzw)).alloc (by omega) (.cells #[.int .i64 1, .int .i64 (k + l.length - i), .string noN, .slice a3 0 c3] TT)).grown hgrow (by simp; omega) (fun q hq => (HO3.out.lt q hq).1))
      obtain ⟨a7, c7, rfl⟩ := own_slice hown
      clear hown hgrow
      go_wp2_with fail
      go_roundg (l.length - (i + 1))
      case measure => have := HK.out; omega
      case rel => exact ⟨i + 1, _, by have := HK.out; omega, by go_num, HO7.out.1, HO7.out.2, HB7.out⟩
    · have hge : ¬ (i : Int) < l.length := by omega
      have hil : i = l.length := by omega
      subst hil
      have hwith : RdT (fun b => b < wr.heap.size) wr a6 (Tys.ofL (vrs (fun j => k + l.length - (j : Nat)) l.length)) 0 := by
        obtain ⟨a', c', hv', hrd'⟩ := OwnS.reads (base := 0) (B := W4.heap.size) (w := wr) (v := .slice a6 l.length c6) (l := vrs (fun j => k + l.length - (j : Nat)) l.length) ⟨vs, by rw [vrs_len]; exact HOW.out, HROW.out.mono fun b h => h.elim⟩
        obtain rfl : a6 = a' := by injection hv'
        exact hrd'.mono fun b q => q.elim (fun q => by omega) fun q => q.2
      have hBW : Below w.heap.size w wr := HB4.out.trans (HB.out.mono HB4.out.size)
      have hww : w.heap.size ≤ wr.heap.size := hBW.size
      have hXr := HX4.out.below HB.out HX4.out.lt
      have hxr : RdT (fun b => b < wr.heap.size) wr a x.args 0 := (HR.out.2.2.below hBW fun q h => h).mono fun q h => by omega
      have HRE := Lib.hid (rename_any (a := a) (c := c) wr hxr HR.out.2.1 HR.out.1 HOK.out (by have := HND.out; omega))
      obtain ⟨x1, hx1⟩ : ∃ x1, ren x = x1 := ⟨_, rfl⟩
      rw [hx1] at HRE
      have HX1 := Lib.hid hx1
      have HWI := Lib.hid hwith
      have HBW := Lib.hid hBW
      have HXR := Lib.hid hXr
      have HLI := Lib.hid (rdI_here HI4.out HB.out)
      obtain ⟨x0, x1', x2, x3, _⟩ := hXr.cells4
      clear hwith hBW hXr hxr hx1
      go_wp2_with fail
      refine HRE.out.mono ?_
      rintro e w5 ⟨a5, c5, rfl, hrd5, hl5, hn5, hb5⟩
      obtain ⟨W6, hW6⟩ : ∃ W6, w5.alloc (.cells #[.int .i64 x1.kd, .int .i64 x1.n, .string x1.nm, .slice a5 x1.args.len c5] TT) = W6 := ⟨_, rfl⟩
      have hB6 : Below w5.heap.size w5 W6 := by rw [← hW6]; exact (Below.refl _ w5).alloc (Nat.le_refl _) _
      have X_6 := Lib.hid (show Box W6 w5.heap.size TT #[.int .i64 x1.kd, .int .i64 x1.n, .string x1.nm, .slice a5 x1.args.len c5] by rw [← hW6]; exact Box.new _ _ _)
      have hb56 : Below wr.heap.size wr W6 := hb5.trans (hB6.mono hb5.size)
      have HB_6 := Lib.hid (HBW.out.trans (hb56.mono HBW.out.size))
      have Y_6 := Lib.hid (HXR.out.below hb56 HXR.out.lt)
      have T_6 := Lib.hid (rdT_here (hrd5.mono (Z' := fun b => b < w5.heap.size) fun b q => q.2) hB6)
      have HX1L := Lib.hid (And.intro hl5 hn5)
      have hfv : ∀ n y, rn l (fun j => k + l.length - (j : Nat)) n = some y → okTy y = true ∧ y.args = .nil := fun n y h => by
        obtain ⟨j, hj, rfl⟩ := rn_some h
        exact ⟨ok_vr (by omega) (by omega), rfl⟩
      have hf1 : ∀ n y, rn l (fun j => ((j : Nat) : Int)) n = some y → okTy y = true ∧ y.args = .nil := fun n y h => by
        obtain ⟨j, hj, rfl⟩ := rn_some h
        exact ⟨ok_vr (by omega) (by omega), rfl⟩
      have hx1e : x1 = sub1 (rn l fun j => ((j : Nat) : Int)) x := by rw [← HX1.out]; unfold ren; rw [HL.out]
      have hok1 : okTy x1 = true := by rw [hx1e]; exact ok_sub1 (fun n y h => (hf1 n y h).1) HOK.out
      have hnd1 : x1.args.nodes ≤ x.args.nodes := by rw [hx1e]; exact nodes_sub1 (fun n y h => (hf1 n y h).2) x
      have hre1 : ren x1 = x1 := by rw [← HX1.out]; exact ren_ren x
      obtain ⟨y, hy⟩ : ∃ y, sub1 (rn l fun j => k + l.length - (j : Nat)) x = y := ⟨_, rfl⟩
      have hoky : okTy y = true := by rw [← hy]; exact ok_sub1 (fun n y h => (hfv n y h).1) HOK.out
      have hndy : y.args.nodes ≤ x.args.nodes := by rw [← hy]; exact nodes_sub1 (fun n y h => (hfv n y h).2) x
      have hrey : ren y = x1 := by
        rw [← hy, ← HX1.out, ← HL.out]
        exact ren_rn fun i j h1 h2 h => by omega
      have hxy : y.nm.size ≤ 9223372036854775807 ∧ y.args.len * 56 ≤ 140737488355328 := by
        rw [← hy]
        unfold sub1
        split
        · cases h : rn l (fun j => k + l.length - (j : Nat)) x.n with
          | none => exact ⟨HR.out.1, HR.out.2.1⟩
          | some z =>
            obtain ⟨j, hj, rfl⟩ := rn_some h
            exact ⟨Nat.zero_le _, by simp [vr, Tys.len]⟩
        · exact ⟨HR.out.1, by rw [subT_len]; exact HR.out.2.1⟩
      have HRE1 : Hid (∀ (w : World) (a : Option Addr) (c : Nat), RdT (fun b => b < w.heap.size) w a x1.args 0 → Calls Try.prog 22 #[.agg #[.int .i64 x1.kd, .int .i64 x1.n, .string x1.nm, .slice a x1.args.len c]] w (NewTy x1 w)) := Lib.hid fun w a c h => by
        have := rename_any (a := a) (c := c) w h hl5 hn5 hok1 (by have := HND.out; omega)
        rwa [hre1] at this
      have HRE2 : Hid (∀ (w : World) (a : Option Addr) (c : Nat), RdT (fun b => b < w.heap.size) w a y.args 0 → Calls Try.prog 22 #[.agg #[.int .i64 y.kd, .int .i64 y.n, .string y.nm, .slice a y.args.len c]] w (NewTy x1 w)) := Lib.hid fun w a c h => by
        have := rename_any (a := a) (c := c) w h hxy.2 hxy.1 hoky (by have := HND.out; omega)
        rwa [hrey] at this
      have hsu : Calls Try.prog 17 #[tyV x a c, .slice a4 l.length c4, .slice a6 l.length c6] W6.drew (SubPost W6.heap.size y W6.drew) := by
        have hw6 := HB_6.out.size
        have := rsubst_any (base := W6.heap.size) (l := l) (W := vrs (fun j => k + l.length - (j : Nat)) l.length) (b := a4) (p := a6) (cb := c4) (cp := c6) (by omega) (by rw [vrs_len]; omega) x.args.nodes x (Nat.le_refl _) a c W6.drew (Nat.le_refl _) (((HR.out.2.2.below HB_6.out fun q h => h).mono fun q h => by omega).drew) HR.out.2.1 HR.out.1 HOK.out (rdI_here HLI.out hb56).drew ((rdT_here HWI.out hb56).drew)
        rw [vrs_len, subF_eq, hy] at this
        exact this
      have HSU := Lib.hid hsu
      unfold tyV at HSU
      have HW6 := Lib.hid hW6
      obtain ⟨p6_0, p6_1, p6_2, p6_3, _⟩ := X_6.out.cells4
      obtain ⟨q6_0, q6_1, q6_2, q6_3, _⟩ := Y_6.out.cells4
      clear hrd5 hl5 hn5 hb5 hB6 hb56 hfv hf1 hx1e hok1 hnd1 hre1 hy hoky hndy hrey hxy hsu hW6 x0 x1' x2 x3
      go_upto_region 10 with fail
      rw [HW6.out]
      go_region_held3 (fun w' => (w'.cell? ⟨w5.heap.size, 0, none⟩ = some (.int .i64 x1.kd) ∧ w'.cell? ⟨w5.heap.size, 1, none⟩ = some (.int .i64 x1.n) ∧ w'.cell? ⟨w5.heap.size, 2, none⟩ = some (.string x1.nm) ∧ w'.cell? ⟨w5.heap.size, 3, none⟩ = some (.slice a5 x1.args.len c5)) ∧ (w'.cell? ⟨w.heap.size, 0, none⟩ = some (.int .i64 x.kd) ∧ w'.cell? ⟨w.heap.size, 1, none⟩ = some (.int .i64 x.n) ∧ w'.cell? ⟨w.heap.size, 2, none⟩ = some (.string x.nm) ∧ w'.cell? ⟨w.heap.size, 3, none⟩ = some (.slice a x.args.len c)))
        (first
          | exact ⟨⟨p6_0, p6_1, p6_2, p6_3⟩, q6_0, q6_1, q6_2, q6_3⟩
          | exact ⟨⟨p7_0, p7_1, p7_2, p7_3⟩, q7_0, q7_1, q7_2, q7_3⟩
          | exact ⟨⟨p8_0, p8_1, p8_2, p8_3⟩, q8_0, q8_1, q8_2, q8_3⟩
          | exact ⟨⟨p9_0, p9_1, p9_2, p9_3⟩, q9_0, q9_1, q9_2, q9_3⟩
          | exact ⟨⟨p10_0, p10_1, p10_2, p10_3⟩, q10_0, q10_1, q10_2, q10_3⟩
          | exact ⟨⟨p11_0, p11_1, p11_2, p11_3⟩, q11_0, q11_1, q11_2, q11_3⟩
          | exact ⟨⟨p12_0, p12_1, p12_2, p12_3⟩, q12_0, q12_1, q12_2, q12_3⟩
          | go_keep)
        (first
          | (have h := G5; clear h; go_at_call 10; refine (known_any w11).mono ?_; rintro e w12 ⟨rfl, hb⟩; have HB_12 := Lib.hid (HB_11.out.trans (hb.mono HB_11.out.size)); have X_12 := Lib.hid (X_11.out.below hb X_11.out.lt); have Y_12 := Lib.hid (Y_11.out.below hb Y_11.out.lt); have T_12 := Lib.hid (rdT_here T_11.out hb); obtain ⟨p12_0, p12_1, p12_2, p12_3, _⟩ := X_12.out.cells4; obtain ⟨q12_0, q12_1, q12_2, q12_3, _⟩ := Y_12.out.cells4; clear hb)
          | (have h := G4; clear h; go_at_call 12; refine (rsame_any (Z := fun b => b < w10.heap.size) (Z' := fun b => b < w10.heap.size) x1.args.nodes x1 x1 (Nat.le_refl _) a5 a10 c5 c10 w10 T_10.out R_10.out (fun b hz => hz) (fun b hz => hz) HX1L.out.1).mono ?_; rintro e w11 ⟨v, rfl, hv, hb⟩; obtain rfl : v = true := hv.2 rfl; have HB_11 := Lib.hid (HB_10.out.trans (hb.mono HB_10.out.size)); have X_11 := Lib.hid (X_10.out.below hb X_10.out.lt); have Y_11 := Lib.hid (Y_10.out.below hb Y_10.out.lt); have T_11 := Lib.hid (rdT_here T_10.out hb); obtain ⟨p11_0, p11_1, p11_2, p11_3, _⟩ := X_11.out.cells4; obtain ⟨q11_0, q11_1, q11_2, q11_3, _⟩ := Y_11.out.cells4; have G5 := Lib.hid True.intro; clear hb hv)
          | (have h := G3; clear h; go_at_call 22; refine (HRE1.out w9 a5 c5 T_9.out).mono ?_; rintro e w10 ⟨a10, c10, rfl, hrd, -, -, hb⟩; have R_10 := Lib.hid (hrd.mono (Z' := fun b => b < w10.heap.size) fun b q => q.2); have HB_10 := Lib.hid (HB_9.out.trans (hb.mono HB_9.out.size)); have X_10 := Lib.hid (X_9.out.below hb X_9.out.lt); have Y_10 := Lib.hid (Y_9.out.below hb Y_9.out.lt); have T_10 := Lib.hid (rdT_here T_9.out hb); obtain ⟨p10_0, p10_1, p10_2, p10_3, _⟩ := X_10.out.cells4; obtain ⟨q10_0, q10_1, q10_2, q10_3, _⟩ := Y_10.out.cells4; have G4 := Lib.hid True.intro; clear hb hrd)
          | (have h := G2; clear h; go_at_call 12; refine (rsame_any (Z := fun b => b < w8.heap.size) (Z' := fun b => b < w8.heap.size) x1.args.nodes x1 x1 (Nat.le_refl _) a5 a8 c5 c8 w8 T_8.out R_8.out (fun b hz => hz) (fun b hz => hz) HX1L.out.1).mono ?_; rintro e w9 ⟨v, rfl, hv, hb⟩; obtain rfl : v = true := hv.2 rfl; have HB_9 := Lib.hid (HB_8.out.trans (hb.mono HB_8.out.size)); have X_9 := Lib.hid (X_8.out.below hb X_8.out.lt); have Y_9 := Lib.hid (Y_8.out.below hb Y_8.out.lt); have T_9 := Lib.hid (rdT_here T_8.out hb); obtain ⟨p9_0, p9_1, p9_2, p9_3, _⟩ := X_9.out.cells4; obtain ⟨q9_0, q9_1, q9_2, q9_3, _⟩ := Y_9.out.cells4; have G3 := Lib.hid True.intro; clear hb hv)
          | (have h := G1; clear h; go_at_call 22; refine (HRE2.out w7 a7 c7 R_7.out).mono ?_; rintro e w8 ⟨a8, c8, rfl, hrd, -, -, hb⟩; have R_8 := Lib.hid (hrd.mono (Z' := fun b => b < w8.heap.size) fun b q => q.2); have HB_8 := Lib.hid (HB_7.out.trans (hb.mono HB_7.out.size)); have X_8 := Lib.hid (X_7.out.below hb X_7.out.lt); have Y_8 := Lib.hid (Y_7.out.below hb Y_7.out.lt); have T_8 := Lib.hid (rdT_here T_7.out hb); obtain ⟨p8_0, p8_1, p8_2, p8_3, _⟩ := X_8.out.cells4; obtain ⟨q8_0, q8_1, q8_2, q8_3, _⟩ := Y_8.out.cells4; have G2 := Lib.hid True.intro; clear hb hrd)
          | (go_at_call 17; refine HSU.out.mono ?_; rintro e w7 ⟨a7, c7, rfl, hrd, -, -, hb⟩; replace hb : Below W6.heap.size W6 w7 := ⟨hb.os, hb.tape, hb.output, hb.size, hb.block⟩; have R_7 := Lib.hid (hrd.mono (Z' := fun b => b < w7.heap.size) fun b q => q.elim (fun q => Nat.lt_of_lt_of_le q hb.size) fun q => q.2); have HB_7 := Lib.hid (HB_6.out.trans (hb.mono HB_6.out.size)); have X_7 := Lib.hid (X_6.out.below hb X_6.out.lt); have Y_7 := Lib.hid (Y_6.out.below hb Y_6.out.lt); have T_7 := Lib.hid (rdT_here T_6.out hb); obtain ⟨p7_0, p7_1, p7_2, p7_3, _⟩ := X_7.out.cells4; obtain ⟨q7_0, q7_1, q7_2, q7_3, _⟩ := Y_7.out.cells4; have G1 := Lib.hid True.intro; clear hb hrd))
      go_wp2_with fail
      go_ret
      exact ⟨rfl, HB_12.out⟩
end Go.Proofs.Ytgomafdhckfnbaa.UnifyRenames
