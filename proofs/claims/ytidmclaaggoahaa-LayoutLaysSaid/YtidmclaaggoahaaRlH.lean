/-
  CONTRACT of the document's layout: Lay.
-/
import Derived.Test.YtidmclaaggoahaaRlG
import Derived.Test.YtidmclaaggoahaaStillQ
namespace Go.Proofs.Ytidmclaaggoahaa.Ly
open Go.RowKit Pl Ar Mm Lx
set_option linter.unusedVariables false
set_option linter.unusedSimpArgs false
theorem FC_layS (t : TokM) (first : Bool) {s : St} (h : FC s.F) (k : KF s.F) : FC (layS t first s).F ∧ KF (layS t first s).F := by
  unfold layS
  split
  · exact ⟨h.push (fun e => absurd e (by decide)) (fun _ => rfl), k.push (by omega)⟩
  · have h1 : FC (ph1 s.due first t s.T s.F).F ∧ KF (ph1 s.due first t s.T s.F).F := by
      unfold ph1
      split
      · have h0 := (inner_sh (d := 0) h s.F.length (Nat.le_refl _)).2
        split
        · exact ⟨h.push (fun _ => by simp only; omega) (fun e => absurd rfl e), k.push (by omega)⟩
        · exact ⟨h, k⟩
      · exact ⟨h, k⟩
    generalize ph1 s.due first t s.T s.F = r at h1 ⊢
    have h2 : FC (ph2 t r).2 ∧ KF (ph2 t r).2 := by
      unfold ph2
      split
      · exact ⟨h1.1.take _, h1.2.take _⟩
      · exact h1
    generalize ph2 t r = r2 at h2 ⊢
    have h3 : FC (ph3 t r2).2 ∧ KF (ph3 t r2).2 := by
      unfold ph3
      split
      · exact h2
      · exact ⟨h2.1.take _, h2.2.take _⟩
    generalize ph3 t r2 = r3 at h3 ⊢
    unfold ph4
    simp only
    split
    · exact h3
    · rename_i hne
      have hr := (open_name (t := t) rfl hne).2
      exact ⟨h3.1.push (fun e => by simp only at e; omega) (fun _ => rfl), h3.2.push (by omega)⟩
theorem FC_layF (L : List TokM) : ∀ n, FC (layF L n).F ∧ KF (layF L n).F
  | 0 => ⟨(fun f hf => by cases hf), (fun f hf => by cases hf)⟩
  | n + 1 => FC_layS _ _ (FC_layF L n).1 (FC_layF L n).2
/-- the blocks that were there, the state's, the place's -/
def Z2 (p : Nat) : Nat → Prop := Zq (Zq (ZB p) p) (p + 1)
/-- what Lay has laid -/
structure LL (w : World) (p : Nat) (T : List TokM) (F : List Fr) (due : Bool) (ln col : Int) (wr : World) : Prop where
  st : ∃ vt vf, RSt (Z2 p) wr T F vt vf ∧ Box wr p RS #[vt, vf, .bool due]
  at' : Box wr (p + 1) PS #[.int .i64 ln, .int .i64 col]
  hh : Holds (ZB p) w wr
theorem LL.took {w : World} {p : Nat} {T T' : List TokM} {F F' : List Fr} {due : Bool} {ln col : Int} {wr w9 : World} {vt9 vf9 : Value} (h : LL w p T F due ln col wr) (hr9 : RSt (Z2 p) w9 T' F' vt9 vf9) (hh9 : Holds (Z2 p) wr w9) (due' : Bool) :
    LL w p T' F' due' ln col (((w9.setCell ⟨p, 0, none⟩ vt9).setCell ⟨p, 1, none⟩ vf9).setCell ⟨p, 2, none⟩ (.bool due')) ∧ (∃ v0 v1 v2, Box w9 p RS #[v0, v1, v2]) := by
  obtain ⟨vt, vf, hr, hb⟩ := h.st
  have bx : Box w9 p RS #[vt, vf, .bool due] := (hh9.block p (.inl (.inr rfl))).trans hb
  have by2 : Box w9 (p + 1) PS _ := (hh9.block (p + 1) (.inr rfl)).trans h.at'
  obtain ⟨k1, k2, k3, k4⟩ := st_put hr9 bx due'
  exact ⟨⟨⟨_, _, k2, k1⟩, k3 _ _ _ by2 (by omega), k4 _ _ (h.hh.trans hh9.less.less) (by unfold ZB; omega)⟩, ⟨_, _, _, bx⟩⟩
theorem LL.drewN {w : World} {p : Nat} {T : List TokM} {F : List Fr} {due : Bool} {ln col : Int} {wr : World} (h : LL w p T F due ln col wr) (n : Nat) : LL w p T F due ln col (wr.drewN n) := by
  obtain ⟨vt, vf, hr, hb⟩ := h.st
  exact ⟨⟨vt, vf, hr.drewN n, hb.drewN n⟩, h.at'.drewN n, h.hh.drewN n⟩
theorem LL.place {w : World} {p : Nat} {T : List TokM} {F : List Fr} {due : Bool} {ln col : Int} {wr : World} (h : LL w p T F due ln col wr) (l2 c2 : Int) : LL w p T F due l2 c2 ((wr.setCell ⟨p + 1, 0, none⟩ (.int .i64 l2)).setCell ⟨p + 1, 1, none⟩ (.int .i64 c2)) := by
  obtain ⟨vt, vf, hr, hb⟩ := h.st
  exact ⟨⟨vt, vf, (hr.putZ (q := p + 1) (.inr rfl) 0 _).putZ (q := p + 1) (.inr rfl) 1 _, (hb.far (by simp) _).far (by simp) _⟩, (h.at'.put 0 _).put 1 _, (h.hh.setCell (by unfold ZB; simp) _).setCell (by unfold ZB; simp) _⟩
set_option maxRecDepth 100000 in
set_option maxHeartbeats 8000000 in
theorem rLay_any {v : Value} {L : List TokM} (hl : L.length ≤ 100000000) (w : World) (h : ShowsM w w.heap.size v L) :
    Calls Try.prog 15 #[v] w (LayPost L w) := by
  obtain ⟨b, c, rfl, hc⟩ := h
  obtain ⟨N, hN⟩ : ∃ N, L.length = N := ⟨_, rfl⟩
  obtain ⟨p, hp⟩ : ∃ p, w.heap.size = p := ⟨_, rfl⟩
  obtain ⟨W0, hW0⟩ : ∃ W0, (w.alloc (.cells #[.slice none 0 0, .slice none 0 0, .bool true] RS)).alloc (.cells #[.int .i64 1, .int .i64 1] PS) = W0 := ⟨_, rfl⟩
  have hL0 : LL w p [] [] true 1 1 W0 := by
    have b0 : Box W0 p RS #[.slice none 0 0, .slice none 0 0, .bool true] := by rw [← hW0, ← hp]; exact (Box.new _ _ _).alloc _
    have b1 : Box W0 (p + 1) PS #[.int .i64 1, .int .i64 1] := by
      rw [← hW0, ← hp]
      have := Box.new (w.alloc (.cells #[.slice none 0 0, .slice none 0 0, .bool true] RS)) #[.int .i64 1, .int .i64 1] PS
      rw [World.size_alloc] at this
      exact this
    have hs : W0.heap.size = p + 2 := by rw [← hW0, ← hp]; simp
    refine ⟨⟨.slice none 0 0, .slice none 0 0, ⟨World.ownsRow_nil _ _ _ _, World.ownsRow_nil _ _ _ _, fun k hk => by simp [Value.ownBlock] at hk, fun k hk => by simp [Value.ownBlock] at hk, fun k hk => ?_⟩, b0⟩, b1, ?_⟩
    · rcases hk with (hk | hk) | hk
      · have : k < p := hk
        omega
      · omega
      · omega
    · rw [← hW0, ← hp]
      exact ((Holds.refl _ w).alloc (fun k hk => hk) _).alloc (fun k hk => by have : k < w.heap.size := hk; simp; omega) _
  have HL0 := Lib.hid hL0
  have HC := Lib.hid hc
  have HN := Lib.hid hN
  have HP := Lib.hid hp
  rw [hN] at hl ⊢
  clear hc hN hL0
  go_enter Try.func15, Try.ntmps15
  go_wp2_with fail
  clear hW0 hp
  go_loopg [5, 6] N (fun d v5 v6 wr => ∃ n : Nat, d + n = N ∧ v5 = .int .i64 n ∧ LL w p (layF L n).T (layF L n).F (layF L n).due (lnAt L n) (colAt L n) wr)
  case atStart => exact ⟨0, by omega, rfl, HL0.out⟩
  case round =>
    obtain ⟨n, hn, rfl, hll⟩ := hrel
    have HK := Lib.hid hn
    have hle : n ≤ N := by omega
    have hlen := layF_len L n
    obtain ⟨hfc, hkf⟩ := FC_layF L n
    have HFC := Lib.hid hfc
    have HKF := Lib.hid hkf
    clear hn hfc hkf
    by_cases hlt : n < N
    · have hlt' : (n : Int) < N := by omega
      obtain ⟨ad, e, hg, y⟩ := HC.out n (by rw [HN.out]; exact hlt)
      subst e
      rw [HP.out] at hg
      have hbel : Below p w wr := hll.hh.below
      obtain ⟨t, ht⟩ : ∃ t, tk L n = t := ⟨_, rfl⟩
      rw [ht] at y
      have HYY := Lib.hid (fun (w' : World) (hb : Below p w w') => y.below hb hg)
      obtain ⟨z0, z1, z2, z3, z4, z5⟩ := HYY.out wr hbel
      have hst : layF L (n + 1) = layS t (fstAt L n) (layF L n) := by rw [← ht]; rfl
      have hln : lnAt L (n + 1) = t.line ∧ colAt L (n + 1) = t.col := by rw [← ht]; exact ⟨rfl, rfl⟩
      have hfs : ∃ m, (n = 0 ∧ fstAt L n = true) ∨ (0 < n ∧ fstAt L n = decide (¬ m = t.line) ∧ lnAt L n = m) := by
        cases n with
        | zero => exact ⟨0, .inl ⟨rfl, rfl⟩⟩
        | succ n => exact ⟨(tk L n).line, .inr ⟨by omega, by show decide (¬ (tk L n).line = (tk L (n + 1)).line) = _; rw [ht], rfl⟩⟩
      have HST := Lib.hid hst
      have HLN := Lib.hid hln
      have a0 := hll.at'.cell 0
      have a1 := hll.at'.cell 1
      have g0 := hll.at'.free 0
      have g1 := hll.at'.free 1
      have HLL := Lib.hid hll
      obtain ⟨fs, hfse⟩ : ∃ fs, fstAt L n = fs := ⟨_, rfl⟩
      rw [hfse] at HST
      clear y ht hst hln hll hbel
      obtain ⟨m, hfs⟩ := hfs
      go_upto_region 6 with fail
      go_cut [6] (fun s6 wx => s6 = .bool fs ∧ ∃ k, wx = wr.drewN k)
      case first =>
        rcases hfs with ⟨h0, h1⟩ | ⟨h0, h1, h2⟩
        · rw [hfse] at h1
          have hz : ((n : Int) == 0) = true := by simp [h0]
          have HF1 := Lib.hid h1
          clear h0 h1 hfse
          go_quiet (fail)
          go_wp2_with fail
          go_meet
          case rel => exact ⟨by rw [HF1.out], _, rfl⟩
        · rw [hfse] at h1
          rw [h2] at a0
          have hz : ((n : Int) == 0) = false := by simp; omega
          have HF1 := Lib.hid h1
          clear h1 h2 hfse
          by_cases hq : m = t.line
          · have hq2 : (t.line != m) = false := by simp [hq]
            have HQ := Lib.hid hq
            clear hq
            go_quiet (fail)
            go_wp2_with fail
            go_meet
            case rel => exact ⟨by rw [HF1.out]; simp [HQ.out], _, rfl⟩
          · have hq2 : (t.line != m) = true := by simp; exact fun e => hq e.symm
            have HQ := Lib.hid hq
            clear hq
            go_quiet (fail)
            go_wp2_with fail
            go_meet
            case rel => exact ⟨by rw [HF1.out]; simp [HQ.out], _, rfl⟩
      case rest =>
        obtain ⟨e, k, e2⟩ := hcut
        subst e e2
        have hpl := (HLL.out.drewN k).place t.line t.col
        have HPL := Lib.hid hpl
        obtain ⟨vt1, vf1, hr1, hb1⟩ := hpl.st
        obtain ⟨b1, c1, rfl⟩ := own_slice hr1.toks
        obtain ⟨b2, c2, rfl⟩ := own_slice hr1.frames
        have HR1 := Lib.hid hr1
        have HB1 := Lib.hid hb1
        clear hpl hr1 hb1 hfs
        go_upto_region 8 with fail
        obtain ⟨W8, hW8⟩ : ∃ W8, ((wr.drewN k).setCell ⟨p + 1, 0, none⟩ (.int .i64 t.line)).setCell ⟨p + 1, 1, none⟩ (.int .i64 t.col) = W8 := ⟨_, rfl⟩
        rw [hW8] at HPL HR1 HB1 ⊢
        clear hW8 a0 a1 g0 g1 z0 z1 z2 z3 z4 z5
        obtain ⟨z0, z1, z2, z3, z4, z5⟩ := HYY.out W8 HPL.out.hh.below
        have x0 := HB1.out.cell 0
        have x1 := HB1.out.cell 1
        have x2 := HB1.out.cell 2
        refine Sq.region_reads 6 (by kernel_rfl) (by kernel_rfl) ?_
        simp only [List.take_succ_cons, List.take_zero, List.drop_succ_cons, List.drop_zero]
        repeat (go_big_quiet_step (fail))
        refine wpQuiet_nil ?_
        go_wp2_with fail
        refine (rstep_any (Z := Z2 p) t fs HKF.out HFC.out _ HR1.out.drew (by omega) HST.out.symm).mono ?_
        rintro e w9 ⟨vt9, vf9, rfl, hr9, hh9⟩
        obtain ⟨b3, c3, rfl⟩ := own_slice hr9.toks
        obtain ⟨b4, c4, rfl⟩ := own_slice hr9.frames
        obtain ⟨k1, ⟨q0, q1, q2, bx⟩⟩ := LL.took (wr := W8.drew) (HPL.out.drewN 1) hr9 hh9 (layF L (n + 1)).due
        have u0 := bx.cell 0
        have u1 := bx.cell 1
        have u2 := bx.cell 2
        have v0 := bx.free 0
        have v1 := bx.free 1
        have v2 := bx.free 2
        have K1 := Lib.hid k1
        clear k1 bx hr9 hh9 x0 x1 x2 z0 z1 z2 z3 z4 z5
        go_wp2
        go_roundg (N - (n + 1))
        case measure => have := HK.out; omega
        case rel => exact ⟨n + 1, by have := HK.out; omega, by go_num, by rw [HLN.out.1, HLN.out.2]; exact K1.out⟩
    · obtain rfl : n = N := by omega
      obtain ⟨vt1, vf1, hr1, hb1⟩ := hll.st
      obtain ⟨b1, c1, rfl⟩ := own_slice hr1.toks
      obtain ⟨b2, c2, rfl⟩ := own_slice hr1.frames
      obtain ⟨TT0, hT0⟩ : ∃ x, (layF L n).T = x := ⟨_, rfl⟩
      obtain ⟨FF, hFF⟩ : ∃ x, (layF L n).F = x := ⟨_, rfl⟩
      obtain ⟨DD, hDD⟩ : ∃ x, (layF L n).due = x := ⟨_, rfl⟩
      obtain ⟨ln, hln⟩ : ∃ x, lnAt L n = x := ⟨_, rfl⟩
      obtain ⟨col, hcol⟩ : ∃ x, colAt L n = x := ⟨_, rfl⟩
      have hall : layAll L = endT TT0 FF DD ln col := by unfold layAll; rw [HN.out, hT0, hFF, hDD, hln, hcol]
      have HALL := Lib.hid hall
      rw [hT0, hFF, hDD, hln, hcol] at hll
      rw [hT0, hFF] at hr1 hlen hb1
      rw [hDD] at hb1
      rw [hFF] at HKF HFC
      clear hall hT0 hFF hDD hln hcol
      have HLL := Lib.hid hll
      have HR1 := Lib.hid hr1
      have HB1 := Lib.hid hb1
      have x0 := hb1.cell 0
      have x1 := hb1.cell 1
      have x2 := hb1.cell 2
      have a0 := hll.at'.cell 0
      have a1 := hll.at'.cell 1
      clear hll hr1 hb1
      obtain ⟨TE, hTE⟩ : ∃ TE, (if DD = true then TT0 ++ [mkM [123] ln col] ++ [mkM [125] ln col] else TT0) = TE := ⟨_, rfl⟩
      have htel : TE.length ≤ TT0.length + 2 := by rw [← hTE]; split <;> simp <;> omega
      have HTE := Lib.hid hTE
      clear hTE
      go_upto_if 42 with fail
      go_cut [] (fun wx => LL w p TE FF DD ln col wx)
      case first =>
        cases DD with
        | false =>
          go_wp2_with fail
          go_meet
          case rel => rw [← HTE.out]; exact HLL.out
        | true =>
          go_wp2_with fail
          go_region_with (first | (have hgd := HR8; clear hgd; go_at_call 27; refine (made_any (Z := Z2 p) (ln := ln) (col := col) (due := true) ⟨#[125]⟩ _ HR8.out (by omega)).mono ?_; rintro e w9 ⟨vt9, vf9, rfl, hr9, hh9⟩; obtain ⟨T9, hT9⟩ : ∃ T9, T8 ++ [(⟨5, ⟨#[125]⟩, 0, ln, col, true⟩ : TokM)] = T9 := ⟨_, rfl⟩; rw [hT9] at hr9; have HT9 := Lib.hid hT9; clear hT9; obtain ⟨b3, c3, rfl⟩ := own_slice hr9.toks; obtain ⟨b4, c4, rfl⟩ := own_slice hr9.frames; have bx : Box w9 p RS _ := (hh9.block p (.inl (.inr rfl))).trans BX8.out; have u0 := bx.cell 0; have u1 := bx.cell 1; have u2 := bx.cell 2; have v0 := bx.free 0; have v1 := bx.free 1; have v2 := bx.free 2; have HR9 := Lib.hid hr9; have HH9 := Lib.hid hh9; clear bx hr9 hh9) | (go_at_call 27; refine (made_any (Z := Z2 p) (ln := ln) (col := col) (due := true) ⟨#[123]⟩ _ HR1.out.drew (by omega)).mono ?_; rintro e w8 ⟨vt8, vf8, rfl, hr8, hh8⟩; obtain ⟨T8, hT8⟩ : ∃ T8, TT0 ++ [(⟨5, ⟨#[123]⟩, 0, ln, col, true⟩ : TokM)] = T8 := ⟨_, rfl⟩; have hl8 : T8.length ≤ TT0.length + 1 := (by rw [← hT8]; simp); rw [hT8] at hr8; have HT8 := Lib.hid hT8; have BX8 := Lib.hid (show Box w8 p RS _ from (hh8.block p (.inl (.inr rfl))).trans HB1.out); have by8 : Box w8 (p + 1) PS _ := (hh8.block (p + 1) (.inr rfl)).trans HLL.out.at'; have a0 := by8.cell 0; have a1 := by8.cell 1; have HR8 := Lib.hid hr8; have HH8 := Lib.hid hh8; clear hr8 hh8 hT8 by8))
          all_goals
            obtain ⟨k1, _⟩ := LL.took (wr := wr.drew) (HLL.out.drewN 1) HR9.out (HH8.out.trans HH9.out) true
            have hte : TE = T9 := by rw [← HTE.out, ← HT9.out, ← HT8.out]; rfl
            have K1 := Lib.hid (show LL w p TE FF true ln col _ by rw [hte]; exact k1)
            clear k1 hte
            go_wp2_with fail
            go_meet
            case rel => exact K1.out
      case rest =>
        clear HLL HR1 HB1 x0 x1 x2 a0 a1
        have HLL := Lib.hid hcut
        have hft : FF.length = FF.length := rfl
        obtain ⟨vt2, vf2, hr2, hb2⟩ := hcut.st
        obtain ⟨b3, c3, rfl⟩ := own_slice hr2.toks
        obtain ⟨b4, c4, rfl⟩ := own_slice hr2.frames
        have x1 := hb2.cell 1
        clear hcut hr2 hb2
        go_wp2_with fail
        clear x1
        go_loopg [7] FF.length (fun e v7 wr2 => e ≤ FF.length ∧ v7 = .int .i64 ((e : Int) - 1) ∧ LL w p (closedT TE FF e ln col) FF DD ln col wr2)
        case atStart => exact ⟨Nat.le_refl _, rfl, by rw [closedT_full]; exact HLL.out⟩
        case round =>
          obtain ⟨hge, rfl, hll⟩ := hrel
          obtain ⟨vt2, vf2, hr2, hb2⟩ := hll.st
          obtain ⟨b3, c3, rfl⟩ := own_slice hr2.toks
          obtain ⟨b4, c4, rfl⟩ := own_slice hr2.frames
          have x0 := hb2.cell 0
          have x1 := hb2.cell 1
          have x2 := hb2.cell 2
          have a0 := hll.at'.cell 0
          have a1 := hll.at'.cell 1
          have HL2 := Lib.hid hll
          have HR2 := Lib.hid hr2
          clear hll hr2 hb2 HLL
          by_cases h0 : 0 < gk
          · obtain ⟨e', rfl⟩ : ∃ e', gk = e' + 1 := ⟨gk - 1, by omega⟩
            have hcast : ((e' + 1 : Nat) : Int) - 1 = e' := by omega
            rw [hcast]
            have h0' : (0 : Int) ≤ e' := by omega
            obtain ⟨bq, cq, hvq, hcq⟩ := showsR_own HR2.out.frames
            injection hvq with hvq1 _ hvq2
            subst hvq1 hvq2
            obtain ⟨g, rfl, hg, p0, p1⟩ := hcq e' (by omega)
            have hr' := HKF.out.at (i := e') (by omega)
            have hone := closedT_one (T := TE) (F := FF) (k := e') (ln := ln) (col := col) (by omega)
            have hnot := closedT_none (T := TE) (F := FF) (k := e') (ln := ln) (col := col) (by omega)
            have hcl := closedT_len TE FF (e' + 1) ln col
            obtain ⟨KK, hKK⟩ : ∃ KK, frK FF e' = KK := ⟨_, rfl⟩
            rw [hKK] at p0 hr' hone hnot
            have t1 := nm_eq (a := KK) (by omega) 1 (by omega)
            rw [show (nm 1).toList = [98, 108, 111, 99, 107] by rw [Lib.toList_data]; rfl] at t1
            obtain ⟨T1, hT1⟩ : ∃ x, nm KK = x := ⟨_, rfl⟩
            rw [hT1] at p0 t1
            have HONE := Lib.hid hone
            have HNOT := Lib.hid hnot
            clear hT1 hone hnot hKK hcq hcast hg p1 hr'
            by_cases hk1 : KK = 1
            · have HC1 := Lib.hid (HONE.out hk1)
              simp only [hk1, decide_true] at t1
              clear hk1
              go_wp2_with fail
              refine (made_any (Z := Z2 p) (ln := ln) (col := col) (due := DD) ⟨#[125]⟩ _ HR2.out (by omega)).mono ?_
              rintro e w9 ⟨vt9, vf9, rfl, hr9, hh9⟩
              obtain ⟨T9, hT9⟩ : ∃ T9, closedT TE FF (e' + 1) ln col ++ [(⟨5, ⟨#[125]⟩, 0, ln, col, true⟩ : TokM)] = T9 := ⟨_, rfl⟩
              rw [hT9] at hr9
              have HT9 := Lib.hid (show closedT TE FF e' ln col = T9 from HC1.out.trans hT9)
              clear hT9
              obtain ⟨b5, c5, rfl⟩ := own_slice hr9.toks
              obtain ⟨b6, c6, rfl⟩ := own_slice hr9.frames
              obtain ⟨k1, ⟨q0, q1, q2, bx⟩⟩ := HL2.out.took hr9 hh9 DD
              have u0 := bx.cell 0
              have u1 := bx.cell 1
              have u2 := bx.cell 2
              have v0 := bx.free 0
              have v1 := bx.free 1
              have v2 := bx.free 2
              have K1 := Lib.hid k1
              clear k1 bx hr9 hh9 x0 x1 x2 a0 a1 p0 t1
              go_wp2
              go_roundg e'
              case measure => omega
              case rel => exact ⟨by omega, by go_num, by rw [HT9.out]; exact K1.out⟩
            · have HC1 := Lib.hid (HNOT.out hk1)
              simp only [hk1, decide_false] at t1
              clear hk1
              go_wp2
              go_roundg e'
              case measure => omega
              case rel => exact ⟨by omega, by go_num, by rw [HC1.out]; exact HL2.out⟩
          · obtain rfl : gk = 0 := by omega
            have h0' : ¬ (0 : Int) ≤ ((0 : Nat) : Int) - 1 := by omega
            have e : layAll L = closedT TE FF 0 ln col := by rw [HALL.out, ← HTE.out]; rfl
            have HE := Lib.hid e
            clear e
            go_wp2
            refine bodyPost_ret (v := .slice b3 (closedT TE FF 0 ln col).length c3) (by simp [results, Try.results15, go_sem]) rfl ?_
            refine ⟨_, rfl, ?_, ?_⟩
            · rw [HE.out, HP.out]
              exact own_raise HR2.out.toks (fun j hj hz => HR2.out.zt j hj (.inl (.inl hz)))
            · rw [HP.out]
              exact HL2.out.hh.below
end Go.Proofs.Ytidmclaaggoahaa.Ly
