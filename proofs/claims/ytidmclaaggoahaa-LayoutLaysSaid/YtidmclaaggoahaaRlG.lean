/-
  CONTRACT of the document's layout: a token more.
-/
import Derived.Test.YtidmclaaggoahaaRlF
import Derived.Test.YtidmclaaggoahaaLayShift
import Derived.Deep.RegionWith
namespace Go.Proofs.Ytidmclaaggoahaa.Ly
open Go.RowKit Pl Ar Mm Lx
set_option linter.unusedVariables false
set_option linter.unusedSimpArgs false
theorem tops (F : List Fr) : ∀ q, q ≤ F.length → (innerF F q = (-1, 0) ∧ topU F q = (0, 0)) ∨
    ∃ i : Nat, i < q ∧ innerF F q = ((i : Int), frC F i) ∧ topU F q = (frK F i, frC F i) ∧ dropN F q = i ∧ (frK F i = 1 ∨ frK F i = 7) ∧ ∀ j, i < j → j < q → frK F j ≠ 1
  | 0, _ => .inl ⟨rfl, rfl⟩
  | q + 1, h => by
    unfold innerF topU dropN
    by_cases hk : frK F q = 1 ∨ frK F q = 7
    · rw [if_pos hk, if_pos hk, if_pos hk]
      exact .inr ⟨q, by omega, rfl, rfl, rfl, hk, fun j h1 h2 => absurd h1 (by omega)⟩
    · rw [if_neg hk, if_neg hk, if_neg hk]
      rcases tops F q (by omega) with ⟨h1, h2⟩ | ⟨i, h1, h2, h3, h4, h5, h6⟩
      · exact .inl ⟨h1, h2⟩
      · refine .inr ⟨i, by omega, h2, h3, h4, h5, fun j hj hj2 => ?_⟩
        rcases Nat.lt_or_ge j q with hl | hl
        · exact h6 j hj hl
        · obtain rfl : j = q := by omega
          exact fun e => hk (.inl e)
theorem laid_none (F : List Fr) (q : Nat) (hq : q ≤ F.length) : ∀ d m, m + d = q → (∀ j, m ≤ j → j < q → frK F j ≠ 1) → laidN (F.drop m) = laidN (F.drop q)
  | 0, m, h, _ => by rw [show m = q by omega]
  | d + 1, m, h, hn => by
    rw [laidN_step (show m < F.length by omega), if_neg (hn m (Nat.le_refl _) (by omega)), laid_none F q hq d (m + 1) (by omega) (fun j h1 h2 => hn j (by omega) h2)]
    rfl
theorem closedT_top {T : List TokM} {F : List Fr} {i q : Nat} {ln col : Int} (hi : i < q) (hq : q ≤ F.length) (hk : frK F i = 1) (hn : ∀ j, i < j → j < q → frK F j ≠ 1) : closedT T F i ln col = closedT T F q ln col ++ [endM ln col] := by
  rw [closedT_one (by omega) hk]
  unfold closedT
  rw [laid_none F q hq (q - (i + 1)) (i + 1) (by omega) (fun j h1 h2 => hn j (by omega) h2)]
theorem topU_take (F : List Fr) (q : Nat) : ∀ i, i ≤ q → topU (F.take q) i = topU F i
  | 0, _ => rfl
  | i + 1, h => by
    unfold topU
    rw [frK_take F q i (by omega), frC_take F q i (by omega), topU_take F q i (by omega)]
theorem dropN_take (F : List Fr) (q : Nat) : ∀ i, i ≤ q → dropN (F.take q) i = dropN F i
  | 0, _ => rfl
  | i + 1, h => by
    unfold dropN
    rw [frK_take F q i (by omega), dropN_take F q i (by omega)]
theorem frCol {F : List Fr} (h : FC F) {i : Nat} (hi : i < F.length) : (frK F i = 1 → 1 ≤ frC F i) ∧ (frK F i ≠ 1 → frC F i = 0) := by
  rw [frK_get hi, frC_get hi]
  exact h _ (List.getElem_mem _)
theorem RSt.drew {Z : Nat → Prop} {w : World} {T : List TokM} {F : List Fr} {vt vf : Value} (h : RSt Z w T F vt vf) : RSt Z w.drew T F vt vf := ⟨h.toks, h.frames, h.zt, h.zf, h.zl⟩
/-- the state that a call handed back lies at p again -/
theorem TSt.took {Z : Nat → Prop} {w : World} {p : Nat} {t : TokM} {T T' : List TokM} {F F' : List Fr} {due : Bool} {wx w9 : World} {vt9 vf9 : Value} (h : TSt Z w p t T F due wx) (nz : ∀ k, p ≤ k → ¬ Z k) (hr9 : RSt (Z3 Z p) w9 T' F' vt9 vf9) (hh9 : Holds (Z3 Z p) wx w9) (due' : Bool) :
    TSt Z w p t T' F' due' (((w9.setCell ⟨p, 0, none⟩ vt9).setCell ⟨p, 1, none⟩ vf9).setCell ⟨p, 2, none⟩ (.bool due')) ∧
    (∃ v0 v1 v2, Box w9 p RS #[v0, v1, v2]) ∧ Box w9 (p + 1) TT (tokBox t) ∧ Box w9 (p + 1 + 1) RS #[.slice none 0 0, .slice none 0 0, .bool false] ∧ Holds Z w w9 := by
  obtain ⟨vt, vf, hr, hb⟩ := h.st
  have bx : Box w9 p RS #[vt, vf, .bool due] := (hh9.block p (.inl (.inl (.inr rfl)))).trans hb
  have by2 : Box w9 (p + 1) TT (tokBox t) := (hh9.block (p + 1) (.inl (.inr rfl))).trans h.bt
  have bz : Box w9 (p + 1 + 1) RS #[.slice none 0 0, .slice none 0 0, .bool false] := (hh9.block (p + 1 + 1) (.inr rfl)).trans h.bz
  obtain ⟨k1, k2, k3, k4⟩ := st_put hr9 bx due'
  exact ⟨⟨⟨_, _, k2, k1⟩, k4 _ _ (h.hh.trans hh9.three) (nz _ (Nat.le_refl _)), k3 _ _ _ by2 (by omega), k3 _ _ _ bz (by omega)⟩, ⟨_, _, _, bx⟩, by2, bz, h.hh.trans hh9.three⟩
/-- what the loop over a line's blocks has laid -/
structure LS4 (Z : Nat → Prop) (w : World) (p pf : Nat) (t : TokM) (T : List TokM) (F : List Fr) (q : Nat) (wr : World) : Prop where
  le : q ≤ F.length
  st : ∃ vt vf, RSt (Zq (Z3 Z p) pf) wr (closedT T F q t.line t.col) (F.take q) vt vf ∧ Box wr p RS #[vt, vf, .bool false]
  hh : Holds Z w wr
  bt : Box wr (p + 1) TT (tokBox t)
  bz : Box wr (p + 1 + 1) RS #[.slice none 0 0, .slice none 0 0, .bool false]
  bf : Box wr pf RF #[.string (nm (topU F q).1), .int .i64 (topU F q).2]
theorem RSt.over {Z : Nat → Prop} {w : World} {T : List TokM} {F : List Fr} {vt vf : Value} (h : RSt Z w T F vt vf) (o : Obj) : RSt (Zq Z w.heap.size) (w.alloc o) T F vt vf := by
  have h2 := h.alloc o
  refine ⟨h2.toks, h2.frames, fun k hk hz => ?_, fun k hk hz => ?_, fun k hk => ?_⟩
  · have := (World.ownsRow.lt h.toks k hk).2
    rcases hz with hz | hz
    · exact h.zt k hk hz
    · omega
  · have := (World.ownsRow.lt h.frames k hk).2
    rcases hz with hz | hz
    · exact h.zf k hk hz
    · omega
  · rcases hk with hk | hk
    · exact h2.zl k hk
    · rw [hk]; simp
theorem dueT_mark5 {t : TokM} (h : t.kind = 5) : (wordB t ⟨#[108, 101, 116]⟩ || wordB t ⟨#[111, 102]⟩) = false := by
  unfold wordB
  rw [h]
  simp
theorem RSt.putZ {Z : Nat → Prop} {w : World} {T : List TokM} {F : List Fr} {vt vf : Value} (h : RSt Z w T F vt vf) {q : Nat} (hq : Z q) (j : Nat) (u : Value) : RSt Z (w.setCell ⟨q, j, none⟩ u) T F vt vf :=
  ⟨ownsRow_setCell_other h.toks (fun e => h.zt q e hq) u, ownsRow_setCell_other h.frames (fun e => h.zf q e hq) u, h.zt, h.zf, fun k hk => by simpa using h.zl k hk⟩
theorem LS4.start {Z : Nat → Prop} {w wx : World} {p : Nat} {t : TokM} {T : List TokM} {F : List Fr} {vt vf : Value} (h : TSt Z w p t T F false wx) (hr : RSt (Z3 Z p) wx T F vt vf) (hb : Box wx p RS #[vt, vf, .bool false]) :
    LS4 Z w p wx.heap.size t T F F.length (wx.alloc (.cells #[.string (nm (topU F F.length).1), .int .i64 (topU F F.length).2] RF)) :=
  ⟨Nat.le_refl _, ⟨vt, vf, by rw [closedT_full, List.take_length]; exact hr.over _, hb.alloc _⟩, h.hh.alloc hr.three.zl _, h.bt.alloc _, h.bz.alloc _, Box.new _ _ _⟩
set_option maxRecDepth 100000 in
set_option maxHeartbeats 400000000 in
theorem rstep_any {Z : Nat → Prop} {T : List TokM} {F : List Fr} {due : Bool} {vt vf : Value} (t : TokM) (first : Bool) (hF : KF F) (hC : FC F) (w : World) (h : RSt Z w T F vt vf) (hn : T.length + F.length ≤ 999999000) {R : St} (hR : layS t first ⟨T, F, due⟩ = R) :
    Calls Try.prog 26 #[stV vt vf due, tokVal t, .bool first] w (StPost Z R.T R.F R.due w) := by
  obtain ⟨a, c, rfl⟩ := own_slice h.toks
  obtain ⟨af, cf, rfl⟩ := own_slice h.frames
  obtain ⟨p, hp⟩ : ∃ p, w.heap.size = p := ⟨_, rfl⟩
  have NZ := Lib.hid (show ∀ k, p ≤ k → ¬ Z k from fun k hk hz => by have := h.zl _ hz; omega)
  obtain ⟨W0, hW0⟩ : ∃ W0, (((w.alloc (.cells #[.slice a T.length c, .slice af F.length cf, .bool due] RS)).alloc (.cells (tokBox t) TT)).alloc (.cells #[.slice none 0 0, .slice none 0 0, .bool false] RS)) = W0 := ⟨_, rfl⟩
  have hx : Box W0 p RS #[.slice a T.length c, .slice af F.length cf, .bool due] := by rw [← hW0, ← hp]; exact ((Box.new _ _ _).alloc _).alloc _
  have hy : Box W0 (p + 1) TT (tokBox t) := by
    rw [← hW0, ← hp]
    have := Box.new (w.alloc (.cells #[.slice a T.length c, .slice af F.length cf, .bool due] RS)) (tokBox t) TT
    rw [World.size_alloc] at this
    exact this.alloc _
  have hz : Box W0 (p + 1 + 1) RS #[.slice none 0 0, .slice none 0 0, .bool false] := by
    rw [← hW0, ← hp]
    have := Box.new ((w.alloc (.cells #[.slice a T.length c, .slice af F.length cf, .bool due] RS)).alloc (.cells (tokBox t) TT)) #[.slice none 0 0, .slice none 0 0, .bool false] RS
    rw [World.size_alloc, World.size_alloc] at this
    exact this
  have hsz : W0.heap.size = p + 1 + 1 + 1 := by rw [← hW0, ← hp]; simp
  have hbelow : Below w.heap.size w W0 := by rw [← hW0]; exact (((Below.refl _ _).alloc (Nat.le_refl _) _).alloc (by simp) _).alloc (by simp; omega) _
  have T0 := Lib.hid (show TSt Z w p t T F due W0 from ⟨⟨_, _, h.fresh hp hbelow (by omega), hx⟩, (Holds.refl Z w).here h.zl hbelow, hy, hz⟩)
  have x0 := hx.cell 0
  have x1 := hx.cell 1
  have x2 := hx.cell 2
  have f2 := hx.free 2
  have HF := Lib.hid hF
  have HC := Lib.hid hC
  have HRR := Lib.hid hR
  clear hx hy hz hbelow h hsz hF hC hR
  obtain ⟨S1, hS1⟩ : ∃ S1, ph1 due first t T F = S1 := ⟨_, rfl⟩
  have hl1 := ph1_len due first t T F
  have HS1 := Lib.hid hS1
  rw [hS1] at hl1
  clear hS1
  go_enter Try.func26, Try.ntmps26
  go_upto_if 10 with fail
  clear hW0 hp
  go_cut [] (fun wx => (S1.F = F ∧ S1.fst = first ∧ ¬ (due = true ∧ openedK t.kind t.text.data.toList = 7)) ∧ TSt Z w p t S1.T F false wx)
  case first =>
    cases due with
    | false =>
      have e : S1 = ⟨T, F, first⟩ := HS1.out.symm
      go_wp2_with fail
      go_meet
      case rel => exact ⟨⟨by rw [e], by rw [e], fun hh => by cases hh.1⟩, by rw [e]; exact T0.out⟩
    | true =>
      obtain ⟨vt1, vf1, hr1, hb1⟩ := T0.out.st
      obtain ⟨b1, c1, rfl⟩ := own_slice hr1.toks
      obtain ⟨b2, c2, rfl⟩ := own_slice hr1.frames
      clear x0 x1 x2 f2
      have x0 := hb1.cell 0
      have x1 := hb1.cell 1
      have x2 := hb1.cell 2
      have f2 := hb1.free 2
      have HRA := Lib.hid (hr1.putZ (q := p) (.inl (.inl (.inr rfl))) 2 (.bool false))
      have HBA := Lib.hid (hb1.put 2 (.bool false))
      have TA := Lib.hid (show TSt Z w p t T F false (W0.setCell ⟨p, 2, none⟩ (.bool false)) from ⟨⟨_, _, HRA.out, HBA.out⟩, T0.out.hh.setCell (NZ.out _ (Nat.le_refl _)) _, T0.out.bt.far (by simp) _, T0.out.bz.far (by simp; omega) _⟩)
      clear hr1 hb1
      go_wp2_with fail
      refine (top_any HF.out _ (showsR_own HRA.out.frames) (by omega)).mono ?_
      rintro e w3 ⟨rfl, hb3⟩
      have TB := Lib.hid (TA.out.here hb3)
      clear hb3 x0 x1 x2 f2 HRA HBA TA T0
      have y0 := TB.out.bt.cell 0
      have y1 := TB.out.bt.cell 1
      have y2 := TB.out.bt.cell 2
      have y3 := TB.out.bt.cell 3
      have y4 := TB.out.bt.cell 4
      have y5 := TB.out.bt.cell 5
      obtain ⟨kt, hkt⟩ : ∃ x, (topU F F.length).1 = x := ⟨_, rfl⟩
      obtain ⟨ct, hct⟩ : ∃ x, (topU F F.length).2 = x := ⟨_, rfl⟩
      have hin := tops F F.length (Nat.le_refl _)
      rw [hkt, hct]
      have hcond : ((innerF F F.length).2 < t.col ↔ (kt ≠ 1 ∧ 0 < t.col) ∨ (kt = 1 ∧ ct < t.col)) ∧ 0 ≤ kt ∧ kt ≤ 7 := by
        rcases hin with ⟨h1, h2⟩ | ⟨i, h1, h2, h3, h4, h5, h6⟩
        · rw [h2] at hkt hct
          simp only at hkt hct
          rw [h1]
          simp only
          omega
        · rw [h3] at hkt hct
          simp only at hkt hct
          have hc := frCol HC.out h1
          rw [h2]
          simp only
          rw [hkt, hct] at hc
          rcases h5 with h5 | h5
          · rw [hkt] at h5; have := hc.1 h5; rw [hct]; omega
          · rw [hkt] at h5; have := hc.2 (by omega); rw [hct]; omega
      have HCOND := Lib.hid hcond
      have hpf : p + 1 + 1 < w3.heap.size := TB.out.bz.lt
      obtain ⟨vt1, vf1, hrB, hbB⟩ := TB.out.st
      have RO := Lib.hid (hrB.over (.cells #[.string (nm kt), .int .i64 ct] RF))
      have BO := Lib.hid (hbB.alloc (.cells #[.string (nm kt), .int .i64 ct] RF))
      clear hrB hbB
      have TC := Lib.hid (TB.out.here ((Below.refl w3.heap.size w3).alloc (Nat.le_refl _) (.cells #[.string (nm kt), .int .i64 ct] RF)))
      have BF := Lib.hid (Box.new w3 #[.string (nm kt), .int .i64 ct] RF)
      obtain ⟨W3, hW3⟩ : ∃ W3, w3.alloc (.cells #[.string (nm kt), .int .i64 ct] RF) = W3 := ⟨_, rfl⟩
      obtain ⟨pf, hpfe⟩ : ∃ pf, w3.heap.size = pf := ⟨_, rfl⟩
      rw [hW3] at TC BF RO BO
      rw [hpfe] at BF hpf RO
      clear hin hkt hct hcond TB y0 y1 y2 y3 y4 y5
      have y0 := TC.out.bt.cell 0
      have y1 := TC.out.bt.cell 1
      have y2 := TC.out.bt.cell 2
      have y3 := TC.out.bt.cell 3
      have y4 := TC.out.bt.cell 4
      have y5 := TC.out.bt.cell 5
      go_wp2_with fail
      refine (mark_is t _ _).mono ?_
      rintro e w4 ⟨rfl, hb4⟩
      clear hW3 hpfe
      rw [(mark_open t).2.1]
      have TD := Lib.hid (TC.out.here hb4)
      have BD := Lib.hid (BF.out.below hb4 BF.out.lt)
      have RO4 := Lib.hid (RO.out.here hb4)
      have BO4 := Lib.hid (BO.out.below hb4 BO.out.lt)
      clear hb4 TC BF RO BO y0 y1 y2 y3 y4 y5
      have y0 := TD.out.bt.cell 0
      have y1 := TD.out.bt.cell 1
      have y2 := TD.out.bt.cell 2
      have y3 := TD.out.bt.cell 3
      have y4 := TD.out.bt.cell 4
      have y5 := TD.out.bt.cell 5
      obtain ⟨b1, c1, rfl⟩ := own_slice RO4.out.toks
      obtain ⟨b2, c2, rfl⟩ := own_slice RO4.out.frames
      have x0 := BO4.out.cell 0
      have x1 := BO4.out.cell 1
      have x2 := BO4.out.cell 2
      have HR1 := Lib.hid RO4.out.less
      by_cases h7 : openedK t.kind t.text.data.toList = 7
      · have hRR : R = ⟨T ++ [t], F ++ [⟨7, 0⟩], false⟩ := by
          rw [← HRR.out]
          unfold layS
          rw [if_pos ⟨rfl, h7⟩]
        have hdk : dueK t.kind t.text.data.toList = false := by
          rw [← due_word]
          have hm : markB t ⟨#[123]⟩ = true := by rw [(mark_open t).2.1]; exact decide_eq_true h7
          unfold markB at hm
          exact dueT_mark5 (of_decide_eq_true hm).1
        have hp4 : ph4 t (T, F) = (T ++ [t], F ++ [⟨7, 0⟩]) := by unfold ph4; rw [h7]; rfl
        have HRQ := Lib.hid hRR
        have d : decide (openedK t.kind t.text.data.toList = 7) = true := decide_eq_true h7
        rw [d]
        have HP4 := Lib.hid hp4
        have HDK := Lib.hid hdk
        clear d hRR hdk hp4 h7
        go_wp2_with fail
        refine (rtells_any (Z := Z3 Z p) t _ HR1.out (by omega)).mono ?_
        rintro e w9 ⟨vt9, vf9, rfl, hr9, hh9⟩
        rw [HP4.out] at hr9
        rw [HDK.out]
        simp only at hr9
        obtain ⟨T9, hT9⟩ : ∃ T9, T ++ [t] = T9 := ⟨_, rfl⟩
        obtain ⟨F9, hF9⟩ : ∃ F9, F ++ [(⟨7, 0⟩ : Fr)] = F9 := ⟨_, rfl⟩
        rw [hT9, hF9] at hr9 HRQ
        clear hT9 hF9
        obtain ⟨b3, c3, rfl⟩ := own_slice hr9.toks
        obtain ⟨b4, c4, rfl⟩ := own_slice hr9.frames
        obtain ⟨k1, _, k3, bz, k5⟩ := TD.out.took NZ.out hr9 hh9 false
        have z0 := bz.cell 0
        have z1 := bz.cell 1
        have z2 := bz.cell 2
        have e0 := bz.free 0
        have e1 := bz.free 1
        have e2 := bz.free 2
        have HBZ := Lib.hid bz
        have HR9 := Lib.hid hr9
        have HH9 := Lib.hid k5
        clear bz hr9 hh9 k1 k3 k5 x0 x1 x2 y0 y1 y2 y3 y4 y5
        go_wp2
        obtain ⟨W, hW, q0, q1, q2, r4, h4⟩ := st_out HR9.out.three HH9.out HBZ.out (NZ.out _ (by omega)) false
        rw [hW]
        refine bodyPost_ret (v := stV (.slice b3 T9.length c3) (.slice b4 F9.length c4) false) (by simp [results, Try.results26, go_sem, q0, q1, q2]) rfl ?_
        exact ⟨_, _, by rw [HRQ.out], by rw [HRQ.out]; exact r4, h4⟩
      · have d : decide (openedK t.kind t.text.data.toList = 7) = false := decide_eq_false h7
        rw [d]
        clear d
        go_wp2_with fail
        refine (made_any (Z := Zq (Z3 Z p) pf) (ln := t.line) (col := t.col) (due := false) ⟨#[123]⟩ _ RO4.out (by omega)).mono ?_
        rintro e w6 ⟨vt6, vf6, rfl, hr6, hh6⟩
        obtain ⟨L1, hL1⟩ : ∃ L1, T ++ [(⟨5, ⟨#[123]⟩, 0, t.line, t.col, true⟩ : TokM)] = L1 := ⟨_, rfl⟩
        have hll : L1.length ≤ T.length + 1 := by rw [← hL1]; simp
        rw [hL1] at hr6
        have HL1 := Lib.hid (show T ++ [mkM [123] t.line t.col] = L1 from hL1)
        clear hL1
        obtain ⟨b3, c3, rfl⟩ := own_slice hr6.toks
        obtain ⟨b4, c4, rfl⟩ := own_slice hr6.frames
        obtain ⟨k1, ⟨q0, q1, q2, bx6⟩, k3, k4, k5⟩ := TD.out.took NZ.out hr6.less hh6.less false
        have bf6 : Box w6 pf RF _ := (hh6.block pf (.inr rfl)).trans BD.out
        have u0 := bx6.cell 0
        have u1 := bx6.cell 1
        have u2 := bx6.cell 2
        have v0 := bx6.free 0
        have v1 := bx6.free 1
        have v2 := bx6.free 2
        have TE := Lib.hid k1
        have BE := Lib.hid (((bf6.far (a := ⟨p, 0, none⟩) (by simp; omega) (.slice b3 L1.length c3)).far (a := ⟨p, 1, none⟩) (by simp; omega) (.slice b4 F.length c4)).far (a := ⟨p, 2, none⟩) (by simp; omega) (.bool false))
        clear k1 k3 k4 k5 bx6 bf6 hr6 hh6 x0 x1 x2 y0 y1 y2 y3 y4 y5 HR1 RO4 BO4 TD BD
        obtain ⟨W7, hW7⟩ : ∃ W7, ((w6.setCell ⟨p, 0, none⟩ (.slice b3 L1.length c3)).setCell ⟨p, 1, none⟩ (.slice b4 F.length c4)).setCell ⟨p, 2, none⟩ (.bool false) = W7 := ⟨_, rfl⟩
        go_upto_region 7 with fail
        rw [hW7] at TE BE
        clear hW7 u0 u1 u2 v0 v1 v2
        go_cut [45] (fun s45 wx => s45 = .bool (decide ((innerF F F.length).2 < t.col)) ∧ wx = W7)
        case first =>
          have t1 := nm_eq (a := kt) ⟨HCOND.out.2.1, HCOND.out.2.2⟩ 1 (by omega)
          rw [show (nm 1).toList = [98, 108, 111, 99, 107] by rw [Lib.toList_data]; rfl] at t1
          have z0 := BE.out.cell 0
          have z1 := BE.out.cell 1
          obtain ⟨nmk, hnmk⟩ : ∃ x, nm kt = x := ⟨_, rfl⟩
          rw [hnmk] at z0 t1
          have y4 := TE.out.bt.cell 4
          clear hnmk
          have hgoal : decide ((innerF F F.length).2 < t.col) = (decide (kt ≠ 1 ∧ 0 < t.col) || decide (kt = 1 ∧ ct < t.col)) := by
            rw [← Bool.decide_or]
            exact decide_eq_decide.2 HCOND.out.1
          have HG := Lib.hid hgoal
          clear hgoal
          by_cases hk1 : kt = 1
          · simp only [hk1, decide_true] at t1
            by_cases hlt : ct < t.col
            · have d : (decide (kt ≠ 1 ∧ 0 < t.col) || decide (kt = 1 ∧ ct < t.col)) = true := by simp [hk1, hlt]
              have HD := Lib.hid d
              clear d hk1
              go_wp2_with fail
              go_meet
              case rel => exact ⟨by rw [HG.out, HD.out], rfl⟩
            · have d : (decide (kt ≠ 1 ∧ 0 < t.col) || decide (kt = 1 ∧ ct < t.col)) = false := by simp [hk1, hlt]
              have HD := Lib.hid d
              clear d hk1
              go_wp2_with fail
              go_meet
              case rel => exact ⟨by rw [HG.out, HD.out], rfl⟩
          · simp only [hk1, decide_false] at t1
            by_cases hlt : 0 < t.col
            · have d : (decide (kt ≠ 1 ∧ 0 < t.col) || decide (kt = 1 ∧ ct < t.col)) = true := by simp [hk1, hlt]
              have HD := Lib.hid d
              clear d hk1
              go_wp2_with fail
              go_meet
              case rel => exact ⟨by rw [HG.out, HD.out], rfl⟩
            · have d : (decide (kt ≠ 1 ∧ 0 < t.col) || decide (kt = 1 ∧ ct < t.col)) = false := by simp [hk1, hlt]
              have HD := Lib.hid d
              clear d hk1
              go_wp2_with fail
              go_meet
              case rel => exact ⟨by rw [HG.out, HD.out], rfl⟩
        case rest =>
          as_aux_lemma =>
            obtain ⟨e, e2⟩ := hcut
            subst e e2
            obtain ⟨vt7, vf7, hr7, hb7⟩ := TE.out.st
            obtain ⟨b5, c5, rfl⟩ := own_slice hr7.toks
            obtain ⟨b6, c6, rfl⟩ := own_slice hr7.frames
            have x0 := hb7.cell 0
            have x1 := hb7.cell 1
            have x2 := hb7.cell 2
            have y3 := TE.out.bt.cell 3
            have y4 := TE.out.bt.cell 4
            have HR7 := Lib.hid hr7
            clear hr7 hb7
            by_cases hc : (innerF F F.length).2 < t.col
            · have d : decide ((innerF F F.length).2 < t.col) = true := decide_eq_true hc
              rw [d]
              have e : S1 = ⟨L1, F ++ [⟨1, t.col⟩], false⟩ := by
                rw [← HS1.out, ← HL1.out]
                unfold ph1
                rw [if_pos rfl, if_pos hc]
              obtain ⟨B2, hB2⟩ : ∃ B2, F ++ [(⟨1, t.col⟩ : Fr)] = B2 := ⟨_, rfl⟩
              rw [hB2] at e
              have hl2 : B2.length ≤ F.length + 1 := by rw [← hB2]; simp
              obtain ⟨⟨A3, B3⟩, hS3⟩ : ∃ S3, ph3 t (L1, B2) = S3 := ⟨_, rfl⟩
              have hRR : R = ⟨(ph4 t (A3, B3)).1, (ph4 t (A3, B3)).2, dueK t.kind t.text.data.toList⟩ := by
                rw [← HRR.out]
                unfold layS
                rw [if_neg (fun hh => h7 hh.2)]
                simp only [HS1.out, e]
                have e2 : ph2 t ⟨L1, B2, false⟩ = (L1, B2) := rfl
                rw [e2, hS3]
              have hKS : KF B2 := by rw [← hB2]; exact HF.out.push (by omega)
              have hl3 := ph3_len t (L1, B2)
              rw [hS3] at hl3
              simp only at hl3
              have HK := Lib.hid hKS
              have HRQ := Lib.hid hRR
              have HS3 := Lib.hid hS3
              have HB2 := Lib.hid hB2
              clear d e hB2 hS3 hRR hKS hc h7
              go_wp2_with fail
              refine (pushed_txt (Z := Z3 Z p) (due := false) 1 t.col rfl _ HR7.out (by omega)).mono ?_
              rintro e w8 ⟨vt8, vf8, rfl, hr8, hh8⟩
              rw [HB2.out] at hr8
              obtain ⟨b7, c7, rfl⟩ := own_slice hr8.toks
              obtain ⟨b8, c8, rfl⟩ := own_slice hr8.frames
              obtain ⟨k1, ⟨q0, q1, q2, bx8⟩, k3, k4, k5⟩ := TE.out.took NZ.out hr8 hh8 false
              have u0 := bx8.cell 0
              have u1 := bx8.cell 1
              have u2 := bx8.cell 2
              have v0 := bx8.free 0
              have v1 := bx8.free 1
              have v2 := bx8.free 2
              have T0 := Lib.hid k1
              clear k1 k3 k4 k5 bx8 hr8 hh8 x0 x1 x2 y3 y4 TE BE
              obtain ⟨W8, hW8⟩ : ∃ W8, ((w8.setCell ⟨p, 0, none⟩ (.slice b7 L1.length c7)).setCell ⟨p, 1, none⟩ (.slice b8 B2.length c8)).setCell ⟨p, 2, none⟩ (.bool false) = W8 := ⟨_, rfl⟩
              go_upto_region 9 with fail
              rw [hW8] at T0
              clear hW8 u0 u1 u2 v0 v1 v2
              obtain ⟨vt1, vf1, hr1, hb1⟩ := T0.out.st
              obtain ⟨b1, c1, rfl⟩ := own_slice hr1.toks
              obtain ⟨b2, c2, rfl⟩ := own_slice hr1.frames
              have x0 := hb1.cell 0
              have x1 := hb1.cell 1
              have x2 := hb1.cell 2
              have y0 := T0.out.bt.cell 0
              have y1 := T0.out.bt.cell 1
              have y2 := T0.out.bt.cell 2
              have y3 := T0.out.bt.cell 3
              have y4 := T0.out.bt.cell 4
              have y5 := T0.out.bt.cell 5
              have HR1 := Lib.hid hr1
              clear hb1 hr1
              go_wp2_with fail
              go_region_with (first | (go_at_call 50; refine (rcloses_any (Z := Z3 Z p) (due := false) t HK.out _ HR1.out.drew (by omega)).mono ?_; rintro e w8 ⟨vt8, vf8, rfl, hr8, hh8⟩; rw [HS3.out] at hr8; simp only at hr8; have by8 : Box w8 (p + 1) TT (tokBox t) := (hh8.block (p + 1) (.inl (.inr rfl))).trans T0.out.bt; have y0 := by8.cell 0; have y1 := by8.cell 1; have y2 := by8.cell 2; have y3 := by8.cell 3; have y4 := by8.cell 4; have y5 := by8.cell 5; have HR8 := Lib.hid hr8; have HH8 := Lib.hid hh8; clear by8 hr8 hh8) | (go_at_call 48; refine (rtells_any (Z := Z3 Z p) t _ HR8.out (by omega)).mono ?_; rintro e w9 ⟨vt9, vf9, rfl, hr9, hh9⟩; obtain ⟨b3, c3, rfl⟩ := own_slice hr9.toks; obtain ⟨b4, c4, rfl⟩ := own_slice hr9.frames; have bz : Box w9 (p + 1 + 1) RS #[.slice none 0 0, .slice none 0 0, .bool false] := (hh9.block (p + 1 + 1) (.inr rfl)).trans ((HH8.out.block (p + 1 + 1) (.inr rfl)).trans T0.out.bz); have z0 := bz.cell 0; have z1 := bz.cell 1; have z2 := bz.cell 2; have e0 := bz.free 0; have e1 := bz.free 1; have e2 := bz.free 2; have HBZ := Lib.hid bz; have HR9 := Lib.hid hr9; have HH9 := Lib.hid hh9; clear bz hr9 hh9))
              all_goals
                go_wp2
                obtain ⟨W, hW, q0, q1, q2, r4, h4⟩ := st_out HR9.out.three ((T0.out.hh.drew.trans HH8.out.three).trans HH9.out.three) HBZ.out (NZ.out _ (by omega)) (dueK t.kind t.text.data.toList)
                rw [hW]
                refine bodyPost_ret (v := stV (.slice b3 (ph4 t (A3, B3)).1.length c3) (.slice b4 (ph4 t (A3, B3)).2.length c4) (dueK t.kind t.text.data.toList)) (by simp [results, Try.results26, go_sem, q0, q1, q2]) rfl ?_
                exact ⟨_, _, by rw [HRQ.out], by rw [HRQ.out]; exact r4, h4⟩
            · have d : decide ((innerF F F.length).2 < t.col) = false := decide_eq_false hc
              rw [d]
              have e : S1 = ⟨L1 ++ [mkM [125] t.line t.col], F, first⟩ := by
                rw [← HS1.out, ← HL1.out]
                unfold ph1
                rw [if_pos rfl, if_neg hc]
              have HE := Lib.hid e
              clear d e hc
              go_wp2_with fail
              refine (made_any (Z := Z3 Z p) (ln := t.line) (col := t.col) (due := false) ⟨#[125]⟩ _ HR7.out (by omega)).mono ?_
              rintro e w8 ⟨vt8, vf8, rfl, hr8, hh8⟩
              obtain ⟨L2, hL2⟩ : ∃ L2, L1 ++ [(⟨5, ⟨#[125]⟩, 0, t.line, t.col, true⟩ : TokM)] = L2 := ⟨_, rfl⟩
              rw [hL2] at hr8
              have HL2 := Lib.hid (show L1 ++ [mkM [125] t.line t.col] = L2 from hL2)
              clear hL2
              obtain ⟨b7, c7, rfl⟩ := own_slice hr8.toks
              obtain ⟨b8, c8, rfl⟩ := own_slice hr8.frames
              obtain ⟨k1, ⟨q0, q1, q2, bx8⟩, k3, k4, k5⟩ := TE.out.took NZ.out hr8 hh8 false
              have u0 := bx8.cell 0
              have u1 := bx8.cell 1
              have u2 := bx8.cell 2
              have v0 := bx8.free 0
              have v1 := bx8.free 1
              have v2 := bx8.free 2
              have TG := Lib.hid k1
              clear k1 k3 k4 k5 bx8 hr8 hh8 x0 x1 x2 y3 y4 TE BE
              go_wp2_with fail
              go_meet
              case rel => exact ⟨⟨by rw [HE.out], by rw [HE.out], fun hh => h7 hh.2⟩, by rw [HE.out]; simp only; rw [HL2.out]; exact TG.out⟩
  case rest =>
    obtain ⟨⟨hSF, hSf, hnb⟩, h4⟩ := hcut
    clear T0 x0 x1 x2 f2
    have T0 := Lib.hid h4
    have HNB := Lib.hid hnb
    have HSF := Lib.hid (show S1.F = F ∧ S1.fst = first from ⟨hSF, hSf⟩)
    obtain ⟨⟨A2, B2⟩, hS2⟩ : ∃ S2, ph2 t S1 = S2 := ⟨_, rfl⟩
    have hl2 := ph2_len t S1
    rw [hS2] at hl2
    simp only at hl2
    have HS2 := Lib.hid hS2
    clear h4 hSF hSf hnb hS2
    go_upto_if 60 with fail
    go_cut [] (fun wx => TSt Z w p t A2 B2 false wx)
    case first =>
      as_aux_lemma =>
        cases first with
        | false =>
          go_wp2_with fail
          go_meet
          case rel =>
            have e : (A2, B2) = (S1.T, F) := by
              rw [← HS2.out]
              unfold ph2
              rw [HSF.out.2, HSF.out.1]
              rfl
            injection e with e1 e2
            rw [e1, e2]
            exact T0.out
        | true =>
          have hAB : A2 = lineT S1.T F t.col t.line t.col (lineQ F t.col F.length F.length) ∧ B2 = F.take (lineQ F t.col F.length F.length) := by
            have e : ph2 t S1 = (A2, B2) := HS2.out
            unfold ph2 at e
            rw [HSF.out.2, HSF.out.1] at e
            simp only [if_true] at e
            injection e with e1 e2
            exact ⟨e1.symm, e2.symm⟩
          have HAB := Lib.hid hAB
          have hsf : S1.F.length = F.length := by rw [HSF.out.1]
          clear hAB
          obtain ⟨vt1, vf1, hr1, hb1⟩ := T0.out.st
          obtain ⟨b1, c1, rfl⟩ := own_slice hr1.toks
          obtain ⟨b2, c2, rfl⟩ := own_slice hr1.frames
          have x0 := hb1.cell 0
          have x1 := hb1.cell 1
          have x2 := hb1.cell 2
          have HR1 := Lib.hid hr1
          have HB1 := Lib.hid hb1
          clear hb1 hr1
          go_wp2_with fail
          refine (top_any HF.out _ (showsR_own HR1.out.frames) (by omega)).mono ?_
          rintro e w3 ⟨rfl, hb3⟩
          have T1 := Lib.hid (T0.out.here hb3)
          have HR3 := Lib.hid (HR1.out.here hb3)
          have HB3 := Lib.hid (HB1.out.below hb3 HB1.out.lt)
          clear hb3 x0 x1 x2
          have LS0 := Lib.hid (LS4.start T1.out HR3.out HB3.out)
          have hpf : p + 1 + 1 < w3.heap.size := T1.out.bz.lt
          obtain ⟨pf, hpfe⟩ : ∃ pf, w3.heap.size = pf := ⟨_, rfl⟩
          rw [hpfe] at LS0 hpf
          go_wp2_with fail
          clear hpfe HB3 HR3 T1 HR1 HB1
          go_loopg [] F.length (fun dd wr => ∃ n, dd ≤ n ∧ lineQ F t.col n dd = lineQ F t.col F.length F.length ∧ LS4 Z w p pf t S1.T F dd wr)
          case atStart => exact ⟨F.length, Nat.le_refl _, rfl, LS0.out⟩
          case round =>
            obtain ⟨n, hdn, hlq, hls⟩ := hrel
            obtain ⟨q, hq⟩ : ∃ q, gk = q := ⟨_, rfl⟩
            subst hq
            have L0 := Lib.hid hls
            have HLQ := Lib.hid hlq
            have hle := hls.le
            have hin := tops F gk hle
            obtain ⟨vt1, vf1, hr1, hb1⟩ := hls.st
            obtain ⟨b1, c1, rfl⟩ := own_slice hr1.toks
            obtain ⟨b2, c2, rfl⟩ := own_slice hr1.frames
            have x0 := hb1.cell 0
            have x1 := hb1.cell 1
            have x2 := hb1.cell 2
            have f1 := hb1.free 1
            have y3 := hls.bt.cell 3
            have y4 := hls.bt.cell 4
            have z0 := hls.bf.cell 0
            have z1 := hls.bf.cell 1
            have g0 := hls.bf.free 0
            have g1 := hls.bf.free 1
            have hTS : TSt Z w p t (closedT S1.T F gk t.line t.col) (F.take gk) false wr := ⟨⟨_, _, hr1.less, hb1⟩, hls.hh, hls.bt, hls.bz⟩
            have HTS := Lib.hid hTS
            have HR1 := Lib.hid hr1
            have HB1 := Lib.hid hb1
            have htl : (F.take gk).length = gk := by rw [List.length_take]; omega
            have hcl := closedT_len S1.T F gk t.line t.col
            clear hls hlq hb1 hr1 hTS
            have done : ∀ (he : lineQ F t.col n gk = gk), (A2 = closedT S1.T F gk t.line t.col ++ (if 0 < (innerF F gk).2 ∧ (innerF F gk).2 = t.col then [mkM [59] t.line t.col] else [])) ∧ B2 = F.take gk := fun he => by
              have e2 : lineQ F t.col F.length F.length = gk := by rw [← HLQ.out, he]
              obtain ⟨e3, e4⟩ := HAB.out
              rw [e2] at e3 e4
              exact ⟨e3, e4⟩
            have HDN := Lib.hid done
            clear done
            have hstop : ¬ max t.col 0 < (innerF F gk).2 → lineQ F t.col n gk = gk := fun hh => by
              cases n with
              | zero => rfl
              | succ n => unfold Ly.lineQ; rw [if_neg hh]
            have HST := Lib.hid hstop
            clear hstop
            rcases hin with ⟨h1, h2⟩ | ⟨i, h1, h2, h3, h4, h5, h6⟩
            · rw [h2] at z0 z1
              replace z0 : wr.cell? ⟨pf, 0, none⟩ = some (.string ⟨#[]⟩) := z0
              obtain ⟨e3, e4⟩ := HDN.out (HST.out (by rw [h1]; simp only; omega))
              rw [h1] at e3
              simp only [Int.lt_irrefl, false_and, if_false, List.append_nil] at e3
              have HDONE := Lib.hid (show TSt Z w p t A2 B2 false wr by rw [e3, e4]; exact HTS.out)
              clear e3 e4 h1 h2
              go_wp2_with fail
              go_meet
              case rel => exact HDONE.out
            · rw [h3] at z0 z1
              by_cases hk : frK F i = 1
              · have hc1 := (frCol HC.out (show i < F.length by omega)).1 hk
                rw [hk] at z0
                replace z0 : wr.cell? ⟨pf, 0, none⟩ = some (.string ⟨#[98, 108, 111, 99, 107]⟩) := z0
                obtain ⟨cc, hcc⟩ : ∃ cc, frC F i = cc := ⟨_, rfl⟩
                rw [hcc] at z1 hc1 h2
                by_cases hgt : t.col < cc
                · have hgt' : max t.col 0 < (innerF F gk).2 := by rw [h2]; simp only; omega
                  have hlq2 : ∃ n', i ≤ n' ∧ lineQ F t.col n' i = lineQ F t.col F.length F.length := by
                    cases n with
                    | zero => omega
                    | succ n' =>
                      refine ⟨n', by omega, ?_⟩
                      rw [← HLQ.out]
                      show _ = lineQ F t.col (n' + 1) gk
                      unfold Ly.lineQ
                      rw [if_pos hgt', h2]
                      simp only [Int.toNat_natCast]
                      cases n' <;> rfl
                  have HLQ2 := Lib.hid hlq2
                  have HCT := Lib.hid (closedT_top (T := S1.T) (ln := t.line) (col := t.col) h1 hle hk h6)
                  have HTT := Lib.hid (show topU (F.take i) i = topU F i from topU_take F i i (Nat.le_refl _))
                  have HDT := Lib.hid (show dropN (F.take gk) gk = i by rw [dropN_take F gk gk (Nat.le_refl _), h4])
                  have HKQ := Lib.hid (HF.out.take gk)
                  have HKI := Lib.hid (HF.out.take i)
                  have HRC := HR1.out
                  obtain ⟨g, hgb, _, _, hcap, _⟩ := own_at HRC.frames (by rw [htl]; omega)
                  subst hgb
                  have hSH := showsR_own HRC.frames
                  have HSH := Lib.hid hSH
                  have HTL := Lib.hid htl
                  have hcut := HRC.cut (q := i) (by rw [htl]; omega)
                  have htt : (F.take gk).take i = F.take i := by rw [List.take_take, Nat.min_eq_left (by omega)]
                  rw [htt] at hcut
                  have HCUT := Lib.hid hcut
                  have htl2 : (F.take i).length = i := by rw [List.length_take]; omega
                  have HTL2 := Lib.hid htl2
                  clear hlq2 hgt' h2 h3 h4 h5 h6 HRC hSH hcut htt htl htl2 hcc hdn
                  have hdr := dropped_any (g := g) (c := c2) HKQ.out wr HSH.out (by rw [HTL.out] at hcap ⊢; exact hcap) (by rw [HTL.out]; omega)
                  rw [HTL.out, HDT.out] at hdr
                  have HDR := Lib.hid hdr
                  clear hdr
                  go_wp2_with fail
                  refine HDR.out.mono ?_
                  rintro e w4 ⟨rfl, hb4⟩
                  have hbx4 := HB1.out.below hb4 HB1.out.lt
                  have hbt4 := L0.out.bt.below hb4 L0.out.bt.lt
                  have hbz4 := L0.out.bz.below hb4 L0.out.bz.lt
                  have hbf4 := L0.out.bf.below hb4 L0.out.bf.lt
                  have hr4 := HCUT.out.here hb4
                  have hh4 := L0.out.hh.here HCUT.out.less.three.zl hb4
                  have HR5 := Lib.hid (hr4.putZ (q := p) (.inl (.inl (.inl (.inr rfl)))) 1 (.slice (some ⟨g, 0, none⟩) i c2))
                  have HX5 := Lib.hid (hbx4.put 1 (.slice (some ⟨g, 0, none⟩) i c2))
                  have HT5 := Lib.hid (hbt4.far (a := ⟨p, 1, none⟩) (by simp) (.slice (some ⟨g, 0, none⟩) i c2))
                  have HZ5 := Lib.hid (hbz4.far (a := ⟨p, 1, none⟩) (by simp; omega) (.slice (some ⟨g, 0, none⟩) i c2))
                  have HF5 := Lib.hid (hbf4.far (a := ⟨p, 1, none⟩) (by simp; omega) (.slice (some ⟨g, 0, none⟩) i c2))
                  have HH5 := Lib.hid (hh4.setCell (a := ⟨p, 1, none⟩) (NZ.out _ (Nat.le_refl _)) (.slice (some ⟨g, 0, none⟩) i c2))
                  clear x0 x1 x2 f1 y3 y4 z0 z1 g0 g1
                  have x0 := hbx4.cell 0
                  have x1 := hbx4.cell 1
                  have x2 := hbx4.cell 2
                  have f1 := hbx4.free 1
                  have y3 := hbt4.cell 3
                  have y4 := hbt4.cell 4
                  clear hbx4 hbt4 hbz4 hbf4 hr4 hh4 hb4
                  go_wp2_with fail
                  refine (made_any (Z := Zq (Z3 Z p) pf) (ln := t.line) (col := t.col) (due := false) ⟨#[125]⟩ _ HR5.out (by omega)).mono ?_
                  rintro e w6 ⟨vt6, vf6, rfl, hr6, hh6⟩
                  obtain ⟨T6, hT6⟩ : ∃ T6, closedT S1.T F gk t.line t.col ++ [⟨5, ⟨#[125]⟩, 0, t.line, t.col, true⟩] = T6 := ⟨_, rfl⟩
                  rw [hT6] at hr6
                  have HT6 := Lib.hid (show closedT S1.T F i t.line t.col = T6 from HCT.out.trans hT6)
                  clear hT6
                  obtain ⟨FI, hFI⟩ : ∃ FI, F.take i = FI := ⟨_, rfl⟩
                  have HFI := Lib.hid hFI
                  rw [hFI] at hr6
                  clear hFI
                  have bx6 : Box w6 p RS _ := (hh6.block p (.inl (.inl (.inl (.inr rfl))))).trans HX5.out
                  have bt6 : Box w6 (p + 1) TT _ := (hh6.block (p + 1) (.inl (.inl (.inr rfl)))).trans HT5.out
                  have bz6 : Box w6 (p + 1 + 1) RS _ := (hh6.block (p + 1 + 1) (.inl (.inr rfl))).trans HZ5.out
                  have bf6 : Box w6 pf RF _ := (hh6.block pf (.inr rfl)).trans HF5.out
                  obtain ⟨b6, c6, rfl⟩ := own_slice hr6.toks
                  obtain ⟨b7, c7, rfl⟩ := own_slice hr6.frames
                  have u0 := bx6.cell 0
                  have u1 := bx6.cell 1
                  have u2 := bx6.cell 2
                  have v0 := bx6.free 0
                  have v1 := bx6.free 1
                  have v2 := bx6.free 2
                  obtain ⟨k1, k2, k3, k4⟩ := st_put hr6 bx6 false
                  have HX7 := Lib.hid k1
                  have HR7 := Lib.hid k2
                  have HT7 := Lib.hid (k3 _ _ _ bt6 (by omega))
                  have HZ7 := Lib.hid (k3 _ _ _ bz6 (by omega))
                  have HF7 := Lib.hid (k3 _ _ _ bf6 (by omega))
                  have HH7 := Lib.hid (k4 _ _ (HH5.out.trans hh6.less.three) (NZ.out _ (Nat.le_refl _)))
                  clear x0 x1 x2 f1 y3 y4 bx6 bt6 bz6 bf6 hr6 hh6 k1 k2 k3 k4
                  have hKI : KF FI := by rw [← HFI.out]; exact HKI.out
                  have hLI : FI.length = i := by rw [← HFI.out]; exact HTL2.out
                  have hTU : topU FI i = topU F i := by rw [← HFI.out]; exact HTT.out
                  have HKI2 := Lib.hid hKI
                  have HLI := Lib.hid hLI
                  have HTU := Lib.hid hTU
                  clear hKI hLI hTU
                  go_wp2_with fail
                  refine (top_any HKI2.out _ (showsR_own HR7.out.frames) (by rw [HLI.out]; omega)).mono ?_
                  rintro e w8 ⟨rfl, hb8⟩
                  rw [HLI.out, HTU.out]
                  have bf8 := HF7.out.below hb8 HF7.out.lt
                  have z0 := bf8.cell 0
                  have z1 := bf8.cell 1
                  have g0 := bf8.free 0
                  have g1 := bf8.free 1
                  have bx8 := HX7.out.below hb8 HX7.out.lt
                  have bt8 := HT7.out.below hb8 HT7.out.lt
                  have bz8 := HZ7.out.below hb8 HZ7.out.lt
                  have r8 := HR7.out.here hb8
                  have h8 := HH7.out.here HR7.out.less.three.zl hb8
                  have LF := Lib.hid (show LS4 Z w p pf t S1.T F i ((w8.setCell ⟨pf, 0, none⟩ (.string (nm (topU F i).1))).setCell ⟨pf, 1, none⟩ (.int .i64 (topU F i).2)) from
                    ⟨by omega, ⟨_, _, by rw [HT6.out, HFI.out]; exact (r8.putZ (.inr rfl) 0 _).putZ (.inr rfl) 1 _, (bx8.far (by simp; omega) _).far (by simp; omega) _⟩, (h8.setCell (a := ⟨pf, 0, none⟩) (NZ.out pf (by omega)) _).setCell (a := ⟨pf, 1, none⟩) (NZ.out pf (by omega)) _, (bt8.far (by simp; omega) _).far (by simp; omega) _, (bz8.far (by simp; omega) _).far (by simp; omega) _, (bf8.put 0 _).put 1 _⟩)
                  clear bf8 bx8 bt8 bz8 r8 h8 hb8 u0 u1 u2 v0 v1 v2
                  go_wp2_with fail
                  go_roundg i
                  case measure => omega
                  case rel =>
                    obtain ⟨n', hn1, hn2⟩ := HLQ2.out
                    exact ⟨n', hn1, hn2, LF.out⟩
                · have hng : ¬ max t.col 0 < (innerF F gk).2 := by rw [h2]; simp only; omega
                  obtain ⟨e3, e4⟩ := HDN.out (HST.out hng)
                  rw [h2] at e3
                  simp only at e3
                  have hc0 : 0 < cc := by omega
                  clear hng
                  by_cases hcc2 : cc = t.col
                  · rw [if_pos ⟨hc0, hcc2⟩] at e3
                    have HE3 := Lib.hid e3
                    have HE4 := Lib.hid e4
                    have hcc3 : (cc == t.col) = true := by simp [hcc2]
                    have hr1b := HR1.out
                    rw [htl] at hr1b
                    have HR1b := Lib.hid hr1b
                    clear hr1b
                    clear e3 e4 h2 h3 h4 h5 h6 hcc hcc2
                    go_wp2_with fail
                    refine (made_any (Z := Zq (Z3 Z p) pf) (ln := t.line) (col := t.col) (due := false) ⟨#[59]⟩ _ HR1b.out (by omega)).mono ?_
                    rintro e w6 ⟨vt6, vf6, rfl, hr6, hh6⟩
                    have hA : closedT S1.T F gk t.line t.col ++ [⟨5, ⟨#[59]⟩, 0, t.line, t.col, true⟩] = A2 := HE3.out.symm
                    rw [hA, ← HE4.out] at hr6
                    obtain ⟨b6, c6, rfl⟩ := own_slice hr6.toks
                    obtain ⟨b7, c7, rfl⟩ := own_slice hr6.frames
                    obtain ⟨k1, ⟨q0, q1, q2, bx6⟩, k3, k4, k5⟩ := HTS.out.took NZ.out hr6.less hh6.less false
                    have u0 := bx6.cell 0
                    have u1 := bx6.cell 1
                    have u2 := bx6.cell 2
                    have v0 := bx6.free 0
                    have v1 := bx6.free 1
                    have v2 := bx6.free 2
                    have HDONE := Lib.hid k1
                    clear hA hr6 hh6 bx6 k1 k3 k4 k5 x0 x1 x2 f1 y3 y4 z0 z1 g0 g1
                    go_wp2_with fail
                    go_meet
                    case rel => exact HDONE.out
                  · rw [if_neg (fun hh => hcc2 hh.2), List.append_nil] at e3
                    have hcc3 : (cc == t.col) = false := by simp [hcc2]
                    have HDONE := Lib.hid (show TSt Z w p t A2 B2 false wr by rw [e3, e4]; exact HTS.out)
                    clear e3 e4 h2 h3 h4 h5 h6 hcc
                    go_wp2_with fail
                    go_meet
                    case rel => exact HDONE.out
              · have hk7 : frK F i = 7 := by omega
                have hc0 := (frCol HC.out (show i < F.length by omega)).2 hk
                rw [hk7] at z0
                replace z0 : wr.cell? ⟨pf, 0, none⟩ = some (.string ⟨#[123]⟩) := z0
                obtain ⟨e3, e4⟩ := HDN.out (HST.out (by rw [h2]; simp only; omega))
                rw [h2, hc0] at e3
                simp only [Int.lt_irrefl, false_and, if_false, List.append_nil] at e3
                have HDONE := Lib.hid (show TSt Z w p t A2 B2 false wr by rw [e3, e4]; exact HTS.out)
                clear e3 e4 h2 h3 h4 h5 h6
                go_wp2_with fail
                go_meet
                case rel => exact HDONE.out
    case rest =>
      as_aux_lemma =>
        clear T0
        have T0 := Lib.hid hcut
        obtain ⟨⟨A3, B3⟩, hS3⟩ : ∃ S3, ph3 t (A2, B2) = S3 := ⟨_, rfl⟩
        have hRR : R = ⟨(ph4 t (A3, B3)).1, (ph4 t (A3, B3)).2, dueK t.kind t.text.data.toList⟩ := by
          rw [← HRR.out]
          unfold layS
          rw [if_neg HNB.out]
          simp only [HS1.out, HS2.out, hS3]
        have hKS : KF B2 := by
          have : (ph2 t S1).2 = B2 := by rw [HS2.out]
          rw [← this]
          unfold ph2
          rw [HSF.out.1]
          split
          · exact HF.out.take _
          · exact HF.out
        have hl3 := ph3_len t (A2, B2)
        rw [hS3] at hl3
        simp only at hl3
        have HK := Lib.hid hKS
        have HRQ := Lib.hid hRR
        have HS3 := Lib.hid hS3
        clear hcut hRR hKS hS3
        obtain ⟨vt1, vf1, hr1, hb1⟩ := T0.out.st
        obtain ⟨b1, c1, rfl⟩ := own_slice hr1.toks
        obtain ⟨b2, c2, rfl⟩ := own_slice hr1.frames
        have x0 := hb1.cell 0
        have x1 := hb1.cell 1
        have x2 := hb1.cell 2
        have y0 := T0.out.bt.cell 0
        have y1 := T0.out.bt.cell 1
        have y2 := T0.out.bt.cell 2
        have y3 := T0.out.bt.cell 3
        have y4 := T0.out.bt.cell 4
        have y5 := T0.out.bt.cell 5
        have HR1 := Lib.hid hr1
        clear hb1 hr1
        go_wp2_with fail
        go_region_with (first | (go_at_call 50; refine (rcloses_any (Z := Z3 Z p) (due := false) t HK.out _ HR1.out.drew (by omega)).mono ?_; rintro e w8 ⟨vt8, vf8, rfl, hr8, hh8⟩; rw [HS3.out] at hr8; simp only at hr8; have by8 : Box w8 (p + 1) TT (tokBox t) := (hh8.block (p + 1) (.inl (.inr rfl))).trans T0.out.bt; have y0 := by8.cell 0; have y1 := by8.cell 1; have y2 := by8.cell 2; have y3 := by8.cell 3; have y4 := by8.cell 4; have y5 := by8.cell 5; have HR8 := Lib.hid hr8; have HH8 := Lib.hid hh8; clear by8 hr8 hh8) | (go_at_call 48; refine (rtells_any (Z := Z3 Z p) t _ HR8.out (by omega)).mono ?_; rintro e w9 ⟨vt9, vf9, rfl, hr9, hh9⟩; obtain ⟨b3, c3, rfl⟩ := own_slice hr9.toks; obtain ⟨b4, c4, rfl⟩ := own_slice hr9.frames; have bz : Box w9 (p + 1 + 1) RS #[.slice none 0 0, .slice none 0 0, .bool false] := (hh9.block (p + 1 + 1) (.inr rfl)).trans ((HH8.out.block (p + 1 + 1) (.inr rfl)).trans T0.out.bz); have z0 := bz.cell 0; have z1 := bz.cell 1; have z2 := bz.cell 2; have e0 := bz.free 0; have e1 := bz.free 1; have e2 := bz.free 2; have HBZ := Lib.hid bz; have HR9 := Lib.hid hr9; have HH9 := Lib.hid hh9; clear bz hr9 hh9))
        all_goals
          go_wp2
          obtain ⟨W, hW, q0, q1, q2, r4, h4⟩ := st_out HR9.out.three ((T0.out.hh.drew.trans HH8.out.three).trans HH9.out.three) HBZ.out (NZ.out _ (by omega)) (dueK t.kind t.text.data.toList)
          rw [hW]
          refine bodyPost_ret (v := stV (.slice b3 (ph4 t (A3, B3)).1.length c3) (.slice b4 (ph4 t (A3, B3)).2.length c4) (dueK t.kind t.text.data.toList)) (by simp [results, Try.results26, go_sem, q0, q1, q2]) rfl ?_
          exact ⟨_, _, by rw [HRQ.out], by rw [HRQ.out]; exact r4, h4⟩
end Go.Proofs.Ytidmclaaggoahaa.Ly
