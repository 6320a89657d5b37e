/-
  CONTRACT: a look from one thing.
-/
import Derived.Test.YtephmagficbdeaaGrE
import Derived.Test.YtephmagficbdeaaGrMath4
namespace Go.Proofs.Ytephmagficbdeaa.Gr
open Go.RowKit Go.Shelf Go.Sort Mm Sp
set_option linter.unusedVariables false
set_option linter.unusedSimpArgs false
/-- rows of natural numbers, as they are read -/
def RRN (B : Nat) (w : World) (ua : Option Addr) (g : List (List Nat)) : Prop :=
  ∀ i, i < g.length → ∃ ad a2 c2, ua = some ad ∧ ad.block < B ∧ w.cell? (ad.add i) = some (.slice a2 (U g i).length c2) ∧ (U g i).length ≤ 9223372036854775807 ∧ ∀ j, (hj : j < (U g i).length) → ∃ ad2, a2 = some ad2 ∧ ad2.block < B ∧ w.cell? (ad2.add j) = some (.int .i64 (((U g i)[j] : Nat) : Int))
theorem RR.nat {B : Nat} {w : World} {v : Value} {g : List (List Nat)} (h : RR B w v (gi g)) : ∃ ua uc, v = .slice ua g.length uc ∧ RRN B w ua g := by
  obtain ⟨a, c, rfl, hN, hr⟩ := h
  refine ⟨a, c, by rw [gi_length], fun i hi => ?_⟩
  obtain ⟨ad, u, rfl, hb, hc, a2, c2, rfl, hl, hr2⟩ := hr i (by rw [gi_length]; exact hi)
  rw [gi_getD, ni_length] at hc hl hr2
  refine ⟨ad, a2, c2, rfl, hb, hc, hl, fun j hj => ?_⟩
  obtain ⟨ad2, rfl, h2, h3⟩ := hr2 j hj
  refine ⟨ad2, rfl, h2, h3.trans ?_⟩
  show some (Value.int .i64 ((ni (g.getD i [])).getD j 0)) = _
  rw [ni_getD]
  have : (g.getD i []).getD j 0 = (U g i)[j] := by
    show (U g i).getD j 0 = _
    rw [List.getD_eq_getElem?_getD, List.getElem?_eq_getElem hj]
    rfl
  rw [this]
theorem RRN.below {B B' : Nat} {w w' : World} {ua : Option Addr} {g : List (List Nat)} (h : RRN B w ua g) (hb : Below B' w w') (hle : B ≤ B') : RRN B w' ua g := by
  intro i hi
  obtain ⟨ad, a2, c2, h1, h2, h3, h4, h5⟩ := h i hi
  refine ⟨ad, a2, c2, h1, h2, by rw [hb.cell (by rw [block_of_add]; omega)]; exact h3, h4, fun j hj => ?_⟩
  obtain ⟨ad2, k1, k2, k3⟩ := h5 j hj
  exact ⟨ad2, k1, k2, by rw [hb.cell (by rw [block_of_add]; omega)]; exact k3⟩
theorem snoc_cases {α : Type} (l : List α) : l = [] ∨ ∃ P m, l = P ++ [m] := by
  cases l with
  | nil => exact .inl rfl
  | cons a l => exact .inr ⟨_, _, (List.dropLast_concat_getLast (List.cons_ne_nil a l)).symm⟩
/-- the top of the path is left -/
theorem Mid.leave {g : List (List Nat)} {s0 s : TS} {n0 : Nat} (h : Mid g s0 n0 s) {P : List Nat} {m : Nat} (hp : s.path = P ++ [m]) (hf : (U g m).length ≤ s.nxt m) :
    ∃ O1 O2 bk, s.opn = O1 ++ m :: O2 ∧ m ∉ O1 ∧ ((P = [] ∧ bk = s.back) ∨ ∃ Q q, P = Q ++ [q] ∧ bk = upd s.back q (min (s.back q) (s.back m))) ∧ (∀ x ∈ P, x ≠ m) ∧ Mid g s0 n0 (leaveS s P O1 O2 bk m) ∧ left g (leaveS s P O1 O2 bk m) < left g s := by
  have hm : m ∈ s.path := by rw [hp]; simp
  obtain ⟨O1, O2, ho, hno⟩ := split_at (h.inv.pop m hm)
  have hnd := h.inv.path_nodup
  rw [hp, List.nodup_append] at hnd
  have hPm : ∀ x ∈ P, x ≠ m := fun x hx => hnd.2.2 x hx m (by simp)
  have key : ∀ bk, ((P = [] ∧ bk = s.back) ∨ ∃ Q q, P = Q ++ [q] ∧ bk = upd s.back q (min (s.back q) (s.back m))) → Inv g (leaveS s P O1 O2 bk m) → ∃ O1 O2 bk, s.opn = O1 ++ m :: O2 ∧ m ∉ O1 ∧ ((P = [] ∧ bk = s.back) ∨ ∃ Q q, P = Q ++ [q] ∧ bk = upd s.back q (min (s.back q) (s.back m))) ∧ (∀ x ∈ P, x ≠ m) ∧ Mid g s0 n0 (leaveS s P O1 O2 bk m) ∧ left g (leaveS s P O1 O2 bk m) < left g s := by
    intro bk hbk hi
    have e1 : (leaveS s P O1 O2 bk m).at_ = s.at_ := by unfold leaveS; split <;> rfl
    have e2 : (leaveS s P O1 O2 bk m).count = s.count := by unfold leaveS; split <;> rfl
    have e3 : (leaveS s P O1 O2 bk m).path = P := by unfold leaveS; split <;> rfl
    refine ⟨O1, O2, bk, ho, hno, hbk, hPm, ⟨hi, by rw [e2, vc_same e1]; exact h.cnt, by rw [e1]; exact h.n0, fun v hv => by rw [e1]; exact h.old v hv⟩, ?_⟩
    unfold left
    rw [vc_same e1, e3, hp]
    simp
  by_cases hlt : s.back m < s.at_ m
  · obtain ⟨Q, q, hQ, hi⟩ := h.inv.leaveNo hp hf hlt
    refine key _ (.inr ⟨Q, q, hQ, rfl⟩) ?_
    unfold leaveS
    rw [if_pos hlt]
    exact hi
  · have hnodup : (m :: O2).Nodup := by
      have := h.inv.opn_nodup
      rw [ho, List.nodup_append] at this
      exact this.2.1
    have hyes := fun (b : Nat → Nat) (hb : ∀ p ∈ P, b p = s.back p) => h.inv.leaveYes (C := sortN (m :: O2)) hp hf hlt ho (sortN_rising hnodup) (fun x => sortN_mem _ x) (b := b) hb (wh := fun v => decide (v ∈ sortN (m :: O2)) || s.whole v) (fun v => by simp)
    rcases snoc_cases P with hP | ⟨Q, q, hP⟩
    · refine key _ (.inl ⟨hP, rfl⟩) ?_
      unfold leaveS
      rw [if_neg hlt]
      exact hyes _ (fun _ _ => rfl)
    · refine key _ (.inr ⟨Q, q, hP, rfl⟩) ?_
      unfold leaveS
      rw [if_neg hlt]
      refine hyes _ fun p hpP => ?_
      by_cases e : p = q
      · subst e
        rw [upd_same]
        have h1 := (h.inv.bck p (by rw [hp]; exact List.mem_append.2 (.inl hpP))).1
        have h2 := h.inv.psr
        rw [hp, List.pairwise_append] at h2
        have := h2.2.2 p hpP m (by simp)
        omega
      · rw [upd_ne _ _ e]
/-- how a look from one thing ends -/
def FromPost (B : Nat) (w : World) (p : Nat) (uv : Value) (g : List (List Nat)) (s0 : TS) (n0 : Nat) (e : Ending) (w' : World) : Prop :=
  ∃ s, e = .returned (.tuple #[]) ∧ Look B w' p uv g.length s ∧ Mid g s0 n0 s ∧ s.path = [] ∧ Below B w w'
def AtHead (B : Nat) (w : World) (p : Nat) (uv : Value) (g : List (List Nat)) (s0 : TS) (n0 d : Nat) (wr : World) : Prop :=
  ∃ s, Look B wr p uv g.length s ∧ Mid g s0 n0 s ∧ Below B w wr ∧ d = left g s
def InHead (B : Nat) (w : World) (p : Nat) (uv : Value) (g : List (List Nat)) (s0 : TS) (n0 L m d : Nat) (q : Nat) (pv ov gv : Value) (vs : List Value) (wr : World) : Prop :=
  ∃ s P, LookAt B wr p uv g.length s q pv ov gv vs ∧ Mid g s0 n0 s ∧ Below B w wr ∧ L = left g s ∧ s.path = P ++ [m] ∧ d = (U g m).length - s.nxt m
set_option maxRecDepth 100000 in
set_option maxHeartbeats 8000000 in
theorem from_any (hS : SortOK) {B : Nat} {p : Nat} {ua : Option Addr} {uc : Nat} {g : List (List Nat)} {s0 : TS} (n0 : Nat) (w : World) (h : Look B w p (.slice ua g.length uc) g.length s0) (hu : RRN B w ua g) (hi : Inv g s0) (hc : s0.count = vc g.length s0) (hn : n0 < g.length) (h0 : s0.at_ n0 = 0) (hp : s0.path = []) (hN : g.length ≤ 2048) (hB : B ≤ w.heap.size) :
    Calls Try.prog 25 #[.pointer (some ⟨p, 0, none⟩), .int .i64 n0] w (FromPost B w p (.slice ua g.length uc) g s0 n0) := by
  have hvl := vc_le g.length s0
  have HE := enter_any n0 w h hn hN hB (by omega) (by rw [hp]; simp) (by rw [hi.opn_nil hp]; simp)
  have HM0 := Lib.hid (Mid.start hi hc hn h0 hp)
  have HU := Lib.hid hu
  clear h hi hc h0 hp hu
  go_enter Try.func25, Try.ntmps25
  go_step3
  go_wp2_with fail
  refine HE.mono ?_
  rintro e w1 ⟨rfl, h1, hb1⟩
  have H1 := Lib.hid h1
  have HB1 := Lib.hid hb1
  clear HE h1 hb1
  go_wp2_with fail
  go_step3
  go_wp2_with fail
  go_loopg [] (left g (s0.enter n0)) (fun d wr => AtHead B w p (.slice ua g.length uc) g s0 n0 d wr)
  case atStart => exact ⟨s0.enter n0, H1.out, HM0.out, HB1.out, rfl⟩
  case round =>
    obtain ⟨s, ⟨q, pv, ov, gv, vs, H⟩, hM, hbw, hd⟩ := hrel
    have HM := Lib.hid hM
    have HH := Lib.hid H
    have HBW := Lib.hid hbw
    have HD := Lib.hid hd
    have hzB : B ≤ wr.heap.size := Nat.le_trans hB hbw.size
    clear hd hbw
    rcases snoc_cases s.path with hp0 | ⟨P, m, hp0⟩
    · have hpl : s.path.length = 0 := by rw [hp0]; rfl
      have hpth := H.pth
      rw [hpl] at hpth
      obtain ⟨a3, c3, rfl⟩ := own_slice hpth
      have HP0 := Lib.hid hp0
      have x3 := H.box.cell 3
      simp only [List.getElem?_toArray, List.getElem?_cons_zero, List.getElem?_cons_succ] at x3
      clear H hM hp0 hpl hpth
      go_wp2_with fail
      rw [Exit.noGoto_normal]
      go_wp2_with fail
      refine bodyPost_end (by simp [results, Try.results25, go_sem]; rfl) rfl ?_
      exact ⟨s, rfl, ⟨_, _, _, _, _, HH.out⟩, HM.out, HP0.out, HBW.out⟩
    · have hmp : m ∈ s.path := by rw [hp0]; simp
      have hm : m < g.length := hM.inv.path_lt m hmp
      have hpl := hM.inv.path_len
      have hpl2 : P.length + 1 ≤ 2048 := by rw [hp0] at hpl; simp at hpl; omega
      have hpth : wr.ownsRow B TI 1 pv (P.length + 1) (nv s.path) := by have := H.pth; rw [hp0] at this ⊢; simpa using this
      obtain ⟨gp, cp, rfl, hgp1, hgp2, hgp3⟩ := own_form hpth
      have c0 : wr.cell? ⟨gp, P.length, none⟩ = some (.int .i64 m) := by
        refine (hpth.cellAt P.length (by omega)).trans ?_
        rw [hp0]
        simp [nv]
      have x1 := H.box.cell 1
      have x3 := H.box.cell 3
      simp only [List.getElem?_toArray, List.getElem?_cons_zero, List.getElem?_cons_succ] at x1 x3
      have HP0 := Lib.hid hp0
      have hmi : (m : Int) < g.length := by omega
      clear H hM hp0 hpl hpth hmp
      go_wp2_with fail
      go_region
      go_wp2_with fail
      clear x1 x3 c0
      go_loopg [] ((U g m).length - s.nxt m) (fun d wx => InHead B w p (.slice ua g.length uc) g s0 n0 (left g s) m d q (.slice (some ⟨gp, 0, none⟩) (P.length + 1) cp) ov gv vs wx)
      case atStart => exact ⟨s, P, HH.out.drew, HM.out, HBW.out.drew, rfl, HP0.out, rfl⟩
      case round =>
        obtain ⟨s2, P2, h2, hm2, hb2, hL2, hp2, hd2⟩ := hrel
        have RU := HU.out.below hb2 (Nat.le_refl _)
        obtain ⟨ad, a2, c2, rfl, had, y0, hUl, hUj⟩ := RU m hm
        have H2 := Lib.hid h2
        have M2 := Lib.hid hm2
        have B2 := Lib.hid hb2
        have L2 := Lib.hid hL2
        have P2' := Lib.hid hp2
        have D2 := Lib.hid hd2
        have HUJ := Lib.hid hUj
        have hzB2 : B ≤ wr.heap.size := Nat.le_trans hB hb2.size
        have x0 := h2.box.cell 0
        have x1 := h2.box.cell 1
        simp only [List.getElem?_toArray, List.getElem?_cons_zero, List.getElem?_cons_succ] at x0 x1
        obtain ⟨_, _, t2, _⟩ := h2.thing hm
        have f2 := h2.thg.frozenAt (m * 4 + 2)
        clear RU h2 hm2 hb2 hL2 hp2 hd2 hUj
        by_cases hk : s2.nxt m < (U g m).length
        · have hk' : (s2.nxt m : Int) < (U g m).length := by omega
          obtain ⟨ad2, rfl, had2, y1⟩ := HUJ.out (s2.nxt m) hk
          have HW := Lib.hid (show (U g m)[s2.nxt m]? = some (U g m)[s2.nxt m] from List.getElem?_eq_getElem hk)
          have hul : (U g m)[s2.nxt m] < g.length := M2.out.inv.use m hm _ (List.getElem_mem hk)
          generalize (U g m)[s2.nxt m] = u at y1 HW hul
          have hui : (u : Int) < g.length := by omega
          obtain ⟨W1, hW1⟩ : ∃ W1, ((wr.setCell ⟨q, m * 4 + 2, none⟩ (.int .i64 (↑(s2.nxt m) + 1))).drew).drew = W1 := ⟨_, rfl⟩
          have hl1 : LookAt B W1 p (.slice (some ad) g.length uc) g.length (s2.step m) q (.slice (some ⟨gp, 0, none⟩) (P.length + 1) cp) ov gv vs := by
            rw [← hW1]
            exact ((H2.out.put (n := m) (j := 2) (s' := s2.step m) hm (by omega) (by simp [cell4, TS.step, upd]) (fun a ha => by simp [cell4, TS.step, upd, ha]) rfl rfl rfl rfl).drew).drew
          have hb1 : Below B w W1 := by
            rw [← hW1]
            exact ((B2.out.setCell (p := ⟨q, m * 4 + 2, none⟩) H2.out.hq _).drew).drew
          have L1 := Lib.hid hl1
          have BW1 := Lib.hid hb1
          have hz1 : B ≤ W1.heap.size := Nat.le_trans hB hb1.size
          have z1 := hl1.box.cell 1
          obtain ⟨v0, v1, v2, v3⟩ := hl1.thing hul
          simp only [List.getElem?_toArray, List.getElem?_cons_zero, List.getElem?_cons_succ] at z1
          clear hl1 hb1
          go_wp2_with fail
          go_region
          go_wp2_with fail
          go_region
          go_upto_region 7 with fail
          replace v0 : W1.cell? ⟨q, u * 4, none⟩ = some (.int .i64 (s2.at_ u)) := v0
          replace v1 : W1.cell? ⟨q, u * 4 + 1, none⟩ = some (.int .i64 (s2.back u)) := v1
          replace v3 : W1.cell? ⟨q, u * 4 + 3, none⟩ = some (.bool (s2.whole u)) := v3
          clear hW1 x0 x1 t2 f2 y0 y1
          obtain ⟨Y, hY⟩ : ∃ Y, W1.heap.size = Y := ⟨_, rfl⟩
          obtain ⟨W2, hW2⟩ : ∃ W2, W1.alloc (.cells #[.int .i64 (s2.at_ u), .int .i64 (s2.back u), .int .i64 ((s2.step m).nxt u), .bool (s2.whole u)] TT) = W2 := ⟨_, rfl⟩
          have bY : Box W2 Y TT #[.int .i64 (s2.at_ u), .int .i64 (s2.back u), .int .i64 ((s2.step m).nxt u), .bool (s2.whole u)] := by
            rw [← hW2, ← hY]; exact Box.new W1 _ TT
          have hqY : q < Y := by rw [← hY]; exact (L1.out.thg.lt q rfl).2
          have hl3 : LookAt B W2 p (.slice (some ad) g.length uc) g.length (s2.step m) q (.slice (some ⟨gp, 0, none⟩) (P.length + 1) cp) ov gv vs := by
            rw [← hW2]; exact L1.out.alloc _
          have L3 := Lib.hid hl3
          have BW3 := Lib.hid (show Below B w W2 by rw [← hW2]; exact BW1.out.alloc hz1 _)
          have hz3 : B ≤ W2.heap.size := Nat.le_trans hB BW3.out.size
          have b0 := bY.cell 0
          have b3 := bY.cell 3
          have w1 := (hl3.thing hm).2.1
          have f1 := hl3.thg.frozenAt (m * 4 + 1)
          replace w1 : W2.cell? ⟨q, m * 4 + 1, none⟩ = some (.int .i64 (s2.back m)) := w1
          simp only [List.getElem?_toArray, List.getElem?_cons_zero, List.getElem?_cons_succ] at b0 b3
          have hqY2 : q ≠ Y := by omega
          have hYq2 : Y ≠ q := by omega
          clear hl3 bY
          go_upto_region 8 with fail
          clear hW2 hY v0 v1 v2 v3 z1
          by_cases hu0 : s2.at_ u = 0
          · have hMD := M2.out.deeper P2'.out HW.out hu0
            have i2 := M2.out.inv
            have c2 := M2.out.cnt
            have cl := vc_le g.length s2
            have HEN := enter_any u W2 ⟨q, _, _, _, _, L3.out⟩ hul hN hz3 (by show s2.count ≤ _; omega) (by have := i2.path_len; show s2.path.length ≤ _; omega) (by have := i2.opn_len; show s2.opn.length ≤ _; omega)
            have MD := Lib.hid hMD
            rw [hu0] at b0
            clear hMD i2 c2 cl hu0
            go_wp2_with fail
            refine HEN.mono ?_
            rintro e w3 ⟨rfl, h3, hb3⟩
            have H3 := Lib.hid h3
            have HB3 := Lib.hid hb3
            clear HEN h3 hb3
            go_wp2_with fail
            go_roundg (left g ((s2.step m).enter u))
            case measure => have := MD.out.2; have := L2.out; have := HD.out; omega
            case rel => exact ⟨_, H3.out, MD.out.1, BW3.out.trans HB3.out, rfl⟩
          · have hu1 : ((s2.at_ u : Int) == 0) = false := by
              simp only [beq_eq_false_iff_ne, ne_eq]; omega
            have HU0 := Lib.hid hu0
            clear hu0
            cases hwh : s2.whole u with
            | true =>
              have HM3 := Lib.hid (M2.out.whole P2'.out HW.out HU0.out hwh)
              rw [hwh] at b3
              clear hwh
              go_wp2_with fail
              go_roundg ((U g m).length - (s2.nxt m + 1))
              case measure => have := D2.out; omega
              case rel => exact ⟨s2.step m, P2, L3.out, HM3.out, BW3.out, L2.out, P2'.out, by simp [TS.step, upd]⟩
            | false =>
              have HM3 := Lib.hid (M2.out.seen P2'.out HW.out HU0.out hwh)
              rw [hwh] at b3
              clear hwh
              go_wp2_with fail
              go_region
              go_wp2_with fail
              all_goals
                have e3 : (s2.at_ u < s2.back m ∧ min (s2.back m) (s2.at_ u) = s2.at_ u) ∨ (s2.back m ≤ s2.at_ u ∧ min (s2.back m) (s2.at_ u) = s2.back m) := by omega
                go_roundg ((U g m).length - (s2.nxt m + 1))
                case measure => have := D2.out; omega
                case rel =>
                  refine ⟨(s2.step m).seen m u, P2, (L3.out.put (n := m) (j := 1) (s' := (s2.step m).seen m u) hm (by omega) ?_ ?_ rfl rfl rfl rfl).drew, HM3.out, (BW3.out.setCell (p := ⟨q, m * 4 + 1, none⟩) L3.out.hq _).drew, L2.out, P2'.out, by simp [TS.step, TS.seen, upd]⟩
                  · rcases e3 with ⟨e4, e5⟩ | ⟨e4, e5⟩
                    · first | (exfalso; omega) | simp [cell4, upd, TS.step, TS.seen, e5]
                    · first | (exfalso; omega) | simp [cell4, upd, TS.step, TS.seen, e5]
                  · intro a ha; simp [cell4, upd, TS.step, TS.seen, ha]
        · have hk' : ¬ (s2.nxt m : Int) < (U g m).length := by omega
          obtain ⟨O1, O2, bk, ho, hno, hbk, hPm, hML, hlt⟩ := M2.out.leave P2'.out (by omega)
          have i2 := M2.out.inv
          have HLV := leave_any hS m wr.drew ⟨q, _, _, _, _, H2.out.drew⟩ hm hN hzB2 P2'.out ho hno i2.opn_len i2.path_len i2.groups_len hPm i2.opn_lt i2.path_lt hbk
          have HML := Lib.hid hML
          have HLT := Lib.hid hlt
          clear ho hno hbk hPm hML hlt i2
          go_wp2_with fail
          go_region
          go_wp2_with fail
          refine HLV.mono ?_
          rintro e w3 ⟨rfl, h3, hb3⟩
          have H3 := Lib.hid h3
          have HB3 := Lib.hid hb3
          clear HLV h3 hb3
          go_wp2_with fail
          go_roundg (left g (leaveS s2 P2 O1 O2 bk m))
          case measure => have := HLT.out; have := L2.out; have := HD.out; omega
          case rel => exact ⟨_, H3.out, HML.out, B2.out.drew.trans HB3.out, rfl⟩
end Go.Proofs.Ytephmagficbdeaa.Gr
