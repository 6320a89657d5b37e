/-
  The walk of 'changelinglaw05.FixParts'.
-/
import Derived.Test.YtlhppkaehoppnaaFixSidesW
import Derived.Test.YtlhppkaehoppnaaFixMath3
namespace Go.Proofs.Ytlhppkaehoppnaa.Fx
open Go.RowKit Fm Mm Nm
set_option linter.unusedVariables false

set_option maxRecDepth 100000 in
set_option maxHeartbeats 4000000 in
theorem parts_out (b1 : Option Addr) (n1 c1 : Nat) (hn1 : n1 ≤ 9223372036854775807) (r1 : Row) (o : ByteArray) (a l p q : Int) (b2 : Option Addr) (n2 c2 : Nat) (hn2 : n2 ≤ 9223372036854775807) (r2 : Row) (w : World) (h : 300 < n1 ∨ 300 < n2 ∨ fineB a l = false) : Calls Try.prog 8 #[.slice b1 n1 c1, fixV o a l p q, .slice b2 n2 c2] w fun e w' => e = .returned (.bool true) ∧ Below w.heap.size w w' := by
  by_cases x1 : 300 < n1
  · have d1 : decide ((300 : Int) < n1) = true := decide_eq_true (by omega)
    clear h x1
    go_enter Try.func8, Try.ntmps8
    go_wp2_with fail
    refine (known_any _).mono ?_
    rintro e w9 ⟨rfl, hb9⟩
    have HB9 := Lib.hid (((Below.refl _ _).alloc (Nat.le_refl _) (.cells #[.string o, .int .i64 a, .int .i64 l, .int .i64 p, .int .i64 q] 33)).trans (hb9.mono (by simp)))
    clear hb9
    go_wp2
    go_returns
    exact ⟨rfl, HB9.out⟩
  · have d1 : decide ((300 : Int) < n1) = false := decide_eq_false (by omega)
    by_cases x2 : 300 < n2
    · have d2 : decide ((300 : Int) < n2) = true := decide_eq_true (by omega)
      clear h x1 x2
      go_enter Try.func8, Try.ntmps8
      go_wp2_with fail
      refine (known_any _).mono ?_
      rintro e w9 ⟨rfl, hb9⟩
      have HB9 := Lib.hid (((Below.refl _ _).alloc (Nat.le_refl _) (.cells #[.string o, .int .i64 a, .int .i64 l, .int .i64 p, .int .i64 q] 33)).trans (hb9.mono (by simp)))
      clear hb9
      go_wp2
      go_returns
      exact ⟨rfl, HB9.out⟩
    · have d2 : decide ((300 : Int) < n2) = false := decide_eq_false (by omega)
      have hf : fineB a l = false := by rcases h with h | h | h <;> first | omega | exact h
      have HF := Lib.hid hf
      clear h x1 x2 hf
      go_enter Try.func8, Try.ntmps8
      go_wp2_with fail
      refine (right_any HF.out _ _ _ _).mono ?_
      rintro e w2 ⟨rfl, hb2⟩
      have HB2 := Lib.hid (show Below w.heap.size w w2 from ((Below.refl _ _).alloc (Nat.le_refl _) (.cells #[.string o, .int .i64 a, .int .i64 l, .int .i64 p, .int .i64 q] 33)).trans (hb2.mono (by simp)))
      have z2 := HB2.out.size
      clear hb2
      go_wp2_with fail
      refine (known_any _).mono ?_
      rintro e w9 ⟨rfl, hb9⟩
      have HB9 := Lib.hid (HB2.out.trans (hb9.mono z2))
      clear hb9
      go_wp2
      go_returns
      exact ⟨rfl, HB9.out⟩
set_option maxRecDepth 100000 in
set_option maxHeartbeats 8000000 in
theorem parts_main (b1 : Option Addr) (n1 c1 : Nat) (hn1 : n1 ≤ 9223372036854775807) (r1 : Row) (o : ByteArray) (a l p q : Int) (b2 : Option Addr) (n2 c2 : Nat) (hn2 : n2 ≤ 9223372036854775807) (r2 : Row) (w : World) (h1 : Reads w w.heap.size b1 n1 r1) (h2 : Reads w w.heap.size b2 n2 r2) (x1 : n1 ≤ 300) (x2 : n2 ≤ 300) (hf : fineB a l = true) : Calls Try.prog 8 #[.slice b1 n1 c1, fixV o a l p q, .slice b2 n2 c2] w fun e w' => e = .returned (.bool true) ∧ Below w.heap.size w w' := by
  have d1 : decide ((300 : Int) < n1) = false := decide_eq_false (by omega)
  have d2 : decide ((300 : Int) < n2) = false := decide_eq_false (by omega)
  have H1 := Lib.hid h1
  have H2 := Lib.hid h2
  have HF := Lib.hid hf
  obtain ⟨ra, g1, g2, g3⟩ : ∃ ra : Row, (∀ j, j < n1 → ra.O j = r1.O j ∧ ra.A j = r1.A j ∧ ra.L j = r1.L j ∧ ra.P j = r1.P j ∧ ra.Q j = r1.Q j) ∧ (ra.O n1 = o ∧ ra.A n1 = a ∧ ra.L n1 = l ∧ ra.P n1 = p ∧ ra.Q n1 = q) ∧
      (∀ j, j < n2 → ra.O (n1 + 1 + j) = r2.O j ∧ ra.A (n1 + 1 + j) = r2.A j ∧ ra.L (n1 + 1 + j) = r2.L j ∧ ra.P (n1 + 1 + j) = r2.P j ∧ ra.Q (n1 + 1 + j) = r2.Q j) := by
    refine ⟨⟨fun j => if j < n1 then r1.O j else if j = n1 then o else r2.O (j - n1 - 1), fun j => if j < n1 then r1.A j else if j = n1 then a else r2.A (j - n1 - 1), fun j => if j < n1 then r1.L j else if j = n1 then l else r2.L (j - n1 - 1), fun j => if j < n1 then r1.P j else if j = n1 then p else r2.P (j - n1 - 1), fun j => if j < n1 then r1.Q j else if j = n1 then q else r2.Q (j - n1 - 1)⟩, ?_, ?_, ?_⟩
    · intro j hj
      simp [hj]
    · simp
    · intro j hj
      have k1 : ¬ n1 + 1 + j < n1 := by omega
      have k2 : ¬ n1 + 1 + j = n1 := by omega
      have k3 : n1 + 1 + j - n1 - 1 = j := by omega
      simp [k1, k2, k3]
  have G1 := Lib.hid g1
  have G2 := Lib.hid g2
  have G3 := Lib.hid g3
  obtain ⟨i0, hi, hz0, hz1, hz2⟩ := info_parts Tfix
  clear h1 h2 hf g1 g2 g3
  go_enter Try.func8, Try.ntmps8
  go_wp2_with fail
  refine (right_any HF.out _ _ _ _).mono ?_
  rintro e w1 ⟨rfl, hb1⟩
  have HB1 := Lib.hid (show Below w.heap.size w w1 from ((Below.refl _ _).alloc (Nat.le_refl _) (.cells #[.string o, .int .i64 a, .int .i64 l, .int .i64 p, .int .i64 q] 33)).trans (hb1.mono (by simp)))
  have HX1 := Lib.hid ((Box.new w #[.string o, .int .i64 a, .int .i64 l, .int .i64 p, .int .i64 q] 33).below hb1 (by simp))
  clear hb1
  go_wp2_with fail
  go_loopg [7, 8] n1 (fun d v7 v8 wr => ∃ k : Nat, d + k = n1 ∧ v8 = .int .i64 k ∧ OwnsF wr (w.heap.size + 1) v7 k ra ∧ (∀ j, j < k → l < r1.L j) ∧ Box wr w.heap.size 33 #[.string o, .int .i64 a, .int .i64 l, .int .i64 p, .int .i64 q] ∧ Below w.heap.size w wr)
  case atStart => exact ⟨0, by omega, rfl, World.ownsRow_nil _ _ _ _, (fun j h => absurd h (by omega)), HX1.out, HB1.out⟩
  case round =>
    obtain ⟨k, hk, rfl, how, hlow, hx, hbw⟩ := hrel
    have HK := Lib.hid hk
    have HOW := Lib.hid how
    have HLOW := Lib.hid hlow
    have HX := Lib.hid hx
    have HBW := Lib.hid hbw
    have hle : k ≤ n1 := by omega
    have zr := hx.lt
    have zr2 : w.heap.size ≤ wr.heap.size := by omega
    have y0 := hx.cell 0
    have y1 := hx.cell 1
    have y2 := hx.cell 2
    have y3 := hx.cell 3
    have y4 := hx.cell 4
    simp only [List.getElem?_toArray, List.getElem?_cons_zero, List.getElem?_cons_succ] at y0 y1 y2 y3 y4
    clear hk how hlow hx hbw
    by_cases hlt : k < n1
    · have hlt' : (k : Int) < n1 := by omega
      obtain ⟨ad, rfl, had, c0, c1', c2', c3, c4⟩ := (H1.out.below HBW.out (Nat.le_refl _)) k hlt
      by_cases hL : r1.L k ≤ l
      · have e1 : decide (r1.L k ≤ l) = true := decide_eq_true hL
        clear hL
        go_wp2_with fail
        go_quiet (fail)
        go_wp2_with fail
        have HBD := Lib.hid (below_drewN HBW.out nq)
        refine (known_any _).mono ?_
        rintro e w9 ⟨rfl, hb9⟩
        have HB9 := Lib.hid (HBD.out.trans (hb9.mono zr2))
        clear hb9
        go_wp2
        go_returns
        exact ⟨rfl, HB9.out⟩
      · have e1 : decide (r1.L k ≤ l) = false := decide_eq_false hL
        have HL := Lib.hid hL
        obtain ⟨t0, t1, t2, t3, t4⟩ := G1.out k hlt
        rw [← t0] at c0
        rw [← t1] at c1'
        rw [← t3] at c3
        rw [← t4] at c4
        have T2 := Lib.hid t2
        clear hL t0 t1 t2 t3 t4 y0 y1 y3 y4
        go_wp2_with fail
        go_quiet (fail)
        have HOWD := Lib.hid (own_drewN HOW.out nq)
        go_wp2_with (first | (at_builtin; refine wpList_append_own _ rfl _ _ 22 rfl (w.heap.size + 1) 33 i0 _ 5 48 Try.underlying22 hi hz0 hz1 hz2 rfl (by decide) _ _ _ rfl (HOWD.out.alloc _) ⟨wr.heap.size, 0, none⟩ 1 1 [.string (ra.O k), .int .i64 (ra.A k), .int .i64 (r1.L k), .int .i64 (ra.P k), .int .i64 (ra.Q k)] rfl rfl ?c1a ?c2a ?c3a ?c4a ?c5a ?_))
        case c1a => have := news5 (wr.drewN nq) (.string (ra.O k)) (.int .i64 (ra.A k)) (.int .i64 (r1.L k)) (.int .i64 (ra.P k)) (.int .i64 (ra.Q k)) 33; simpa using this
        case c2a =>
          intro u hu
          simp only [List.mem_cons, List.not_mem_nil, or_false] at hu
          rcases hu with rfl | rfl | rfl | rfl | rfl <;> rfl
        case c3a => unfold maxLen; omega
        case c4a => omega
        case c5a => simp; omega
        intro v' w3 hown' hgrow _
        have hP := push_fix HOWD.out (Below.refl (w.heap.size + 1) (wr.drewN nq)) (by have := zr; simp; omega) (by rw [T2.out]; exact hown') hgrow
        have HX3 := Lib.hid (((HX.out.drewN nq).alloc _).grown hgrow (by
          intro h
          have := (HOWD.out.lt _ h.symm).1
          omega))
        have HP1 := Lib.hid hP.1
        have HP2 := Lib.hid hP.2
        clear hown' hgrow hP
        have HP3 := Lib.hid (((below_drewN HBW.out nq)).trans (HP2.out.mono (by omega)))
        have HL2 := Lib.hid (show ∀ j, j < k + 1 → l < r1.L j from fun j hj => by
          by_cases e : j = k
          · rw [e]; have := HL.out; omega
          · exact HLOW.out j (by omega))
        go_wp2
        go_roundg (n1 - (k + 1))
        case measure => have := HK.out; omega
        case rel => exact ⟨k + 1, by have := HK.out; omega, by go_num, HP1.out, HL2.out, HX3.out, HP3.out⟩
    · have hke : k = n1 := by omega
      subst hke
      have how := HOW.out
      obtain ⟨g2o, g2a, g2l, g2p, g2q⟩ := G2.out
      have HG2 := Lib.hid (show ra.O k = o ∧ ra.A k = a ∧ ra.L k = l ∧ ra.P k = p ∧ ra.Q k = q from ⟨g2o, g2a, g2l, g2p, g2q⟩)
      obtain ⟨wo, rfl⟩ : ∃ wo : World, wo = wr := ⟨_, rfl⟩
      have HOWD := Lib.hid how
      clear how g2o g2a g2l g2p g2q
      go_wp2_with (first | (at_builtin; refine wpList_append_own _ rfl _ _ 22 rfl (w.heap.size + 1) 33 i0 _ 5 48 Try.underlying22 hi hz0 hz1 hz2 rfl (by decide) _ _ _ rfl (HOWD.out.alloc _) ⟨wo.heap.size, 0, none⟩ 1 1 [.string o, .int .i64 a, .int .i64 l, .int .i64 p, .int .i64 q] rfl rfl ?c1b ?c2b ?c3b ?c4b ?c5b ?_))
      case c1b => have := news5 (wo) (.string o) (.int .i64 a) (.int .i64 l) (.int .i64 p) (.int .i64 q) 33; simpa using this
      case c2b =>
        intro u hu
        simp only [List.mem_cons, List.not_mem_nil, or_false] at hu
        rcases hu with rfl | rfl | rfl | rfl | rfl <;> rfl
      case c3b => unfold maxLen; omega
      case c4b => omega
      case c5b => simp; omega
      intro v' w3 hown' hgrow _
      have hP := push_fix HOWD.out (Below.refl (w.heap.size + 1) wo) zr (by rw [HG2.out.1, HG2.out.2.1, HG2.out.2.2.1, HG2.out.2.2.2.1, HG2.out.2.2.2.2]; exact hown') hgrow
      have HX3 := Lib.hid ((HX.out.alloc _).grown hgrow (by
        intro h
        have := (HOWD.out.lt _ h.symm).1
        omega))
      have HP1 := Lib.hid hP.1
      have HP2 := Lib.hid hP.2
      clear hown' hgrow hP
      have HP3 := Lib.hid (HBW.out.trans (HP2.out.mono (by omega)))
      clear y0 y1 y2 y3 y4
      go_wp2_with fail
      go_loopg [7, 9] n2 (fun d v7 v9 wr => ∃ j : Nat, d + j = n2 ∧ v9 = .int .i64 j ∧ OwnsF wr (w.heap.size + 1) v7 (k + 1 + j) ra ∧ (∀ i, i < j → l < r2.L i) ∧ Box wr w.heap.size 33 #[.string o, .int .i64 a, .int .i64 l, .int .i64 p, .int .i64 q] ∧ Below w.heap.size w wr)
      case atStart => exact ⟨0, by omega, rfl, HP1.out, (fun j h => absurd h (by omega)), HX3.out, HP3.out⟩
      case round =>
        obtain ⟨j, hj, rfl, how, hlow, hx, hbw⟩ := hrel
        have HJ := Lib.hid hj
        have HOWJ := Lib.hid how
        have HLOWJ := Lib.hid hlow
        have HXJ := Lib.hid hx
        have HBJ := Lib.hid hbw
        have hlej : j ≤ n2 := by omega
        have zj := hx.lt
        have zj2 : w.heap.size ≤ wr.heap.size := by omega
        have y0 := hx.cell 0
        have y1 := hx.cell 1
        have y2 := hx.cell 2
        have y3 := hx.cell 3
        have y4 := hx.cell 4
        simp only [List.getElem?_toArray, List.getElem?_cons_zero, List.getElem?_cons_succ] at y0 y1 y2 y3 y4
        clear hj how hlow hx hbw
        by_cases hlt2 : j < n2
        · have hlt' : (j : Int) < n2 := by omega
          obtain ⟨ad, rfl, had, c0, c1', c2', c3, c4⟩ := (H2.out.below HBJ.out (Nat.le_refl _)) j hlt2
          by_cases hL : r2.L j ≤ l
          · have e1 : decide (r2.L j ≤ l) = true := decide_eq_true hL
            clear hL
            go_wp2_with fail
            go_quiet (fail)
            go_wp2_with fail
            have HBD := Lib.hid (below_drewN HBJ.out nq)
            refine (known_any _).mono ?_
            rintro e w9 ⟨rfl, hb9⟩
            have HB9 := Lib.hid (HBD.out.trans (hb9.mono zj2))
            clear hb9
            go_wp2
            go_returns
            exact ⟨rfl, HB9.out⟩
          · have e1 : decide (r2.L j ≤ l) = false := decide_eq_false hL
            have HL := Lib.hid hL
            obtain ⟨t0, t1, t2, t3, t4⟩ := G3.out j hlt2
            rw [← t0] at c0
            rw [← t1] at c1'
            rw [← t3] at c3
            rw [← t4] at c4
            have T2 := Lib.hid t2
            clear hL t0 t1 t2 t3 t4 y0 y1 y3 y4
            go_wp2_with fail
            go_quiet (fail)
            have HOWD2 := Lib.hid (own_drewN HOWJ.out nq)
            go_wp2_with (first | (at_builtin; refine wpList_append_own _ rfl _ _ 22 rfl (w.heap.size + 1) 33 i0 _ 5 48 Try.underlying22 hi hz0 hz1 hz2 rfl (by decide) _ _ _ rfl (HOWD2.out.alloc _) ⟨wr.heap.size, 0, none⟩ 1 1 [.string (ra.O (k + 1 + j)), .int .i64 (ra.A (k + 1 + j)), .int .i64 (r2.L j), .int .i64 (ra.P (k + 1 + j)), .int .i64 (ra.Q (k + 1 + j))] rfl rfl ?c1c ?c2c ?c3c ?c4c ?c5c ?_))
            case c1c => have := news5 (wr.drewN nq) (.string (ra.O (k + 1 + j))) (.int .i64 (ra.A (k + 1 + j))) (.int .i64 (r2.L j)) (.int .i64 (ra.P (k + 1 + j))) (.int .i64 (ra.Q (k + 1 + j))) 33; simpa using this
            case c2c =>
              intro u hu
              simp only [List.mem_cons, List.not_mem_nil, or_false] at hu
              rcases hu with rfl | rfl | rfl | rfl | rfl <;> rfl
            case c3c => unfold maxLen; omega
            case c4c => omega
            case c5c => simp; omega
            intro v' w3 hown' hgrow _
            have hP := push_fix HOWD2.out (Below.refl (w.heap.size + 1) (wr.drewN nq)) (by have := zj; simp; omega) (by rw [T2.out]; exact hown') hgrow
            have HX4 := Lib.hid (((HXJ.out.drewN nq).alloc _).grown hgrow (by
              intro h
              have := (HOWD2.out.lt _ h.symm).1
              omega))
            have HQ1 := Lib.hid hP.1
            have HQ2 := Lib.hid hP.2
            clear hown' hgrow hP
            have HQ3 := Lib.hid (((below_drewN HBJ.out nq)).trans (HQ2.out.mono (by omega)))
            have HL2 := Lib.hid (show ∀ i, i < j + 1 → l < r2.L i from fun i hi => by
              by_cases e : i = j
              · rw [e]; have := HL.out; omega
              · exact HLOWJ.out i (by omega))
            go_wp2
            go_roundg (n2 - (j + 1))
            case measure => have := HJ.out; omega
            case rel => exact ⟨j + 1, by have := HJ.out; omega, by go_num, HQ1.out, HL2.out, HX4.out, HQ3.out⟩
        · have hje : j = n2 := by omega
          subst hje
          have how := HOWJ.out
          obtain ⟨b7, c7, rfl⟩ := own_slice how
          clear how y0 y1 y2 y3 y4
          go_wp2_with fail
          refine (resolve_any b1 k c1 r1 hn1 _ ((H1.out.below HBJ.out (Nat.le_refl _)).mono zj2)).mono ?_
          rintro e wa ⟨va, F1, T1, i1, ex, rfl, hd1, ho1, _, hba⟩
          have HBA := Lib.hid (HBJ.out.trans (hba.mono zj2))
          have zA := HBA.out.size
          have HD1 := Lib.hid hd1
          have HA1 := Lib.hid (show ex = 0 → ShowsS wa va k F1 T1 from fun h => shows_of (ho1 h))
          have HOA := Lib.hid (own_here HOWJ.out hba)
          clear hd1 ho1 hba
          go_wp2_with fail
          refine (resolve_any b2 j c2 r2 hn2 _ ((H2.out.below HBA.out (Nat.le_refl _)).mono zA)).mono ?_
          rintro e wb ⟨vb, F2, T2, i2, ey, rfl, hd2, ho2, _, hbb⟩
          have HBB := Lib.hid (HBA.out.trans (hbb.mono zA))
          have zB := HBB.out.size
          have HD2 := Lib.hid hd2
          have HA1' := Lib.hid (show ex = 0 → ShowsS wb va k F1 T1 from fun h => (HA1.out h).below hbb)
          have HA2 := Lib.hid (show ey = 0 → ShowsS wb vb j F2 T2 from fun h => shows_of (ho2 h))
          have HOB := Lib.hid (own_here HOA.out hbb)
          clear hd2 ho2 hbb HA1 HOA
          go_wp2_with fail
          refine (resolve_any b7 (k + 1 + j) c7 ra (by omega) _ (reads_of HOB.out)).mono ?_
          rintro e wc ⟨vc, F, T, i3, ez, rfl, hd3, ho3, hz3, hbc⟩
          have HBC := Lib.hid (HBB.out.trans (hbc.mono zB))
          have zC := HBC.out.size
          have hP := parts_res (A := ra.A) (L := ra.L) (A1 := r1.A) (L1 := r1.L) (A2 := r2.A) (L2 := r2.L) (a := k) (b := j) (fun i hi => ⟨(G1.out i hi).2.1, (G1.out i hi).2.2.1⟩) (fun i hi => ⟨(G3.out i hi).2.1, (G3.out i hi).2.2.1⟩)
            (fun i hi => by rw [HG2.out.2.2.1]; exact HLOW.out i hi) (fun i hi => by rw [HG2.out.2.2.1]; exact HLOWJ.out i hi) (by
              have h := of_decide_eq_true HF.out
              unfold Fine
              rw [HG2.out.2.1, HG2.out.2.2.1]
              exact h) x1 x2 HD1.out HD2.out hd3
          have HP := Lib.hid hP
          have HA1 := Lib.hid (show ex = 0 → ShowsS wc va k F1 T1 from fun h => (HA1'.out h).below hbc)
          have HA2' := Lib.hid (show ey = 0 → ShowsS wc vb j F2 T2 from fun h => (HA2.out h).below hbc)
          have HA3 := Lib.hid (show ez = 0 → ShowsS wc vc (k + 1 + j) F T from fun h => shows_of (ho3 h))
          have HZ := Lib.hid hz3
          clear hd3 ho3 hz3 hbc hP HA1' HA2
          by_cases hbad : ex ≠ 0 ∨ ey ≠ 0
          · have hez := HP.out.1 hbad
            obtain rfl := HZ.out hez
            have e3 : ((ez : Int) != 0) = true := by simp; omega
            by_cases hx0 : ex = 0
            · have e1 : ((ex : Int) != 0) = false := by simp; omega
              have e2 : ((ey : Int) != 0) = true := by simp; omega
              clear hbad hez hx0
              go_wp2_with fail
              refine (known_any _).mono ?_
              rintro e w9 ⟨rfl, hb9⟩
              have HB9 := Lib.hid (HBC.out.trans (hb9.mono zC))
              clear hb9
              go_wp2
              go_returns
              exact ⟨rfl, HB9.out⟩
            · have e1 : ((ex : Int) != 0) = true := by simp; omega
              clear hbad hez hx0
              go_wp2_with fail
              refine (known_any _).mono ?_
              rintro e w9 ⟨rfl, hb9⟩
              have HB9 := Lib.hid (HBC.out.trans (hb9.mono zC))
              clear hb9
              go_wp2
              go_returns
              exact ⟨rfl, HB9.out⟩
          · obtain rfl : ex = 0 := by omega
            obtain rfl : ey = 0 := by omega
            obtain ⟨rfl, p1, p2, p3, p4⟩ := HP.out.2 rfl rfl
            obtain ⟨s1, k1, rfl, hc1⟩ := HA1.out rfl
            obtain ⟨s2, k2, rfl, hc2⟩ := HA2'.out rfl
            obtain ⟨s3, k3, rfl, hc3⟩ := HA3.out rfl
            have P1 := Lib.hid p1
            have P2 := Lib.hid p2
            have P3 := Lib.hid p3
            have P4 := Lib.hid p4
            have C1 := Lib.hid hc1
            have C2 := Lib.hid hc2
            have C3 := Lib.hid hc3
            have HBD2 := Lib.hid (show ∀ x, x < j → F2 x ≤ 300 ∧ T2 x ≤ 300 from fun x hx => by
              rcases HD2.out.out with ⟨h0, _⟩ | ⟨h0, _⟩ | ⟨h0, _⟩ | ⟨_, _, _, _, hs⟩
              · exact absurd h0 (by decide)
              · exact absurd h0 (by decide)
              · exact absurd h0 (by decide)
              · have h1 := (hs x hx).1.1
                have h2 := (hs x hx).2.2.1
                omega)
            clear hbad p1 p2 p3 p4 hc1 hc2 hc3 HA1 HA2' HA3 HZ HP
            have hk1 : (k : Int) < (k : Int) + 1 + j := by omega
            have hkk : k < k + 1 + j := by omega
            go_wp2_with fail
            go_loopg [20] k (fun d i20 wr => ∃ i : Nat, d + i = k ∧ i20 = .int .i64 i ∧ Below wc.heap.size wc wr)
            case atStart => exact ⟨0, by omega, rfl, Below.refl _ _⟩
            case round =>
              obtain ⟨i, hi', rfl, hbi⟩ := hrel
              have HI := Lib.hid hi'
              have HBI := Lib.hid hbi
              have hik : i ≤ k := by omega
              clear hi' hbi
              by_cases hlt3 : i < k
              · have hlt' : (i : Int) < k := by omega
                have hlt4 : i < k + 1 + j := by omega
                have hlt5 : (i : Int) < (k : Int) + 1 + j := by omega
                obtain ⟨ga, rfl, hga, u0, u1⟩ := C1.out i hlt3
                obtain ⟨gs, rfl, hgs, v0, v1⟩ := C3.out i hlt4
                rw [← HBI.out.cell (p := ⟨ga, i * 2, none⟩) hga] at u0
                rw [← HBI.out.cell (p := ⟨ga, i * 2 + 1, none⟩) hga] at u1
                rw [← HBI.out.cell (p := ⟨gs, i * 2, none⟩) hgs, (P1.out i hlt3).1] at v0
                rw [← HBI.out.cell (p := ⟨gs, i * 2 + 1, none⟩) hgs, (P1.out i hlt3).2] at v1
                go_wp2_with fail
                go_quiet (fail)
                go_wp2
                go_roundg (k - (i + 1))
                case measure => have := HI.out; omega
                case rel => exact ⟨i + 1, by have := HI.out; omega, by go_num, below_drewN HBI.out _⟩
              · have hie : i = k := by omega
                subst hie
                obtain ⟨wd, rfl⟩ : ∃ wd : World, wd = wr := ⟨_, rfl⟩
                go_wp2_with fail
                go_loopg [21] j (fun d i21 wr => ∃ x : Nat, d + x = j ∧ i21 = .int .i64 x ∧ Below wc.heap.size wc wr)
                case atStart => exact ⟨0, by omega, rfl, HBI.out⟩
                case round =>
                  obtain ⟨x, hx', rfl, hbx⟩ := hrel
                  have HXX := Lib.hid hx'
                  have HBX := Lib.hid hbx
                  have hxj : x ≤ j := by omega
                  have zx := hbx.size
                  clear hx' hbx
                  obtain ⟨gs, rfl, hgs, z0, z1⟩ := C3.out i (by omega)
                  by_cases hlt4 : x < j
                  · have hlt' : (x : Int) < j := by omega
                    have hlt5 : i + 1 + x < i + 1 + j := by omega
                    have hlt6 : (i : Int) + 1 + x < (i : Int) + 1 + j := by omega
                    obtain ⟨gb, rfl, hgb, u0, u1⟩ := C2.out x hlt4
                    obtain ⟨gs', egs, _, v0, v1⟩ := C3.out (i + 1 + x) hlt5
                    injection egs with egs
                    injection egs with egs
                    subst egs
                    have hb1 := (P2.out x hlt4)
                    have w0 : IntKind.i64.wrap ((i : Int) + 1) = (i : Int) + 1 := IntWalk.i64_in _ (by omega)
                    have w1 : IntKind.i64.wrap ((i : Int) + 1 + x) = (i : Int) + 1 + x := IntWalk.i64_in _ (by omega)
                    have w2 : (0 : Int) ≤ (i : Int) + 1 + x := by omega
                    have w3 : ((i : Int) + 1 + x).toNat = i + 1 + x := by omega
                    rw [← HBX.out.cell (p := ⟨gb, x * 2, none⟩) hgb] at u0
                    rw [← HBX.out.cell (p := ⟨gb, x * 2 + 1, none⟩) hgb] at u1
                    rw [← HBX.out.cell (p := ⟨gs, (i + 1 + x) * 2, none⟩) hgs, hb1.1] at v0
                    rw [← HBX.out.cell (p := ⟨gs, (i + 1 + x) * 2 + 1, none⟩) hgs, hb1.2] at v1
                    obtain ⟨hF2, hT2⟩ := HBD2.out x hlt4
                    rw [show ((i + 1 + F2 x : Nat) : Int) = (F2 x : Int) + i + 1 by omega] at v0
                    rw [show ((i + 1 + T2 x : Nat) : Int) = (T2 x : Int) + i + 1 by omega] at v1
                    have w4 : IntKind.i64.wrap ((F2 x : Int) + i) = (F2 x : Int) + i := IntWalk.i64_in _ (by omega)
                    have w5 : IntKind.i64.wrap ((F2 x : Int) + i + 1) = (F2 x : Int) + i + 1 := IntWalk.i64_in _ (by omega)
                    have w6 : IntKind.i64.wrap ((T2 x : Int) + i) = (T2 x : Int) + i := IntWalk.i64_in _ (by omega)
                    have w7 : IntKind.i64.wrap ((T2 x : Int) + i + 1) = (T2 x : Int) + i + 1 := IntWalk.i64_in _ (by omega)
                    clear hb1 z0 z1
                    go_wp2_with fail
                    go_quiet (fail)
                    clear w0 w1 w2 w3 w4 w5 w6 w7
                    go_wp2
                    go_roundg (j - (x + 1))
                    case measure => have := HXX.out; omega
                    case rel => exact ⟨x + 1, by have := HXX.out; omega, by go_num, below_drewN HBX.out _⟩
                  · have hxe : x = j := by omega
                    subst hxe
                    rw [← HBX.out.cell (p := ⟨gs, i * 2, none⟩) hgs, P3.out] at z0
                    rw [← HBX.out.cell (p := ⟨gs, i * 2 + 1, none⟩) hgs, P4.out] at z1
                    go_wp2_with fail
                    refine (known_any _).mono ?_
                    rintro e w9 ⟨rfl, hb9⟩
                    have HB9 := Lib.hid ((HBC.out.trans (HBX.out.mono zC)).trans (hb9.mono (by omega)))
                    clear hb9
                    go_wp2
                    go_returns
                    exact ⟨rfl, HB9.out⟩
end Go.Proofs.Ytlhppkaehoppnaa.Fx
namespace Go.Proofs.Ytlhppkaehoppnaa.FixParts
open Go.RowKit Fx
set_option linter.unusedVariables false
theorem law (b1 : Option Addr) (n1 c1 : Nat) (hn1 : n1 ≤ 9223372036854775807) (r1 : Row) (o : ByteArray) (a l p q : Int) (b2 : Option Addr) (n2 c2 : Nat) (hn2 : n2 ≤ 9223372036854775807) (r2 : Row) (w : World) (h1 : Reads w w.heap.size b1 n1 r1) (h2 : Reads w w.heap.size b2 n2 r2) :
    Calls Try.prog 8 #[.slice b1 n1 c1, fixV o a l p q, .slice b2 n2 c2] w fun e w' => e = .returned (.bool true) ∧ Below w.heap.size w w' := by
  by_cases h : 300 < n1 ∨ 300 < n2 ∨ fineB a l = false
  · exact parts_out b1 n1 c1 hn1 r1 o a l p q b2 n2 c2 hn2 r2 w h
  · refine parts_main b1 n1 c1 hn1 r1 o a l p q b2 n2 c2 hn2 r2 w h1 h2 (by omega) (by omega) ?_
    cases hf : fineB a l
    · exact absurd (.inr (.inr hf)) h
    · rfl
end Go.Proofs.Ytlhppkaehoppnaa.FixParts
