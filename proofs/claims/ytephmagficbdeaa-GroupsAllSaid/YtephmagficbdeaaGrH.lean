/-
  CONTRACT: the groups of things, the one with the least number first.
-/
import Derived.Test.YtephmagficbdeaaGrG
namespace Go.Proofs.Ytephmagficbdeaa.Gr
open Go.RowKit Go.Shelf Go.Sort Mm Sp
set_option linter.unusedVariables false
set_option linter.unusedSimpArgs false
def s00 : TS := ⟨fun _ => 0, fun _ => 0, fun _ => 0, fun _ => false, 0, [], [], []⟩
theorem cell4_s00 (i : Nat) : cell4 s00 i = [.int .i64 0, .int .i64 0, .int .i64 0, .bool false] := rfl
theorem things_made (n : Nat) : (madeCells #[Value.int .i64 0, .int .i64 0, .int .i64 0, .bool false] (n * 4)).toList = thg n s00 := by
  apply List.ext_getElem?
  intro j
  by_cases hj : j < n * 4
  · have h1 : j = (j / 4) * 4 + j % 4 := by omega
    have h2 : j / 4 < n := by omega
    have h3 : j % 4 < 4 := by omega
    have h4 := thg_get (s := s00) h2 h3
    rw [← h1] at h4
    rw [h4, cell4_s00]
    simp only [madeCells]
    rcases (by omega : j % 4 = 0 ∨ j % 4 = 1 ∨ j % 4 = 2 ∨ j % 4 = 3) with e | e | e | e <;> simp [hj, e]
  · rw [List.getElem?_eq_none (by simp [madeCells]; omega), List.getElem?_eq_none (by rw [thg_length]; omega)]
theorem vc_s00 (N : Nat) : vc N s00 = 0 := by
  unfold vc
  rw [List.filter_eq_nil_iff.2 (by simp [s00])]
  rfl
theorem RowsAt.plain {B : Nat} {w : World} {pv ov : Value} {vs : List Value} {gs : List (List Nat)} (h : RowsAt B w pv ov vs gs) : RowsAt B w (.slice none 0 0) (.slice none 0 0) vs gs := by
  intro i C hC
  obtain ⟨b, c, k1, _, _, k4⟩ := h i C hC
  exact ⟨b, c, k1, by simp [Value.ownBlock], by simp [Value.ownBlock], k4⟩
theorem byHead_of {g gs : List (List Nat)} (hp : Parted g gs) (h : gs.Pairwise (fun C D => hd C ≤ hd D)) : ByHead gs := by
  intro i j hij hj
  have hi : i < gs.length := by omega
  have h1 := (List.pairwise_iff_getElem.1 h) i j hi hj hij
  have h2 := (List.pairwise_iff_getElem.1 hp.nd) i j hi hj hij
  have e1 : gs.getD i [] = gs[i] := by rw [List.getD_eq_getElem?_getD, List.getElem?_eq_getElem hi]; rfl
  have e2 : gs.getD j [] = gs[j] := by rw [List.getD_eq_getElem?_getD, List.getElem?_eq_getElem hj]; rfl
  rw [e1, e2]
  refine Nat.lt_of_le_of_ne h1 fun e => h2 (hp.hd_inj (List.getElem_mem hi) (List.getElem_mem hj) e)
/-- groups that are the call's own -/
def OwnGs (B : Nat) (w : World) (v : Value) (gs : List (List Nat)) : Prop := ∃ vs, w.ownsRow B TR 1 v gs.length vs ∧ RowsAt B w (.slice none 0 0) (.slice none 0 0) vs gs
def FoundPost (g : List (List Nat)) (w : World) (e : Ending) (w' : World) : Prop :=
  ∃ v gs, e = .returned v ∧ OwnGs w.heap.size w' v gs ∧ Parted g gs ∧ ByHead gs ∧ Below w.heap.size w w'
set_option maxRecDepth 100000 in
set_option maxHeartbeats 8000000 in
theorem found_any (hS : SortOK) (hF : SortFOK) {ua : Option Addr} {uc : Nat} {g : List (List Nat)} (w : World) (hu : RRN w.heap.size w ua g) (hg : ∀ x < g.length, ∀ y ∈ U g x, y < g.length) (hN : g.length ≤ 2048) :
    Calls Try.prog 19 #[.slice ua g.length uc] w (FoundPost g w) := by
  obtain ⟨i0, hi, hz0, hz1, hz2⟩ := info_parts Tthing
  have HU := Lib.hid hu
  have HG := Lib.hid hg
  clear hu hg
  go_enter Try.func19, Try.ntmps19
  go_wp2_with (at_make; refine wpList_make_full _ rfl _ _ 48 rfl w.heap.size 52 i0 _ 4 Try.underlying48 hi hz0 hz1 _ _ _ _ g.length rfl rfl rfl rfl (by rw [hz2]; omega) (by unfold maxLen; omega) (Nat.le_refl _) ?_)
  intro w2 hown hgrow
  rw [things_made] at hown
  obtain ⟨p, hp⟩ : ∃ p, w2.heap.size = p := ⟨_, rfl⟩
  have hb2 : Below w.heap.size w w2 := (Below.refl _ w).grown hgrow (Nat.le_refl _) (fun k h => by cases h)
  have hpB : w.heap.size ≤ p := by rw [← hp]; exact hb2.size
  obtain ⟨q, hq⟩ : ∃ q, w.heap.size = q := ⟨_, rfl⟩
  obtain ⟨W3, hW3⟩ : ∃ W3, w2.alloc (.cells #[.slice ua g.length uc, .slice (some ⟨q, 0, none⟩) g.length g.length, .int .i64 0, .slice none 0 0, .slice none 0 0, .slice none 0 0] TL) = W3 := ⟨_, rfl⟩
  have hl3 : LookAt w.heap.size W3 p (.slice ua g.length uc) g.length s00 q (.slice none 0 0) (.slice none 0 0) (.slice none 0 0) [] := by
    rw [← hW3, ← hp]
    refine ⟨Box.new w2 _ TL, ?_, World.ownsRow_nil _ _ _ _, World.ownsRow_nil _ _ _ _, World.ownsRow_nil _ _ _ _, fun i C hC => by simp [s00] at hC, fun k hk => by simp [Value.ownBlock] at hk, by rw [hp]; exact hpB⟩
    rw [← hq]
    exact hown.alloc _
  have hb3 : Below w.heap.size w W3 := by rw [← hW3]; exact hb2.alloc (by rw [hp]; exact hpB) _
  have L3 := Lib.hid hl3
  have B3 := Lib.hid hb3
  clear hl3 hb3 hb2 hown hgrow
  go_upto_region 2 with fail
  clear hW3 hp hq
  go_wp2_with fail
  go_loopg [13] g.length (fun d v wr => ∃ (k : Nat) (s : TS), k + d = g.length ∧ v = .int .i64 k ∧ Look w.heap.size wr p (.slice ua g.length uc) g.length s ∧ Inv g s ∧ s.count = vc g.length s ∧ s.path = [] ∧ (∀ v, v < k → s.at_ v ≠ 0) ∧ Below w.heap.size w wr)
  case atStart => exact ⟨0, s00, by omega, rfl, ⟨q, _, _, _, _, L3.out⟩, inv_start g HG.out, (vc_s00 _).symm, rfl, by omega, B3.out⟩
  case round =>
    obtain ⟨k, s, hk, rfl, ⟨q', pv, ov, gv, vs, H⟩, hi, hc, hpath, hat, hb⟩ := hrel
    have HK := Lib.hid hk
    have HH := Lib.hid H
    have HI := Lib.hid hi
    have HC := Lib.hid hc
    have HP := Lib.hid hpath
    have HA := Lib.hid hat
    have HB := Lib.hid hb
    have hkle : k ≤ g.length := by omega
    have hzB := hb.size
    have x1 := H.box.cell 1
    simp only [List.getElem?_toArray, List.getElem?_cons_zero, List.getElem?_cons_succ] at x1
    clear hk hi hc hpath hat hb
    by_cases hlt : k < g.length
    · have hlt' : (k : Int) < g.length := by omega
      obtain ⟨t0, _, _, _⟩ := H.thing hlt
      clear H
      by_cases h0 : s.at_ k = 0
      · have HF := from_any hS k wr ⟨q', _, _, _, _, HH.out⟩ (HU.out.below HB.out (Nat.le_refl _)) HI.out HC.out hlt h0 HP.out hN hzB
        rw [h0] at t0
        clear h0
        go_wp2_with fail
        refine HF.mono ?_
        rintro e w4 ⟨s4, rfl, h4, hm4, hp4, hb4⟩
        have H4 := Lib.hid h4
        have M4 := Lib.hid hm4
        have P4 := Lib.hid hp4
        have B4 := Lib.hid hb4
        clear HF h4 hm4 hp4 hb4
        go_wp2_with fail
        go_roundg (g.length - (k + 1))
        case measure => have := HK.out; omega
        case rel =>
          refine ⟨k + 1, s4, by have := HK.out; omega, by go_num, H4.out, M4.out.inv, M4.out.cnt, P4.out, fun v hv => ?_, HB.out.trans B4.out⟩
          by_cases e : v = k
          · subst e; exact M4.out.n0
          · exact M4.out.old v (HA.out v (by omega))
      · have H0 := Lib.hid h0
        have h1 : ((s.at_ k : Int) == 0) = false := by
          simp only [beq_eq_false_iff_ne, ne_eq]; omega
        clear h0
        go_wp2_with fail
        go_roundg (g.length - (k + 1))
        case measure => have := HK.out; omega
        case rel =>
          refine ⟨k + 1, s, by have := HK.out; omega, by go_num, ⟨_, _, _, _, _, HH.out⟩, HI.out, HC.out, HP.out, fun v hv => ?_, HB.out⟩
          by_cases e : v = k
          · subst e; exact H0.out
          · exact HA.out v (by omega)
    · have hge : ¬ (k : Int) < g.length := by omega
      have hkn : k = g.length := by omega
      have hpart := Parted.of_inv HI.out (HI.out.opn_nil HP.out) (fun x hx => HA.out x (by omega))
      have hgl := HI.out.groups_len
      have hgrp := H.grp
      obtain ⟨a5, c5, rfl⟩ := own_slice hgrp
      have HSG := sortg_any hF wr hgrp H.rows.plain (fun C hC => (hpart.sc C hC).2.1) (fun C hC x hx => by have := hpart.rng C hC x hx; omega) (by omega)
      have HPT := Lib.hid hpart
      have x5 := H.box.cell 5
      simp only [List.getElem?_toArray, List.getElem?_cons_zero, List.getElem?_cons_succ] at x5
      clear H hkn hpart hgrp x1
      go_wp2_with fail
      refine HSG.mono ?_
      rintro e w5 ⟨rfl, vs', gs', ho5, hr5, hp5, hs5, hg5⟩
      have hb5 := HH.out.box.grown hg5 (own_ne HH.out.grp HH.out.box (by decide))
      have y5 := hb5.cell 5
      simp only [List.getElem?_toArray, List.getElem?_cons_zero, List.getElem?_cons_succ] at y5
      have HO := Lib.hid ho5
      have HR := Lib.hid hr5
      have HP5 := Lib.hid hp5
      have HS5 := Lib.hid hs5
      have HG5 := Lib.hid hg5
      clear HSG ho5 hr5 hp5 hs5 hg5 hb5 x5
      go_wp2_with fail
      go_ret
      have hpt := HPT.out.perm HP5.out.symm
      exact ⟨_, gs', rfl, ⟨vs', HO.out, HR.out⟩, hpt, byHead_of hpt HS5.out, HB.out.grown HG5.out hzB fun k hk => (HH.out.grp.lt k hk).1⟩
end Go.Proofs.Ytephmagficbdeaa.Gr
