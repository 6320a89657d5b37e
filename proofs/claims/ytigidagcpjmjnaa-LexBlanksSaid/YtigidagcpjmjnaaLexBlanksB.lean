/-
  The walk of 'changelinglaw02.LexBlanks', further.
-/
import Derived.Test.YtigidagcpjmjnaaLexBlanksA
namespace Go.Proofs.Ytigidagcpjmjnaa.Lx
open Go.RowKit Pl Ar Dg Pa
set_option linter.unusedVariables false

theorem blanksOf_line : Blanks [10] := by
  exact .line .nil
set_option maxRecDepth 100000 in
set_option maxHeartbeats 1000000 in
theorem blanks_line (s : ByteArray) (hs : s.size ≤ 9223372036854775807) (m : Nat) (kind : Int) (hk1 : kind = 1) (r : Lexed) (hr : lexed s.data.toList = r) (he : r.err = 0) (n : Nat) (hn : r.toks.length = n) (hm : m < n) (w : World) : Calls Try.prog 6 #[.string s, .int .i64 (m : Nat), .int .i64 kind] w fun e w' => e = .returned (.bool true) ∧ Below w.heap.size w w' := by
  have HL := Lib.hid hr
  have HN := Lib.hid hn
  have HE := Lib.hid he
  have hz : s.size ≤ 8192 := by
    by_cases h : 8192 < s.data.toList.length
    · rw [← hr] at he
      unfold lexed at he
      rw [if_pos h] at he
      exact absurd (show (2 : Int) = 0 from he) (by decide)
    · rw [Lib.size_eq]; omega
  have hst := (lexed_stands s.data.toList).1
  have hlen := lexed_len s.data.toList
  rw [hr] at hst hlen
  rw [hn] at hlen
  have hml : m < r.toks.length := by omega
  obtain ⟨k0, g1, g2, g3, g4, g5, g6, g7⟩ := tok_at (hst _ (List.getElem_mem hml))
  rw [← Lib.size_eq] at g2
  have d0 : (r.err != 0) = false := by simp [he]
  have d1 : ((n : Int) == 0) = false := beq_eq_false_iff_ne.2 (by omega)
  have d2 : decide ((m : Int) < 0) = false := decide_eq_false (by omega)
  have d3 : decide (n ≤ m) = false := decide_eq_false (by omega)
  have d4 : (kind == 1) = true := beq_iff_eq.2 hk1
  have d5 : (kind == 2) = false := beq_eq_false_iff_ne.2 (by omega)
  clear hk1
  have d6 : decide (s.size < k0) = false := decide_eq_false (by omega)
  have hm' : (m : Int) < n := by omega
  have G1 := Lib.hid g1
  have hnb : r.toks.length ≤ 1000000000 := by omega
  clear hr he hn hst g1 g3 g4 g5 g6 g7
  by_cases hfit : s.size + 1 ≤ 8192
  · have d7 : decide ((8192 - 1 : Int) < s.size) = false := decide_eq_false (by omega)
    have d8 : decide ((8191 : Int) < s.size) = false := decide_eq_false (by omega)
    obtain ⟨k, q1, q2, q3, q4⟩ := lexed_ins (s := [10]) (src := s.data.toList) (w := m) (t := r.toks[m]) blanksOf_line (by simp) (by intro x hx; simp at hx; subst hx; decide) (by rw [HL.out]; exact HE.out) (by rw [HL.out]; exact List.getElem?_eq_getElem hml) (by rw [← Lib.size_eq]; exact hfit)
    have hkk : k0 = k := by have := G1.out; rw [q2] at this; omega
    subst hkk
    obtain ⟨S, hS⟩ : ∃ S, s.extract 0 k0 ++ ⟨#[10]⟩ ++ s.extract k0 s.size = S := ⟨_, rfl⟩
    have hSd : S.data.toList = s.data.toList.take k0 ++ [10] ++ s.data.toList.drop k0 := by
      rw [← hS]
      simp only [ByteArray.data_append, Array.toList_append, take_text, Lib.extract_to_end]
    have hSz : S.size ≤ 8192 := by
      rw [Lib.size_eq, hSd]
      rw [Lib.size_eq] at hfit
      simp
      simp at hfit g2
      omega
    rw [← hSd] at q3 q4
    obtain ⟨r2, hr2⟩ : ∃ r2, lexed S.data.toList = r2 := ⟨_, rfl⟩
    have hzero := lexed_zero q3
    rw [hr2] at q3 q4 hzero
    obtain ⟨tk2, er2, ln2, cl2⟩ := r2
    obtain ⟨hk3, hk4⟩ := hzero
    simp only at q3 q4 hk3 hk4
    subst q3 hk3 hk4
    have HR2 := Lib.hid hr2
    have HA := Lib.hid (show r.toks.map strip = tk2.map strip by rw [q4, HL.out])
    have HSS := Lib.hid hS
    have hA1 : ¬ (9223372036854775807 < (s.extract 0 k0).size + 1) := by simp; omega
    clear hr2 q4 hSd hS q1 q2
    go_enter Try.func6, Try.ntmps6
    go_wp2_with fail
    refine (tokens_is hs HL.out _).mono ?_
    rintro e w1 ⟨v1, rfl, o1, hb1⟩
    have HB1 := Lib.hid hb1
    have z1 := hb1.size
    have HS := Lib.hid (showsT_of o1)
    obtain ⟨b, c, rfl, hc⟩ := showsT_of o1
    have HSN := Lib.hid (show ShowsT w1 (.slice b n c) r.toks by rw [← HN.out]; exact HS.out)
    rw [HN.out]
    obtain ⟨g, rfl, hg, _, _, _, p3, p4, _⟩ := hc m hml
    obtain ⟨ln, hln⟩ : ∃ ln, r.toks[m].line = ln := ⟨_, rfl⟩
    obtain ⟨cl, hcl⟩ : ∃ cl, r.toks[m].col = cl := ⟨_, rfl⟩
    rw [hln] at p3
    rw [hcl] at p4
    have HG1 := Lib.hid (show offF (ln, cl) (1, 1) s.data.toList = (k0 : Nat) by rw [← hln, ← hcl]; exact_mod_cast G1.out)
    clear hc o1 hb1 hln hcl
    go_wp2_with fail
    refine (offset_any ln cl s (by omega) _).mono ?_
    rw [HG1.out]
    rintro e w2 ⟨rfl, hb2⟩
    have HB2 := Lib.hid (show Below w1.heap.size w1 w2 from ((Below.refl _ w1).alloc (Nat.le_refl _) _).trans (hb2.mono (by simp)))
    have z2 := HB2.out.size
    clear hb2 p3 p4
    go_wp2_with fail
    have hst : s.size < 9223372036854775807 := by omega
    go_region_with (go_at_call 9; rw [HSS.out]; refine (tokens_is (by omega) HR2.out _).mono ?_; rintro e w3 ⟨v3, rfl, o3, hb3⟩; first | (have kk := keepD hb3; obtain ⟨k0, k1, k2, f0, f1, f2, f3⟩ := kk; have HWW := Lib.hid (HB2.out.trans ((belowB hb3).mono z2)); have HO3 := Lib.hid o3; clear o3 hb3) | (have HWW := Lib.hid (HB2.out.trans ((belowA hb3).mono z2)); have HO3 := Lib.hid o3; clear o3 hb3))
    all_goals (try go_wp2_with fail)
    all_goals first
      | (have HX := Lib.hid (HWW.out.alloc HWW.out.size (.cells #[.int .i64 0, .int .i64 0, .int .i64 0] 27)); refine (alike_yes HA.out hnb (w3.alloc _) (HSN.out.below HX.out) (showsT_of (HO3.out.alloc _))).mono ?_; rintro e w4 ⟨rfl, hb4⟩; have HB4 := Lib.hid (show Below w.heap.size w w4 from (HB1.out.trans (HX.out.mono z1)).trans (hb4.mono (Nat.le_trans z1 HX.out.size))); have z4 := HB4.out.size; clear hb4; go_wp2_with fail; refine (known_any _).mono ?_; rintro e w9 ⟨rfl, hb9⟩; have HB9 := Lib.hid (show Below w.heap.size w w9 from HB4.out.trans (hb9.mono z4)); clear hb9; go_wp2; go_returns; exact ⟨rfl, HB9.out⟩)
      | (have HX := Lib.hid (((HWW.out.setCell (p := ⟨w2.heap.size, 0, none⟩) z2 (.int .i64 0)).setCell (p := ⟨w2.heap.size, 1, none⟩) z2 (.int .i64 0)).setCell (p := ⟨w2.heap.size, 2, none⟩) z2 (.int .i64 0)); refine (alike_yes HA.out hnb _ (HSN.out.below HX.out) (showsB HO3.out _ _ _)).mono ?_; rintro e w4 ⟨rfl, hb4⟩; have HB4 := Lib.hid (show Below w.heap.size w w4 from (HB1.out.trans (HX.out.mono z1)).trans (hb4.mono (Nat.le_trans z1 HX.out.size))); have z4 := HB4.out.size; clear hb4; go_wp2_with fail; refine (known_any _).mono ?_; rintro e w9 ⟨rfl, hb9⟩; have HB9 := Lib.hid (show Below w.heap.size w w9 from HB4.out.trans (hb9.mono z4)); clear hb9; go_wp2; go_returns; exact ⟨rfl, HB9.out⟩)
  · have d7 : decide ((8192 - 1 : Int) < s.size) = true := decide_eq_true (by omega)
    have d8 : decide ((8191 : Int) < s.size) = true := decide_eq_true (by omega)
    clear hfit
    go_enter Try.func6, Try.ntmps6
    go_wp2_with fail
    refine (tokens_is hs HL.out _).mono ?_
    rintro e w1 ⟨v1, rfl, o1, hb1⟩
    have HB1 := Lib.hid hb1
    have z1 := hb1.size
    have HS := Lib.hid (showsT_of o1)
    obtain ⟨b, c, rfl, hc⟩ := showsT_of o1
    rw [HN.out]
    obtain ⟨g, rfl, hg, _, _, _, p3, p4, _⟩ := hc m hml
    obtain ⟨ln, hln⟩ : ∃ ln, r.toks[m].line = ln := ⟨_, rfl⟩
    obtain ⟨cl, hcl⟩ : ∃ cl, r.toks[m].col = cl := ⟨_, rfl⟩
    rw [hln] at p3
    rw [hcl] at p4
    have HG1 := Lib.hid (show offF (ln, cl) (1, 1) s.data.toList = (k0 : Nat) by rw [← hln, ← hcl]; exact_mod_cast G1.out)
    clear hc o1 hb1 hln hcl
    go_wp2_with fail
    refine (offset_any ln cl s (by omega) _).mono ?_
    rw [HG1.out]
    rintro e w2 ⟨rfl, hb2⟩
    have HB2 := Lib.hid (show Below w1.heap.size w1 w2 from ((Below.refl _ w1).alloc (Nat.le_refl _) _).trans (hb2.mono (by simp)))
    have z2 := HB2.out.size
    clear hb2 p3 p4
    go_wp2_with fail
    refine (known_any _).mono ?_
    rintro e w9 ⟨rfl, hb9⟩
    have HB9 := Lib.hid (show Below w.heap.size w w9 from (HB1.out.trans (HB2.out.mono z1)).trans (hb9.mono (by omega)))
    clear hb9
    go_wp2
    go_returns
    exact ⟨rfl, HB9.out⟩
end Go.Proofs.Ytigidagcpjmjnaa.Lx
