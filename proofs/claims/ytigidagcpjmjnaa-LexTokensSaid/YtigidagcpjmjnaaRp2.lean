/-
  CONTRACT: the document's own Parse, whatever the text: gives 'prs'.
-/
import Derived.Test.YtigidagcpjmjnaaRparse
namespace Go.Proofs.Ytigidagcpjmjnaa.Rp
open Go.RowKit Pl Ar Dx Dg Pa Tx
set_option linter.unusedVariables false

theorem good_parts {l : List UInt8} (h : good l = true) : digitsOf l ≠ [] ∧ ((digitsOf l).head? = some 48 → l = [48]) ∧ (digitsOf l).all isD = true ∧ val (digitsOf l) ≤ most (below l) := by
  simp only [good, Bool.and_eq_true, Bool.not_eq_true', decide_eq_true_eq] at h
  obtain ⟨⟨⟨h1, h2⟩, h3⟩, h4⟩ := h
  refine ⟨?_, ?_, h3, h4⟩
  · intro e; rw [e] at h1; cases h1
  · intro e
    rw [e] at h2
    simpa using h2
theorem rp_no {l : List UInt8} (h : plainOk (digitsOf l) = false) : prs l = (0, 11) := by
  cases hg : good l with
  | false => exact prs_bad hg
  | true =>
    exfalso
    obtain ⟨h1, h2, h3, h4⟩ := good_parts hg
    have hl : (digitsOf l).length ≤ 19 := by
      apply Decidable.byContradiction
      intro hc
      by_cases hz : (digitsOf l).head? = some 48
      · have := h2 hz
        rw [this] at hc
        simp [digitsOf] at hc
      · have := long_large (by omega) h3 hz
        have := most_le (below l)
        omega
    have : plainOk (digitsOf l) = true := by
      unfold plainOk
      rw [h3, decide_eq_true hl]
      cases hd : digitsOf l with
      | nil => exact absurd hd h1
      | cons _ _ => rfl
    rw [this] at h; cases h
theorem rp_big {l : List UInt8} (h : 9223372036854775808 < val (digitsOf l)) : prs l = (0, 11) := bad_large (Nat.lt_of_le_of_lt (most_le _) h)
theorem plainOk_parts {d : List UInt8} (h : plainOk d = true) : d ≠ [] ∧ d.length ≤ 19 ∧ d.all isD = true := by
  simp only [plainOk, Bool.and_eq_true, Bool.not_eq_true', decide_eq_true_eq] at h
  refine ⟨?_, h.1.2, h.2⟩
  intro e; rw [e] at h; exact absurd h.1.1 (by decide)
theorem below_split {l : List UInt8} (h : below l = true) : l = 45 :: digitsOf l := by
  cases l with
  | nil => simp [below] at h
  | cons c r =>
    have hc : c = 45 := by simpa [below] using h
    rw [hc]; rfl
theorem above_split {l : List UInt8} (h : below l = false) : l = digitsOf l := by
  cases l with
  | nil => rfl
  | cons c r =>
    have hc : ¬ c = 45 := by simpa [below] using h
    simp [digitsOf, hc]
theorem itoa_low {v : Nat} (h : 1 ≤ v) : Lib.itoa (-(v : Int)) = 45 :: Lib.decDigits v := by
  unfold Lib.itoa; rw [if_pos (by omega), Int.natAbs_neg, Int.natAbs_natCast]
theorem itoa_high (v : Nat) : Lib.itoa (v : Int) = Lib.decDigits v := by
  unfold Lib.itoa; rw [if_neg (by omega), Int.toNat_natCast]
theorem sgn_low {v : Nat} (h : v ≤ 9223372036854775808) : sgn (v : Int) true = -(v : Int) := by
  rw [sgn_true, IntKind.wrap_u64, wrap64_congr (Int.emod_emod _ _), wrap64_id (by omega) (by omega)]
theorem sgn_high {v : Nat} (h : v ≤ 9223372036854775807) : sgn (v : Int) false = (v : Int) := by
  rw [sgn_false, wrap64_id (by omega) (by omega)]
theorem dec_zero : Lib.decDigits 0 = [48] := by rw [dec_small (by decide)]; rfl
theorem rp_yes {l : List UInt8} (hok : plainOk (digitsOf l) = true) (hv : val (digitsOf l) ≤ 9223372036854775808) (h : Lib.itoa (sgn (val (digitsOf l) : Int) (below l)) = l) : prs l = (sgn (val (digitsOf l) : Int) (below l), 0) := by
  obtain ⟨h1, h2, h3⟩ := plainOk_parts hok
  cases hb : below l with
  | true =>
    rw [hb, sgn_low hv] at h
    have hpos : 1 ≤ val (digitsOf l) := by
      apply Decidable.byContradiction
      intro hc
      have h0 : val (digitsOf l) = 0 := by omega
      rw [h0, show (-((0 : Nat) : Int)) = ((0 : Nat) : Int) from rfl, itoa_high, dec_zero] at h
      rw [← h] at hb; simp [below] at hb
    rw [itoa_low hpos] at h
    have hd : Lib.decDigits (val (digitsOf l)) = digitsOf l := by
      have := h.trans (below_split hb)
      exact (List.cons.inj this).2
    have hz : ¬ (digitsOf l).head? = some 48 := by
      intro e
      rw [← hd] at e
      have := dec_head _ _ (Nat.lt_succ_self _) e
      omega
    rw [sgn_low hv]
    exact ok_low h1 (fun e => hz e.1) ⟨rfl, h3⟩ hv hb
  | false =>
    rw [hb] at h
    by_cases hm : val (digitsOf l) = 9223372036854775808
    · exfalso
      rw [hm] at h
      have e : sgn ((9223372036854775808 : Nat) : Int) false = -((9223372036854775808 : Nat) : Int) := by rw [sgn_false]; simp [wrap64]
      rw [e, itoa_low (by decide)] at h
      rw [← h] at hb; simp [below] at hb
    · rw [sgn_high (by omega), itoa_high] at h
      rw [sgn_high (by omega)]
      refine ok_high h1 (fun e => ?_) ⟨rfl, h3⟩ (by omega) hb
      have hd : Lib.decDigits (val (digitsOf l)) = digitsOf l := h.trans (above_split hb)
      have e1 := e.1
      rw [← hd] at e1
      have h0 := dec_head _ _ (Nat.lt_succ_self _) e1
      rw [h0, dec_zero] at h
      exact e.2 h.symm
theorem rp_other {l : List UInt8} (hok : plainOk (digitsOf l) = true) (hv : val (digitsOf l) ≤ 9223372036854775808) (h : ¬ Lib.itoa (sgn (val (digitsOf l) : Int) (below l)) = l) : prs l = (0, 11) := by
  cases hg : good l with
  | false => exact prs_bad hg
  | true =>
    exfalso
    obtain ⟨h1, h2, h3, h4⟩ := good_parts hg
    cases hb : below l with
    | true =>
      rw [hb, sgn_low hv] at h
      have hz : ¬ (digitsOf l).head? = some 48 := by
        intro e
        have := h2 e
        rw [this] at hb; simp [below] at hb
      have hpos := val_pos h1 h3 hz
      rw [itoa_low hpos, dec_of_val _ _ (Nat.lt_succ_self _) h1 h3 (fun e => absurd e hz)] at h
      exact h (below_split hb).symm
    | false =>
      rw [hb] at h h4
      have hm : val (digitsOf l) ≤ 9223372036854775807 := h4
      rw [sgn_high hm, itoa_high, dec_of_val _ _ (Nat.lt_succ_self _) h1 h3 (fun e => by rw [← above_split hb]; exact h2 e)] at h
      exact h (above_split hb).symm
theorem sgn_rng (n : Int) (b : Bool) : -9223372036854775808 ≤ sgn n b ∧ sgn n b ≤ 9223372036854775807 := by
  cases b
  · rw [sgn_false]; unfold wrap64; omega
  · rw [sgn_true]; generalize IntKind.u64.wrap (-n) = x; unfold wrap64; omega

theorem plain_bad {D : ByteArray} (h : plainOk D.data.toList = false) (hs : D.size ≤ 9223372036854775807) (w : World) : Calls Try.prog 49 #[.string D] w fun e w' => e = .returned (.tuple #[.int .u64 0, .bool false]) ∧ w = w' := by
  have g := plain_any D hs w
  unfold PlainPost at g
  rw [h] at g
  exact g
theorem plain_fine {D : ByteArray} (h : plainOk D.data.toList = true) (hs : D.size ≤ 9223372036854775807) (w : World) : Calls Try.prog 49 #[.string D] w fun e w' => e = .returned (.tuple #[.int .u64 (val D.data.toList : Nat), .bool true]) ∧ w = w' := by
  have g := plain_any D hs w
  unfold PlainPost at g
  rw [h] at g
  exact g

def RparsePost (l : List UInt8) (w : World) (e : Ending) (w' : World) : Prop := e = .returned (.tuple #[.int .i64 (prs l).1, .int .i64 (prs l).2]) ∧ ∃ k, w' = w.drewN k
theorem rparsePost {l : List UInt8} {r f : Int} {w w' : World} (h : prs l = (r, f)) (hw : ∃ k, w' = w.drewN k) : RparsePost l w (.returned (.tuple #[.int .i64 r, .int .i64 f])) w' := by
  unfold RparsePost; rw [h]; exact ⟨rfl, hw⟩
set_option maxHeartbeats 2000000 in
theorem rparse_low (s : ByteArray) (hs : s.size ≤ 9223372036854775807) (hb : below s.data.toList = true) (w : World) : Calls Try.prog 43 #[.string s] w (RparsePost s.data.toList w) := by
  have h0 := (below_pos hb).1
  have h1 : ((s[0].toNat : Int) == 45) = true := by
    have := below_pos hb
    have e := Lib.data_getElem? s 0 h0
    have hh : s.data.toList[0]? = some 45 := by have := below_split hb; rw [this]; rfl
    rw [hh] at e
    rw [← Option.some.inj e]; rfl
  have hD := dg_yes hb
  have hz := dg_size hD
  have hsz : (dg s).size ≤ 9223372036854775807 := by rw [hD, hz]; split <;> omega
  have HD := Lib.hid hD
  have e0 := dg_data s
  have HE := Lib.hid e0
  have HB := Lib.hid hb
  clear hD hz e0 hb
  cases hok : plainOk (dg s).data.toList
  · have HF := Lib.hid (rp_no (l := s.data.toList) (by rw [← HE.out]; exact hok))
    have HO := Lib.hid hok
    clear hok
    go_enter Try.func43, Try.ntmps43
    go_wp2_with (go_at_call 49; rw [← HD.out]; refine (plain_bad HO.out hsz _).mono ?_; rintro e w' ⟨rfl, rfl⟩)
    go_ret2
    exact rparsePost HF.out ⟨0, rfl⟩
  · have HO := Lib.hid hok
    have HOl := Lib.hid (show plainOk (digitsOf s.data.toList) = true by rw [← HE.out]; exact hok)
    clear hok
    obtain ⟨V, hV⟩ : ∃ V, val (dg s).data.toList = V := ⟨_, rfl⟩
    have HV := Lib.hid hV
    have HVl := Lib.hid (show val (digitsOf s.data.toList) = V by rw [← HE.out]; exact hV)
    clear hV
    by_cases hbig : 9223372036854775808 < V
    · have HF := Lib.hid (rp_big (l := s.data.toList) (by rw [HVl.out]; exact hbig))
      go_enter Try.func43, Try.ntmps43
      go_wp2_with (go_at_call 49; rw [← HD.out]; refine (plain_fine HO.out hsz _).mono ?_; rw [HV.out]; rintro e w' ⟨rfl, rfl⟩)
      go_ret2
      exact rparsePost HF.out ⟨0, rfl⟩
    · have hle : V ≤ 9223372036854775808 := by omega
      obtain ⟨q, hq⟩ : ∃ q, sgn (V : Int) true = q := ⟨_, rfl⟩
      have hr := sgn_rng (V : Int) true
      rw [hq] at hr
      obtain ⟨L, hL⟩ : ∃ L, Lib.itoa q = L := ⟨_, rfl⟩
      have HQ := Lib.hid hq
      have HL := Lib.hid hL
      by_cases hlq : L = s.data.toList
      · have HF := Lib.hid (show prs s.data.toList = (q, 0) by
          have := rp_yes HOl.out (by rw [HVl.out]; exact hle) (by rw [HVl.out, HB.out, hq, hL]; exact hlq)
          rw [HVl.out, HB.out, hq] at this; exact this)
        have hT : (L == s.toList) = true := by rw [Lib.toList_data]; exact beq_iff_eq.2 hlq
        clear hq hL hlq
        go_enter Try.func43, Try.ntmps43
        go_wp2_with (first | (go_at_call 49; rw [← HD.out]; refine (plain_fine HO.out hsz _).mono ?_; rw [HV.out]; rintro e w' ⟨rfl, rfl⟩) | (go_at_call 51; refine (signed_any _ _ _).mono ?_; rw [HQ.out]; rintro e w' ⟨rfl, rfl⟩) | (go_at_call 50; refine (rtext_any q hr.1 hr.2 _).mono ?_; rintro e w' ⟨rfl, k, rfl⟩; rw [HL.out]))
        go_ret2
        exact rparsePost HF.out ⟨_, rfl⟩
      · have HF := Lib.hid (rp_other HOl.out (by rw [HVl.out]; exact hle) (by rw [HVl.out, HB.out, hq, hL]; exact hlq))
        have hT : (L == s.toList) = false := by rw [Lib.toList_data]; exact beq_eq_false_iff_ne.2 hlq
        clear hq hL hlq
        go_enter Try.func43, Try.ntmps43
        go_wp2_with (first | (go_at_call 49; rw [← HD.out]; refine (plain_fine HO.out hsz _).mono ?_; rw [HV.out]; rintro e w' ⟨rfl, rfl⟩) | (go_at_call 51; refine (signed_any _ _ _).mono ?_; rw [HQ.out]; rintro e w' ⟨rfl, rfl⟩) | (go_at_call 50; refine (rtext_any q hr.1 hr.2 _).mono ?_; rintro e w' ⟨rfl, k, rfl⟩; rw [HL.out]))
        go_ret2
        exact rparsePost HF.out ⟨_, rfl⟩
set_option maxHeartbeats 2000000 in
theorem rparse_high (s : ByteArray) (hs : s.size ≤ 9223372036854775807) (hb : below s.data.toList = false) (h0 : 0 < s.size) (w : World) : Calls Try.prog 43 #[.string s] w (RparsePost s.data.toList w) := by
  have h1 : ((s[0].toNat : Int) == 45) = false := by
    apply beq_eq_false_iff_ne.2
    intro hc
    have e := Lib.data_getElem? s 0 h0
    have h45 : s[0] = 45 := UInt8.toNat_inj.1 (show s[0].toNat = 45 from by omega)
    rw [h45] at e
    have : below s.data.toList = true := by
      cases hl : s.data.toList with
      | nil => rw [hl] at e; cases e
      | cons c r => rw [hl] at e; simp at e; rw [e]; rfl
    rw [this] at hb; cases hb
  have hD := dg_no hb
  have hz := dg_size hD
  have hsz : (dg s).size ≤ 9223372036854775807 := by rw [hD, hz]; split <;> omega
  have HD := Lib.hid hD
  have e0 := dg_data s
  have HE := Lib.hid e0
  have HB := Lib.hid hb
  clear hD hz e0 hb
  cases hok : plainOk (dg s).data.toList
  · have HF := Lib.hid (rp_no (l := s.data.toList) (by rw [← HE.out]; exact hok))
    have hok2 := hok
    rw [HD.out] at hok2
    have HO := Lib.hid hok2
    clear hok2
    clear hok
    go_enter Try.func43, Try.ntmps43
    go_wp2_with (go_at_call 49; refine (plain_bad HO.out hs _).mono ?_; rintro e w' ⟨rfl, rfl⟩)
    go_ret2
    exact rparsePost HF.out ⟨0, rfl⟩
  · have hok2 := hok
    rw [HD.out] at hok2
    have HO := Lib.hid hok2
    clear hok2
    have HOl := Lib.hid (show plainOk (digitsOf s.data.toList) = true by rw [← HE.out]; exact hok)
    clear hok
    obtain ⟨V, hV⟩ : ∃ V, val (dg s).data.toList = V := ⟨_, rfl⟩
    have HV := Lib.hid (show val s.data.toList = V by have := hV; rw [HD.out] at this; exact this)
    have HVl := Lib.hid (show val (digitsOf s.data.toList) = V by rw [← HE.out]; exact hV)
    clear hV
    by_cases hbig : 9223372036854775808 < V
    · have HF := Lib.hid (rp_big (l := s.data.toList) (by rw [HVl.out]; exact hbig))
      go_enter Try.func43, Try.ntmps43
      go_wp2_with (go_at_call 49; refine (plain_fine HO.out hs _).mono ?_; rw [HV.out]; rintro e w' ⟨rfl, rfl⟩)
      go_ret2
      exact rparsePost HF.out ⟨0, rfl⟩
    · have hle : V ≤ 9223372036854775808 := by omega
      obtain ⟨q, hq⟩ : ∃ q, sgn (V : Int) false = q := ⟨_, rfl⟩
      have hr := sgn_rng (V : Int) false
      rw [hq] at hr
      obtain ⟨L, hL⟩ : ∃ L, Lib.itoa q = L := ⟨_, rfl⟩
      have HQ := Lib.hid hq
      have HL := Lib.hid hL
      by_cases hlq : L = s.data.toList
      · have HF := Lib.hid (show prs s.data.toList = (q, 0) by
          have := rp_yes HOl.out (by rw [HVl.out]; exact hle) (by rw [HVl.out, HB.out, hq, hL]; exact hlq)
          rw [HVl.out, HB.out, hq] at this; exact this)
        have hT : (L == s.toList) = true := by rw [Lib.toList_data]; exact beq_iff_eq.2 hlq
        clear hq hL hlq
        go_enter Try.func43, Try.ntmps43
        go_wp2_with (first | (go_at_call 49; refine (plain_fine HO.out hs _).mono ?_; rw [HV.out]; rintro e w' ⟨rfl, rfl⟩) | (go_at_call 51; refine (signed_any _ _ _).mono ?_; rw [HQ.out]; rintro e w' ⟨rfl, rfl⟩) | (go_at_call 50; refine (rtext_any q hr.1 hr.2 _).mono ?_; rintro e w' ⟨rfl, k, rfl⟩; rw [HL.out]))
        go_ret2
        exact rparsePost HF.out ⟨_, rfl⟩
      · have HF := Lib.hid (rp_other HOl.out (by rw [HVl.out]; exact hle) (by rw [HVl.out, HB.out, hq, hL]; exact hlq))
        have hT : (L == s.toList) = false := by rw [Lib.toList_data]; exact beq_eq_false_iff_ne.2 hlq
        clear hq hL hlq
        go_enter Try.func43, Try.ntmps43
        go_wp2_with (first | (go_at_call 49; refine (plain_fine HO.out hs _).mono ?_; rw [HV.out]; rintro e w' ⟨rfl, rfl⟩) | (go_at_call 51; refine (signed_any _ _ _).mono ?_; rw [HQ.out]; rintro e w' ⟨rfl, rfl⟩) | (go_at_call 50; refine (rtext_any q hr.1 hr.2 _).mono ?_; rintro e w' ⟨rfl, k, rfl⟩; rw [HL.out]))
        go_ret2
        exact rparsePost HF.out ⟨_, rfl⟩
theorem rparse_none (s : ByteArray) (h : s.size = 0) (w : World) : Calls Try.prog 43 #[.string s] w (RparsePost s.data.toList w) := by
  have hd : s.data.toList = [] := List.length_eq_zero_iff.1 (by rw [← Lib.size_eq]; exact h)
  have HF := Lib.hid (bad_empty (l := s.data.toList) (by rw [hd]; rfl))
  have HP := Lib.hid (show plainOk s.data.toList = false by rw [hd]; rfl)
  clear hd
  go_enter Try.func43, Try.ntmps43
  go_wp2_with (go_at_call 49; refine (plain_bad HP.out (by omega) _).mono ?_; rintro e w' ⟨rfl, rfl⟩)
  go_ret2
  exact rparsePost HF.out ⟨0, rfl⟩
/-- The document's Parse, WHATEVER THE TEXT. -/
theorem rparse_any (s : ByteArray) (hs : s.size ≤ 9223372036854775807) (w : World) : Calls Try.prog 43 #[.string s] w (RparsePost s.data.toList w) := by
  cases hb : below s.data.toList
  · by_cases h0 : 0 < s.size
    · exact rparse_high s hs hb h0 w
    · exact rparse_none s (by omega) w
  · exact rparse_low s hs hb w
end Go.Proofs.Ytigidagcpjmjnaa.Rp
