/-
  CONTRACT: a number with a sign (changelingref01.signed).
-/
import Derived.Test.YtdhfldpfbejcjaaGreatGSa
import Derived.Deep.QuietTactic
import Derived.BigQuiet
import Derived.Lib.ItoaNum
import Derived.Lib.Strings
namespace Go.Proofs.YtdhfldpfbejcjaaGreat.Dx
open Go.RowKit Pl Ar

theorem wrap64_congr {x y : Int} (h : x % 18446744073709551616 = y % 18446744073709551616) : wrap64 x = wrap64 y := by
  unfold wrap64; rw [Int.add_emod, h, ← Int.add_emod]
theorem wrap64_id {a : Int} (h1 : -9223372036854775808 ≤ a) (h2 : a ≤ 9223372036854775807) : wrap64 a = a := by unfold wrap64; omega
/-- signed's value -/
def sgn (n : Int) (below : Bool) : Int := if below then wrap64 (IntKind.u64.wrap (-n)) else wrap64 n
theorem sgn_true (n : Int) : sgn n true = wrap64 (IntKind.u64.wrap (-n)) := by simp [sgn]
theorem sgn_false (n : Int) : sgn n false = wrap64 n := by simp [sgn]
theorem signed_any (n : Int) (below : Bool) (w : World) : Calls Tryz.prog 123 #[.int .u64 n, .bool below] w fun e w' => e = .returned (.int .i64 (sgn n below)) ∧ w = w' := by
  cases below
  · have H := Lib.hid (show sgn n false = wrap64 n by simp [sgn])
    go_enter Tryz.func123, Tryz.ntmps123
    go_wp2
    go_ret
    exact ⟨ret_int H.out.symm, rfl⟩
  · have H := Lib.hid (show sgn n true = wrap64 (IntKind.u64.wrap (-n)) by simp [sgn])
    go_enter Tryz.func123, Tryz.ntmps123
    go_wp2
    go_ret
    exact ⟨ret_int H.out.symm, rfl⟩
end Go.Proofs.YtdhfldpfbejcjaaGreat.Dx
/-
  CONTRACTS: a number's digits, as the document's own Digits and Text write them.
-/
namespace Go.Proofs.YtdhfldpfbejcjaaGreat.Tx
open Go.RowKit Pl Ar Dx
set_option linter.unusedVariables false

theorem dec_len (k : Nat) : ∀ u, u < 10 ^ (k + 1) → (Lib.decDigits u).length ≤ k + 1 := by
  induction k with
  | zero => intro u h; rw [Lib.decDigits, dif_pos (by simpa using h)]; simp
  | succ k ih =>
    intro u h
    rw [Lib.decDigits]
    split
    · simp
    · have := ih (u / 10) (by rw [Nat.pow_succ] at h; omega)
      simp; omega
theorem dec_len20 {u : Nat} (h : u < 18446744073709551616) : (Lib.decDigits u).length ≤ 20 := dec_len 19 u (by omega)
theorem digit_text : ∀ d : Nat, d < 10 → ((⟨#[48, 49, 50, 51, 52, 53, 54, 55, 56, 57]⟩ : ByteArray).extract d (d + 1)) = ⟨#[UInt8.ofNat (48 + d)]⟩ := by decide

theorem cat_mk (a b : List UInt8) : (⟨a.toArray⟩ : ByteArray) ++ ⟨b.toArray⟩ = ⟨(a ++ b).toArray⟩ := by
  apply ByteArray.ext
  simp
def DigPost (n : Nat) (w : World) (e : Ending) (w' : World) : Prop := e = .returned (.string ⟨(Lib.decDigits n).toArray⟩) ∧ ∃ k, w' = w.drewN k
theorem digits_any (f : Nat) : ∀ (n : Nat) (w : World), n < f → n < 18446744073709551616 → Calls Tryz.prog 157 #[.int .u64 n] w (DigPost n w) := by
  induction f with
  | zero => intro n w h; omega
  | succ f ih =>
    intro n w hf hn
    by_cases h : n < 10
    · have HD := Lib.hid (digit_text n h)
      have HE := Lib.hid (show Lib.decDigits n = [UInt8.ofNat (48 + n)] by rw [Lib.decDigits, dif_pos h])
      go_enter Tryz.func157, Tryz.ntmps157
      go_wp2_with fail
      go_ret
      exact ⟨by rw [HE.out, ← HD.out]; rfl, 0, rfl⟩
    · have h10 : n % 10 < 10 := Nat.mod_lt _ (by decide)
      have HD := Lib.hid (digit_text (n % 10) h10)
      have HE := Lib.hid (show Lib.decDigits n = Lib.decDigits (n / 10) ++ [UInt8.ofNat (48 + n % 10)] by rw [Lib.decDigits, dif_neg h])
      have hc : ((n / 10 : Nat) : Int) = (n : Int) / 10 := by omega
      have HI := Lib.hid (fun w => by have := ih (n / 10) w (by omega) (by omega); rw [hc] at this; exact this : ∀ w, Calls Tryz.prog 157 #[.int .u64 ((n : Int) / 10)] w (DigPost (n / 10) w))
      clear hc
      have hl := dec_len20 (u := n / 10) (by omega)
      clear ih
      go_enter Tryz.func157, Tryz.ntmps157
      go_wp2_with fail
      go_quiet ((go_at_call 157; exact Calls.quiet_of (HI.out _)))
      go_wp2
      go_ret
      refine ⟨?_, _, rfl⟩
      rw [HE.out, ← cat_mk, ← HD.out]
      rfl

/-- The document's Digits. -/
theorem digits_all (n : Nat) (hn : n < 18446744073709551616) (w : World) : Calls Tryz.prog 157 #[.int .u64 n] w (DigPost n w) := digits_any (n + 1) n w (by omega) hn

def TextPost (n : Int) (w : World) (e : Ending) (w' : World) : Prop := e = .returned (.string ⟨(Lib.itoa n).toArray⟩) ∧ ∃ k, w' = w.drewN k
theorem itoa_neg {n : Int} (h : n < 0) : Lib.itoa n = [45] ++ Lib.decDigits (size n) := by unfold Lib.itoa size; rw [if_pos h]; rfl
theorem itoa_pos {n : Int} (h : ¬ n < 0) : Lib.itoa n = Lib.decDigits (size n) := by unfold Lib.itoa size; rw [if_neg h]; congr 1; omega
/-- The document's Text. -/
theorem rtext_any (n : Int) (h1 : -9223372036854775808 ≤ n) (h2 : n ≤ 9223372036854775807) (w : World) : Calls Tryz.prog 122 #[.int .i64 n] w (TextPost n w) := by
  have hs := size_lt n h1 h2
  have hl := dec_len20 hs
  by_cases h : n < 0
  · have HE := Lib.hid (itoa_neg h)
    go_enter Tryz.func122, Tryz.ntmps122
    go_wp2_with fail
    refine (size_any n h1 h2 _).mono ?_
    rintro e w' ⟨rfl, rfl⟩
    go_wp2_with fail
    refine (digits_all (size n) hs _).mono ?_
    rintro e w' ⟨rfl, k, rfl⟩
    go_wp2
    go_ret
    exact ⟨by rw [HE.out, ← cat_mk]; rfl, _, rfl⟩
  · have HE := Lib.hid (itoa_pos h)
    go_enter Tryz.func122, Tryz.ntmps122
    go_wp2_with fail
    refine (size_any n h1 h2 _).mono ?_
    rintro e w' ⟨rfl, rfl⟩
    go_wp2_with fail
    refine (digits_all (size n) hs _).mono ?_
    rintro e w' ⟨rfl, k, rfl⟩
    go_wp2
    go_ret
    exact ⟨by rw [HE.out]; rfl, _, rfl⟩
end Go.Proofs.YtdhfldpfbejcjaaGreat.Tx
/-
  PLAIN MATHEMATICS: decimal digits and their value; which texts are a number's text. No program in sight.
-/
namespace Go.Proofs.YtdhfldpfbejcjaaGreat.Dg

theorem dec_small {n : Nat} (h : n < 10) : Lib.decDigits n = [UInt8.ofNat (48 + n)] := by rw [Lib.decDigits, dif_pos h]
theorem dec_step {n : Nat} (h : ¬ n < 10) : Lib.decDigits n = Lib.decDigits (n / 10) ++ [UInt8.ofNat (48 + n % 10)] := by rw [Lib.decDigits, dif_neg h]
theorem ofNat_toNat {d : Nat} (h : d < 10) : (UInt8.ofNat (48 + d)).toNat = 48 + d := by
  rw [UInt8.toNat_ofNat']; exact Nat.mod_eq_of_lt (by omega)
theorem dec_ne (n : Nat) : Lib.decDigits n ≠ [] := by
  by_cases h : n < 10
  · rw [dec_small h]; simp
  · rw [dec_step h]; simp
theorem dec_val (f : Nat) : ∀ n, n < f → val (Lib.decDigits n) = n ∧ (Lib.decDigits n).all isD = true := by
  induction f with
  | zero => intro n h; omega
  | succ f ih =>
    intro n hf
    by_cases h : n < 10
    · rw [dec_small h]
      refine ⟨?_, ?_⟩
      · have := val_snoc [] (UInt8.ofNat (48 + n))
        rw [ofNat_toNat h] at this
        rw [List.nil_append] at this
        rw [this]
        show 10 * 0 + _ = _
        omega
      · simp [isD]; omega
    · have hm : n % 10 < 10 := Nat.mod_lt _ (by decide)
      obtain ⟨h1, h2⟩ := ih (n / 10) (by omega)
      rw [dec_step h]
      refine ⟨?_, ?_⟩
      · rw [val_snoc, h1, ofNat_toNat hm]; omega
      · rw [List.all_append, h2]; simp [isD]; omega
theorem dec_head (f : Nat) : ∀ n, n < f → (Lib.decDigits n).head? = some 48 → n = 0 := by
  induction f with
  | zero => intro n h; omega
  | succ f ih =>
    intro n hf h
    by_cases hn : n < 10
    · rw [dec_small hn] at h
      have h2 := congrArg UInt8.toNat (Option.some.inj h)
      rw [ofNat_toNat hn] at h2
      have : (48 : UInt8).toNat = 48 := rfl
      omega
    · rw [dec_step hn, List.head?_append] at h
      cases hd : (Lib.decDigits (n / 10)).head? with
      | none => exact absurd (List.head?_eq_none_iff.1 hd) (dec_ne _)
      | some c =>
        rw [hd] at h
        have := ih (n / 10) (by omega) (by rw [hd]; exact h)
        omega
theorem valF_ge (v : Nat) (d : List UInt8) : v * 10 ^ d.length ≤ valF v d := by
  induction d generalizing v with
  | nil => simp [valF]
  | cons c r ih =>
    have h := ih (more v c)
    refine Nat.le_trans ?_ h
    rw [List.length_cons, Nat.pow_succ, Nat.mul_comm (10 ^ r.length) 10, ← Nat.mul_assoc]
    exact Nat.mul_le_mul_right _ (by unfold more; omega)
theorem val_ge {c : UInt8} {r : List UInt8} (h : isD c = true) (h0 : c ≠ 48) : 10 ^ r.length ≤ val (c :: r) := by
  have hc : 1 ≤ c.toNat - 48 := by
    have : c.toNat ≠ 48 := fun e => h0 (UInt8.toNat_inj.1 e)
    simp only [isD, Bool.and_eq_true, decide_eq_true_eq] at h
    omega
  have e : val (c :: r) = valF (more 0 c) r := rfl
  rw [e]
  refine Nat.le_trans ?_ (valF_ge _ _)
  have : 1 ≤ more 0 c := by unfold more; omega
  calc 10 ^ r.length = 1 * 10 ^ r.length := (Nat.one_mul _).symm
    _ ≤ _ := Nat.mul_le_mul_right _ this
theorem isD_ofNat {c : UInt8} (h : isD c = true) : UInt8.ofNat (48 + (c.toNat - 48)) = c ∧ c.toNat - 48 < 10 := by
  simp only [isD, Bool.and_eq_true, decide_eq_true_eq] at h
  refine ⟨?_, by omega⟩
  apply UInt8.toNat_inj.1
  rw [ofNat_toNat (by omega)]; omega
/-- Digits without a needless 0 are the digits of their value. -/
theorem dec_of_val (f : Nat) : ∀ d : List UInt8, d.length < f → d ≠ [] → d.all isD = true → (d.head? = some 48 → d = [48]) → Lib.decDigits (val d) = d := by
  induction f with
  | zero => intro d h; omega
  | succ f ih =>
    intro d hf hne hall hz
    obtain ⟨a, c, rfl⟩ : ∃ a c, d = a ++ [c] := ⟨d.dropLast, d.getLast hne, (List.dropLast_concat_getLast hne).symm⟩
    rw [List.all_append, Bool.and_eq_true] at hall
    have hc : isD c = true := by simpa using hall.2
    obtain ⟨hc1, hc2⟩ := isD_ofNat hc
    rw [val_snoc]
    cases a with
    | nil =>
      have e : val [] = 0 := rfl
      rw [e, dec_small (by omega), Nat.mul_zero, Nat.zero_add, hc1]; rfl
    | cons x r =>
      have hx : isD x = true := by have := hall.1; simp only [List.all_cons, Bool.and_eq_true] at this; exact this.1
      have hx0 : x ≠ 48 := by
        intro e
        have := hz (by rw [e]; rfl)
        simp at this
      have hv : 1 ≤ val (x :: r) := Nat.le_trans (Nat.pow_pos (by decide)) (val_ge hx hx0)
      have hi := ih (x :: r) (by simp at hf ⊢; omega) (by simp) hall.1 (by intro e; exact absurd (Option.some.inj e) hx0)
      rw [dec_step (by omega)]
      rw [show (10 * val (x :: r) + (c.toNat - 48)) / 10 = val (x :: r) by omega, show (10 * val (x :: r) + (c.toNat - 48)) % 10 = c.toNat - 48 by omega, hi, hc1]
/-- Too many digits are too large a number. -/
theorem long_large {d : List UInt8} (h : 19 < d.length) (hall : d.all isD = true) (hz : ¬ d.head? = some 48) : 9223372036854775808 < val d := by
  cases d with
  | nil => simp at h
  | cons c r =>
    have hc : isD c = true := by simp only [List.all_cons, Bool.and_eq_true] at hall; exact hall.1
    have := val_ge (r := r) hc (fun e => hz (by rw [e]; rfl))
    have h2 : 10 ^ 19 ≤ 10 ^ r.length := Nat.pow_le_pow_right (by decide) (by simp at h; omega)
    omega
theorem val_pos {d : List UInt8} (hne : d ≠ []) (hall : d.all isD = true) (hz : ¬ d.head? = some 48) : 1 ≤ val d := by
  cases d with
  | nil => exact absurd rfl hne
  | cons c r =>
    have hc : isD c = true := by simp only [List.all_cons, Bool.and_eq_true] at hall; exact hall.1
    exact Nat.le_trans (Nat.pow_pos (by decide)) (val_ge (r := r) hc (fun e => hz (by rw [e]; rfl)))
theorem val_lt (d : List UInt8) (hall : d.all isD = true) : val d < 10 ^ d.length := by
  induction hn : d.length generalizing d with
  | zero => rw [List.length_eq_zero_iff.1 hn]; decide
  | succ n ih =>
    have hne : d ≠ [] := by intro e; rw [e] at hn; simp at hn
    obtain ⟨a, c, rfl⟩ : ∃ a c, d = a ++ [c] := ⟨d.dropLast, d.getLast hne, (List.dropLast_concat_getLast hne).symm⟩
    rw [List.all_append, Bool.and_eq_true] at hall
    have hc : isD c = true := by simpa using hall.2
    have := ih a hall.1 (by simp at hn; exact hn)
    have h10 := (isD_ofNat hc).2
    rw [val_snoc, Nat.pow_succ]
    omega
end Go.Proofs.YtdhfldpfbejcjaaGreat.Dg
/-
  CONTRACT: the document's own Parse reads any text as 'prs' says.
-/
namespace Go.Proofs.YtdhfldpfbejcjaaGreat.Rp
open Go.RowKit Pl Ar Dx Dg Pa Tx
set_option linter.unusedVariables false

/-- are these digits of a number without a sign -/
def plainOk (d : List UInt8) : Bool := !d.isEmpty && decide (d.length ≤ 19) && d.all isD
def PlainPost (d : List UInt8) (w : World) (e : Ending) (w' : World) : Prop := e = .returned (.tuple #[.int .u64 ((if plainOk d then val d else 0 : Nat) : Int), .bool (plainOk d)]) ∧ w = w'
theorem plain_yes {d : List UInt8} {w : World} {V : Nat} (h : plainOk d = true) (hv : val d = V) : PlainPost d w (.returned (.tuple #[.int .u64 (V : Int), .bool true])) w := by
  unfold PlainPost; rw [h, ← hv]; exact ⟨rfl, rfl⟩
theorem plain_no {d : List UInt8} {w : World} (h : plainOk d = false) : PlainPost d w (.returned (.tuple #[.int .u64 0, .bool false])) w := by
  unfold PlainPost; rw [h]; exact ⟨rfl, rfl⟩

theorem bound18 {D : ByteArray} {k V : Nat} (h : LoopIs D k V) (hk : k < D.size) (h19 : D.size ≤ 19) : V ≤ 999999999999999999 := by
  have := val_lt _ h.2
  rw [← h.1] at this
  have hl : (D.data.toList.take k).length ≤ 18 := by rw [List.length_take]; omega
  have h2 : 10 ^ (D.data.toList.take k).length ≤ 10 ^ 18 := Nat.pow_le_pow_right (by decide) hl
  omega
set_option maxHeartbeats 2000000 in
theorem plain_any (D : ByteArray) (hs : D.size ≤ 9223372036854775807) (w : World) : Calls Tryz.prog 121 #[.string D] w (PlainPost D.data.toList w) := by
  by_cases h0 : D.size = 0
  · have h1 : ((D.size : Int) == 0) = true := beq_iff_eq.2 (by omega)
    have HF := Lib.hid (plain_no (d := D.data.toList) (w := w) (by have : D.data.toList = [] := List.length_eq_zero_iff.1 (by rw [← Lib.size_eq]; exact h0)
                                                                   rw [this]; rfl))
    clear h0
    go_enter Tryz.func121, Tryz.ntmps121
    go_wp2
    go_ret2
    exact HF.out
  · have h1 : ((D.size : Int) == 0) = false := beq_eq_false_iff_ne.2 (by omega)
    by_cases h19 : 19 < D.size
    · have HF := Lib.hid (plain_no (d := D.data.toList) (w := w) (by unfold plainOk; rw [← Lib.size_eq, decide_eq_false (by omega)]; simp))
      clear h0
      go_enter Tryz.func121, Tryz.ntmps121
      go_wp2
      go_ret2
      exact HF.out
    · have h2 : decide (19 < (D.size : Int)) = false := decide_eq_false (by omega)
      have h3 : D.size ≤ 19 := by omega
      have HE := Lib.hid (show D.data.toList.isEmpty = false by
        cases hx : D.data.toList with
        | nil => rw [Lib.size_eq, hx] at h0; exact absurd rfl h0
        | cons _ _ => rfl)
      clear h0
      go_enter Tryz.func121, Tryz.ntmps121
      go_wp2
      go_loop [4, 5] (fun n i => ∃ k V : Nat, k ≤ D.size ∧ i = .int .i64 k ∧ n = .int .u64 V ∧ LoopIs D k V) (fun _ i => D.size - (intOf i).toNat)
      case atStart => exact ⟨0, 0, by omega, rfl, rfl, loopIs_zero D⟩
      case round =>
        obtain ⟨k, V, hk, rfl, rfl, hI⟩ := hrel
        have HI := Lib.hid hI
        clear hI
        by_cases hlt : k < D.size
        · have hb := UInt8.toNat_lt D[k]
          have hV := bound18 HI.out hlt h3
          by_cases c1 : D[k].toNat < 48
          · have HF := Lib.hid (plain_no (d := D.data.toList) (w := w) (by unfold plainOk; rw [isD_no hlt (Or.inl c1)]; simp))
            go_wp2
            go_ret2
            exact HF.out
          · by_cases c2 : 57 < D[k].toNat
            · have HF := Lib.hid (plain_no (d := D.data.toList) (w := w) (by unfold plainOk; rw [isD_no hlt (Or.inr c2)]; simp))
              go_wp2
              go_ret2
              exact HF.out
            · have HN := Lib.hid (loopIs_succ HI.out hlt c1 c2)
              go_wp2
              go_round
              case rel => exact ⟨k + 1, 10 * V + (D[k].toNat - 48), by omega, by go_num, congrArg (Value.int .u64) (by omega), HN.out⟩
              case measure => first | (simp [intOf]; done) | (simp [intOf]; omega)
        · have hkD : k = D.size := by omega
          have HX := Lib.hid (by have := HI.out; rw [hkD] at this; exact loopIs_end this : V = val D.data.toList ∧ D.data.toList.all isD = true)
          clear hkD
          go_wp2
          go_ret2
          exact plain_yes (by unfold plainOk; rw [HE.out, HX.out.2, ← Lib.size_eq, decide_eq_true h3]; rfl) HX.out.1.symm
end Go.Proofs.YtdhfldpfbejcjaaGreat.Rp
/-
  CONTRACT: the document's own Parse, whatever the text: gives 'prs'.
-/
namespace Go.Proofs.YtdhfldpfbejcjaaGreat.Rp
open Go.RowKit Pl Ar Dx Dg Pa Tx
set_option linter.unusedVariables false

theorem good_parts {l : List UInt8} (h : good l = true) : digitsOf l ≠ [] ∧ ((digitsOf l).head? = some 48 → l = [48]) ∧ (digitsOf l).all isD = true ∧ val (digitsOf l) ≤ most (below l) := by
  simp only [good, Bool.and_eq_true, Bool.not_eq_true', decide_eq_true_eq] at h
  obtain ⟨⟨⟨h1, h2⟩, h3⟩, h4⟩ := h
  refine ⟨?_, ?_, h3, h4⟩
  · intro e; rw [e] at h1; cases h1
  · intro e
    rw [e] at h2
    simpa using h2
theorem rp_no {l : List UInt8} (h : plainOk (digitsOf l) = false) : prs l = (0, 11) := by
  cases hg : good l with
  | false => exact prs_bad hg
  | true =>
    exfalso
    obtain ⟨h1, h2, h3, h4⟩ := good_parts hg
    have hl : (digitsOf l).length ≤ 19 := by
      apply Decidable.byContradiction
      intro hc
      by_cases hz : (digitsOf l).head? = some 48
      · have := h2 hz
        rw [this] at hc
        simp [digitsOf] at hc
      · have := long_large (by omega) h3 hz
        have := most_le (below l)
        omega
    have : plainOk (digitsOf l) = true := by
      unfold plainOk
      rw [h3, decide_eq_true hl]
      cases hd : digitsOf l with
      | nil => exact absurd hd h1
      | cons _ _ => rfl
    rw [this] at h; cases h
theorem rp_big {l : List UInt8} (h : 9223372036854775808 < val (digitsOf l)) : prs l = (0, 11) := bad_large (Nat.lt_of_le_of_lt (most_le _) h)
theorem plainOk_parts {d : List UInt8} (h : plainOk d = true) : d ≠ [] ∧ d.length ≤ 19 ∧ d.all isD = true := by
  simp only [plainOk, Bool.and_eq_true, Bool.not_eq_true', decide_eq_true_eq] at h
  refine ⟨?_, h.1.2, h.2⟩
  intro e; rw [e] at h; exact absurd h.1.1 (by decide)
theorem below_split {l : List UInt8} (h : below l = true) : l = 45 :: digitsOf l := by
  cases l with
  | nil => simp [below] at h
  | cons c r =>
    have hc : c = 45 := by simpa [below] using h
    rw [hc]; rfl
theorem above_split {l : List UInt8} (h : below l = false) : l = digitsOf l := by
  cases l with
  | nil => rfl
  | cons c r =>
    have hc : ¬ c = 45 := by simpa [below] using h
    simp [digitsOf, hc]
theorem itoa_low {v : Nat} (h : 1 ≤ v) : Lib.itoa (-(v : Int)) = 45 :: Lib.decDigits v := by
  unfold Lib.itoa; rw [if_pos (by omega), Int.natAbs_neg, Int.natAbs_natCast]
theorem itoa_high (v : Nat) : Lib.itoa (v : Int) = Lib.decDigits v := by
  unfold Lib.itoa; rw [if_neg (by omega), Int.toNat_natCast]
theorem sgn_low {v : Nat} (h : v ≤ 9223372036854775808) : sgn (v : Int) true = -(v : Int) := by
  rw [sgn_true, IntKind.wrap_u64, wrap64_congr (Int.emod_emod _ _), wrap64_id (by omega) (by omega)]
theorem sgn_high {v : Nat} (h : v ≤ 9223372036854775807) : sgn (v : Int) false = (v : Int) := by
  rw [sgn_false, wrap64_id (by omega) (by omega)]
theorem dec_zero : Lib.decDigits 0 = [48] := by rw [dec_small (by decide)]; rfl
theorem rp_yes {l : List UInt8} (hok : plainOk (digitsOf l) = true) (hv : val (digitsOf l) ≤ 9223372036854775808) (h : Lib.itoa (sgn (val (digitsOf l) : Int) (below l)) = l) : prs l = (sgn (val (digitsOf l) : Int) (below l), 0) := by
  obtain ⟨h1, h2, h3⟩ := plainOk_parts hok
  cases hb : below l with
  | true =>
    rw [hb, sgn_low hv] at h
    have hpos : 1 ≤ val (digitsOf l) := by
      apply Decidable.byContradiction
      intro hc
      have h0 : val (digitsOf l) = 0 := by omega
      rw [h0, show (-((0 : Nat) : Int)) = ((0 : Nat) : Int) from rfl, itoa_high, dec_zero] at h
      rw [← h] at hb; simp [below] at hb
    rw [itoa_low hpos] at h
    have hd : Lib.decDigits (val (digitsOf l)) = digitsOf l := by
      have := h.trans (below_split hb)
      exact (List.cons.inj this).2
    have hz : ¬ (digitsOf l).head? = some 48 := by
      intro e
      rw [← hd] at e
      have := dec_head _ _ (Nat.lt_succ_self _) e
      omega
    rw [sgn_low hv]
    exact ok_low h1 (fun e => hz e.1) ⟨rfl, h3⟩ hv hb
  | false =>
    rw [hb] at h
    by_cases hm : val (digitsOf l) = 9223372036854775808
    · exfalso
      rw [hm] at h
      have e : sgn ((9223372036854775808 : Nat) : Int) false = -((9223372036854775808 : Nat) : Int) := by rw [sgn_false]; simp [wrap64]
      rw [e, itoa_low (by decide)] at h
      rw [← h] at hb; simp [below] at hb
    · rw [sgn_high (by omega), itoa_high] at h
      rw [sgn_high (by omega)]
      refine ok_high h1 (fun e => ?_) ⟨rfl, h3⟩ (by omega) hb
      have hd : Lib.decDigits (val (digitsOf l)) = digitsOf l := h.trans (above_split hb)
      have e1 := e.1
      rw [← hd] at e1
      have h0 := dec_head _ _ (Nat.lt_succ_self _) e1
      rw [h0, dec_zero] at h
      exact e.2 h.symm
theorem rp_other {l : List UInt8} (hok : plainOk (digitsOf l) = true) (hv : val (digitsOf l) ≤ 9223372036854775808) (h : ¬ Lib.itoa (sgn (val (digitsOf l) : Int) (below l)) = l) : prs l = (0, 11) := by
  cases hg : good l with
  | false => exact prs_bad hg
  | true =>
    exfalso
    obtain ⟨h1, h2, h3, h4⟩ := good_parts hg
    cases hb : below l with
    | true =>
      rw [hb, sgn_low hv] at h
      have hz : ¬ (digitsOf l).head? = some 48 := by
        intro e
        have := h2 e
        rw [this] at hb; simp [below] at hb
      have hpos := val_pos h1 h3 hz
      rw [itoa_low hpos, dec_of_val _ _ (Nat.lt_succ_self _) h1 h3 (fun e => absurd e hz)] at h
      exact h (below_split hb).symm
    | false =>
      rw [hb] at h h4
      have hm : val (digitsOf l) ≤ 9223372036854775807 := h4
      rw [sgn_high hm, itoa_high, dec_of_val _ _ (Nat.lt_succ_self _) h1 h3 (fun e => by rw [← above_split hb]; exact h2 e)] at h
      exact h (above_split hb).symm
theorem sgn_rng (n : Int) (b : Bool) : -9223372036854775808 ≤ sgn n b ∧ sgn n b ≤ 9223372036854775807 := by
  cases b
  · rw [sgn_false]; unfold wrap64; omega
  · rw [sgn_true]; generalize IntKind.u64.wrap (-n) = x; unfold wrap64; omega

theorem plain_bad {D : ByteArray} (h : plainOk D.data.toList = false) (hs : D.size ≤ 9223372036854775807) (w : World) : Calls Tryz.prog 121 #[.string D] w fun e w' => e = .returned (.tuple #[.int .u64 0, .bool false]) ∧ w = w' := by
  have g := plain_any D hs w
  unfold PlainPost at g
  rw [h] at g
  exact g
theorem plain_fine {D : ByteArray} (h : plainOk D.data.toList = true) (hs : D.size ≤ 9223372036854775807) (w : World) : Calls Tryz.prog 121 #[.string D] w fun e w' => e = .returned (.tuple #[.int .u64 (val D.data.toList : Nat), .bool true]) ∧ w = w' := by
  have g := plain_any D hs w
  unfold PlainPost at g
  rw [h] at g
  exact g

def RparsePost (l : List UInt8) (w : World) (e : Ending) (w' : World) : Prop := e = .returned (.tuple #[.int .i64 (prs l).1, .int .i64 (prs l).2]) ∧ ∃ k, w' = w.drewN k
theorem rparsePost {l : List UInt8} {r f : Int} {w w' : World} (h : prs l = (r, f)) (hw : ∃ k, w' = w.drewN k) : RparsePost l w (.returned (.tuple #[.int .i64 r, .int .i64 f])) w' := by
  unfold RparsePost; rw [h]; exact ⟨rfl, hw⟩
set_option maxHeartbeats 2000000 in
theorem rparse_low (s : ByteArray) (hs : s.size ≤ 9223372036854775807) (hb : below s.data.toList = true) (w : World) : Calls Tryz.prog 94 #[.string s] w (RparsePost s.data.toList w) := by
  have h0 := (below_pos hb).1
  have h1 : ((s[0].toNat : Int) == 45) = true := by
    have := below_pos hb
    have e := Lib.data_getElem? s 0 h0
    have hh : s.data.toList[0]? = some 45 := by have := below_split hb; rw [this]; rfl
    rw [hh] at e
    rw [← Option.some.inj e]; rfl
  have hD := dg_yes hb
  have hz := dg_size hD
  have hsz : (dg s).size ≤ 9223372036854775807 := by rw [hD, hz]; split <;> omega
  have HD := Lib.hid hD
  have e0 := dg_data s
  have HE := Lib.hid e0
  have HB := Lib.hid hb
  clear hD hz e0 hb
  cases hok : plainOk (dg s).data.toList
  · have HF := Lib.hid (rp_no (l := s.data.toList) (by rw [← HE.out]; exact hok))
    have HO := Lib.hid hok
    clear hok
    go_enter Tryz.func94, Tryz.ntmps94
    go_wp2_with (go_at_call 121; rw [← HD.out]; refine (plain_bad HO.out hsz _).mono ?_; rintro e w' ⟨rfl, rfl⟩)
    go_ret2
    exact rparsePost HF.out ⟨0, rfl⟩
  · have HO := Lib.hid hok
    have HOl := Lib.hid (show plainOk (digitsOf s.data.toList) = true by rw [← HE.out]; exact hok)
    clear hok
    obtain ⟨V, hV⟩ : ∃ V, val (dg s).data.toList = V := ⟨_, rfl⟩
    have HV := Lib.hid hV
    have HVl := Lib.hid (show val (digitsOf s.data.toList) = V by rw [← HE.out]; exact hV)
    clear hV
    by_cases hbig : 9223372036854775808 < V
    · have HF := Lib.hid (rp_big (l := s.data.toList) (by rw [HVl.out]; exact hbig))
      go_enter Tryz.func94, Tryz.ntmps94
      go_wp2_with (go_at_call 121; rw [← HD.out]; refine (plain_fine HO.out hsz _).mono ?_; rw [HV.out]; rintro e w' ⟨rfl, rfl⟩)
      go_ret2
      exact rparsePost HF.out ⟨0, rfl⟩
    · have hle : V ≤ 9223372036854775808 := by omega
      obtain ⟨q, hq⟩ : ∃ q, sgn (V : Int) true = q := ⟨_, rfl⟩
      have hr := sgn_rng (V : Int) true
      rw [hq] at hr
      obtain ⟨L, hL⟩ : ∃ L, Lib.itoa q = L := ⟨_, rfl⟩
      have HQ := Lib.hid hq
      have HL := Lib.hid hL
      by_cases hlq : L = s.data.toList
      · have HF := Lib.hid (show prs s.data.toList = (q, 0) by
          have := rp_yes HOl.out (by rw [HVl.out]; exact hle) (by rw [HVl.out, HB.out, hq, hL]; exact hlq)
          rw [HVl.out, HB.out, hq] at this; exact this)
        have hT : (L == s.toList) = true := by rw [Lib.toList_data]; exact beq_iff_eq.2 hlq
        clear hq hL hlq
        go_enter Tryz.func94, Tryz.ntmps94
        go_wp2_with (first | (go_at_call 121; rw [← HD.out]; refine (plain_fine HO.out hsz _).mono ?_; rw [HV.out]; rintro e w' ⟨rfl, rfl⟩) | (go_at_call 123; refine (signed_any _ _ _).mono ?_; rw [HQ.out]; rintro e w' ⟨rfl, rfl⟩) | (go_at_call 122; refine (rtext_any q hr.1 hr.2 _).mono ?_; rintro e w' ⟨rfl, k, rfl⟩; rw [HL.out]))
        go_ret2
        exact rparsePost HF.out ⟨_, rfl⟩
      · have HF := Lib.hid (rp_other HOl.out (by rw [HVl.out]; exact hle) (by rw [HVl.out, HB.out, hq, hL]; exact hlq))
        have hT : (L == s.toList) = false := by rw [Lib.toList_data]; exact beq_eq_false_iff_ne.2 hlq
        clear hq hL hlq
        go_enter Tryz.func94, Tryz.ntmps94
        go_wp2_with (first | (go_at_call 121; rw [← HD.out]; refine (plain_fine HO.out hsz _).mono ?_; rw [HV.out]; rintro e w' ⟨rfl, rfl⟩) | (go_at_call 123; refine (signed_any _ _ _).mono ?_; rw [HQ.out]; rintro e w' ⟨rfl, rfl⟩) | (go_at_call 122; refine (rtext_any q hr.1 hr.2 _).mono ?_; rintro e w' ⟨rfl, k, rfl⟩; rw [HL.out]))
        go_ret2
        exact rparsePost HF.out ⟨_, rfl⟩
set_option maxHeartbeats 2000000 in
theorem rparse_high (s : ByteArray) (hs : s.size ≤ 9223372036854775807) (hb : below s.data.toList = false) (h0 : 0 < s.size) (w : World) : Calls Tryz.prog 94 #[.string s] w (RparsePost s.data.toList w) := by
  have h1 : ((s[0].toNat : Int) == 45) = false := by
    apply beq_eq_false_iff_ne.2
    intro hc
    have e := Lib.data_getElem? s 0 h0
    have h45 : s[0] = 45 := UInt8.toNat_inj.1 (show s[0].toNat = 45 from by omega)
    rw [h45] at e
    have : below s.data.toList = true := by
      cases hl : s.data.toList with
      | nil => rw [hl] at e; cases e
      | cons c r => rw [hl] at e; simp at e; rw [e]; rfl
    rw [this] at hb; cases hb
  have hD := dg_no hb
  have hz := dg_size hD
  have hsz : (dg s).size ≤ 9223372036854775807 := by rw [hD, hz]; split <;> omega
  have HD := Lib.hid hD
  have e0 := dg_data s
  have HE := Lib.hid e0
  have HB := Lib.hid hb
  clear hD hz e0 hb
  cases hok : plainOk (dg s).data.toList
  · have HF := Lib.hid (rp_no (l := s.data.toList) (by rw [← HE.out]; exact hok))
    have hok2 := hok
    rw [HD.out] at hok2
    have HO := Lib.hid hok2
    clear hok2
    clear hok
    go_enter Tryz.func94, Tryz.ntmps94
    go_wp2_with (go_at_call 121; refine (plain_bad HO.out hs _).mono ?_; rintro e w' ⟨rfl, rfl⟩)
    go_ret2
    exact rparsePost HF.out ⟨0, rfl⟩
  · have hok2 := hok
    rw [HD.out] at hok2
    have HO := Lib.hid hok2
    clear hok2
    have HOl := Lib.hid (show plainOk (digitsOf s.data.toList) = true by rw [← HE.out]; exact hok)
    clear hok
    obtain ⟨V, hV⟩ : ∃ V, val (dg s).data.toList = V := ⟨_, rfl⟩
    have HV := Lib.hid (show val s.data.toList = V by have := hV; rw [HD.out] at this; exact this)
    have HVl := Lib.hid (show val (digitsOf s.data.toList) = V by rw [← HE.out]; exact hV)
    clear hV
    by_cases hbig : 9223372036854775808 < V
    · have HF := Lib.hid (rp_big (l := s.data.toList) (by rw [HVl.out]; exact hbig))
      go_enter Tryz.func94, Tryz.ntmps94
      go_wp2_with (go_at_call 121; refine (plain_fine HO.out hs _).mono ?_; rw [HV.out]; rintro e w' ⟨rfl, rfl⟩)
      go_ret2
      exact rparsePost HF.out ⟨0, rfl⟩
    · have hle : V ≤ 9223372036854775808 := by omega
      obtain ⟨q, hq⟩ : ∃ q, sgn (V : Int) false = q := ⟨_, rfl⟩
      have hr := sgn_rng (V : Int) false
      rw [hq] at hr
      obtain ⟨L, hL⟩ : ∃ L, Lib.itoa q = L := ⟨_, rfl⟩
      have HQ := Lib.hid hq
      have HL := Lib.hid hL
      by_cases hlq : L = s.data.toList
      · have HF := Lib.hid (show prs s.data.toList = (q, 0) by
          have := rp_yes HOl.out (by rw [HVl.out]; exact hle) (by rw [HVl.out, HB.out, hq, hL]; exact hlq)
          rw [HVl.out, HB.out, hq] at this; exact this)
        have hT : (L == s.toList) = true := by rw [Lib.toList_data]; exact beq_iff_eq.2 hlq
        clear hq hL hlq
        go_enter Tryz.func94, Tryz.ntmps94
        go_wp2_with (first | (go_at_call 121; refine (plain_fine HO.out hs _).mono ?_; rw [HV.out]; rintro e w' ⟨rfl, rfl⟩) | (go_at_call 123; refine (signed_any _ _ _).mono ?_; rw [HQ.out]; rintro e w' ⟨rfl, rfl⟩) | (go_at_call 122; refine (rtext_any q hr.1 hr.2 _).mono ?_; rintro e w' ⟨rfl, k, rfl⟩; rw [HL.out]))
        go_ret2
        exact rparsePost HF.out ⟨_, rfl⟩
      · have HF := Lib.hid (rp_other HOl.out (by rw [HVl.out]; exact hle) (by rw [HVl.out, HB.out, hq, hL]; exact hlq))
        have hT : (L == s.toList) = false := by rw [Lib.toList_data]; exact beq_eq_false_iff_ne.2 hlq
        clear hq hL hlq
        go_enter Tryz.func94, Tryz.ntmps94
        go_wp2_with (first | (go_at_call 121; refine (plain_fine HO.out hs _).mono ?_; rw [HV.out]; rintro e w' ⟨rfl, rfl⟩) | (go_at_call 123; refine (signed_any _ _ _).mono ?_; rw [HQ.out]; rintro e w' ⟨rfl, rfl⟩) | (go_at_call 122; refine (rtext_any q hr.1 hr.2 _).mono ?_; rintro e w' ⟨rfl, k, rfl⟩; rw [HL.out]))
        go_ret2
        exact rparsePost HF.out ⟨_, rfl⟩
theorem rparse_none (s : ByteArray) (h : s.size = 0) (w : World) : Calls Tryz.prog 94 #[.string s] w (RparsePost s.data.toList w) := by
  have hd : s.data.toList = [] := List.length_eq_zero_iff.1 (by rw [← Lib.size_eq]; exact h)
  have HF := Lib.hid (bad_empty (l := s.data.toList) (by rw [hd]; rfl))
  have HP := Lib.hid (show plainOk s.data.toList = false by rw [hd]; rfl)
  clear hd
  go_enter Tryz.func94, Tryz.ntmps94
  go_wp2_with (go_at_call 121; refine (plain_bad HP.out (by omega) _).mono ?_; rintro e w' ⟨rfl, rfl⟩)
  go_ret2
  exact rparsePost HF.out ⟨0, rfl⟩
/-- The document's Parse, WHATEVER THE TEXT. -/
theorem rparse_any (s : ByteArray) (hs : s.size ≤ 9223372036854775807) (w : World) : Calls Tryz.prog 94 #[.string s] w (RparsePost s.data.toList w) := by
  cases hb : below s.data.toList
  · by_cases h0 : 0 < s.size
    · exact rparse_high s hs hb h0 w
    · exact rparse_none s (by omega) w
  · exact rparse_low s hs hb w
end Go.Proofs.YtdhfldpfbejcjaaGreat.Rp
