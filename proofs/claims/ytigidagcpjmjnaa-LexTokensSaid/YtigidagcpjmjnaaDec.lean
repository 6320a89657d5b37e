/-
  PLAIN MATHEMATICS: decimal digits and their value; which texts are a number's text. No program in sight.
-/
import Derived.Test.YtigidagcpjmjnaaDigits
import Derived.Lib.ItoaNum
namespace Go.Proofs.Ytigidagcpjmjnaa.Dg

theorem dec_small {n : Nat} (h : n < 10) : Lib.decDigits n = [UInt8.ofNat (48 + n)] := by rw [Lib.decDigits, dif_pos h]
theorem dec_step {n : Nat} (h : ¬ n < 10) : Lib.decDigits n = Lib.decDigits (n / 10) ++ [UInt8.ofNat (48 + n % 10)] := by rw [Lib.decDigits, dif_neg h]
theorem ofNat_toNat {d : Nat} (h : d < 10) : (UInt8.ofNat (48 + d)).toNat = 48 + d := by
  rw [UInt8.toNat_ofNat']; exact Nat.mod_eq_of_lt (by omega)
theorem dec_ne (n : Nat) : Lib.decDigits n ≠ [] := by
  by_cases h : n < 10
  · rw [dec_small h]; simp
  · rw [dec_step h]; simp
theorem dec_val (f : Nat) : ∀ n, n < f → val (Lib.decDigits n) = n ∧ (Lib.decDigits n).all isD = true := by
  induction f with
  | zero => intro n h; omega
  | succ f ih =>
    intro n hf
    by_cases h : n < 10
    · rw [dec_small h]
      refine ⟨?_, ?_⟩
      · have := val_snoc [] (UInt8.ofNat (48 + n))
        rw [ofNat_toNat h] at this
        rw [List.nil_append] at this
        rw [this]
        show 10 * 0 + _ = _
        omega
      · simp [isD]; omega
    · have hm : n % 10 < 10 := Nat.mod_lt _ (by decide)
      obtain ⟨h1, h2⟩ := ih (n / 10) (by omega)
      rw [dec_step h]
      refine ⟨?_, ?_⟩
      · rw [val_snoc, h1, ofNat_toNat hm]; omega
      · rw [List.all_append, h2]; simp [isD]; omega
theorem dec_head (f : Nat) : ∀ n, n < f → (Lib.decDigits n).head? = some 48 → n = 0 := by
  induction f with
  | zero => intro n h; omega
  | succ f ih =>
    intro n hf h
    by_cases hn : n < 10
    · rw [dec_small hn] at h
      have h2 := congrArg UInt8.toNat (Option.some.inj h)
      rw [ofNat_toNat hn] at h2
      have : (48 : UInt8).toNat = 48 := rfl
      omega
    · rw [dec_step hn, List.head?_append] at h
      cases hd : (Lib.decDigits (n / 10)).head? with
      | none => exact absurd (List.head?_eq_none_iff.1 hd) (dec_ne _)
      | some c =>
        rw [hd] at h
        have := ih (n / 10) (by omega) (by rw [hd]; exact h)
        omega
theorem valF_ge (v : Nat) (d : List UInt8) : v * 10 ^ d.length ≤ valF v d := by
  induction d generalizing v with
  | nil => simp [valF]
  | cons c r ih =>
    have h := ih (more v c)
    refine Nat.le_trans ?_ h
    rw [List.length_cons, Nat.pow_succ, Nat.mul_comm (10 ^ r.length) 10, ← Nat.mul_assoc]
    exact Nat.mul_le_mul_right _ (by unfold more; omega)
theorem val_ge {c : UInt8} {r : List UInt8} (h : isD c = true) (h0 : c ≠ 48) : 10 ^ r.length ≤ val (c :: r) := by
  have hc : 1 ≤ c.toNat - 48 := by
    have : c.toNat ≠ 48 := fun e => h0 (UInt8.toNat_inj.1 e)
    simp only [isD, Bool.and_eq_true, decide_eq_true_eq] at h
    omega
  have e : val (c :: r) = valF (more 0 c) r := rfl
  rw [e]
  refine Nat.le_trans ?_ (valF_ge _ _)
  have : 1 ≤ more 0 c := by unfold more; omega
  calc 10 ^ r.length = 1 * 10 ^ r.length := (Nat.one_mul _).symm
    _ ≤ _ := Nat.mul_le_mul_right _ this
theorem isD_ofNat {c : UInt8} (h : isD c = true) : UInt8.ofNat (48 + (c.toNat - 48)) = c ∧ c.toNat - 48 < 10 := by
  simp only [isD, Bool.and_eq_true, decide_eq_true_eq] at h
  refine ⟨?_, by omega⟩
  apply UInt8.toNat_inj.1
  rw [ofNat_toNat (by omega)]; omega
/-- Digits without a needless 0 are the digits of their value. -/
theorem dec_of_val (f : Nat) : ∀ d : List UInt8, d.length < f → d ≠ [] → d.all isD = true → (d.head? = some 48 → d = [48]) → Lib.decDigits (val d) = d := by
  induction f with
  | zero => intro d h; omega
  | succ f ih =>
    intro d hf hne hall hz
    obtain ⟨a, c, rfl⟩ : ∃ a c, d = a ++ [c] := ⟨d.dropLast, d.getLast hne, (List.dropLast_concat_getLast hne).symm⟩
    rw [List.all_append, Bool.and_eq_true] at hall
    have hc : isD c = true := by simpa using hall.2
    obtain ⟨hc1, hc2⟩ := isD_ofNat hc
    rw [val_snoc]
    cases a with
    | nil =>
      have e : val [] = 0 := rfl
      rw [e, dec_small (by omega), Nat.mul_zero, Nat.zero_add, hc1]; rfl
    | cons x r =>
      have hx : isD x = true := by have := hall.1; simp only [List.all_cons, Bool.and_eq_true] at this; exact this.1
      have hx0 : x ≠ 48 := by
        intro e
        have := hz (by rw [e]; rfl)
        simp at this
      have hv : 1 ≤ val (x :: r) := Nat.le_trans (Nat.pow_pos (by decide)) (val_ge hx hx0)
      have hi := ih (x :: r) (by simp at hf ⊢; omega) (by simp) hall.1 (by intro e; exact absurd (Option.some.inj e) hx0)
      rw [dec_step (by omega)]
      rw [show (10 * val (x :: r) + (c.toNat - 48)) / 10 = val (x :: r) by omega, show (10 * val (x :: r) + (c.toNat - 48)) % 10 = c.toNat - 48 by omega, hi, hc1]
/-- Too many digits are too large a number. -/
theorem long_large {d : List UInt8} (h : 19 < d.length) (hall : d.all isD = true) (hz : ¬ d.head? = some 48) : 9223372036854775808 < val d := by
  cases d with
  | nil => simp at h
  | cons c r =>
    have hc : isD c = true := by simp only [List.all_cons, Bool.and_eq_true] at hall; exact hall.1
    have := val_ge (r := r) hc (fun e => hz (by rw [e]; rfl))
    have h2 : 10 ^ 19 ≤ 10 ^ r.length := Nat.pow_le_pow_right (by decide) (by simp at h; omega)
    omega
theorem val_pos {d : List UInt8} (hne : d ≠ []) (hall : d.all isD = true) (hz : ¬ d.head? = some 48) : 1 ≤ val d := by
  cases d with
  | nil => exact absurd rfl hne
  | cons c r =>
    have hc : isD c = true := by simp only [List.all_cons, Bool.and_eq_true] at hall; exact hall.1
    exact Nat.le_trans (Nat.pow_pos (by decide)) (val_ge (r := r) hc (fun e => hz (by rw [e]; rfl)))
theorem val_lt (d : List UInt8) (hall : d.all isD = true) : val d < 10 ^ d.length := by
  induction hn : d.length generalizing d with
  | zero => rw [List.length_eq_zero_iff.1 hn]; decide
  | succ n ih =>
    have hne : d ≠ [] := by intro e; rw [e] at hn; simp at hn
    obtain ⟨a, c, rfl⟩ : ∃ a c, d = a ++ [c] := ⟨d.dropLast, d.getLast hne, (List.dropLast_concat_getLast hne).symm⟩
    rw [List.all_append, Bool.and_eq_true] at hall
    have hc : isD c = true := by simpa using hall.2
    have := ih a hall.1 (by simp at hn; exact hn)
    have h10 := (isD_ofNat hc).2
    rw [val_snoc, Nat.pow_succ]
    omega
end Go.Proofs.Ytigidagcpjmjnaa.Dg
