/-
  CONTRACTS: a number's digits, as the document's own Digits and Text write them.
-/
import Derived.Test.YtigidagcpjmjnaaSigned
import Derived.Test.YtigidagcpjmjnaaDigits
import Derived.Deep.QuietTactic
import Derived.BigQuiet
import Derived.Lib.ItoaNum
import Derived.Lib.Strings
namespace Go.Proofs.Ytigidagcpjmjnaa.Tx
open Go.RowKit Pl Ar Dx
set_option linter.unusedVariables false

theorem dec_len (k : Nat) : ∀ u, u < 10 ^ (k + 1) → (Lib.decDigits u).length ≤ k + 1 := by
  induction k with
  | zero => intro u h; rw [Lib.decDigits, dif_pos (by simpa using h)]; simp
  | succ k ih =>
    intro u h
    rw [Lib.decDigits]
    split
    · simp
    · have := ih (u / 10) (by rw [Nat.pow_succ] at h; omega)
      simp; omega
theorem dec_len20 {u : Nat} (h : u < 18446744073709551616) : (Lib.decDigits u).length ≤ 20 := dec_len 19 u (by omega)
theorem digit_text : ∀ d : Nat, d < 10 → ((⟨#[48, 49, 50, 51, 52, 53, 54, 55, 56, 57]⟩ : ByteArray).extract d (d + 1)) = ⟨#[UInt8.ofNat (48 + d)]⟩ := by decide

theorem cat_mk (a b : List UInt8) : (⟨a.toArray⟩ : ByteArray) ++ ⟨b.toArray⟩ = ⟨(a ++ b).toArray⟩ := by
  apply ByteArray.ext
  simp
def DigPost (n : Nat) (w : World) (e : Ending) (w' : World) : Prop := e = .returned (.string ⟨(Lib.decDigits n).toArray⟩) ∧ ∃ k, w' = w.drewN k
theorem digits_any (f : Nat) : ∀ (n : Nat) (w : World), n < f → n < 18446744073709551616 → Calls Try.prog 16 #[.int .u64 n] w (DigPost n w) := by
  induction f with
  | zero => intro n w h; omega
  | succ f ih =>
    intro n w hf hn
    by_cases h : n < 10
    · have HD := Lib.hid (digit_text n h)
      have HE := Lib.hid (show Lib.decDigits n = [UInt8.ofNat (48 + n)] by rw [Lib.decDigits, dif_pos h])
      go_enter Try.func16, Try.ntmps16
      go_wp2_with fail
      go_ret
      exact ⟨by rw [HE.out, ← HD.out]; rfl, 0, rfl⟩
    · have h10 : n % 10 < 10 := Nat.mod_lt _ (by decide)
      have HD := Lib.hid (digit_text (n % 10) h10)
      have HE := Lib.hid (show Lib.decDigits n = Lib.decDigits (n / 10) ++ [UInt8.ofNat (48 + n % 10)] by rw [Lib.decDigits, dif_neg h])
      have hc : ((n / 10 : Nat) : Int) = (n : Int) / 10 := by omega
      have HI := Lib.hid (fun w => by have := ih (n / 10) w (by omega) (by omega); rw [hc] at this; exact this : ∀ w, Calls Try.prog 16 #[.int .u64 ((n : Int) / 10)] w (DigPost (n / 10) w))
      clear hc
      have hl := dec_len20 (u := n / 10) (by omega)
      clear ih
      go_enter Try.func16, Try.ntmps16
      go_wp2_with fail
      go_quiet ((go_at_call 16; exact Calls.quiet_of (HI.out _)))
      go_wp2
      go_ret
      refine ⟨?_, _, rfl⟩
      rw [HE.out, ← cat_mk, ← HD.out]
      rfl

/-- The document's Digits. -/
theorem digits_all (n : Nat) (hn : n < 18446744073709551616) (w : World) : Calls Try.prog 16 #[.int .u64 n] w (DigPost n w) := digits_any (n + 1) n w (by omega) hn

def TextPost (n : Int) (w : World) (e : Ending) (w' : World) : Prop := e = .returned (.string ⟨(Lib.itoa n).toArray⟩) ∧ ∃ k, w' = w.drewN k
theorem itoa_neg {n : Int} (h : n < 0) : Lib.itoa n = [45] ++ Lib.decDigits (size n) := by unfold Lib.itoa size; rw [if_pos h]; rfl
theorem itoa_pos {n : Int} (h : ¬ n < 0) : Lib.itoa n = Lib.decDigits (size n) := by unfold Lib.itoa size; rw [if_neg h]; congr 1; omega
/-- The document's Text. -/
theorem rtext_any (n : Int) (h1 : -9223372036854775808 ≤ n) (h2 : n ≤ 9223372036854775807) (w : World) : Calls Try.prog 50 #[.int .i64 n] w (TextPost n w) := by
  have hs := size_lt n h1 h2
  have hl := dec_len20 hs
  by_cases h : n < 0
  · have HE := Lib.hid (itoa_neg h)
    go_enter Try.func50, Try.ntmps50
    go_wp2_with fail
    refine (size_any n h1 h2 _).mono ?_
    rintro e w' ⟨rfl, rfl⟩
    go_wp2_with fail
    refine (digits_all (size n) hs _).mono ?_
    rintro e w' ⟨rfl, k, rfl⟩
    go_wp2
    go_ret
    exact ⟨by rw [HE.out, ← cat_mk]; rfl, _, rfl⟩
  · have HE := Lib.hid (itoa_pos h)
    go_enter Try.func50, Try.ntmps50
    go_wp2_with fail
    refine (size_any n h1 h2 _).mono ?_
    rintro e w' ⟨rfl, rfl⟩
    go_wp2_with fail
    refine (digits_all (size n) hs _).mono ?_
    rintro e w' ⟨rfl, k, rfl⟩
    go_wp2
    go_ret
    exact ⟨by rw [HE.out]; rfl, _, rfl⟩
end Go.Proofs.Ytigidagcpjmjnaa.Tx
