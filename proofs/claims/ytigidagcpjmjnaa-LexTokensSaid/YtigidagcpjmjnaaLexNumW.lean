/-
  THE WALK of the law LexNumbers: a number's digits are one token, with that number.
-/
import Derived.Test.YtigidagcpjmjnaaLexKnown
import Derived.Test.YtigidagcpjmjnaaTextW
import Derived.Test.YtigidagcpjmjnaaDec
import Derived.Deep.Cut
import Derived.Test.YtigidagcpjmjnaaRp2
namespace Go.Proofs.Ytigidagcpjmjnaa.Lx
open Go.RowKit Pl Ar Dg Pa Tx Rp
set_option linter.unusedVariables false

theorem cls_digit {c : UInt8} (h : isD c = true) : cls c.toNat = 4 := by
  simp only [isD, Bool.and_eq_true, decide_eq_true_eq] at h
  unfold cls
  (repeat' split) <;> omega
theorem run_digits {l : List UInt8} (h : l.all isD = true) : runR 4 l = l.length := by
  induction l with
  | nil => rfl
  | cons c r ih =>
    simp only [List.all_cons, Bool.and_eq_true] at h
    rw [run_yes (by rw [cls_digit h.1]; decide), ih h.2]; rfl
/-- the number of a source's token of digits -/
def numOf (v : Nat) : Int := if v = 9223372036854775808 then -9223372036854775808 else (v : Int)
theorem lexed_digits {v : Nat} (hv : v ≤ 9223372036854775808) : lexed (Lib.decDigits v) = ⟨[⟨4, Lib.decDigits v, numOf v, 1, 1⟩], 0, 0, 0⟩ := by
  have hne := dec_ne v
  obtain ⟨e1, e2⟩ := dec_val _ v (Nat.lt_succ_self _)
  have hlen := dec_len20 (u := v) (by omega)
  have hz : (Lib.decDigits v).head? = some 48 → v = 0 := dec_head _ v (Nat.lt_succ_self _)
  have hb : wholeOf (Lib.decDigits v) = (numOf v, 0) := by
    unfold wholeOf numOf
    by_cases h : v = 9223372036854775808
    · have : Lib.decDigits v = beyond := by
        have hb := dec_of_val _ beyond (Nat.lt_succ_self _) (by decide) (by decide) (by decide)
        rw [h, ← hb]
        rfl
      rw [if_pos this, if_pos h]
    · have h2 : ¬ Lib.decDigits v = beyond := by
        intro e
        rw [e] at e1
        exact h (by rw [← e1]; rfl)
      rw [if_neg h2, if_neg h, ← itoa_high]
      have hb : below (Lib.decDigits v) = false := by
        cases hd : Lib.decDigits v with
        | nil => exact absurd hd hne
        | cons c r =>
          rw [hd] at e2
          have hc : isD c = true := by simp only [List.all_cons, Bool.and_eq_true] at e2; exact e2.1
          simp only [below, List.head?_cons]
          apply beq_eq_false_iff_ne.2
          intro e
          rw [Option.some.inj e] at hc
          exact absurd hc (by decide)
      rw [itoa_high]
      have hd : digitsOf (Lib.decDigits v) = Lib.decDigits v := (above_split hb).symm
      refine ok_high (by rw [hd]; exact hne) (fun e => ?_) (by rw [hd]; exact ⟨e1.symm, e2⟩) (by omega) hb
      rw [hd] at e
      have := hz e.1
      rw [this, dec_zero] at e
      exact e.2 rfl
  generalize Lib.decDigits v = d at *
  cases d with
  | nil => exact absurd rfl hne
  | cons c r =>
    have hc : isD c = true := by simp only [List.all_cons, Bool.and_eq_true] at e2; exact e2.1
    have hr : r.all isD = true := by simp only [List.all_cons, Bool.and_eq_true] at e2; exact e2.2
    have hcl : hcls (c :: r) = 4 := cls_digit hc
    have hcn : 48 ≤ c.toNat := by simp only [isD, Bool.and_eq_true, decide_eq_true_eq] at hc; exact hc.1
    have hg : gapLen (c :: r) = 0 := by
      have h45 : ¬ c = 45 := by intro e; rw [e] at hcn; exact absurd hcn (by decide)
      have h10 : ¬ c = 10 := by intro e; rw [e] at hcn; exact absurd hcn (by decide)
      have h32 : ¬ c = 32 := by intro e; rw [e] at hcn; exact absurd hcn (by decide)
      unfold gapLen
      have : isRem (c :: r) = false := by
        unfold isRem Lib.hasPrefix
        simp only [List.isPrefixOf]
        have : ((45 : UInt8) == c) = false := beq_eq_false_iff_ne.2 (fun e => h45 e.symm)
        rw [this]; rfl
      rw [this, gapR_stop r h10 h32]
    have ht : fText (c :: r) = c :: r := by
      unfold fText
      rw [hcl]
      unfold endLen
      rw [List.drop_one, List.tail_cons, run_digits hr]
      rw [List.take_of_length_le (by simp; omega)]
    have he : fErr (c :: r) = 0 := by
      unfold fErr
      rw [if_neg (by rw [hcl]; decide), if_pos hcl, ht, hb]
    have hk : fKind (c :: r) = 4 := by unfold fKind; rw [if_pos hcl]
    have hm : fNum (c :: r) = numOf v := by unfold fNum; rw [if_pos hcl, ht, hb]
    unfold lexed
    rw [if_neg (by omega)]
    unfold lexG
    rw [if_neg (by simp), if_neg (by rw [hg]; omega), if_neg (by simp [he]), if_neg (by simp), ht, hk, hm, List.drop_length]
    rw [List.length_cons]
    unfold lexG
    rw [if_pos rfl, List.nil_append]

theorem owns_one {w : World} {B : Nat} {v : Value} {k n ln col : Int} {s : ByteArray} (h : OwnsT w B v [⟨k, s.data.toList, n, ln, col⟩]) : ∃ g c, v = .slice (some ⟨g, 0, none⟩) 1 c ∧ g < w.heap.size ∧
    w.cell? ⟨g, 0, none⟩ = some (.int .i64 k) ∧ w.cell? ⟨g, 1, none⟩ = some (.string s) ∧ w.cell? ⟨g, 2, none⟩ = some (.int .i64 n) ∧ w.cell? ⟨g, 3, none⟩ = some (.int .i64 ln) ∧ w.cell? ⟨g, 4, none⟩ = some (.int .i64 col) ∧ w.cell? ⟨g, 5, none⟩ = some (.bool false) := by
  obtain ⟨g, c, rfl, _, hl, hk⟩ := owns_cells (l := [⟨k, s.data.toList, n, ln, col⟩]) Nat.one_pos h
  have h6 : ∀ j, j < 6 → w.cell? ⟨g, j, none⟩ = (toksCells [⟨k, s.data.toList, n, ln, col⟩])[j]? := hk
  exact ⟨g, c, rfl, hl, h6 0 (by decide), h6 1 (by decide), h6 2 (by decide), h6 3 (by decide), h6 4 (by decide), h6 5 (by decide)⟩
set_option maxHeartbeats 400000 in
theorem one_yes (s : ByteArray) (hs : s.size ≤ 9223372036854775807) (k n ln col : Int) (h : lexed s.data.toList = ⟨[⟨k, s.data.toList, n, ln, col⟩], 0, 0, 0⟩) (w : World) : Calls Try.prog 18 #[.string s] w fun e w' => e = .returned (.tuple #[tokV k s n ln col, .bool true]) ∧ Below w.heap.size w w' := by
  have H := Lib.hid h
  clear h
  go_enter Try.func18, Try.ntmps18
  go_wp2_with fail
  refine (tokens_is hs H.out _).mono ?_
  rintro e w1 ⟨v1, rfl, o1, hb1⟩
  have HB1 := Lib.hid hb1
  obtain ⟨g1, c1, rfl, hl1, K0, K1, K2, K3, K4, K5⟩ := owns_one o1
  have s1 := hb1.size
  have hz2 : g1 < w1.heap.size := hl1
  have HO1 := Lib.hid o1
  clear o1
  go_upto_region 4 with (fail)
  obtain ⟨p0, p1, p2, p3, p4, p5, f0, f1, f2, f3, f4, f5⟩ := keepTok HB1.out
  have hz : w.heap.size < w1.heap.size := by simp only [World.size_alloc] at s1; omega
  have HBB := Lib.hid (((Below.refl _ _).alloc (Nat.le_refl _) _).trans (HB1.out.mono (by simp)) : Below w.heap.size w w1)
  obtain ⟨X, hX⟩ : ∃ X, w1.alloc (.cells #[.int .i64 0, .int .i64 0, .int .i64 0] 27) = X := ⟨_, rfl⟩
  have c : ∀ b j, b < w1.heap.size → X.cell? ⟨b, j, none⟩ = w1.cell? ⟨b, j, none⟩ := fun b j hb => by rw [← hX, World.cell?_alloc_past _ _ _ hb]
  have f : ∀ b j, b < w1.heap.size → X.frozen? ⟨b, j, none⟩ = w1.frozen? ⟨b, j, none⟩ := fun b j hb => by rw [← hX, World.frozen?_alloc_past _ _ _ hb]
  have HBX := Lib.hid (show Below w.heap.size w X by rw [← hX]; exact HBB.out.alloc (by omega) _)
  have hzX : w.heap.size < X.heap.size := by rw [← hX]; simp; omega
  have hzG : g1 < X.heap.size := by rw [← hX]; simp; omega
  have C := Lib.hid c
  have F := Lib.hid f
  rw [hX]
  have K0' := (C.out g1 0 hl1).trans K0
  have K1' := (C.out g1 1 hl1).trans K1
  have K2' := (C.out g1 2 hl1).trans K2
  have K3' := (C.out g1 3 hl1).trans K3
  have K4' := (C.out g1 4 hl1).trans K4
  have K5' := (C.out g1 5 hl1).trans K5
  have p0' := (C.out _ 0 hz).trans p0
  have p1' := (C.out _ 1 hz).trans p1
  have p2' := (C.out _ 2 hz).trans p2
  have p3' := (C.out _ 3 hz).trans p3
  have p4' := (C.out _ 4 hz).trans p4
  have p5' := (C.out _ 5 hz).trans p5
  have f0' := (F.out _ 0 hz).trans f0
  have f1' := (F.out _ 1 hz).trans f1
  have f2' := (F.out _ 2 hz).trans f2
  have f3' := (F.out _ 3 hz).trans f3
  have f4' := (F.out _ 4 hz).trans f4
  have f5' := (F.out _ 5 hz).trans f5
  obtain ⟨q0, q1, q2, q3, q4, q5⟩ := setTok p0' p1' p2' p3' p4' p5'
  have Q0 := Lib.hid q0
  have Q1 := Lib.hid q1
  have Q2 := Lib.hid q2
  have Q3 := Lib.hid q3
  have Q4 := Lib.hid q4
  have Q5 := Lib.hid q5
  clear hX hb1 q0 q1 q2 q3 q4 q5 c f K0 K1 K2 K3 K4 K5 p0 p1 p2 p3 p4 p5 f0 f1 f2 f3 f4 f5 s1 hl1 hz hz2
  go_wp2
  refine bodyPost_ret (by simp [results, Try.results18, go_sem, Q0.out, Q1.out, Q2.out, Q3.out, Q4.out, Q5.out]; try rfl) rfl ?_
  have hB := HBX.out
  exact ⟨rfl, by go_grown⟩

theorem numOf_pos {n : Int} (h : 0 ≤ n) (h2 : n ≤ 9223372036854775807) : numOf (size n) = n := by unfold numOf size; rw [if_neg (by omega)]; omega
theorem numOf_low : numOf (size (-9223372036854775808)) = -9223372036854775808 := by unfold numOf; rw [if_pos (by decide)]
theorem numOf_neg {n : Int} (h : n < 0) (h1 : -9223372036854775808 ≤ n) (h2 : ¬ n = -9223372036854775808) : numOf (size n) = -n := by unfold numOf size; rw [if_neg (by omega)]; omega
theorem size_le (n : Int) (h1 : -9223372036854775808 ≤ n) (h2 : n ≤ 9223372036854775807) : size n ≤ 9223372036854775808 := by unfold size; omega
end Go.Proofs.Ytigidagcpjmjnaa.Lx

namespace Go.Proofs.Ytigidagcpjmjnaa.LexNumbers
open Go.RowKit Pl Ar Dg Pa Tx Rp Lx
set_option linter.unusedVariables false
set_option maxHeartbeats 2000000 in
theorem law (n : Int) (h1 : -9223372036854775808 ≤ n) (h2 : n ≤ 9223372036854775807) (w : World) :
    Calls Try.prog 8 #[.int .i64 n] w fun e w' => e = .returned (.bool true) ∧ Below w.heap.size w w' := by
  have hs := size_lt n h1 h2
  have hle := size_le n h1 h2
  have hl20 := dec_len20 hs
  obtain ⟨s, hS⟩ : ∃ s : ByteArray, (⟨(Lib.decDigits (size n)).toArray⟩ : ByteArray) = s := ⟨_, rfl⟩
  have hd : s.data.toList = Lib.decDigits (size n) := by rw [← hS]
  have hsz : s.size ≤ 9223372036854775807 := by rw [Lib.size_eq, hd]; omega
  have HL := Lib.hid (show lexed s.data.toList = ⟨[⟨4, s.data.toList, numOf (size n), 1, 1⟩], 0, 0, 0⟩ by rw [hd]; exact lexed_digits hle)
  obtain ⟨m, hm⟩ : ∃ m, numOf (size n) = m := ⟨_, rfl⟩
  have HS := Lib.hid hS
  have HM := Lib.hid hm
  rw [hm] at HL
  clear hS hd hm hl20
  go_enter Try.func8, Try.ntmps8
  go_wp2_with fail
  refine (size_any n h1 h2 _).mono ?_
  rintro e w' ⟨rfl, rfl⟩
  go_wp2_with fail
  refine (digits_all (size n) hs _).mono ?_
  rw [show (DigPost (size n) w : Ending → World → Prop) = fun e w' => e = .returned (.string s) ∧ ∃ k, w' = w.drewN k by unfold DigPost; rw [HS.out]]
  rintro e w1 ⟨rfl, k, rfl⟩
  have HB1 := Lib.hid (below_drewN (Below.refl w.heap.size w) k)
  generalize w.drewN k = w1 at *
  go_wp2_with fail
  refine (one_yes s hsz 4 m 1 1 HL.out _).mono ?_
  rintro e w2 ⟨rfl, hb2⟩
  have HB2 := Lib.hid (HB1.out.trans (hb2.mono HB1.out.size))
  clear hb2
  by_cases hn : n < 0
  · by_cases hlow : n = -9223372036854775808
    · subst hlow
      obtain rfl : m = -9223372036854775808 := by rw [← HM.out]; exact numOf_low
      go_wp2_with (go_at_call 12; refine (known_any _).mono ?_; rintro e w3 ⟨rfl, hb3⟩)
      go_ret
      exact ⟨rfl, (HB2.out.alloc HB2.out.size _).trans (hb3.mono (by have := HB2.out.size; simp; omega))⟩
    · obtain rfl : m = -n := by rw [← HM.out]; exact numOf_neg hn h1 hlow
      have hlow2 : (n == -9223372036854775808) = false := beq_eq_false_iff_ne.2 hlow
      have hb : -9223372036854775808 < n := by omega
      clear hlow
      go_wp2_with (go_at_call 12; refine (known_any _).mono ?_; rintro e w3 ⟨rfl, hb3⟩)
      go_ret
      exact ⟨rfl, (HB2.out.alloc HB2.out.size _).trans (hb3.mono (by have := HB2.out.size; simp; omega))⟩
  · obtain rfl : m = n := by rw [← HM.out]; exact numOf_pos (by omega) h2
    go_wp2_with (go_at_call 12; refine (known_any _).mono ?_; rintro e w3 ⟨rfl, hb3⟩)
    go_ret
    exact ⟨rfl, (HB2.out.alloc HB2.out.size _).trans (hb3.mono (by have := HB2.out.size; simp; omega))⟩
end Go.Proofs.Ytigidagcpjmjnaa.LexNumbers
