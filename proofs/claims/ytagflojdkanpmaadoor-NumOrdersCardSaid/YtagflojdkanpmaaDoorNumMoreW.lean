/-
  THE WALKS of the laws NumRing, NumParts, NumOrders: what an operator gives, and whether it gives something.
-/
import Derived.Test.YtagflojdkanpmaaDoorNumDoesW
namespace Go.Proofs.YtagflojdkanpmaaDoor
open Go.RowKit Pl Ar Dx Kn Tb
set_option linter.unusedVariables false

namespace Ds
/-- does: what an operator gives, and whether it gives something. -/
def ok (op a b : Int) : Bool := (dof op a b).2 == 0
theorem does_any (op a b : Int) (w : World) : Calls Tryd.prog 26 #[.int .i64 op, .int .i64 a, .int .i64 b] w fun e w' => e = .returned (.tuple #[.int .i64 (dof op a b).1, .bool (ok op a b)]) ∧ w = w' := by
  have H := Lib.hid (show ok op a b = ((dof op a b).2 == 0) from rfl)
  go_enter Tryd.func26, Tryd.ntmps26
  go_wp2_with fail
  refine (do_any op a b _).mono ?_
  rintro e w' ⟨rfl, rfl⟩
  go_wp2
  go_ret2
  exact ⟨by rw [H.out]; rfl, rfl⟩
/-- at an operator whose value is known -/
theorem does_is {op a b r : Int} (h : dof op a b = (r, 0)) (w : World) : Calls Tryd.prog 26 #[.int .i64 op, .int .i64 a, .int .i64 b] w fun e w' => e = .returned (.tuple #[.int .i64 r, .bool true]) ∧ w = w' := by
  have g := does_any op a b w
  have : ok op a b = true := by unfold ok; rw [h]; rfl
  rw [this, h] at g
  exact g
theorem does_not {op a b r f : Int} (h : dof op a b = (r, f)) (hf : ¬ f = 0) (w : World) : Calls Tryd.prog 26 #[.int .i64 op, .int .i64 a, .int .i64 b] w fun e w' => e = .returned (.tuple #[.int .i64 r, .bool false]) ∧ w = w' := by
  have g := does_any op a b w
  have : ok op a b = false := by unfold ok; rw [h]; exact beq_eq_false_iff_ne.2 hf
  rw [this, h] at g
  exact g
theorem add_is (a b : Int) : dof 1 a b = (wrap64 (a + b), 0) := by simp [dof]
theorem sub_is (a b : Int) : dof 2 a b = (wrap64 (a - b), 0) := by simp [dof]
theorem mul_is (a b : Int) : dof 3 a b = (wrap64 (a * b), 0) := by simp [dof]
theorem quo_is (a b : Int) (h : ¬ b = 0) : dof 4 a b = (wrap64 (a.tdiv b), 0) := by simp [dof, h]
theorem rem_is (a b : Int) (h : ¬ b = 0) : dof 5 a b = (a.tmod b, 0) := by simp [dof, h]
theorem quo_zero (a : Int) : dof 4 a 0 = (0, 10) := by simp [dof]
theorem rem_zero (a : Int) : dof 5 a 0 = (0, 10) := by simp [dof]
end Ds

namespace NumRing
open Ds
theorem m1 (a b : Int) (h1 : -9223372036854775808 ≤ a) (h2 : a ≤ 9223372036854775807) : wrap64 (wrap64 (a - b) + b) = a := by
  rw [wrap64_congr (y := a) ?_, wrap64_id h1 h2]
  unfold wrap64
  omega
theorem wrap64_mod (x : Int) : wrap64 x % 18446744073709551616 = x % 18446744073709551616 := by unfold wrap64; omega
theorem m2 (a b c : Int) : wrap64 (a * wrap64 (b + c)) = wrap64 (wrap64 (a * b) + wrap64 (a * c)) := by
  apply wrap64_congr
  rw [Int.mul_emod, wrap64_mod, ← Int.mul_emod, Int.add_emod, wrap64_mod, wrap64_mod, ← Int.add_emod, Int.mul_add]
theorem law (a : Int) (h1 : -9223372036854775808 ≤ a) (h2 : a ≤ 9223372036854775807) (b : Int) (h3 : -9223372036854775808 ≤ b) (h4 : b ≤ 9223372036854775807) (c : Int) (h5 : -9223372036854775808 ≤ c) (h6 : c ≤ 9223372036854775807) (w : World) (hn : NamesAt w) :
    Calls Tryd.prog 7 #[.int .i64 a, .int .i64 b, .int .i64 c] w fun e w' => e = .returned (.bool true) ∧ Below w.heap.size w w' := by
  have HN := Lib.hid (NumDoes.known_at hn)
  have E1 := Lib.hid (m1 a b h1 h2)
  have E2 := Lib.hid (m2 a b c)
  have E3 := Lib.hid (show wrap64 (b * a) = wrap64 (a * b) by rw [Int.mul_comm])
  clear hn
  obtain ⟨x, hx⟩ : ∃ x, wrap64 (a - b) = x := ⟨_, rfl⟩
  have X := Lib.hid hx
  obtain ⟨y, hy⟩ : ∃ y, wrap64 (b + c) = y := ⟨_, rfl⟩
  have Y := Lib.hid hy
  obtain ⟨u, hu⟩ : ∃ u, wrap64 (a * b) = u := ⟨_, rfl⟩
  have U := Lib.hid hu
  obtain ⟨v, hv⟩ : ∃ v, wrap64 (a * c) = v := ⟨_, rfl⟩
  have V := Lib.hid hv
  obtain ⟨z, hz⟩ : ∃ z, wrap64 (a * y) = z := ⟨_, rfl⟩
  have Z := Lib.hid hz
  clear hx hy hu hv hz
  go_enter Tryd.func7, Tryd.ntmps7
  go_wp2_with fail
  refine (does_is (sub_is a b) _).mono ?_
  rw [X.out]
  rintro e w' ⟨rfl, rfl⟩
  go_wp2_with fail
  refine (does_is (add_is x b) _).mono ?_
  rw [show wrap64 (x + b) = a by rw [← X.out]; exact E1.out]
  rintro e w' ⟨rfl, rfl⟩
  go_wp2_with fail
  refine (does_is (add_is b c) _).mono ?_
  rw [Y.out]
  rintro e w' ⟨rfl, rfl⟩
  go_wp2_with fail
  refine (does_is (mul_is a y) _).mono ?_
  rw [Z.out]
  rintro e w' ⟨rfl, rfl⟩
  go_wp2_with fail
  refine (does_is (mul_is a b) _).mono ?_
  rw [U.out]
  rintro e w' ⟨rfl, rfl⟩
  go_wp2_with fail
  refine (does_is (mul_is a c) _).mono ?_
  rw [V.out]
  rintro e w' ⟨rfl, rfl⟩
  go_wp2_with fail
  refine (does_is (add_is u v) _).mono ?_
  rw [show wrap64 (u + v) = z by rw [← U.out, ← V.out, ← Z.out, ← Y.out]; exact E2.out.symm]
  rintro e w' ⟨rfl, rfl⟩
  go_wp2_with fail
  refine (does_is (mul_is b a) _).mono ?_
  rw [show wrap64 (b * a) = u by rw [← U.out]; exact E3.out]
  rintro e w' ⟨rfl, rfl⟩
  go_wp2_with (go_at_call 13; refine (known_any _ HN.out).mono ?_; rintro e w' ⟨rfl, rfl⟩)
  go_ret
  exact ⟨rfl, Below.refl _ _⟩
end NumRing

namespace NumParts
open Ds
theorem p1 (a b : Int) (hb : ¬ b = 0) (h1 : -9223372036854775808 ≤ a) (h2 : a ≤ 9223372036854775807) : wrap64 (wrap64 (wrap64 (a.tdiv b) * b) + a.tmod b) = a := by
  rw [wrap64_congr (y := a) ?_, wrap64_id h1 h2]
  rw [Int.add_emod, NumRing.wrap64_mod, Int.mul_emod, NumRing.wrap64_mod, ← Int.mul_emod, ← Int.add_emod]
  rw [Int.tdiv_mul_add_tmod]
theorem p2 (a b : Int) (hb : ¬ b = 0) : size (a.tmod b) < size b := by
  unfold size
  rw [Int.natAbs_tmod]
  exact Nat.mod_lt _ (by omega)
theorem p3 (a b : Int) (hr : ¬ a.tmod b = 0) : (a.tmod b < 0 ↔ a < 0) := by
  constructor
  · intro h
    apply Decidable.byContradiction
    intro hc
    have := Int.tmod_nonneg b (show 0 ≤ a by omega)
    omega
  · intro h
    have := Int.tmod_nonneg b (show 0 ≤ -a by omega)
    rw [Int.neg_tmod] at this
    omega
theorem p4 (a b : Int) (hb : ¬ b = 0) (h1 : -9223372036854775808 ≤ a) (h2 : a ≤ 9223372036854775807) : -9223372036854775808 ≤ a.tmod b ∧ a.tmod b ≤ 9223372036854775807 := by
  have h := Int.natAbs_tmod a b
  have := Nat.mod_le a.natAbs b.natAbs
  by_cases ha : 0 ≤ a
  · have := Int.tmod_nonneg b ha
    omega
  · have := Int.tmod_nonneg b (show 0 ≤ -a by omega)
    rw [Int.neg_tmod] at this
    omega
set_option maxHeartbeats 1000000 in
theorem law (a : Int) (h1 : -9223372036854775808 ≤ a) (h2 : a ≤ 9223372036854775807) (b : Int) (h3 : -9223372036854775808 ≤ b) (h4 : b ≤ 9223372036854775807) (w : World) (hn : NamesAt w) :
    Calls Tryd.prog 8 #[.int .i64 a, .int .i64 b] w fun e w' => e = .returned (.bool true) ∧ Below w.heap.size w w' := by
  have HN := Lib.hid (NumDoes.known_at hn)
  clear hn
  by_cases hb : b = 0
  · subst hb
    go_enter Tryd.func8, Tryd.ntmps8
    go_wp2_with fail
    refine (does_not (quo_zero a) (by decide) _).mono ?_
    rintro e w' ⟨rfl, rfl⟩
    go_wp2_with fail
    refine (does_not (rem_zero a) (by decide) _).mono ?_
    rintro e w' ⟨rfl, rfl⟩
    go_wp2_with (go_at_call 13; refine (known_any _ HN.out).mono ?_; rintro e w' ⟨rfl, rfl⟩)
    go_ret
    exact ⟨rfl, Below.refl _ _⟩
  · have hb2 : (b == 0) = false := beq_eq_false_iff_ne.2 hb
    have E1 := Lib.hid (p1 a b hb h1 h2)
    have E2 := Lib.hid (p2 a b hb)
    have E3 := Lib.hid (p3 a b)
    have p := p4 a b hb h1 h2
    obtain ⟨q, hq⟩ : ∃ q, wrap64 (a.tdiv b) = q := ⟨_, rfl⟩
    have Q := Lib.hid hq
    obtain ⟨r, hr⟩ : ∃ r, a.tmod b = r := ⟨_, rfl⟩
    rw [hr] at p
    have R := Lib.hid hr
    obtain ⟨m, hm⟩ : ∃ m, wrap64 (q * b) = m := ⟨_, rfl⟩
    have M := Lib.hid hm
    have D1 := Lib.hid (quo_is a b hb)
    have D2 := Lib.hid (rem_is a b hb)
    clear hq hr hm hb
    have hs : size r < size b := by rw [← R.out]; exact E2.out
    by_cases hr0 : r = 0
    · have hr1 : (r == 0) = true := beq_iff_eq.2 hr0
      clear hr0
      go_enter Tryd.func8, Tryd.ntmps8
      go_wp2_with fail
      refine (does_is D1.out _).mono ?_
      rw [Q.out]
      rintro e w' ⟨rfl, rfl⟩
      go_wp2_with fail
      refine (does_is D2.out _).mono ?_
      rw [R.out]
      rintro e w' ⟨rfl, rfl⟩
      go_wp2_with fail
      refine (does_is (mul_is q b) _).mono ?_
      rw [M.out]
      rintro e w' ⟨rfl, rfl⟩
      go_wp2_with fail
      refine (does_is (add_is m r) _).mono ?_
      rw [show wrap64 (m + r) = a by rw [← M.out, ← Q.out, ← R.out]; exact E1.out]
      rintro e w' ⟨rfl, rfl⟩
      go_wp2_with fail
      refine (size_any r p.1 p.2 _).mono ?_
      rintro e w' ⟨rfl, rfl⟩
      go_wp2_with fail
      refine (size_any b h3 h4 _).mono ?_
      rintro e w' ⟨rfl, rfl⟩
      go_wp2_with (go_at_call 13; refine (known_any _ HN.out).mono ?_; rintro e w' ⟨rfl, rfl⟩)
      go_ret
      exact ⟨rfl, Below.refl _ _⟩
    · have hr1 : (r == 0) = false := beq_eq_false_iff_ne.2 hr0
      have hsg : (r < 0 ↔ a < 0) := by have := E3.out; rw [R.out] at this; exact this hr0
      by_cases ha : a < 0
      · have hr2 : r < 0 := hsg.2 ha
        clear hr0 hsg
        go_enter Tryd.func8, Tryd.ntmps8
        go_wp2_with fail
        refine (does_is D1.out _).mono ?_
        rw [Q.out]
        rintro e w' ⟨rfl, rfl⟩
        go_wp2_with fail
        refine (does_is D2.out _).mono ?_
        rw [R.out]
        rintro e w' ⟨rfl, rfl⟩
        go_wp2_with fail
        refine (does_is (mul_is q b) _).mono ?_
        rw [M.out]
        rintro e w' ⟨rfl, rfl⟩
        go_wp2_with fail
        refine (does_is (add_is m r) _).mono ?_
        rw [show wrap64 (m + r) = a by rw [← M.out, ← Q.out, ← R.out]; exact E1.out]
        rintro e w' ⟨rfl, rfl⟩
        go_wp2_with fail
        refine (size_any r p.1 p.2 _).mono ?_
        rintro e w' ⟨rfl, rfl⟩
        go_wp2_with fail
        refine (size_any b h3 h4 _).mono ?_
        rintro e w' ⟨rfl, rfl⟩
        go_wp2_with (go_at_call 13; refine (known_any _ HN.out).mono ?_; rintro e w' ⟨rfl, rfl⟩)
        go_ret
        exact ⟨rfl, Below.refl _ _⟩
      · have hr2 : ¬ r < 0 := fun h => ha (hsg.1 h)
        clear hr0 hsg
        go_enter Tryd.func8, Tryd.ntmps8
        go_wp2_with fail
        refine (does_is D1.out _).mono ?_
        rw [Q.out]
        rintro e w' ⟨rfl, rfl⟩
        go_wp2_with fail
        refine (does_is D2.out _).mono ?_
        rw [R.out]
        rintro e w' ⟨rfl, rfl⟩
        go_wp2_with fail
        refine (does_is (mul_is q b) _).mono ?_
        rw [M.out]
        rintro e w' ⟨rfl, rfl⟩
        go_wp2_with fail
        refine (does_is (add_is m r) _).mono ?_
        rw [show wrap64 (m + r) = a by rw [← M.out, ← Q.out, ← R.out]; exact E1.out]
        rintro e w' ⟨rfl, rfl⟩
        go_wp2_with fail
        refine (size_any r p.1 p.2 _).mono ?_
        rintro e w' ⟨rfl, rfl⟩
        go_wp2_with fail
        refine (size_any b h3 h4 _).mono ?_
        rintro e w' ⟨rfl, rfl⟩
        go_wp2_with (go_at_call 13; refine (known_any _ HN.out).mono ?_; rintro e w' ⟨rfl, rfl⟩)
        go_ret
        exact ⟨rfl, Below.refl _ _⟩
end NumParts
namespace NumOrders
open Ds
theorem r6 (a b : Int) : dof 6 a b = (if a = b then 1 else 0, 0) := by simp [dof]
theorem r7 (a b : Int) : dof 7 a b = (if a = b then 0 else 1, 0) := by simp [dof]
theorem r8 (a b : Int) : dof 8 a b = (if a < b then 1 else 0, 0) := by simp [dof]
theorem r9 (a b : Int) : dof 9 a b = (if b < a then 0 else 1, 0) := by simp [dof]
theorem r10 (a b : Int) : dof 10 a b = (if b < a then 1 else 0, 0) := by simp [dof]
theorem r11 (a b : Int) : dof 11 a b = (if a < b then 0 else 1, 0) := by simp [dof]
end NumOrders
end Go.Proofs.YtagflojdkanpmaaDoor
