/-
  CONTRACTS of layer fix: how operators bind: Default, Find.
-/
import Derived.Test.YtlhppkaehoppnaaFixC
namespace Go.Proofs.Ytlhppkaehoppnaa.Fx
open Go.RowKit Fm Mm Nm
set_option linter.unusedVariables false

theorem fdef_42 (w : World) : Calls Try.prog 13 #[.string ⟨#[42]⟩] w (DefPost ⟨#[42]⟩ w) := by
  go_enter Try.func13, Try.ntmps13
  go_wp2
  go_returns
  exact defPost (by decide) (by decide) (by go_grown)
theorem fdef_47 (w : World) : Calls Try.prog 13 #[.string ⟨#[47]⟩] w (DefPost ⟨#[47]⟩ w) := by
  go_enter Try.func13, Try.ntmps13
  go_wp2
  go_returns
  exact defPost (by decide) (by decide) (by go_grown)
theorem fdef_37 (w : World) : Calls Try.prog 13 #[.string ⟨#[37]⟩] w (DefPost ⟨#[37]⟩ w) := by
  go_enter Try.func13, Try.ntmps13
  go_wp2
  go_returns
  exact defPost (by decide) (by decide) (by go_grown)
theorem fdef_43 (w : World) : Calls Try.prog 13 #[.string ⟨#[43]⟩] w (DefPost ⟨#[43]⟩ w) := by
  go_enter Try.func13, Try.ntmps13
  go_wp2
  go_returns
  exact defPost (by decide) (by decide) (by go_grown)
theorem fdef_45 (w : World) : Calls Try.prog 13 #[.string ⟨#[45]⟩] w (DefPost ⟨#[45]⟩ w) := by
  go_enter Try.func13, Try.ntmps13
  go_wp2
  go_returns
  exact defPost (by decide) (by decide) (by go_grown)
theorem fdef_any (s : ByteArray) (w : World) : Calls Try.prog 13 #[.string s] w (DefPost s w) := by
  by_cases h42 : s.data.toList = [42]
  · obtain rfl := is_text h42; exact fdef_42 w
  by_cases h47 : s.data.toList = [47]
  · obtain rfl := is_text h47; exact fdef_47 w
  by_cases h37 : s.data.toList = [37]
  · obtain rfl := is_text h37; exact fdef_37 w
  by_cases h43 : s.data.toList = [43]
  · obtain rfl := is_text h43; exact fdef_43 w
  by_cases h45 : s.data.toList = [45]
  · obtain rfl := is_text h45; exact fdef_45 w
  obtain ⟨n, hn⟩ : ∃ n, opOf s.data.toList = n := ⟨_, rfl⟩
  have hr : n = 0 ∨ (6 ≤ n ∧ n ≤ 11) := by
    have h := opOf_rng s.data.toList
    rw [hn] at h
    have : ¬ (1 ≤ n ∧ n ≤ 5) := by
      rw [← hn]
      unfold opOf
      rw [if_neg h43, if_neg h45, if_neg h42, if_neg h47, if_neg h37]
      (repeat' split) <;> omega
    omega
  have n42 : (s.toList == [42]) = false := by rw [Lib.toList_data]; exact beq_eq_false_iff_ne.2 h42
  have n47 : (s.toList == [47]) = false := by rw [Lib.toList_data]; exact beq_eq_false_iff_ne.2 h47
  have n37 : (s.toList == [37]) = false := by rw [Lib.toList_data]; exact beq_eq_false_iff_ne.2 h37
  have n43 : (s.toList == [43]) = false := by rw [Lib.toList_data]; exact beq_eq_false_iff_ne.2 h43
  have n45 : (s.toList == [45]) = false := by rw [Lib.toList_data]; exact beq_eq_false_iff_ne.2 h45
  have HN := Lib.hid hn
  clear h42 h47 h37 h43 h45
  rcases hr with rfl | h0
  · have HA := Lib.hid (show defA s.data.toList = 1 by unfold defA; rw [hn, if_neg (by omega)])
    have HL := Lib.hid (show defL s.data.toList = 9 by unfold defL; rw [hn, if_neg (by omega), if_neg (by omega), if_neg (by omega)])
    clear hn
    go_enter Try.func13, Try.ntmps13
    go_wp2_with fail
    refine (op_is HN.out _).mono ?_
    rintro e w2 ⟨rfl, rfl⟩
    go_wp2_with fail
    refine (rel_no 0 _ (.inl (by omega))).mono ?_
    rintro e w2 ⟨rfl, rfl⟩
    go_wp2
    go_returns
    exact defPost HA.out HL.out (by go_grown)
  · have HA := Lib.hid (show defA s.data.toList = 0 by unfold defA; rw [hn, if_pos (by omega)])
    have HL := Lib.hid (show defL s.data.toList = 4 by unfold defL; rw [hn, if_neg (by omega), if_neg (by omega), if_pos (by omega)])
    clear hn
    go_enter Try.func13, Try.ntmps13
    go_wp2_with fail
    refine (op_is HN.out _).mono ?_
    rintro e w2 ⟨rfl, rfl⟩
    go_wp2_with fail
    refine (rel_yes n _ h0.1 h0.2).mono ?_
    rintro e w2 ⟨rfl, rfl⟩
    go_wp2
    go_returns
    exact defPost HA.out HL.out (by go_grown)
end Go.Proofs.Ytlhppkaehoppnaa.Fx
