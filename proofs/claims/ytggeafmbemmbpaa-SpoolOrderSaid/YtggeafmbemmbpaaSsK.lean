/-
  A SPOOL OF THE CALL's OWN, of texts: what is put into it, all other blocks kept.
-/
import Derived.Test.YtggeafmbemmbpaaSsMine
namespace Go.Proofs.Ytggeafmbemmbpaa.Ss
open Go.RowKit Go.Conc Mm Ln Sp
set_option linter.unusedVariables false
set_option linter.unusedSimpArgs false
section
variable {W w : World} {T : TypeId} {p c room : Nat} {buf : List Value} {shut : Bool}
theorem put_inK (x : ByteArray) (h : Mine W w TI p c room buf false) (hr : buf.length < room) : Calls Try.prog 23 #[.pointer (some ⟨p, 0, none⟩), .string x] w fun e w' => e = .returned (.bool true) ∧ Mine W w' TI p c room (buf ++ [.string x]) false ∧ Kept (at0 c) w w' := by
  refine (put_any x w h.sp).mono ?_
  rintro e w' ⟨rfl, hs, hk⟩
  have e : (!false && decide (buf.length < room)) = true := by simp [hr]
  rw [e] at hs ⊢
  rw [if_pos rfl] at hs
  exact ⟨rfl, h.step hk (fun k hk => .inl hk) hs, hk⟩
theorem put_notK (x : ByteArray) (h : Mine W w TI p c room buf shut) (hr : shut = true ∨ room ≤ buf.length) : Calls Try.prog 23 #[.pointer (some ⟨p, 0, none⟩), .string x] w fun e w' => e = .returned (.bool false) ∧ Mine W w' TI p c room buf shut ∧ Kept (at0 c) w w' := by
  refine (put_any x w h.sp).mono ?_
  rintro e w' ⟨rfl, hs, hk⟩
  have e : (!shut && decide (buf.length < room)) = false := by
    rcases hr with rfl | hr
    · simp
    · simp [Nat.not_lt.2 hr]
  rw [e] at hs ⊢
  rw [if_neg (by simp)] at hs
  exact ⟨rfl, h.step hk (fun k hk => .inl hk) hs, hk⟩
/-- A row of the call's own, of another type than the spool's, is kept where only the spool's channel turns. -/
theorem Mine.own {w' : World} {B : Nat} {e : TypeId} {size : Nat} {v : Value} {n : Nat} {xs : List Value} (h : Mine W w T p c room buf shut) (k : Kept (at0 c) w w') (o : w.ownsRow B e size v n xs) (hne : e ≠ T) : w'.ownsRow B e size v n xs :=
  k.own o (fun g hg hx => h.sp.own o hne g hg (.inl hx))
end
end Go.Proofs.Ytggeafmbemmbpaa.Ss
