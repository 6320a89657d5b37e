/-
  CONTRACT: whether a spool is as the document's (changelinglaw03.same).
-/
import Derived.Test.YtolfldjiejeboaaSpRefB
namespace Go.Proofs.Ytolfldjiejeboaa.Sp
open Go.RowKit Go.Conc Mm Ln
set_option linter.unusedVariables false
set_option linter.unusedSimpArgs false
set_option maxHeartbeats 2000000 in
theorem same_any {p c room : Nat} {l : List Int} {shut : Bool} {a : Option Addr} {cb : Nat} (w : World) (h : Spool w TI p c room (iv l) shut) :
    Calls Try.prog 21 #[.pointer (some ⟨p, 0, none⟩), refV (.slice a l.length cb) room shut] w fun e w' => e = .returned (.bool true) ∧ Kept none0 w w' := by
  have H := Lib.hid h
  clear h
  have hlen : ∀ X, Kept none0 w X → Calls Try.prog 27 #[.pointer (some ⟨p, 0, none⟩)] X fun e w' => e = .returned (.int .i64 l.length) ∧ w' = X := fun X k => len_is X (H.out.kept k (fun h => h) (fun h => h)) (iv_length l) |>.mono fun e w' h => ⟨h.1, h.2.symm⟩
  have hroom : ∀ X, Kept none0 w X → Calls Try.prog 29 #[.pointer (some ⟨p, 0, none⟩)] X fun e w' => e = .returned (.int .i64 room) ∧ w' = X := fun X k => (room_any X (H.out.kept k (fun h => h) (fun h => h))).mono fun e w' h => ⟨h.1, h.2.symm⟩
  have hopen : ∀ X, Kept none0 w X → Calls Try.prog 28 #[.pointer (some ⟨p, 0, none⟩)] X fun e w' => e = .returned (.bool (!shut)) ∧ w' = X := fun X k => (open_any X (H.out.kept k (fun h => h) (fun h => h))).mono fun e w' h => ⟨h.1, h.2.symm⟩
  go_enter Try.func21, Try.ntmps21
  go_wp2_with fail
  go_quiet (first
    | (go_at_call 27; exact Calls.quiet_of_same (hlen _ (by repeat (first | exact Kept.refl _ _ | refine Kept.drewN ?_ _ | refine Kept.drew ?_ | refine Kept.alloc ?_ _))))
    | (go_at_call 29; exact Calls.quiet_of_same (hroom _ (by repeat (first | exact Kept.refl _ _ | refine Kept.drewN ?_ _ | refine Kept.drew ?_ | refine Kept.alloc ?_ _))))
    | (go_at_call 28; exact Calls.quiet_of_same (hopen _ (by repeat (first | exact Kept.refl _ _ | refine Kept.drewN ?_ _ | refine Kept.drew ?_ | refine Kept.alloc ?_ _)))))
  go_wp2_with fail
  go_ret
  exact ⟨rfl, ((Kept.refl _ _).alloc _).drewN _⟩
end Go.Proofs.Ytolfldjiejeboaa.Sp
