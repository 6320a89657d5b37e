/-
  CONTRACTS of layer heap: holds.
-/
import Derived.Test.YtbkklnihgejeoaaHpB
namespace Go.Proofs.Ytbkklnihgejeoaa.Hp
open Go.RowKit Mm Tm
set_option linter.unusedVariables false
set_option linter.unusedSimpArgs false
def Hs.holds (S : Hs) (l : List Int) : Bool := l.all S.held
theorem holds_upto {S : Hs} {l : List Int} (k : Nat) (h : ∀ j x, j < k → l[j]? = some x → S.held x = true) {x : Int} (hx : l[k]? = some x) (hh : S.held x = true) : ∀ j x, j < k + 1 → l[j]? = some x → S.held x = true := fun j y hj hy => by
  by_cases e : j = k
  · subst e; rw [hx] at hy; injection hy with hy; rw [← hy]; exact hh
  · exact h j y (by omega) hy
set_option maxRecDepth 100000 in
set_option maxHeartbeats 4000000 in
theorem holds_any {B : Nat} {X : Nat → Prop} {h : Nat} {S : Hs} {v : Value} {n : Nat} {pb : Nat → Nat} {Z : Nat → Prop} {a : Option Addr} {c : Nat} {l : List Int} (w : World) (hm : HpM B X w h S v n pb) (hl : RdI Z w a l) (hlen : l.length ≤ 9223372036854775807) :
    Calls Try.prog 30 #[.pointer (some ⟨h, 0, none⟩), .slice a l.length c] w (IsV (.bool (S.holds l)) w) := by
  have HM := Lib.hid hm
  have HL := Lib.hid hl
  have HAT := Lib.hid (fun (m : Nat) (hm' : m < n * 256) => at_any w hm m hm')
  have hR := hm.room
  have hF := hm.few
  have x2 := hm.box.cell 2
  clear hm hl
  go_enter Try.func30, Try.ntmps30
  go_wp2_with fail
  go_loop [9] (fun i => ∃ k : Nat, k ≤ l.length ∧ i = .int .i64 k ∧ Hid (∀ j x, j < k → l[j]? = some x → S.held x = true)) (fun i => l.length - (intOf i).toNat)
  case atStart => exact ⟨0, Nat.zero_le _, rfl, Lib.hid fun j x hj => by omega⟩
  case round =>
    obtain ⟨k, hk, rfl, HU⟩ := hrel
    by_cases hlt : k < l.length
    case neg =>
      have hge : ¬ (k : Int) < l.length := by omega
      go_wp2_with fail
      go_ret
      refine ⟨?_, rfl⟩
      have : S.holds l = true := List.all_eq_true.2 fun x hx => by
        obtain ⟨j, hj, rfl⟩ := List.getElem_of_mem hx
        exact HU.out j _ (by omega) (List.getElem?_eq_getElem hj)
      rw [this]; rfl
    have hx := List.getElem?_eq_getElem hlt
    obtain ⟨ad, ha, _, hc⟩ := HL.out k _ hx
    generalize l[k] = x at hx hc
    subst ha
    have HX := Lib.hid hx
    have HNO := Lib.hid (fun (hh : S.held x = false) => (show S.holds l = false from by
      unfold Hs.holds
      rw [List.all_eq_false]
      exact ⟨x, List.mem_of_getElem? hx, by simp [hh]⟩))
    clear hx
    by_cases h0 : x < 0
    · have HN := Lib.hid (HNO.out (by
        apply Bool.eq_false_iff.2
        intro q
        have := (Hs.held_iff.1 q).1
        omega))
      go_wp2_with fail
      go_ret
      exact ⟨by rw [HN.out]; rfl, rfl⟩
    obtain ⟨m, rfl⟩ : ∃ m : Nat, x = m := ⟨x.toNat, by omega⟩
    by_cases h1 : S.used ≤ m
    · have HN := Lib.hid (HNO.out (by
        apply Bool.eq_false_iff.2
        intro q
        have := (Hs.held_iff.1 q).2.1
        omega))
      have h1' : decide ((S.used : Int) ≤ m) = true := decide_eq_true (by omega)
      go_wp2_with fail
      go_ret
      exact ⟨by rw [HN.out]; rfl, rfl⟩
    have h1' : decide ((S.used : Int) ≤ m) = false := decide_eq_false (by omega)
    have h1'' : decide (S.used ≤ m) = false := decide_eq_false (by omega)
    have hcell := (HM.out.cells m (by omega)).mark
    have HA := Lib.hid (HAT.out m (by omega))
    generalize hs : S.is m = s at hcell
    have HS := Lib.hid hs
    clear hs
    by_cases h2 : s = 0
    · subst h2
      have HN := Lib.hid (HNO.out (by
        apply Bool.eq_false_iff.2
        intro q
        exact (Hs.held_iff.1 q).2.2 (by simpa using HS.out)))
      go_wp2_with ((with_reducible refine HA.out.mono ?_); rintro e w' ⟨rfl, rfl⟩)
      go_ret
      exact ⟨by rw [HN.out]; rfl, rfl⟩
    · have h2' : ((s : Int) == 0) = false := by simpa using (show ¬ (s : Int) = 0 by omega)
      have HU' := Lib.hid (holds_upto k HU.out HX.out (Hs.held_iff.2 ⟨by omega, by omega, by rw [show (m : Int).toNat = m from rfl, HS.out]; exact h2⟩))
      go_wp2_with ((with_reducible refine HA.out.mono ?_); rintro e w' ⟨rfl, rfl⟩)
      go_round
      case rel => exact ⟨k + 1, by omega, by go_num, HU'⟩
      case measure => simp [intOf]; omega
end Go.Proofs.Ytbkklnihgejeoaa.Hp
