/-
  CONTRACT: the document's own Parse reads any text as 'prs' says.
-/
import Derived.Test.YtigidagcpjmjnaaTextW
import Derived.Test.YtigidagcpjmjnaaDec
import Derived.Test.YtigidagcpjmjnaaParse
namespace Go.Proofs.Ytigidagcpjmjnaa.Rp
open Go.RowKit Pl Ar Dx Dg Pa Tx
set_option linter.unusedVariables false

/-- are these digits of a number without a sign -/
def plainOk (d : List UInt8) : Bool := !d.isEmpty && decide (d.length ≤ 19) && d.all isD
def PlainPost (d : List UInt8) (w : World) (e : Ending) (w' : World) : Prop := e = .returned (.tuple #[.int .u64 ((if plainOk d then val d else 0 : Nat) : Int), .bool (plainOk d)]) ∧ w = w'
theorem plain_yes {d : List UInt8} {w : World} {V : Nat} (h : plainOk d = true) (hv : val d = V) : PlainPost d w (.returned (.tuple #[.int .u64 (V : Int), .bool true])) w := by
  unfold PlainPost; rw [h, ← hv]; exact ⟨rfl, rfl⟩
theorem plain_no {d : List UInt8} {w : World} (h : plainOk d = false) : PlainPost d w (.returned (.tuple #[.int .u64 0, .bool false])) w := by
  unfold PlainPost; rw [h]; exact ⟨rfl, rfl⟩

theorem bound18 {D : ByteArray} {k V : Nat} (h : LoopIs D k V) (hk : k < D.size) (h19 : D.size ≤ 19) : V ≤ 999999999999999999 := by
  have := val_lt _ h.2
  rw [← h.1] at this
  have hl : (D.data.toList.take k).length ≤ 18 := by rw [List.length_take]; omega
  have h2 : 10 ^ (D.data.toList.take k).length ≤ 10 ^ 18 := Nat.pow_le_pow_right (by decide) hl
  omega
set_option maxHeartbeats 2000000 in
theorem plain_any (D : ByteArray) (hs : D.size ≤ 9223372036854775807) (w : World) : Calls Try.prog 49 #[.string D] w (PlainPost D.data.toList w) := by
  by_cases h0 : D.size = 0
  · have h1 : ((D.size : Int) == 0) = true := beq_iff_eq.2 (by omega)
    have HF := Lib.hid (plain_no (d := D.data.toList) (w := w) (by have : D.data.toList = [] := List.length_eq_zero_iff.1 (by rw [← Lib.size_eq]; exact h0)
                                                                   rw [this]; rfl))
    clear h0
    go_enter Try.func49, Try.ntmps49
    go_wp2
    go_ret2
    exact HF.out
  · have h1 : ((D.size : Int) == 0) = false := beq_eq_false_iff_ne.2 (by omega)
    by_cases h19 : 19 < D.size
    · have HF := Lib.hid (plain_no (d := D.data.toList) (w := w) (by unfold plainOk; rw [← Lib.size_eq, decide_eq_false (by omega)]; simp))
      clear h0
      go_enter Try.func49, Try.ntmps49
      go_wp2
      go_ret2
      exact HF.out
    · have h2 : decide (19 < (D.size : Int)) = false := decide_eq_false (by omega)
      have h3 : D.size ≤ 19 := by omega
      have HE := Lib.hid (show D.data.toList.isEmpty = false by
        cases hx : D.data.toList with
        | nil => rw [Lib.size_eq, hx] at h0; exact absurd rfl h0
        | cons _ _ => rfl)
      clear h0
      go_enter Try.func49, Try.ntmps49
      go_wp2
      go_loop [4, 5] (fun n i => ∃ k V : Nat, k ≤ D.size ∧ i = .int .i64 k ∧ n = .int .u64 V ∧ LoopIs D k V) (fun _ i => D.size - (intOf i).toNat)
      case atStart => exact ⟨0, 0, by omega, rfl, rfl, loopIs_zero D⟩
      case round =>
        obtain ⟨k, V, hk, rfl, rfl, hI⟩ := hrel
        have HI := Lib.hid hI
        clear hI
        by_cases hlt : k < D.size
        · have hb := UInt8.toNat_lt D[k]
          have hV := bound18 HI.out hlt h3
          by_cases c1 : D[k].toNat < 48
          · have HF := Lib.hid (plain_no (d := D.data.toList) (w := w) (by unfold plainOk; rw [isD_no hlt (Or.inl c1)]; simp))
            go_wp2
            go_ret2
            exact HF.out
          · by_cases c2 : 57 < D[k].toNat
            · have HF := Lib.hid (plain_no (d := D.data.toList) (w := w) (by unfold plainOk; rw [isD_no hlt (Or.inr c2)]; simp))
              go_wp2
              go_ret2
              exact HF.out
            · have HN := Lib.hid (loopIs_succ HI.out hlt c1 c2)
              go_wp2
              go_round
              case rel => exact ⟨k + 1, 10 * V + (D[k].toNat - 48), by omega, by go_num, congrArg (Value.int .u64) (by omega), HN.out⟩
              case measure => first | (simp [intOf]; done) | (simp [intOf]; omega)
        · have hkD : k = D.size := by omega
          have HX := Lib.hid (by have := HI.out; rw [hkD] at this; exact loopIs_end this : V = val D.data.toList ∧ D.data.toList.all isD = true)
          clear hkD
          go_wp2
          go_ret2
          exact plain_yes (by unfold plainOk; rw [HE.out, HX.out.2, ← Lib.size_eq, decide_eq_true h3]; rfl) HX.out.1.symm
end Go.Proofs.Ytigidagcpjmjnaa.Rp
