/-
  CONTRACT: rows of the same tokens are the same (changelingref02.Same).
-/
import Derived.Test.YtidmclaaggoahaaLayY
namespace Go.Proofs.Ytidmclaaggoahaa.Ly
open Go.RowKit Pl Ar Mm Lx
set_option linter.unusedVariables false
set_option linter.unusedSimpArgs false
set_option maxRecDepth 100000 in
set_option maxHeartbeats 2000000 in
theorem same_yes {v1 v2 : Value} {L : List TokM} (hn : L.length ≤ 1000000000) (w : World) (h1 : ShowsM w w.heap.size v1 L) (h2 : ShowsM w w.heap.size v2 L) :
    Calls Try.prog 13 #[v1, v2] w fun e w' => e = .returned (.bool true) ∧ Below w.heap.size w w' := by
  obtain ⟨b1, c1, rfl, k1⟩ := h1
  obtain ⟨b2, c2, rfl, k2⟩ := h2
  obtain ⟨n, hn1⟩ : ∃ n, L.length = n := ⟨_, rfl⟩
  rw [hn1] at hn ⊢
  have K1 := Lib.hid k1
  have K2 := Lib.hid k2
  have HN1 := Lib.hid hn1
  clear k1 k2 hn1
  go_enter Try.func13, Try.ntmps13
  go_wp2_with fail
  go_loopg [5] n (fun j i wr => ∃ k : Nat, j + k = n ∧ i = .int .i64 k ∧ Below w.heap.size w wr)
  case atStart => exact ⟨0, by omega, rfl, Below.refl _ _⟩
  case round =>
    obtain ⟨k, hk, rfl, hbw⟩ := hrel
    have HK := Lib.hid hk
    have HBW := Lib.hid hbw
    have hle : k ≤ n := by omega
    clear hk hbw
    by_cases hlt : k < n
    · have hlt' : (k : Int) < n := by omega
      obtain ⟨ad1, e1, hg1, y1⟩ := K1.out k (by rw [HN1.out]; exact hlt)
      obtain ⟨ad2, e2, hg2, y2⟩ := K2.out k (by rw [HN1.out]; exact hlt)
      subst e1 e2
      obtain ⟨t, ht⟩ : ∃ t, tk L k = t := ⟨_, rfl⟩
      rw [ht] at y1 y2
      obtain ⟨p0, p1, p2, p3, p4, p5⟩ := y1.below HBW.out hg1
      obtain ⟨q0, q1, q2, q3, q4, q5⟩ := y2.below HBW.out hg2
      clear y1 y2 ht
      go_wp2_with fail
      try go_quiet (fail)
      go_wp2
      go_roundg (n - (k + 1))
      case measure => have := HK.out; omega
      case rel => exact ⟨k + 1, by have := HK.out; omega, by go_num, below_drewN HBW.out _⟩
    · have hke : k = n := by omega
      subst hke
      go_wp2
      go_returns
      exact ⟨rfl, HBW.out⟩
end Go.Proofs.Ytidmclaaggoahaa.Ly
