/-
  The walk of 'changelinglaw04.LayoutPairs'.
-/
import Derived.Test.YtgnojbjgpjnbkaaLayPairs
namespace Go.Proofs.Ytgnojbjgpjnbkaa.Ly
open Go.RowKit Pl Ar Mm Lx
set_option linter.unusedVariables false
set_option linter.unusedSimpArgs false
set_option maxRecDepth 100000 in
set_option maxHeartbeats 4000000 in
theorem pairs_law (b : Option Addr) (n c : Nat) (hn : n ≤ 9223372036854775807) (L : List TokM) (w : World) (hr : RowM w w.heap.size b n L) :
    Calls Try.prog 6 #[.slice b n c] w fun e w' => e = .returned (.bool true) ∧ Below w.heap.size w w' := by
  have HR := Lib.hid hr.2
  have HL := Lib.hid hr.1
  clear hr
  go_enter Try.func6, Try.ntmps6
  by_cases hbig : 3000 < n
  · have d1 : (3000 : Int) < n := by omega
    go_wp2_with fail
    refine (known_any _).mono ?_
    rintro e w1 ⟨rfl, hb1⟩
    go_wp2
    go_returns
    exact ⟨rfl, hb1⟩
  · have d1 : ¬ (3000 : Int) < n := by omega
    go_wp2_with fail
    refine (real_any _ (HR.out c) (by rw [HL.out]; omega)).mono ?_
    rintro e w1 ⟨v1, rfl, o1, hb1⟩
    have S1 := Lib.hid (shows_own o1)
    have B1 := Lib.hid hb1
    have s1 := hb1.size
    have hlen : (L.map realT).length ≤ 3000 := by rw [List.length_map, HL.out]; omega
    have hlen2 := layAll_len (L.map realT)
    have hgood := (good_layAll (L := L.map realT) (fun k _ => tk_real L k)).at
    obtain ⟨M, hM⟩ : ∃ M, layAll (L.map realT) = M := ⟨_, rfl⟩
    rw [hM] at hgood hlen2
    clear o1 hb1
    go_wp2_with fail
    refine (Lay_is (by omega) hM _ S1.out).mono ?_
    rintro e w2 ⟨v2, rfl, o2, hb2⟩
    obtain ⟨b2, c2, rfl, hc2⟩ := shows_own o2
    have HC := Lib.hid hc2
    have B2 := Lib.hid (B1.out.trans (hb2.mono s1))
    have HG0 := Lib.hid hgood.1
    have HG := Lib.hid hgood.2
    obtain ⟨N, hN⟩ : ∃ N, M.length = N := ⟨_, rfl⟩
    have HN := Lib.hid hN
    rw [hN] at hlen2 ⊢
    have hN2 : N ≤ 20000 := by omega
    clear o2 hb2 hc2 hgood hM hN hlen hlen2
    go_wp2_with fail
    go_loopg [4, 5] N (fun d v4 v5 wr => ∃ k : Nat, d + k = N ∧ v5 = .int .i64 k ∧ v4 = .int .i64 (sumK M k) ∧ Below w2.heap.size w2 wr)
    case atStart => exact ⟨0, by omega, rfl, rfl, Below.refl _ _⟩
    case round =>
      obtain ⟨k, hk, rfl, rfl, hbw⟩ := hrel
      have HK := Lib.hid hk
      have HBW := Lib.hid hbw
      have hle : k ≤ N := by omega
      clear hk hbw
      by_cases hlt : k < N
      · have hlt' : (k : Int) < N := by omega
        obtain ⟨ad, e, hg, y⟩ := HC.out k (by rw [HN.out]; exact hlt)
        subst e
        have hok := HG.out k (by rw [HN.out]; exact hlt)
        have hsum := sumK_le M k
        have hs2 : sumK M (k + 1) = sumK M k + opT (tk M k) := rfl
        obtain ⟨t, ht⟩ : ∃ t, tk M k = t := ⟨_, rfl⟩
        rw [ht] at y hok hs2
        obtain ⟨S, hS⟩ : ∃ S, sumK M k = S := ⟨_, rfl⟩
        rw [hS] at hok hs2 hsum ⊢
        have HS2 := Lib.hid hs2
        obtain ⟨z0, z1, z2, z3, z4, z5⟩ := y.below HBW.out hg
        clear y ht hS hs2
        obtain ⟨tk0, tx, tn, tl, tc, tm⟩ := t
        simp only at z0 z1 z2 z3 z4 z5
        cases tm with
        | false =>
          have e2 : sumK M (k + 1) = S := by rw [HS2.out, op_real rfl]; omega
          have HE2 := Lib.hid e2
          clear e2 hok
          go_wp2
          go_roundg (N - (k + 1))
          case measure => have := HK.out; omega
          case rel => exact ⟨k + 1, by have := HK.out; omega, by go_num, by rw [HE2.out], HBW.out⟩
        | true =>
          obtain ⟨hk5, htx, hge, hsemi⟩ := hok rfl
          simp only at hk5 htx hsemi
          subst hk5
          clear hok
          rcases htx with rfl | rfl | rfl
          · have e1 : opT ⟨5, ⟨#[123]⟩, tn, tl, tc, true⟩ = 1 := by simp [opT]
            rw [e1] at hge
            have HE2 := Lib.hid (show sumK M (k + 1) = S + 1 by rw [HS2.out, e1])
            clear hsemi e1
            go_wp2
            go_roundg (N - (k + 1))
            case measure => have := HK.out; omega
            case rel => exact ⟨k + 1, by have := HK.out; omega, by go_num, by rw [HE2.out], HBW.out⟩
          · have e1 : opT ⟨5, ⟨#[125]⟩, tn, tl, tc, true⟩ = -1 := by simp [opT]
            rw [e1] at hge
            have HE2 := Lib.hid (show sumK M (k + 1) = S - 1 by rw [HS2.out, e1]; omega)
            clear hsemi e1
            go_wp2
            go_roundg (N - (k + 1))
            case measure => have := HK.out; omega
            case rel => exact ⟨k + 1, by have := HK.out; omega, by go_num, by rw [HE2.out], HBW.out⟩
          · have e1 : opT ⟨5, ⟨#[59]⟩, tn, tl, tc, true⟩ = 0 := by simp [opT]
            rw [e1] at hge hsemi
            have hS0 : ¬ S = 0 := by have := hsemi rfl; omega
            have hS1 : (S == 0) = false := by simp [hS0]
            have HE2 := Lib.hid (show sumK M (k + 1) = S by rw [HS2.out, e1]; omega)
            clear hsemi e1
            go_wp2
            go_roundg (N - (k + 1))
            case measure => have := HK.out; omega
            case rel => exact ⟨k + 1, by have := HK.out; omega, by go_num, by rw [HE2.out], HBW.out⟩
      · obtain rfl : k = N := by omega
        have h0 : sumK M k = 0 := by have := HG0.out; rwa [HN.out] at this
        rw [h0]
        go_wp2_with fail
        refine (known_any _).mono ?_
        rintro e w5 ⟨rfl, hb5⟩
        have s2 := B2.out.size
        have s3 := HBW.out.size
        have B5 := Lib.hid ((B2.out.trans (HBW.out.mono s2)).trans (hb5.mono (by omega)))
        clear hb5
        go_wp2
        go_returns
        exact ⟨rfl, B5.out⟩
end Go.Proofs.Ytgnojbjgpjnbkaa.Ly
namespace Go.Proofs.Ytgnojbjgpjnbkaa.LayoutPairs
open Go.RowKit Ly
theorem law (b : Option Addr) (n c : Nat) (hn : n ≤ 9223372036854775807) (L : List TokM) (w : World) (hr : RowM w w.heap.size b n L) :
    Calls Try.prog 6 #[.slice b n c] w fun e w' => e = .returned (.bool true) ∧ Below w.heap.size w w' := pairs_law b n c hn L w hr
end Go.Proofs.Ytgnojbjgpjnbkaa.LayoutPairs
