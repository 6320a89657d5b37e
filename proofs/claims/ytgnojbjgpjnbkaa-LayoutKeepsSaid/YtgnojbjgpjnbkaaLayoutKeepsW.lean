/-
  The walk of 'changelinglaw04.LayoutKeeps'.
-/
import Derived.Test.YtgnojbjgpjnbkaaLayPl
namespace Go.Proofs.Ytgnojbjgpjnbkaa.Ly
open Go.RowKit Pl Ar Mm Lx
set_option linter.unusedVariables false
set_option linter.unusedSimpArgs false
set_option maxRecDepth 100000 in
set_option maxHeartbeats 2000000 in
theorem keeps_law (b : Option Addr) (n c : Nat) (hn : n ≤ 9223372036854775807) (L : List TokM) (w : World) (hr : RowM w w.heap.size b n L) :
    Calls Try.prog 5 #[.slice b n c] w fun e w' => e = .returned (.bool true) ∧ Below w.heap.size w w' := by
  have HR := Lib.hid hr.2
  have HL := Lib.hid hr.1
  clear hr
  go_enter Try.func5, Try.ntmps5
  by_cases hbig : 3000 < n
  · have d1 : (3000 : Int) < n := by omega
    go_wp2_with fail
    refine (known_any _).mono ?_
    rintro e w1 ⟨rfl, hb1⟩
    go_wp2
    go_returns
    exact ⟨rfl, hb1⟩
  · have d1 : ¬ (3000 : Int) < n := by omega
    go_wp2_with fail
    refine (real_any _ (HR.out c) (by rw [HL.out]; omega)).mono ?_
    rintro e w1 ⟨v1, rfl, o1, hb1⟩
    have S1 := Lib.hid (shows_own o1)
    have B1 := Lib.hid hb1
    have s1 := hb1.size
    have hlen : (L.map realT).length ≤ 3000 := by rw [List.length_map, HL.out]; omega
    have hlen2 := layAll_len (L.map realT)
    clear o1 hb1
    go_wp2_with fail
    refine (Lay_is (by omega) rfl _ S1.out).mono ?_
    rintro e w2 ⟨v2, rfl, o2, hb2⟩
    have S2 := Lib.hid (shows_own o2)
    have B2 := Lib.hid hb2
    have s2 := hb2.size
    clear o2 hb2
    go_wp2_with fail
    refine (plain_any _ S2.out (by omega)).mono ?_
    rintro e w3 ⟨v3, rfl, o3, hb3⟩
    rw [plain_lay] at o3
    have S3 := Lib.hid (shows_own o3)
    have B3 := Lib.hid hb3
    have s3 := hb3.size
    have S1b := Lib.hid (((S1.out.below B2.out (Nat.le_refl _)).below B3.out (by omega)).mono (show _ ≤ w3.heap.size by omega))
    clear o3 hb3
    go_wp2_with fail
    refine (same_yes (by omega) _ S3.out S1b.out).mono ?_
    rintro e w4 ⟨rfl, hb4⟩
    have B4 := Lib.hid hb4
    have s4 := hb4.size
    clear hb4
    go_wp2_with fail
    refine (known_any _).mono ?_
    rintro e w5 ⟨rfl, hb5⟩
    have B5 := Lib.hid ((((B1.out.trans (B2.out.mono s1)).trans (B3.out.mono (by omega))).trans (B4.out.mono (by omega))).trans (hb5.mono (by omega)))
    clear hb5
    go_wp2
    go_returns
    exact ⟨rfl, B5.out⟩
end Go.Proofs.Ytgnojbjgpjnbkaa.Ly
namespace Go.Proofs.Ytgnojbjgpjnbkaa.LayoutKeeps
open Go.RowKit Ly
theorem law (b : Option Addr) (n c : Nat) (hn : n ≤ 9223372036854775807) (L : List TokM) (w : World) (hr : RowM w w.heap.size b n L) :
    Calls Try.prog 5 #[.slice b n c] w fun e w' => e = .returned (.bool true) ∧ Below w.heap.size w w' := keeps_law b n c hn L w hr
end Go.Proofs.Ytgnojbjgpjnbkaa.LayoutKeeps
