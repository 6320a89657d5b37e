/-
  CONTRACTS of layer group: what is wrong with rows.
-/
import Derived.Test.YtephmagficbdeaaChecked
import Derived.Test.YtephmagficbdeaaGrMem
import Derived.Deep.LoopGhost
import Derived.Handy
import Derived.Lib.Hide
import Derived.Deep.QuietTactic
import Derived.BigQuiet
import Derived.RegionTactic
import Derived.StillTailTactics
import Derived.Outline
namespace Go.Proofs.Ytephmagficbdeaa.Gr
open Go.RowKit Mm Sp
set_option linter.unusedVariables false
set_option linter.unusedSimpArgs false
theorem wrong_any {B : Nat} {v : Value} {G : List (List Int)} (w : World) (h : RR B w v G) : Calls Try.prog 17 #[v] w fun e w' => e = .returned (.int .i64 (wrongC G)) ∧ w = w' := by
  obtain ⟨a, c, rfl, hN, hr⟩ := h
  have HR := Lib.hid hr
  clear hr
  by_cases h0 : 2048 < G.length
  · have HC := Lib.hid (wrongC_long h0)
    go_enter Try.func17, Try.ntmps17
    go_wp2_with fail
    go_ret
    exact ⟨by rw [HC.out]; rfl, rfl⟩
  · have H0 := Lib.hid h0
    have hle : G.length ≤ 2048 := by omega
    go_enter Try.func17, Try.ntmps17
    go_wp2_with fail
    go_loopg [12] G.length (fun d i wr => ∃ k : Nat, k + d = G.length ∧ i = .int .i64 k ∧ Hid (RowsOK G.length (G.take k)) ∧ w = wr)
    case atStart => exact ⟨0, by omega, rfl, Lib.hid (by intro l hl; simp at hl), rfl⟩
    case round =>
      obtain ⟨k, hk, rfl, HK, rfl⟩ := hrel
      have HKD := Lib.hid hk
      have hkle : k ≤ G.length := by omega
      clear hk
      by_cases hlt : k < G.length
      · have hlt' : (k : Int) < G.length := by omega
        obtain ⟨ad, u, rfl, had, c0, a2, c2, rfl, hL, hr2⟩ := HR.out k hlt
        obtain ⟨L, hLe⟩ : ∃ L, G.getD k [] = L := ⟨_, rfl⟩
        rw [hLe] at c0 hL hr2
        have HL := Lib.hid hLe
        have HR2 := Lib.hid hr2
        clear hLe hr2
        go_wp2_with fail
        go_loopg [18] L.length (fun d i wr => ∃ j : Nat, j + d = L.length ∧ i = .int .i64 j ∧ Hid (RowOK G.length (L.take j)) ∧ w = wr)
        case atStart => exact ⟨0, by omega, rfl, Lib.hid (by intro l hl; simp at hl), rfl⟩
        case round =>
          obtain ⟨j, hj, rfl, HJ, rfl⟩ := hrel
          have HJD := Lib.hid hj
          have hjle : j ≤ L.length := by omega
          clear hj
          by_cases hjt : j < L.length
          · have hjt' : (j : Int) < L.length := by omega
            obtain ⟨ad2, rfl, had2, c1⟩ := HR2.out j hjt
            obtain ⟨n, hn⟩ : ∃ n, L.getD j 0 = n := ⟨_, rfl⟩
            replace c1 : w.cell? (ad2.add j) = some (.int .i64 n) := by rw [← hn]; exact c1
            have HN := Lib.hid hn
            clear hn
            by_cases hb : 0 ≤ n ∧ n < (G.length : Int)
            · obtain ⟨b1, b2⟩ := hb
              go_wp2_with fail
              go_roundg (L.length - (j + 1))
              case measure => have := HJD.out; omega
              case rel => exact ⟨j + 1, by have := HJD.out; omega, by go_num, Lib.hid (HJ.out.take_snoc hjt (by rw [HN.out]; exact b1) (by rw [HN.out]; exact b2)), rfl⟩
            · have HC := Lib.hid (wrongC_bad H0.out hlt (by rw [HL.out]; exact hjt) (by rw [HL.out, HN.out]; exact hb))
              by_cases hneg : n < 0
              · clear hb
                go_wp2_with fail
                go_ret
                exact ⟨by rw [HC.out]; rfl, rfl⟩
              · have hge : (G.length : Int) ≤ n := by omega
                clear hb
                go_wp2_with fail
                go_ret
                exact ⟨by rw [HC.out]; rfl, rfl⟩
          · have hge : ¬ (j : Int) < L.length := by omega
            have hjn : j = L.length := by omega
            have HJN := Lib.hid hjn
            clear hjn
            go_wp2_with fail
            go_roundg (G.length - (k + 1))
            case measure => have := HKD.out; omega
            case rel => exact ⟨k + 1, by have := HKD.out; omega, by go_num, Lib.hid (HK.out.take_snoc hlt (by rw [HL.out]; have := HJ.out; rw [HJN.out, List.take_length] at this; exact this)), rfl⟩
      · have hge : ¬ (k : Int) < G.length := by omega
        have hkn : k = G.length := by omega
        have HC := Lib.hid (wrongC_ok H0.out (by have := HK.out; rw [hkn, List.take_length] at this; exact this))
        clear hkn
        go_wp2_with fail
        go_ret
        exact ⟨by rw [HC.out]; rfl, rfl⟩
end Go.Proofs.Ytephmagficbdeaa.Gr
