/-
  The walk of 'changelinglaw03.SpoolShut'.
-/
import Derived.Test.YtggeafmbemmbpaaSpMine
import Derived.Test.YtggeafmbemmbpaaRowI
import Derived.Deep.LoopGhost
namespace Go.Proofs.Ytggeafmbemmbpaa.Sp
open Go.RowKit Go.Conc Mm Ln
set_option linter.unusedVariables false
set_option linter.unusedSimpArgs false
set_option maxRecDepth 100000 in
set_option maxHeartbeats 4000000 in
theorem shut_law (b : Option Addr) (n c : Nat) (hn : n ≤ 9223372036854775807) (f : Nat → Int) (x : Int) (w : World) (hr : ReadsV w w.heap.size b n (intV f)) :
    Calls Try.prog 7 #[.slice b n c, .int .i64 x] w fun e w' => e = .returned (.bool true) ∧ Below w.heap.size w w' := by
  have HR := Lib.hid hr
  clear hr
  go_enter Try.func7, Try.ntmps7
  go_wp2_with (go_at_call 8; refine (new_mine 1024 (by omega) (Below.refl _ _)).mono ?_; rintro e w' ⟨p, ch, rfl, hm⟩)
  go_loopg [7, 8] n (fun d m i wr => ∃ k : Nat, d + k = n ∧ k ≤ 1024 ∧ m = .int .i64 k ∧ i = .int .i64 k ∧ Mine w wr TI p ch 1024 (vals (intV f) 0 k) false)
  case atStart => exact ⟨0, by omega, by omega, rfl, rfl, hm⟩
  case round =>
    obtain ⟨k, hk, hk2, rfl, rfl, hm2⟩ := hrel
    have HK := Lib.hid hk
    have hle : k ≤ n := by omega
    clear hk
    by_cases hlt : k < n ∧ k < 1024
    · obtain ⟨h1, h2⟩ := hlt
      have h1' : (k : Int) < n := by omega
      have h2' : (k : Int) < 1024 := by omega
      obtain ⟨ad, rfl, had, c0⟩ := (HR.out.below hm2.below (Nat.le_refl _)) k h1
      have c0 : wr.cell? (ad.add k) = some (.int .i64 (f k)) := c0
      go_wp2_with (go_at_call 12; refine (put_in (f k) hm2 (by rw [vals_length]; exact h2)).mono ?_; rintro e w' ⟨rfl, hm3⟩)
      go_roundg (n - (k + 1))
      case measure => have := HK.out; omega
      case rel => exact ⟨k + 1, by have := HK.out; omega, by omega, by go_num, by go_num, by rw [vals_end, Nat.zero_add]; exact hm3⟩
    · have ho : ¬ (k : Int) < n ∨ ((k : Int) < n ∧ ¬ (k : Int) < 1024) := by omega
      have hlen := vals_length (intV f) k 0
      clear hlt
      rcases ho with ho | ⟨h1, ho⟩
      all_goals
        go_wp2_with (first
          | (go_at_call 18; refine (close_mine (by assumption)).mono ?_; rintro e w' ⟨rfl, hm3⟩)
          | (go_at_call 12; refine (put_not _ (by assumption) (.inl rfl)).mono ?_; rintro e w' ⟨rfl, hm3⟩)
          | (go_at_call 28; refine (open_mine (by assumption)).mono ?_; rintro e w' ⟨rfl, rfl⟩)
          | (go_at_call 27; refine (len_mine (by assumption)).mono ?_; rintro e w' ⟨rfl, rfl⟩))
        go_loopg [9] k (fun d i wr => ∃ j : Nat, j + d = k ∧ i = .int .i64 j ∧ Mine w wr TI p ch 1024 (vals (intV f) j d) true)
        case atStart => exact ⟨0, by omega, rfl, by assumption⟩
        case round =>
          obtain ⟨j, hj, rfl, hm4⟩ := hrel
          have HJ := Lib.hid hj
          clear hj
          have hjn : j < n → ∃ ad, b = some ad ∧ ad.block < w.heap.size ∧ w.cell? (ad.add j) = some (.int .i64 (f j)) := fun h => HR.out j h
          rcases gk with _ | d
          · have hjk : j = k := by have := HJ.out; omega
            have HJK := Lib.hid hjk
            have hnl : ¬ (j : Int) < k := by omega
            have hm5 : Mine w wr TI p ch 1024 [] true := hm4
            clear hjk
            go_wp2_with (first
              | (go_at_call 14; refine (take_none hm5).mono ?_; rintro e w' ⟨rfl, hm6⟩)
              | (go_at_call 10; refine (known_any _).mono ?_; rintro e w'' ⟨rfl, hb⟩))
            all_goals (go_ret; exact ⟨rfl, hm6.below.trans (hb.mono hm6.below.size)⟩)
          · have hjk : j < k := by have := HJ.out; omega
            have hnl : (j : Int) < k := by omega
            have hm5 : Mine w wr TI p ch 1024 (.int .i64 (f j) :: vals (intV f) (j + 1) d) true := hm4
            obtain ⟨ad, rfl, had, c1⟩ := hjn (by omega)
            have hjn' : (j : Int) < n := by omega
            clear hjn
            go_wp2_with (go_at_call 14; refine (take_some hm5).mono ?_; rintro e w' ⟨rfl, hm6⟩; have c0 := (hm6.below.cell (p := ad.add j) (by rw [block_of_add]; exact had)).trans c1)
            go_roundg d
            case measure => omega
            case rel => exact ⟨j + 1, by have := HJ.out; omega, by go_num, hm6⟩
end Go.Proofs.Ytggeafmbemmbpaa.Sp
namespace Go.Proofs.Ytggeafmbemmbpaa.SpoolShut
open Go.RowKit Sp
set_option linter.unusedVariables false
theorem law (b : Option Addr) (n c : Nat) (hn : n ≤ 9223372036854775807) (f : Nat → Int) (x : Int) (h1 : -9223372036854775808 ≤ x) (h2 : x ≤ 9223372036854775807) (w : World) (hr : ReadsV w w.heap.size b n (intV f)) :
    Calls Try.prog 7 #[.slice b n c, .int .i64 x] w fun e w' => e = .returned (.bool true) ∧ Below w.heap.size w w' := shut_law b n c hn f x w hr
end Go.Proofs.Ytggeafmbemmbpaa.SpoolShut
