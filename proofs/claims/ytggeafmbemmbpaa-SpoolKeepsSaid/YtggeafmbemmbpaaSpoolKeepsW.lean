/-
  The walk of 'changelinglaw03.SpoolKeeps'.
-/
import Derived.Test.YtggeafmbemmbpaaSpTwo
namespace Go.Proofs.Ytggeafmbemmbpaa.Sp
open Go.RowKit Go.Conc Mm Ln
set_option linter.unusedVariables false
set_option linter.unusedSimpArgs false
theorem new_mineI (n : Int) (hn : 0 ≤ n ∧ n ≤ 1024) {W w : World} (hb : Below W.heap.size W w) : Calls Try.prog 8 #[.int .i64 n] w fun e w' => ∃ p c, e = .returned (.tuple #[.pointer (some ⟨p, 0, none⟩), .int .i64 0]) ∧ Mine W w' TI p c n.toNat [] false := by
  obtain ⟨m, rfl⟩ : ∃ m : Nat, n = m := ⟨n.toNat, by omega⟩
  exact new_mine m (by omega) hb
theorem right_is (n : Int) (b : Bool) (hb : decide (0 ≤ n ∧ n ≤ 1024) = b) (w : World) : Calls Try.prog 9 #[.int .i64 n] w fun e w' => e = .returned (.bool b) ∧ w = w' := by
  by_cases h : 0 ≤ n ∧ n ≤ 1024
  · obtain ⟨m, rfl⟩ : ∃ m : Nat, n = m := ⟨n.toNat, by omega⟩
    obtain rfl : b = true := by rw [← hb]; simpa using h.2
    exact right_yes m (by omega) w
  · obtain rfl : b = false := by rw [← hb]; simpa using h
    exact right_no n (by omega) w
set_option maxRecDepth 100000 in
set_option maxHeartbeats 4000000 in
theorem keeps_bad (room other most : Int) (hbad : ¬ (0 ≤ room ∧ room ≤ 1024) ∨ ¬ (0 ≤ other ∧ other ≤ 1024)) (b : Option Addr) (n c : Nat) (w : World) :
    Calls Try.prog 5 #[.int .i64 room, .int .i64 other, .slice b n c, .int .i64 most] w fun e w' => e = .returned (.bool true) ∧ Below w.heap.size w w' := by
  by_cases h1 : 0 ≤ room ∧ room ≤ 1024
  · have h2 : other < 0 ∨ 1024 < other := by omega
    have H1 := Lib.hid h1
    have H2 := Lib.hid h2
    clear hbad h1 h2
    go_enter Try.func5, Try.ntmps5
    go_wp2_with fail
    refine (new_mineI room H1.out (Below.refl _ _)).mono ?_
    rintro e w1 ⟨p, ch, rfl, hm⟩
    go_wp2_with fail
    refine (new_bad other H2.out w1).mono ?_
    rintro e w2 ⟨rfl, rfl⟩
    go_wp2_with fail
    refine (right_is room true (by simpa using H1.out) _).mono ?_
    rintro e w2 ⟨rfl, rfl⟩
    go_wp2_with fail
    refine (right_no other H2.out w1).mono ?_
    rintro e w2 ⟨rfl, rfl⟩
    go_wp2_with fail
    refine (known_any _).mono ?_
    rintro e w2 ⟨rfl, hb⟩
    go_wp2_with fail
    all_goals (go_ret; exact ⟨rfl, hm.below.trans (hb.mono hm.below.size)⟩)
  · have h1 : room < 0 ∨ 1024 < room := by omega
    have H1 := Lib.hid h1
    clear h1 hbad
    by_cases h2 : 0 ≤ other ∧ other ≤ 1024
    · have H2 := Lib.hid h2
      clear h2
      go_enter Try.func5, Try.ntmps5
      go_wp2_with fail
      refine (new_bad room H1.out w).mono ?_
      rintro e w1 ⟨rfl, rfl⟩
      go_wp2_with fail
      refine (new_mineI other H2.out (Below.refl _ _)).mono ?_
      rintro e w1 ⟨p, ch, rfl, hm⟩
      go_wp2_with fail
      refine (right_no room H1.out w1).mono ?_
      rintro e w2 ⟨rfl, rfl⟩
      go_wp2_with fail
      refine (known_any _).mono ?_
      rintro e w2 ⟨rfl, hb⟩
      go_wp2_with fail
      all_goals (go_ret; exact ⟨rfl, hm.below.trans (hb.mono hm.below.size)⟩)
    · have h2 : other < 0 ∨ 1024 < other := by omega
      have H2 := Lib.hid h2
      clear h2
      go_enter Try.func5, Try.ntmps5
      go_wp2_with fail
      refine (new_bad room H1.out w).mono ?_
      rintro e w1 ⟨rfl, rfl⟩
      go_wp2_with fail
      refine (new_bad other H2.out w).mono ?_
      rintro e w1 ⟨rfl, rfl⟩
      go_wp2_with fail
      refine (right_no room H1.out w).mono ?_
      rintro e w2 ⟨rfl, rfl⟩
      go_wp2_with fail
      refine (known_any _).mono ?_
      rintro e w2 ⟨rfl, hb⟩
      go_wp2_with fail
      all_goals (go_ret; exact ⟨rfl, hb⟩)
def fin (f : Nat → Int) (k : Nat) : List Int := (List.range k).map f
theorem fin_succ (f : Nat → Int) (k : Nat) : fin f (k + 1) = fin f k ++ [f k] := by
  unfold fin
  rw [List.range_succ, List.map_append]
  rfl
theorem fin_length (f : Nat → Int) (k : Nat) : (fin f k).length = k := by simp [fin]
set_option maxRecDepth 100000 in
set_option maxHeartbeats 4000000 in
theorem keeps_law (room other : Nat) (hroom : room ≤ 1024) (hother : other ≤ 1024) (most : Int) (b : Option Addr) (n c : Nat) (hn : n ≤ 9223372036854775807) (f : Nat → Int) (w : World) (hr : ReadsV w w.heap.size b n (intV f)) :
    Calls Try.prog 5 #[.int .i64 room, .int .i64 other, .slice b n c, .int .i64 most] w fun e w' => e = .returned (.bool true) ∧ Below w.heap.size w w' := by
  obtain ⟨i0, hi, hz0, hz1, hz2'⟩ := info_parts TINT
  have HR := Lib.hid hr
  clear hr
  go_enter Try.func5, Try.ntmps5
  go_wp2_with fail
  refine (new_mine room hroom (Below.refl _ _)).mono ?_
  rintro e w1 ⟨p, ch, rfl, hm⟩
  go_wp2_with fail
  refine (two_new (buf := []) other hother hroom hm).mono ?_
  rintro e w2 ⟨p2, c2, rfl, ht⟩
  go_wp2_with fail
  go_loopg [13, 14] n (fun d v i wr => ∃ k : Nat, d + k = n ∧ i = .int .i64 k ∧ Two w wr p ch room (fin f (min k room)) false p2 c2 other [] false ∧ wr.ownsRow w.heap.size 3 1 v (min k room) (iv (fin f (min k room))))
  case atStart => exact ⟨0, by omega, rfl, by simpa [fin] using ht, by simpa [fin, iv] using World.ownsRow_nil _ _ _ _⟩
  case round =>
    obtain ⟨k, hk, rfl, hm2, ho⟩ := hrel
    have HK := Lib.hid hk
    have hle : k ≤ n := by omega
    clear hk
    by_cases hlt : k < n
    · have hlt' : (k : Int) < n := by omega
      obtain ⟨ad, rfl, had, c0⟩ := (HR.out.below hm2.below (Nat.le_refl _)) k hlt
      replace c0 : wr.cell? (ad.add k) = some (.int .i64 (f k)) := c0
      by_cases hfull : k < room
      · have hmin : min k room = k := by omega
        have hmin' : min (k + 1) room = k + 1 := by omega
        rw [hmin] at hm2 ho
        have HO := Lib.hid ho
        obtain ⟨a, cp, rfl⟩ := own_slice ho
        clear ho
        have HM := Lib.hid hmin'
        have hkb : k ≤ 1024 := by omega
        clear hmin hmin'
        go_wp2_with (first
          | (go_at_call 12; refine (put1 (f k) hm2 (b := true) (by rw [fin_length]; simpa using hfull)).mono ?_; rintro e w2 ⟨rfl, hm3, kp⟩; rw [if_pos rfl, ← fin_succ] at hm3; have c1 := kp.cell c0 (fun e => by have := hm2.base _ e; rw [block_of_add] at this; omega); have HO1 := Lib.hid (hm2.own kp HO.out (by decide)); have z1 := hm3.below.size)
          | (at_builtin; refine wpList_append_own _ rfl _ _ 29 rfl w.heap.size 3 i0 _ 1 8 Try.underlying29 hi hz0 hz1 hz2' rfl (by decide) _ _ _ rfl (HO1.out.alloc _) ⟨w2.heap.size, 0, none⟩ 1 1 [.int .i64 (f k)] rfl rfl ?c1 ?c2 ?c3 ?c4 ?c5 ?_))
        case c1 => exact news1 _ _ _
        case c2 =>
          intro u hu
          simp only [List.mem_cons, List.not_mem_nil, or_false] at hu
          rw [hu]; rfl
        case c3 => unfold maxLen; omega
        case c4 => omega
        case c5 => simp; omega
        intro v' w3 hown hgrow _
        have kk := ((Kept.refl (fun g => Value.ownBlock (.slice a k cp) = some g) w2).alloc _).grown hgrow fun g hg _ => hg
        have hm4 := hm3.kept kk (fun g hg => (HO1.out.lt g hg).1) (fun g hx hg => hm3.apart HO1.out (by decide) g hg hx)
        have HO2 : w3.ownsRow w.heap.size 3 1 v' (k + 1) (iv (fin f (k + 1))) := by
          rw [fin_succ, iv_append]
          exact hown
        have HO3 := Lib.hid HO2
        clear hown hgrow kk HO2
        go_wp2
        go_roundg (n - (k + 1))
        case measure => have := HK.out; omega
        case rel => exact ⟨k + 1, by have := HK.out; omega, by go_num, by rw [HM.out]; exact hm4, by rw [HM.out]; exact HO3.out⟩
      · have hmin : min k room = room := by omega
        have hmin' : min (k + 1) room = room := by omega
        rw [hmin] at hm2 ho
        have HO := Lib.hid ho
        obtain ⟨a, cp, rfl⟩ := own_slice ho
        clear ho
        have HM := Lib.hid hmin'
        clear hmin hmin'
        go_wp2_with (go_at_call 12; refine (put1 (f k) hm2 (b := false) (by rw [fin_length]; simp)).mono ?_; rintro e w2 ⟨rfl, hm3, kp⟩; rw [if_neg (by simp)] at hm3; have HO1 := Lib.hid (hm2.own kp HO.out (by decide)))
        go_roundg (n - (k + 1))
        case measure => have := HK.out; omega
        case rel => exact ⟨k + 1, by have := HK.out; omega, by go_num, by rw [HM.out]; exact hm3, by rw [HM.out]; exact HO1.out⟩
    · have hkn : k = n := by omega
      subst hkn
      have hge : ¬ (k : Int) < k := by omega
      have hm1 : ∃ m, min k room = m ∧ m ≤ room ∧ m ≤ 1024 := ⟨_, rfl, by omega, by omega⟩
      obtain ⟨m, hmm, hmr, hmb⟩ := hm1
      rw [hmm] at hm2 ho
      have hL := fin_length f m
      have HO := Lib.hid ho
      obtain ⟨a, cp, rfl⟩ := own_slice ho
      obtain ⟨N, hN⟩ : ∃ N, moveN most (fin f m).length other ([] : List Int).length false = N := ⟨_, rfl⟩
      have hNm : N ≤ m := by rw [← hN, hL]; unfold moveN; omega
      have hNmost : N ≤ most.toNat := by rw [← hN]; unfold moveN; omega
      have HN := Lib.hid hN
      have HL := Lib.hid hL
      clear hlt ho hmm hL hN
      go_wp2_with fail
      refine (move1 most hm2 HN.out).mono ?_
      rintro e w3 ⟨rfl, hm3, k3⟩
      have HO3 := Lib.hid (hm2.own k3 HO.out (by decide))
      have t1 : (N : Int) + ((m - N : Nat) : Int) = m := by omega
      have t2 : (0 : Int) < N → (N : Int) ≤ most := fun h => by omega
      have hsl : ((fin f m).drop N).length = m - N := by rw [List.length_drop, HL.out]
      have htl : (([] : List Int) ++ (fin f m).take N).length = N := by rw [List.nil_append, List.length_take, HL.out]; omega
      have HSL := Lib.hid hsl
      have HTL := Lib.hid htl
      clear hsl htl
      go_wp2_with fail
      refine (len1 hm3.swap HTL.out).mono ?_
      rintro e w4 ⟨rfl, rfl⟩
      go_wp2_with fail
      refine (len1 hm3 HSL.out).mono ?_
      rintro e w4 ⟨rfl, rfl⟩
      have hpos : (0 : Int) < N ∧ (N : Int) ≤ most ∨ ¬ (0 : Int) < N := by omega
      rcases hpos with ⟨g1, g2⟩ | g1
      all_goals
        go_wp2_with fail
        refine (drain1 (N : Int) hm3.swap (k := N) (by rw [HTL.out]; unfold fewer; omega)).mono ?_
        rintro e w4 ⟨a2, cp2, rfl, hoa, hm4, k4⟩
        have HO4 := Lib.hid (hm3.swap.own k4 HO3.out (by decide))
        clear g1
        try clear g2
        try clear t2
        go_wp2_with fail
        refine (drain1 (room : Int) hm4.swap (k := m - N) (by rw [HSL.out]; unfold fewer; omega)).mono ?_
        rintro e w5 ⟨a3, cp3, rfl, hob, hm5, k5⟩
        have HO5 := Lib.hid (hm4.swap.own k5 HO4.out (by decide))
        have hRA := own_readsI (hm4.swap.own k5 hoa (by decide)) (by rw [List.length_take, HTL.out, Nat.min_self])
        have hRB := own_readsI hob (by rw [List.length_take, HSL.out, Nat.min_self])
        have hB5 := hm5.below
        have RA : Hid (ReadsV w5 w5.heap.size a2 N (intV (fun i => (fin f m).getD i 0))) := by
          intro i hi
          obtain ⟨ad, q1, q2, q3⟩ := hRA i hi
          refine ⟨ad, q1, q2, q3.trans ?_⟩
          simp only [intV, List.nil_append, List.getD_eq_getElem?_getD, List.getElem?_take, if_pos hi, if_pos (show i < N from hi)]
        have RB : Hid (ReadsV w5 w5.heap.size a3 (m - N) (intV (fun i => (fin f m).getD (N + i) 0))) := by
          intro i hi
          obtain ⟨ad, q1, q2, q3⟩ := hRB i hi
          refine ⟨ad, q1, q2, q3.trans ?_⟩
          simp only [intV, List.getD_eq_getElem?_getD, List.getElem?_take, if_pos hi, List.getElem?_drop]
        have HB5 := Lib.hid hB5
        clear hm3 hm4 hm5 hRA hRB hoa hob k3 k4 k5 hm2 ht hm hB5
        go_wp2_with fail
        go_loopg [16, 19] N (fun d v i wr => ∃ j : Nat, j + d = N ∧ i = .int .i64 j ∧ wr.ownsRow w5.heap.size 3 1 v j (iv ((fin f m).take j)) ∧ Below w5.heap.size w5 wr)
        case atStart => exact ⟨0, by omega, rfl, by simpa [iv] using World.ownsRow_nil _ _ _ _, .refl _ _⟩
        case round =>
          obtain ⟨j, hj, rfl, ho, hbw⟩ := hrel
          have HJ := Lib.hid hj
          have HO := Lib.hid ho
          obtain ⟨a4, cp4, rfl⟩ := own_slice ho
          have HBW := Lib.hid hbw
          have zw := hbw.size
          clear hj ho hbw
          by_cases hlt : j < N
          · all_goals try (exfalso; omega)
            all_goals
              have hlt' : (j : Int) < N := by omega
              obtain ⟨y, hy⟩ : ∃ y, (fin f m).getD j 0 = y := ⟨_, rfl⟩
              obtain ⟨ad, rfl, had, c0⟩ := (RA.out.below HBW.out (Nat.le_refl _)) j hlt
              replace c0 : wr.cell? (ad.add j) = some (.int .i64 y) := by rw [← hy]; exact c0
              have HTK : Hid ((fin f m).take (j + 1) = (fin f m).take (j) ++ [y]) := by
                show _ = _
                rw [List.take_add_one, ← hy, List.getD_eq_getElem?_getD, List.getElem?_eq_getElem (by rw [HL.out]; omega)]
                rfl
              clear hy
              go_wp2_with (at_builtin; refine wpList_append_own _ rfl _ _ 29 rfl w5.heap.size 3 i0 _ 1 8 Try.underlying29 hi hz0 hz1 hz2' rfl (by decide) _ _ _ rfl (HO.out.alloc _) ⟨wr.heap.size, 0, none⟩ 1 1 [.int .i64 y] rfl rfl ?c1 ?c2 ?c3 ?c4 ?c5 ?_)
              case c1 => exact news1 _ _ _
              case c2 =>
                intro u hu
                simp only [List.mem_cons, List.not_mem_nil, or_false] at hu
                rw [hu]; rfl
              case c3 => unfold maxLen; omega
              case c4 => omega
              case c5 => simp; omega
              intro v' w6 hown hgrow _
              have HB6 := Lib.hid ((HBW.out.alloc zw _).grown hgrow (by simp; omega) fun g hg => (HO.out.lt g hg).1)
              have HO2 : Hid (w6.ownsRow w5.heap.size 3 1 v' ((j + 1)) (iv ((fin f m).take ((j + 1))))) := by
                show World.ownsRow _ _ _ _ _ _ _
                rw [show (j + 1) = j + 1 by omega, HTK.out, iv_append]
                exact hown
              clear hown hgrow
              go_wp2_with fail
              go_roundg (N - (j + 1))
              case measure => have := HJ.out; omega
              case rel => exact ⟨j + 1, by have := HJ.out; omega, by go_num, HO2.out, HB6.out⟩
          · have hje : j = N := by have := HJ.out; omega
            have hge : ¬ (j : Int) < N := by omega
            have HJE := Lib.hid hje
            clear hje
            go_wp2_with fail
            go_loopg [16, 20] (m - N) (fun d v i wr => ∃ j : Nat, j + d = m - N ∧ i = .int .i64 j ∧ wr.ownsRow w5.heap.size 3 1 v (N + j) (iv ((fin f m).take (N + j))) ∧ Below w5.heap.size w5 wr)
            case atStart => exact ⟨0, by omega, rfl, by have h := HO.out; rw [HJE.out] at h ⊢; exact h, HBW.out⟩
            case round =>
              clear HO HBW zw hlt hge HJ HJE
              obtain ⟨j, hj, rfl, ho, hbw⟩ := hrel
              have HJ := Lib.hid hj
              have HO := Lib.hid ho
              obtain ⟨a4, cp4, rfl⟩ := own_slice ho
              have HBW := Lib.hid hbw
              have zw := hbw.size
              clear hj ho hbw
              by_cases hlt : j < (m - N)
              · have hlt' : (j : Int) < ((m - N : Nat) : Int) := by omega
                obtain ⟨y, hy⟩ : ∃ y, (fin f m).getD (N + j) 0 = y := ⟨_, rfl⟩
                obtain ⟨ad, rfl, had, c0⟩ := (RB.out.below HBW.out (Nat.le_refl _)) j hlt
                replace c0 : wr.cell? (ad.add j) = some (.int .i64 y) := by rw [← hy]; exact c0
                have HTK : Hid ((fin f m).take (N + j + 1) = (fin f m).take (N + j) ++ [y]) := by
                  show _ = _
                  rw [List.take_add_one, ← hy, List.getD_eq_getElem?_getD, List.getElem?_eq_getElem (by rw [HL.out]; omega)]
                  rfl
                clear hy
                go_wp2_with (at_builtin; refine wpList_append_own _ rfl _ _ 29 rfl w5.heap.size 3 i0 _ 1 8 Try.underlying29 hi hz0 hz1 hz2' rfl (by decide) _ _ _ rfl (HO.out.alloc _) ⟨wr.heap.size, 0, none⟩ 1 1 [.int .i64 y] rfl rfl ?c1 ?c2 ?c3 ?c4 ?c5 ?_)
                case c1 => exact news1 _ _ _
                case c2 =>
                  intro u hu
                  simp only [List.mem_cons, List.not_mem_nil, or_false] at hu
                  rw [hu]; rfl
                case c3 => unfold maxLen; omega
                case c4 => omega
                case c5 => simp; omega
                intro v' w6 hown hgrow _
                have HB6 := Lib.hid ((HBW.out.alloc zw _).grown hgrow (by simp; omega) fun g hg => (HO.out.lt g hg).1)
                have HO2 : Hid (w6.ownsRow w5.heap.size 3 1 v' (N + (j + 1)) (iv ((fin f m).take (N + (j + 1))))) := by
                  show World.ownsRow _ _ _ _ _ _ _
                  rw [show N + (j + 1) = N + j + 1 by omega, HTK.out, iv_append]
                  exact hown
                clear hown hgrow
                go_wp2_with fail
                go_roundg ((m - N) - (j + 1))
                case measure => have := HJ.out; omega
                case rel => exact ⟨j + 1, by have := HJ.out; omega, by go_num, HO2.out, HB6.out⟩
              · have hje : j = (m - N) := by have := HJ.out; omega
                have hge : ¬ (j : Int) < ((m - N : Nat) : Int) := by omega
                have HJE := Lib.hid hje
                clear hje
                go_wp2_with fail
                have hbe : N + j = m := by have := HJE.out; omega
                have HW : Hid (wr.ownsRow w5.heap.size 3 1 (.slice a4 m cp4) m (iv (fin f m))) := by
                  have h := HO.out
                  rw [hbe] at h
                  rw [List.take_of_length_le (by rw [HL.out]; exact Nat.le_refl _)] at h
                  exact h
                have HO6 := Lib.hid (own_below HO5.out HBW.out (fun g hg => (HO5.out.lt g hg).2))
                rw [hbe]
                refine (samei_any wr (by omega) (own_readsI HW.out HL.out) (own_readsI HO6.out HL.out)).mono ?_
                rintro e w7 ⟨rfl, k7⟩
                go_wp2_with fail
                refine (known_any _).mono ?_
                rintro e w8 ⟨rfl, hb⟩
                go_wp2_with fail
                have z5 := HB5.out.size
                have b7 : Below w.heap.size w w7 := (HB5.out.trans (HBW.out.mono z5)).trans (k7.below (by omega) (fun g hg => hg.elim))
                go_ret
                exact ⟨rfl, b7.trans (hb.mono b7.size)⟩
end Go.Proofs.Ytggeafmbemmbpaa.Sp
namespace Go.Proofs.Ytggeafmbemmbpaa.SpoolKeeps
open Go.RowKit Sp
set_option linter.unusedVariables false
theorem law (room : Int) (h1 : -9223372036854775808 ≤ room) (h2 : room ≤ 9223372036854775807) (other : Int) (h3 : -9223372036854775808 ≤ other) (h4 : other ≤ 9223372036854775807) (b : Option Addr) (n c : Nat) (hn : n ≤ 9223372036854775807) (f : Nat → Int) (most : Int) (h5 : -9223372036854775808 ≤ most) (h6 : most ≤ 9223372036854775807) (w : World) (hr : ReadsV w w.heap.size b n (intV f)) :
    Calls Try.prog 5 #[.int .i64 room, .int .i64 other, .slice b n c, .int .i64 most] w fun e w' => e = .returned (.bool true) ∧ Below w.heap.size w w' := by
  by_cases hb : ¬ (0 ≤ room ∧ room ≤ 1024) ∨ ¬ (0 ≤ other ∧ other ≤ 1024)
  · exact keeps_bad room other most hb b n c w
  · obtain ⟨r, rfl⟩ : ∃ r : Nat, room = r := ⟨room.toNat, by omega⟩
    obtain ⟨o, rfl⟩ : ∃ o : Nat, other = o := ⟨other.toNat, by omega⟩
    exact keeps_law r o (by omega) (by omega) most b n c hn f w hr
end Go.Proofs.Ytggeafmbemmbpaa.SpoolKeeps
