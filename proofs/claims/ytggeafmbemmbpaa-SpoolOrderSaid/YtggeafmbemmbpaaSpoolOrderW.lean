/-
  The walk of 'changelinglaw03.SpoolOrder'.
-/
import Derived.Test.YtggeafmbemmbpaaSpMine
import Derived.Test.YtggeafmbemmbpaaSsK
import Derived.Test.YtggeafmbemmbpaaSpEq
namespace Go.Proofs.Ytggeafmbemmbpaa.Sp
open Go.RowKit Go.Conc Mm Ln
set_option linter.unusedVariables false
set_option linter.unusedSimpArgs false
theorem vals_mem (V : Nat → Value) : ∀ d k u, u ∈ vals V k d → ∃ j, j < d ∧ u = V (k + j)
  | 0, _, _, h => by simp [vals] at h
  | d + 1, k, u, h => by
    rcases List.mem_cons.1 h with rfl | h
    · exact ⟨0, by omega, rfl⟩
    · obtain ⟨j, hj, rfl⟩ := vals_mem V d (k + 1) u h
      exact ⟨j + 1, by omega, by rw [Nat.add_assoc, Nat.add_comm 1 j]⟩
set_option maxRecDepth 100000 in
set_option maxHeartbeats 4000000 in
theorem order_bad (room : Int) (hbad : room < 0 ∨ 1024 < room) (b : Option Addr) (n c : Nat) (w : World) :
    Calls Try.prog 4 #[.int .i64 room, .slice b n c] w fun e w' => e = .returned (.bool true) ∧ Below w.heap.size w w' := by
  have HB := Lib.hid hbad
  clear hbad
  go_enter Try.func4, Try.ntmps4
  go_wp2_with (first
    | (go_at_call 22; refine (Ss.new_bad room HB.out w).mono ?_; rintro e w1 ⟨rfl, rfl⟩)
    | (go_at_call 9; refine (right_no room HB.out _).mono ?_; rintro e w1 ⟨rfl, rfl⟩)
    | (go_at_call 10; refine (known_any _).mono ?_; rintro e w2 ⟨rfl, hb⟩))
  all_goals (go_ret; exact ⟨rfl, hb⟩)
set_option maxRecDepth 100000 in
set_option maxHeartbeats 4000000 in
theorem order_law (room : Nat) (hroom : room ≤ 1024) (b : Option Addr) (n c : Nat) (hn : n ≤ 9223372036854775807) (f : Nat → ByteArray) (w : World) (hr : ReadsV w w.heap.size b n (strV f)) :
    Calls Try.prog 4 #[.int .i64 room, .slice b n c] w fun e w' => e = .returned (.bool true) ∧ Below w.heap.size w w' := by
  obtain ⟨i0, hi, hz0, hz1, hz2'⟩ := info_parts Ss.TINT
  have HR := Lib.hid hr
  clear hr
  go_enter Try.func4, Try.ntmps4
  go_wp2_with (go_at_call 22; refine (Ss.new_mine room hroom (Below.refl _ _)).mono ?_; rintro e w1 ⟨p, ch, rfl, hm⟩)
  go_loopg [7, 8] n (fun d v i wr => ∃ k : Nat, d + k = n ∧ i = .int .i64 k ∧ Ss.Mine w wr Ss.TI p ch room (vals (strV f) 0 (min k room)) false ∧ wr.ownsRow w.heap.size 9 1 v (min k room) (vals (strV f) 0 (min k room)))
  case atStart => exact ⟨0, by omega, rfl, by simpa [vals] using hm, by simpa [vals] using World.ownsRow_nil _ _ _ _⟩
  case round =>
    obtain ⟨k, hk, rfl, hm2, ho⟩ := hrel
    have HK := Lib.hid hk
    have hle : k ≤ n := by omega
    clear hk
    by_cases hlt : k < n
    · have hlt' : (k : Int) < n := by omega
      obtain ⟨ad, rfl, had, c0⟩ := (HR.out.below hm2.below (Nat.le_refl _)) k hlt
      replace c0 : wr.cell? (ad.add k) = some (.string (f k)) := c0
      by_cases hfull : k < room
      · have hmin : min k room = k := by omega
        have hmin' : min (k + 1) room = k + 1 := by omega
        rw [hmin] at hm2 ho
        have HO := Lib.hid ho
        obtain ⟨a, cp, rfl⟩ := own_slice ho
        clear ho
        have HM := Lib.hid hmin'
        have hlr : ¬ ((room : Int) < (k : Int) + 1) := by omega
        have hkb : k ≤ 1024 := by omega
        clear hmin hmin'
        go_wp2_with (first
          | (go_at_call 23; refine (Ss.put_inK (f k) hm2 (by rw [vals_length]; exact hfull)).mono ?_; rintro e w2 ⟨rfl, hm3, kp⟩; have c1 := kp.cell c0 (fun e => by have := hm2.hc; have e : (ad.add k).block = ch := e; rw [block_of_add] at e; omega); have HO1 := Lib.hid (hm2.own kp HO.out (by decide)); have z1 := hm3.below.size)
          | (go_at_call 24; refine (Ss.len_mine hm4).mono ?_; rw [vals_length]; rintro e w4 ⟨rfl, rfl⟩)
          | (at_builtin; refine wpList_append_own _ rfl _ _ 49 rfl w.heap.size 9 i0 _ 1 16 Try.underlying49 hi hz0 hz1 hz2' rfl (by decide) _ _ _ rfl (HO1.out.alloc _) ⟨w2.heap.size, 0, none⟩ 1 1 [.string (f k)] rfl rfl ?c1 ?c2 ?c3 ?c4 ?c5 ?_))
        case c1 => exact Ss.news1 _ _ _
        case c2 =>
          intro u hu
          simp only [List.mem_cons, List.not_mem_nil, or_false] at hu
          rw [hu]; rfl
        case c3 => unfold maxLen; omega
        case c4 => omega
        case c5 => simp; omega
        intro v' w3 hown hgrow _
        have kk := ((Kept.refl (fun g => Value.ownBlock (.slice a k cp) = some g) w2).alloc _).grown hgrow fun g hg _ => hg
        have hs3 := hm3.sp.kept kk (fun hg => hm3.sp.own HO1.out (by decide) _ hg (.inr rfl)) (fun hg => hm3.sp.own HO1.out (by decide) _ hg (.inl rfl))
        have hm4 : Ss.Mine w w3 Ss.TI p ch room (vals (strV f) 0 (k + 1)) false := by
          rw [vals_end, Nat.zero_add]
          exact ⟨hs3, hm3.hp, hm3.hc, hm3.below.trans (kk.below z1 fun g hg => (HO1.out.lt g hg).1)⟩
        have HO2 : w3.ownsRow w.heap.size 9 1 v' (k + 1) (vals (strV f) 0 (k + 1)) := by
          rw [vals_end, Nat.zero_add]
          exact hown
        obtain ⟨a2, cp2, rfl⟩ := own_slice HO2
        have HO3 := Lib.hid HO2
        clear hown hgrow kk HO2
        go_wp2_with (go_at_call 24; refine (Ss.len_mine hm4).mono ?_; rw [vals_length]; rintro e w4 ⟨rfl, rfl⟩)
        go_roundg (n - (k + 1))
        case measure => have := HK.out; omega
        case rel => exact ⟨k + 1, by have := HK.out; omega, by go_num, by rw [HM.out]; exact hm4, by rw [HM.out]; exact HO3.out⟩
      · have hmin : min k room = room := by omega
        have hmin' : min (k + 1) room = room := by omega
        rw [hmin] at hm2 ho
        have HO := Lib.hid ho
        obtain ⟨a, cp, rfl⟩ := own_slice ho
        clear ho
        have HM := Lib.hid hmin'
        clear hmin hmin'
        go_wp2_with (first
          | (go_at_call 23; refine (Ss.put_notK (f k) hm2 (.inr (by rw [vals_length]; omega))).mono ?_; rintro e w2 ⟨rfl, hm3, kp⟩; have HO1 := Lib.hid (hm2.own kp HO.out (by decide)))
          | (go_at_call 24; refine (Ss.len_mine hm3).mono ?_; rw [vals_length]; rintro e w4 ⟨rfl, rfl⟩))
        go_roundg (n - (k + 1))
        case measure => have := HK.out; omega
        case rel => exact ⟨k + 1, by have := HK.out; omega, by go_num, by rw [HM.out]; exact hm3, by rw [HM.out]; exact HO1.out⟩
    · have hkn : k = n := by omega
      subst hkn
      have hge : ¬ (k : Int) < k := by omega
      have hone : ∀ m, ∀ u ∈ vals (strV f) 0 m, ∃ x, u = Value.string x := fun m u hu => by
        obtain ⟨j, hj, rfl⟩ := vals_mem _ _ _ _ hu
        exact ⟨_, rfl⟩
      have hm1 : ∃ m, min k room = m ∧ m ≤ room ∧ m ≤ 1024 ∧ (m = k ∧ k < room ∨ m = room ∧ room ≤ k) := ⟨_, rfl, by omega, by omega, by omega⟩
      obtain ⟨m, hmm, hmr, hmb, hcase⟩ := hm1
      rw [hmm] at hm2 ho
      have HO := Lib.hid ho
      obtain ⟨a, cp, rfl⟩ := own_slice ho
      have HF : Hid (Ss.fewer (room : Int) (vals (strV f) 0 m).length = m) := by rw [vals_length]; unfold Ss.fewer; show _ = _; omega
      have HT : Hid ((vals (strV f) 0 m).take m = vals (strV f) 0 m) := by show _ = _; rw [vals_take, Nat.min_self]
      have HD : Hid ((vals (strV f) 0 m).drop m = []) := by show _ = _; rw [vals_drop, Nat.sub_self]; rfl
      have hm63 : m ≤ 9223372036854775807 := by omega
      clear hlt ho hmm
      have hc2 : (m = k ∧ (k : Int) < room) ∨ (m = room ∧ (room : Int) ≤ k) := by omega
      clear hcase
      rcases hc2 with ⟨rfl, hlr⟩ | ⟨rfl, hlr⟩
      all_goals
        go_wp2_with (first
          | (go_at_call 26; refine (Ss.drain_any _ wr hm2.sp (by rw [vals_length]; exact hmb) (hone _)).mono ?_; rintro e w2 ⟨v, rfl, hv, hs2, kp⟩; rw [HF.out] at hv hs2; rw [HT.out] at hv; rw [HD.out] at hs2; obtain ⟨a2, cp2, rfl⟩ := own_slice hv; have HV := Lib.hid hv; have HO2 := Lib.hid (hm2.own kp HO.out (by decide)); have hm3 := hm2.step kp (fun k hk => .inl hk) hs2; clear hv hs2)
          | (go_at_call 25; refine (samet_any w2 hm63 (own_reads HV.out) (own_reads HO2.out)).mono ?_; rintro e w3 ⟨rfl, k3⟩; have hm4 := hm3.step k3 (fun k hk => hk.elim) (hm3.sp.kept k3 (fun h => h) (fun h => h)))
          | (go_at_call 24; refine (Ss.len_mine hm4).mono ?_; rintro e w4 ⟨rfl, rfl⟩)
          | (go_at_call 10; refine (known_any _).mono ?_; rintro e w5 ⟨rfl, hb⟩))
        all_goals (go_ret; exact ⟨rfl, hm4.below.trans (hb.mono hm4.below.size)⟩)
end Go.Proofs.Ytggeafmbemmbpaa.Sp
namespace Go.Proofs.Ytggeafmbemmbpaa.SpoolOrder
open Go.RowKit Sp
set_option linter.unusedVariables false
theorem law (room : Int) (h1 : -9223372036854775808 ≤ room) (h2 : room ≤ 9223372036854775807) (b : Option Addr) (n c : Nat) (hn : n ≤ 9223372036854775807) (f : Nat → ByteArray) (w : World) (hr : ReadsV w w.heap.size b n (strV f)) :
    Calls Try.prog 4 #[.int .i64 room, .slice b n c] w fun e w' => e = .returned (.bool true) ∧ Below w.heap.size w w' := by
  by_cases hb : room < 0 ∨ 1024 < room
  · exact order_bad room hb b n c w
  · obtain ⟨r, rfl⟩ : ∃ r : Nat, room = r := ⟨room.toNat, by omega⟩
    exact order_law r (by omega) b n c hn f w hr
end Go.Proofs.Ytggeafmbemmbpaa.SpoolOrder
