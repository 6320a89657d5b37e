/-
  THE WALK of the law NumTurns: an operator is among the others of each of its others.
-/
import Derived.Test.YtagflojdkanpmaaDoorNumNamesW
namespace Go.Proofs.YtagflojdkanpmaaDoor.NumTurns
open Go.RowKit Pl Ar Dx Kn Ot Tb Nm Sm
set_option linter.unusedVariables false

def isRel (x : Int) : Bool := decide (6 ≤ x) && decide (x ≤ 11)
theorem rel_val {x : Int} {r : Bool} (h : isRel x = r) (w : World) : Calls Tryd.prog 18 #[.int .i64 x] w fun e w' => e = .returned (.bool r) ∧ w' = w := by
  cases r
  · have hx : x < 6 ∨ 11 < x := by
      simp only [isRel, Bool.and_eq_false_iff, decide_eq_false_iff_not] at h; omega
    exact (rel_no x w hx).mono fun e w' h => ⟨h.1, h.2.symm⟩
  · simp only [isRel, Bool.and_eq_true, decide_eq_true_eq] at h
    exact (rel_yes x w h.1 h.2).mono fun e w' h => ⟨h.1, h.2.symm⟩
theorem name_val (x : Int) (w : World) (hn : NamesAt w) : Calls Tryd.prog 14 #[.int .i64 x] w fun e w' => e = .returned (.string ⟨(nameOf x).toArray⟩) ∧ w' = w :=
  (name_any x w hn).mono fun e w' h => ⟨h.1.1, h.2.symm⟩
theorem op_val {x : Int} (h : opOf (nameOf x) = x) (w : World) : Calls Tryd.prog 16 #[.string ⟨(nameOf x).toArray⟩] w fun e w' => e = .returned (.int .i64 x) ∧ w' = w :=
  (op_any ⟨(nameOf x).toArray⟩ w).mono fun e w' hp => ⟨by have := hp.1.1; rw [this]; simp [h], hp.2.symm⟩
theorem known_same (w : World) (hn : NamesAt w) : Calls Tryd.prog 13 #[] w fun e w' => e = .returned (.bool true) ∧ w' = w :=
  (known_any w (NumDoes.known_at hn)).mono fun e w' h => ⟨h.1, h.2.symm⟩

theorem table : ([1, 2, 3, 4, 5, 6, 7, 8, 9, 10, 11].all fun op : Int => decide (0 < (others op).length) && (others op).all fun x => (others x).contains op && !(x == op) && (isRel x == isRel op) && (opOf (nameOf x) == x) && decide (0 < (others x).length) && decide ((others x).length ≤ 6)) = true := by decide
theorem of_table {op : Int} (h1 : 1 ≤ op) (h2 : op ≤ 11) : 0 < (others op).length ∧ ∀ x, x ∈ others op → (others x).contains op = true ∧ ¬ x = op ∧ isRel x = isRel op ∧ opOf (nameOf x) = x ∧ 0 < (others x).length ∧ (others x).length ≤ 6 := by
  have hm : op ∈ ([1, 2, 3, 4, 5, 6, 7, 8, 9, 10, 11] : List Int) := by
    rcases op_cases op (by omega) with rfl | rfl | rfl | rfl | rfl | rfl | rfl | rfl | rfl | rfl | rfl <;> decide
  have h := List.all_eq_true.1 table op hm
  simp only [Bool.and_eq_true, decide_eq_true_eq] at h
  refine ⟨h.1, fun x hx => ?_⟩
  have g := List.all_eq_true.1 h.2 x hx
  simp only [Bool.and_eq_true, decide_eq_true_eq, beq_iff_eq, Bool.not_eq_true', beq_eq_false_iff_ne] at g
  exact ⟨g.1.1.1.1.1, g.1.1.1.1.2, g.1.1.1.2, g.1.1.2, g.1.2, g.2⟩
theorem others_le (op : Int) : (others op).length ≤ 6 := by
  unfold others
  split
  · simp
  · split
    · have := upTo_len 1 op 5; omega
    · exact upTo_len 6 op 6
theorem nameOf_some {op : Int} (h1 : 1 ≤ op) (h2 : op ≤ 11) : (nameOf op).isEmpty = false ∧ (nameOf op == []) = false := by
  rcases op_cases op (by omega) with rfl | rfl | rfl | rfl | rfl | rfl | rfl | rfl | rfl | rfl | rfl <;> decide
def bk (l : List Int) (j : Nat) (op : Int) : Bool := (l.take j).contains op
theorem bk_succ (l : List Int) (j : Nat) (op : Int) (h : j < l.length) : bk l (j + 1) op = (bk l j op || (l.getD j 0 == op)) := by
  unfold bk
  rw [List.take_succ_eq_append_getElem h, List.contains_eq_any_beq, List.any_append, ← List.contains_eq_any_beq]
  simp only [List.any_cons, List.any_nil, Bool.or_false, List.getD_eq_getElem?_getD, List.getElem?_eq_getElem h, Option.getD_some]
  rw [Bool.beq_comm (a := op)]
theorem bk_end (l : List Int) (op : Int) (h : l.contains op = true) : bk l l.length op = true := by unfold bk; rw [List.take_length]; exact h

set_option maxHeartbeats 4000000 in
theorem law_yes (op : Int) (h1 : 1 ≤ op) (h2 : op ≤ 11) (w : World) (hn : NamesAt w) :
    Calls Tryd.prog 10 #[.int .i64 op] w fun e w' => e = .returned (.bool true) ∧ Below w.heap.size w w' := by
  have HN := Lib.hid hn
  have HT := Lib.hid (of_table h1 h2)
  have hln := others_le op
  clear hn
  go_enter Tryd.func10, Tryd.ntmps10
  go_wp2_with fail
  refine (others_any op _).mono ?_
  rintro e w1 ⟨v1, rfl, o1, hb1⟩
  have O1 := Lib.hid o1
  obtain ⟨a1, c1, rfl, _, k1⟩ := shows_of o1
  obtain ⟨g, rfl, K1⟩ := k1 HT.out.1
  have hg := owns_lt O1.out _ _ _ rfl
  have HB1 := Lib.hid hb1
  have HK := Lib.hid K1
  have Hg := Lib.hid hg
  clear o1 hb1 K1 hg
  obtain ⟨n, hN⟩ : ∃ n, (others op).length = n := ⟨_, rfl⟩
  have HNn := Lib.hid hN
  rw [hN] at hln ⊢
  clear hN
  go_wp2_with fail
  go_loopw [4] (fun i wr => ∃ k : Nat, k ≤ n ∧ i = .int .i64 k ∧ Below w1.heap.size w1 wr) (fun i _ => n - (intOf i).toNat)
  case atStart => exact ⟨0, by omega, rfl, Below.refl _ _⟩
  case round =>
    obtain ⟨k, hk, rfl, hbr⟩ := hrel
    have HBR := Lib.hid hbr
    clear hbr
    by_cases hlt : k < n
    · obtain ⟨x, hx⟩ : ∃ x, (others op).getD k 0 = x := ⟨_, rfl⟩
      have hxm : x ∈ others op := by
        rw [← hx, List.getD_eq_getElem?_getD, List.getElem?_eq_getElem (by rw [HNn.out]; exact hlt)]
        exact List.getElem_mem _
      have hq : wr.cell? ⟨g, k, none⟩ = some (.int .i64 x) := by
        rw [HBR.out.cell (p := ⟨g, k, none⟩) Hg.out, HK.out k (by rw [HNn.out]; exact hlt), hx]
      obtain ⟨t1, t2, t3, t4, t5, t6⟩ := HT.out.2 x hxm
      have T1 := Lib.hid t1
      have T4 := Lib.hid t4
      have hne : (x == op) = false := beq_eq_false_iff_ne.2 t2
      obtain ⟨r, hr⟩ : ∃ r, isRel op = r := ⟨_, rfl⟩
      have HO := Lib.hid hr
      have HX := Lib.hid (t3.trans hr)
      clear hx hxm t1 t2 t3 t4 hr
      go_wp2_with fail
      refine (others_any x _).mono ?_
      rintro e w2 ⟨v2, rfl, o2, hb2⟩
      have O2 := Lib.hid o2
      obtain ⟨a2, c2, rfl, _, k2⟩ := shows_of o2
      obtain ⟨g2, rfl, K2⟩ := k2 t5
      have HK2 := Lib.hid K2
      have HB2 := Lib.hid hb2
      have hq2 : w2.cell? ⟨g, k, none⟩ = some (.int .i64 x) := by
        rw [hb2.cell (p := ⟨g, k, none⟩) (Nat.lt_of_lt_of_le Hg.out HBR.out.size)]; exact hq
      have HN2 := Lib.hid (NumNames.names_below HN.out (HB1.out.trans ((HBR.out.mono HB1.out.size).trans (hb2.mono (Nat.le_trans HB1.out.size HBR.out.size)))))
      clear o2 hb2 K2 hq
      obtain ⟨m, hM⟩ : ∃ m, (others x).length = m := ⟨_, rfl⟩
      have HM := Lib.hid hM
      rw [hM] at t5 t6 ⊢
      clear hM
      go_wp2_with fail
      go_loop [5, 7] (fun b i => ∃ j : Nat, j ≤ m ∧ i = .int .i64 j ∧ b = .bool (bk (others x) j op)) (fun _ i => m - (intOf i).toNat)
      case atStart => exact ⟨0, by omega, rfl, by simp [bk]⟩
      case round =>
        obtain ⟨j, hj, rfl, rfl⟩ := hrel
        by_cases hjm : j < m
        · obtain ⟨B, hB⟩ : ∃ B, bk (others x) j op = B := ⟨_, rfl⟩
          have HB := Lib.hid hB
          rw [hB]
          clear hB
          have q2 := HK2.out j (by rw [HM.out]; exact hjm)
          have HS := Lib.hid (bk_succ (others x) j op (by rw [HM.out]; exact hjm))
          obtain ⟨y, hy⟩ : ∃ y, (others x).getD j 0 = y := ⟨_, rfl⟩
          rw [hy] at q2
          have HY := Lib.hid hy
          clear hy
          cases B
          · by_cases he : y = op
            · have he2 : (y == op) = true := beq_iff_eq.2 he
              have HE := Lib.hid he
              clear he
              go_wp2
              go_round
              case rel => exact ⟨j + 1, by omega, by go_num, by rw [HS.out, HB.out, HY.out, HE.out]; simp⟩
              case measure => simp [intOf]; omega
            · have he2 : (y == op) = false := beq_eq_false_iff_ne.2 he
              go_wp2
              go_round
              case rel => exact ⟨j + 1, by omega, by go_num, by rw [HS.out, HB.out, HY.out, he2]; rfl⟩
              case measure => simp [intOf]; omega
          · go_wp2
            go_round
            case rel => exact ⟨j + 1, by omega, by go_num, by rw [HS.out, HB.out]; rfl⟩
            case measure => simp [intOf]; omega
        · have hjm2 : j = m := by omega
          have hbk : bk (others x) j op = true := by rw [hjm2, ← HM.out]; exact bk_end _ _ T1.out
          rw [hbk]
          clear hbk hjm2
          have hk3 : (k : Int) < (n : Int) := by omega
          go_wp2_with fail
          go_quiet ((first | (go_at_call 18; first | exact Calls.quiet_of_same (rel_val HX.out _) | exact Calls.quiet_of_same (rel_val HO.out _)) | (go_at_call 14; exact Calls.quiet_of_same (name_val _ _ (NumNames.names_below HN2.out (below_drewN (Below.refl _ _) _)))) | (go_at_call 16; exact Calls.quiet_of_same (op_val T4.out _))))
          go_wp2
          go_roundw
          case rel => exact ⟨k + 1, by omega, by go_num, below_drewN (HBR.out.trans (HB2.out.mono HBR.out.size)) _⟩
          case measure => simp [intOf]; omega
    · have hkn : k = n := by omega
      have h0n : 0 < n := by rw [← HNn.out]; exact HT.out.1
      have hn0 : ((n : Int) == 0) = false := beq_eq_false_iff_ne.2 (by omega)
      have HN2 := Lib.hid (NumNames.names_below HN.out (HB1.out.trans (HBR.out.mono HB1.out.size)))
      have HBE := Lib.hid (HB1.out.trans (HBR.out.mono HB1.out.size))
      clear hkn
      have HL := Lib.hid (nameOf_some h1 h2)
      go_wp2_with fail
      refine (name_any op _ HN2.out).mono ?_
      rintro e w' ⟨⟨rfl, _⟩, rfl⟩
      obtain ⟨L, hL⟩ : ∃ L, nameOf op = L := ⟨_, rfl⟩
      rw [hL]
      have l1 : L.isEmpty = false := by rw [← hL]; exact HL.out.1
      have l2 : (L == []) = false := by rw [← hL]; exact HL.out.2
      clear hL
      go_wp2_with (go_at_call 13; refine (known_same _ HN2.out).mono ?_; rintro e w' ⟨rfl, rfl⟩)
      go_ret
      exact ⟨rfl, HBE.out⟩

set_option maxHeartbeats 1000000 in
theorem law_no (op : Int) (h : op < 1 ∨ 11 < op) (w : World) (hn : NamesAt w) :
    Calls Tryd.prog 10 #[.int .i64 op] w fun e w' => e = .returned (.bool true) ∧ Below w.heap.size w w' := by
  have HN := Lib.hid hn
  have ho : others op = [] := by unfold others; rw [if_pos h]
  have hm : nameOf op = [] := by unfold nameOf; rw [if_pos h]
  have HO := Lib.hid ho
  have HM := Lib.hid hm
  clear hn h ho hm
  go_enter Tryd.func10, Tryd.ntmps10
  go_wp2_with fail
  refine (others_any op _).mono ?_
  rintro e w1 ⟨v1, rfl, o1, hb1⟩
  obtain ⟨a1, c1, rfl, _, k1⟩ := shows_of o1
  rw [HO.out] at k1 ⊢
  have HB1 := Lib.hid hb1
  have HN1 := Lib.hid (NumNames.names_below HN.out hb1)
  clear o1 hb1 k1
  go_wp2_with fail
  refine wp_loop_rounds 1 ?_
  rw [rounds_succ]
  go_wp2_with fail
  refine (name_any op _ HN1.out).mono ?_
  rintro e w' ⟨⟨rfl, _⟩, rfl⟩
  rw [HM.out]
  go_wp2_with (go_at_call 13; refine (known_same _ HN1.out).mono ?_; rintro e w' ⟨rfl, rfl⟩)
  go_ret
  exact ⟨rfl, HB1.out⟩
theorem law (op : Int) (_ : -9223372036854775808 ≤ op) (_ : op ≤ 9223372036854775807) (w : World) (hn : NamesAt w) :
    Calls Tryd.prog 10 #[.int .i64 op] w fun e w' => e = .returned (.bool true) ∧ Below w.heap.size w w' := by
  by_cases h : op < 1 ∨ 11 < op
  · exact law_no op h w hn
  · exact law_yes op (by omega) (by omega) w hn
end Go.Proofs.YtagflojdkanpmaaDoor.NumTurns
