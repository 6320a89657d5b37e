/-
  CONTRACTS: the other operators of a kind: num.Others and the document's own (changelingref01.Others) both tell the list 'others'; what tells operators and relations.
-/
import Derived.Test.YtagflojdkanpmaaDoorRdo
namespace Go.Proofs.YtagflojdkanpmaaDoor.Ot
open Go.RowKit Pl Ar Dx
set_option linter.unusedVariables false

theorem Tint : (Tryd.prog.info? 3).map (fun i => (i.zero, i.size, i.bytes)) = some (some (.int .i64 0), 1, 8) := by kernel_rfl

/-- ints that a call's own slice holds -/
abbrev Owns (w : World) (B : Nat) (v : Value) (l : List Int) : Prop := w.ownsRow B 3 1 v l.length (l.map (Value.int .i64))
theorem push {B : Nat} {w wr w1 : World} {v v' : Value} {l : List Int} {x : Int} {o : Obj} (hB : B ≤ wr.heap.size) (hnx : Below B w wr) (hown : Owns wr B v l)
    (hown' : w1.ownsRow B 3 1 v' (l.length + 1) (l.map (Value.int .i64) ++ [.int .i64 x])) (hgrow : (wr.alloc o).grownBy w1 v.ownBlock) : Owns w1 B v' (l ++ [x]) ∧ Below B w w1 := by
  refine ⟨by simpa [Owns] using hown', (hnx.alloc hB o).grown hgrow (by simp; omega) (fun j hj => by have := (hown.lt j hj).1; omega)⟩

/-- of the numbers a, a + 1, .. those of the first n that are not op -/
def upTo (a : Int) (op : Int) : Nat → List Int
  | 0 => []
  | n + 1 => if a + n = op then upTo a op n else upTo a op n ++ [a + n]
theorem upTo_len (a op : Int) (n : Nat) : (upTo a op n).length ≤ n := by
  induction n with
  | zero => simp [upTo]
  | succ n ih =>
    unfold upTo
    split
    · omega
    · simp; omega
theorem upTo_hit {a op : Int} {n : Nat} (h : a + n = op) : upTo a op (n + 1) = upTo a op n := by show (if _ then _ else _) = _; rw [if_pos h]
theorem upTo_miss {a op : Int} {n : Nat} (h : ¬ a + n = op) : upTo a op (n + 1) = upTo a op n ++ [a + n] := by show (if _ then _ else _) = _; rw [if_neg h]
/-- the other operators of an operator's kind -/
def others (op : Int) : List Int := if op < 1 ∨ 11 < op then [] else if op < 6 then upTo 1 op 5 else upTo 6 op 6

theorem isop_yes (op : Int) (w : World) (h1 : 1 ≤ op) (h2 : op ≤ 11) : Calls Tryd.prog 28 #[.int .i64 op] w fun e w' => e = .returned (.bool true) ∧ w = w' := by
  have e1 : decide (1 ≤ op) = true := by simp [h1]
  have e2 : decide (op ≤ 11) = true := by simp [h2]
  go_enter Tryd.func28, Tryd.ntmps28
  go_wp2
  go_ret
  exact ⟨rfl, rfl⟩
theorem isop_no (op : Int) (w : World) (h : op < 1 ∨ 11 < op) : Calls Tryd.prog 28 #[.int .i64 op] w fun e w' => e = .returned (.bool false) ∧ w = w' := by
  by_cases h1 : 1 ≤ op
  · have e1 : decide (1 ≤ op) = true := by simp [h1]
    have e2 : decide (op ≤ 11) = false := by simp; omega
    clear h
    go_enter Tryd.func28, Tryd.ntmps28
    go_wp2
    go_ret
    exact ⟨rfl, rfl⟩
  · have e1 : decide (1 ≤ op) = false := by simp; omega
    clear h
    go_enter Tryd.func28, Tryd.ntmps28
    go_wp2
    go_ret
    exact ⟨rfl, rfl⟩
theorem rel_yes (op : Int) (w : World) (h1 : 6 ≤ op) (h2 : op ≤ 11) : Calls Tryd.prog 18 #[.int .i64 op] w fun e w' => e = .returned (.bool true) ∧ w = w' := by
  have e1 : decide (6 ≤ op) = true := by simp [h1]
  have e2 : decide (op ≤ 11) = true := by simp [h2]
  go_enter Tryd.func18, Tryd.ntmps18
  go_wp2
  go_ret
  exact ⟨rfl, rfl⟩
theorem rel_no (op : Int) (w : World) (h : op < 6 ∨ 11 < op) : Calls Tryd.prog 18 #[.int .i64 op] w fun e w' => e = .returned (.bool false) ∧ w = w' := by
  by_cases h1 : 6 ≤ op
  · have e1 : decide (6 ≤ op) = true := by simp [h1]
    have e2 : decide (op ≤ 11) = false := by simp; omega
    clear h
    go_enter Tryd.func18, Tryd.ntmps18
    go_wp2
    go_ret
    exact ⟨rfl, rfl⟩
  · have e1 : decide (6 ≤ op) = false := by simp; omega
    clear h
    go_enter Tryd.func18, Tryd.ntmps18
    go_wp2
    go_ret
    exact ⟨rfl, rfl⟩

/-- What a call of Others ends with. -/
def OthersPost (op : Int) (w : World) (e : Ending) (w' : World) : Prop := ∃ v, e = .returned v ∧ Owns w' w.heap.size v (others op) ∧ Below w.heap.size w w'
theorem others_nil {op : Int} (h : op < 1 ∨ 11 < op) (w : World) : OthersPost op w (.returned (.slice none 0 0)) w :=
  ⟨_, rfl, by have : others op = [] := by unfold others; rw [if_pos h]
              rw [this]; exact World.ownsRow_nil _ _ _ _, Below.refl _ _⟩
theorem others_done {op : Int} {a : Int} {n : Nat} {v : Value} {w w' : World} (h : others op = upTo a op n) (ho : Owns w' w.heap.size v (upTo a op n)) (hb : Below w.heap.size w w') : OthersPost op w (.returned v) w' :=
  ⟨v, rfl, by rw [h]; exact ho, hb⟩

set_option maxHeartbeats 1600000 in
set_option maxRecDepth 1000000 in
theorem others_low (op : Int) (w : World) (h1 : 1 ≤ op) (h2 : op ≤ 5) : Calls Tryd.prog 20 #[.int .i64 op] w (OthersPost op w) := by
  obtain ⟨i0, hi, hz0, hz1, hz2⟩ := info_parts Tint
  have HF := Lib.hid (show others op = upTo 1 op 5 by unfold others; rw [if_neg (by omega), if_pos (by omega)])
  go_enter Tryd.func20, Tryd.ntmps20
  go_wp2_with (first | (go_at_call 28; refine (isop_yes op _ (by omega) (by omega)).mono ?_; rintro e w' ⟨rfl, rfl⟩) | (go_at_call 18; refine (rel_no op _ (Or.inl (by omega))).mono ?_; rintro e w' ⟨rfl, rfl⟩) | fail)
  go_loopw [5, 6] (fun v i wr => ∃ n : Nat, n ≤ 5 ∧ i = .int .i64 (1 + (n : Int)) ∧ Owns wr w.heap.size v (upTo 1 op n) ∧ Below w.heap.size w wr) (fun _ i _ => (6 - intOf i).toNat)
  case atStart => exact ⟨0, by omega, rfl, World.ownsRow_nil _ _ _ _, Below.refl _ _⟩
  case round =>
    obtain ⟨n, hn, rfl, hown, hnx⟩ := hrel
    have hlen := upTo_len 1 op n
    have hsz := hnx.size
    by_cases hlt : n < 5
    · by_cases he : 1 + (n : Int) = op
      · have he2 : (1 + (n : Int) == op) = true := beq_iff_eq.2 he
        have HE := Lib.hid he
        clear he
        go_wp2_with (first | (go_at_call 28; refine (isop_yes op _ (by omega) (by omega)).mono ?_; rintro e w' ⟨rfl, rfl⟩) | (go_at_call 18; refine (rel_no op _ (Or.inl (by omega))).mono ?_; rintro e w' ⟨rfl, rfl⟩) | fail)
        go_roundw
        case rel => exact ⟨n + 1, by omega, by go_num, by rw [upTo_hit HE.out]; exact hown, hnx⟩
        case measure => simp [intOf]; omega
      · have he2 : (1 + (n : Int) == op) = false := beq_eq_false_iff_ne.2 he
        go_wp2_with (first | (go_at_call 28; refine (isop_yes op _ (by omega) (by omega)).mono ?_; rintro e w' ⟨rfl, rfl⟩) | (go_at_call 18; refine (rel_no op _ (Or.inl (by omega))).mono ?_; rintro e w' ⟨rfl, rfl⟩) | (at_builtin; refine wpList_append_own _ rfl _ _ 31 rfl w.heap.size 3 i0 (.int .i64 0) 1 8 Tryd.underlying31 hi hz0 hz1 hz2 rfl (by decide) _ _ _ rfl (hown.alloc _) ⟨wr.heap.size, 0, none⟩ 1 1 [.int .i64 (1 + (n : Int))] rfl rfl ?c1 ?c2 ?c3 ?c4 ?c5 ?_))
        case c1 =>
          intro j u hj
          match j, hj with
          | 0, hj => simp at hj; subst hj; simp [Addr.add]
        case c2 => intro u hu; simp at hu; subst hu; rfl
        case c3 => unfold maxLen; omega
        case c4 => omega
        case c5 => simp; omega
        intro v' w1 hown' hgrow _
        have R := push (by omega) hnx hown hown' hgrow
        clear hown' hgrow hown hnx
        go_wp2
        go_roundw
        case rel => exact ⟨n + 1, by omega, by go_num, by rw [upTo_miss he]; exact R.1, R.2⟩
        case measure => simp [intOf]; omega
    · obtain rfl : n = 5 := by omega
      go_wp2_with (first | (go_at_call 28; refine (isop_yes op _ (by omega) (by omega)).mono ?_; rintro e w' ⟨rfl, rfl⟩) | (go_at_call 18; refine (rel_no op _ (Or.inl (by omega))).mono ?_; rintro e w' ⟨rfl, rfl⟩) | fail)
      go_ret
      exact others_done HF.out hown hnx
set_option maxHeartbeats 1600000 in
set_option maxRecDepth 1000000 in
theorem others_high (op : Int) (w : World) (h1 : 6 ≤ op) (h2 : op ≤ 11) : Calls Tryd.prog 20 #[.int .i64 op] w (OthersPost op w) := by
  obtain ⟨i0, hi, hz0, hz1, hz2⟩ := info_parts Tint
  have HF := Lib.hid (show others op = upTo 6 op 6 by unfold others; rw [if_neg (by omega), if_neg (by omega)])
  go_enter Tryd.func20, Tryd.ntmps20
  go_wp2_with (first | (go_at_call 28; refine (isop_yes op _ (by omega) (by omega)).mono ?_; rintro e w' ⟨rfl, rfl⟩) | (go_at_call 18; refine (rel_yes op _ (by omega) (by omega)).mono ?_; rintro e w' ⟨rfl, rfl⟩) | fail)
  go_loopw [5, 6] (fun v i wr => ∃ n : Nat, n ≤ 6 ∧ i = .int .i64 (6 + (n : Int)) ∧ Owns wr w.heap.size v (upTo 6 op n) ∧ Below w.heap.size w wr) (fun _ i _ => (12 - intOf i).toNat)
  case atStart => exact ⟨0, by omega, rfl, World.ownsRow_nil _ _ _ _, Below.refl _ _⟩
  case round =>
    obtain ⟨n, hn, rfl, hown, hnx⟩ := hrel
    have hlen := upTo_len 6 op n
    have hsz := hnx.size
    by_cases hlt : n < 6
    · by_cases he : 6 + (n : Int) = op
      · have he2 : (6 + (n : Int) == op) = true := beq_iff_eq.2 he
        have HE := Lib.hid he
        clear he
        go_wp2_with (first | (go_at_call 28; refine (isop_yes op _ (by omega) (by omega)).mono ?_; rintro e w' ⟨rfl, rfl⟩) | (go_at_call 18; refine (rel_yes op _ (by omega) (by omega)).mono ?_; rintro e w' ⟨rfl, rfl⟩) | fail)
        go_roundw
        case rel => exact ⟨n + 1, by omega, by go_num, by rw [upTo_hit HE.out]; exact hown, hnx⟩
        case measure => simp [intOf]; omega
      · have he2 : (6 + (n : Int) == op) = false := beq_eq_false_iff_ne.2 he
        go_wp2_with (first | (go_at_call 28; refine (isop_yes op _ (by omega) (by omega)).mono ?_; rintro e w' ⟨rfl, rfl⟩) | (go_at_call 18; refine (rel_yes op _ (by omega) (by omega)).mono ?_; rintro e w' ⟨rfl, rfl⟩) | (at_builtin; refine wpList_append_own _ rfl _ _ 31 rfl w.heap.size 3 i0 (.int .i64 0) 1 8 Tryd.underlying31 hi hz0 hz1 hz2 rfl (by decide) _ _ _ rfl (hown.alloc _) ⟨wr.heap.size, 0, none⟩ 1 1 [.int .i64 (6 + (n : Int))] rfl rfl ?c1 ?c2 ?c3 ?c4 ?c5 ?_))
        case c1 =>
          intro j u hj
          match j, hj with
          | 0, hj => simp at hj; subst hj; simp [Addr.add]
        case c2 => intro u hu; simp at hu; subst hu; rfl
        case c3 => unfold maxLen; omega
        case c4 => omega
        case c5 => simp; omega
        intro v' w1 hown' hgrow _
        have R := push (by omega) hnx hown hown' hgrow
        clear hown' hgrow hown hnx
        go_wp2
        go_roundw
        case rel => exact ⟨n + 1, by omega, by go_num, by rw [upTo_miss he]; exact R.1, R.2⟩
        case measure => simp [intOf]; omega
    · obtain rfl : n = 6 := by omega
      go_wp2_with (first | (go_at_call 28; refine (isop_yes op _ (by omega) (by omega)).mono ?_; rintro e w' ⟨rfl, rfl⟩) | (go_at_call 18; refine (rel_yes op _ (by omega) (by omega)).mono ?_; rintro e w' ⟨rfl, rfl⟩) | fail)
      go_ret
      exact others_done HF.out hown hnx
set_option maxHeartbeats 1600000 in
set_option maxRecDepth 1000000 in
theorem rothers_low (op : Int) (w : World) (h1 : 1 ≤ op) (h2 : op ≤ 5) : Calls Tryd.prog 21 #[.int .i64 op] w (OthersPost op w) := by
  obtain ⟨i0, hi, hz0, hz1, hz2⟩ := info_parts Tint
  have HF := Lib.hid (show others op = upTo 1 op 5 by unfold others; rw [if_neg (by omega), if_pos (by omega)])
  go_enter Tryd.func21, Tryd.ntmps21
  go_wp2_with (first | (go_at_call 31; refine (right_yes op _ (by omega) (by omega)).mono ?_; rintro e w' ⟨rfl, rfl⟩) | fail)
  go_loopw [5, 6] (fun v i wr => ∃ n : Nat, n ≤ 5 ∧ i = .int .i64 (1 + (n : Int)) ∧ Owns wr w.heap.size v (upTo 1 op n) ∧ Below w.heap.size w wr) (fun _ i _ => (6 - intOf i).toNat)
  case atStart => exact ⟨0, by omega, rfl, World.ownsRow_nil _ _ _ _, Below.refl _ _⟩
  case round =>
    obtain ⟨n, hn, rfl, hown, hnx⟩ := hrel
    have hlen := upTo_len 1 op n
    have hsz := hnx.size
    by_cases hlt : n < 5
    · by_cases he : 1 + (n : Int) = op
      · have he2 : (1 + (n : Int) == op) = true := beq_iff_eq.2 he
        have HE := Lib.hid he
        clear he
        go_wp2_with (first | (go_at_call 31; refine (right_yes op _ (by omega) (by omega)).mono ?_; rintro e w' ⟨rfl, rfl⟩) | fail)
        go_roundw
        case rel => exact ⟨n + 1, by omega, by go_num, by rw [upTo_hit HE.out]; exact hown, hnx⟩
        case measure => simp [intOf]; omega
      · have he2 : (1 + (n : Int) == op) = false := beq_eq_false_iff_ne.2 he
        go_wp2_with (first | (go_at_call 31; refine (right_yes op _ (by omega) (by omega)).mono ?_; rintro e w' ⟨rfl, rfl⟩) | (at_builtin; refine wpList_append_own _ rfl _ _ 31 rfl w.heap.size 3 i0 (.int .i64 0) 1 8 Tryd.underlying31 hi hz0 hz1 hz2 rfl (by decide) _ _ _ rfl (hown.alloc _) ⟨wr.heap.size, 0, none⟩ 1 1 [.int .i64 (1 + (n : Int))] rfl rfl ?c1 ?c2 ?c3 ?c4 ?c5 ?_))
        case c1 =>
          intro j u hj
          match j, hj with
          | 0, hj => simp at hj; subst hj; simp [Addr.add]
        case c2 => intro u hu; simp at hu; subst hu; rfl
        case c3 => unfold maxLen; omega
        case c4 => omega
        case c5 => simp; omega
        intro v' w1 hown' hgrow _
        have R := push (by omega) hnx hown hown' hgrow
        clear hown' hgrow hown hnx
        go_wp2
        go_roundw
        case rel => exact ⟨n + 1, by omega, by go_num, by rw [upTo_miss he]; exact R.1, R.2⟩
        case measure => simp [intOf]; omega
    · obtain rfl : n = 5 := by omega
      go_wp2_with (first | (go_at_call 31; refine (right_yes op _ (by omega) (by omega)).mono ?_; rintro e w' ⟨rfl, rfl⟩) | fail)
      go_ret
      exact others_done HF.out hown hnx
set_option maxHeartbeats 1600000 in
set_option maxRecDepth 1000000 in
theorem rothers_high (op : Int) (w : World) (h1 : 6 ≤ op) (h2 : op ≤ 11) : Calls Tryd.prog 21 #[.int .i64 op] w (OthersPost op w) := by
  obtain ⟨i0, hi, hz0, hz1, hz2⟩ := info_parts Tint
  have HF := Lib.hid (show others op = upTo 6 op 6 by unfold others; rw [if_neg (by omega), if_neg (by omega)])
  have hd : decide (5 < op) = true := by simp; omega
  go_enter Tryd.func21, Tryd.ntmps21
  go_wp2_with (first | (go_at_call 31; refine (right_yes op _ (by omega) (by omega)).mono ?_; rintro e w' ⟨rfl, rfl⟩) | fail)
  go_loopw [5, 6] (fun v i wr => ∃ n : Nat, n ≤ 6 ∧ i = .int .i64 (6 + (n : Int)) ∧ Owns wr w.heap.size v (upTo 6 op n) ∧ Below w.heap.size w wr) (fun _ i _ => (12 - intOf i).toNat)
  case atStart => exact ⟨0, by omega, rfl, World.ownsRow_nil _ _ _ _, Below.refl _ _⟩
  case round =>
    obtain ⟨n, hn, rfl, hown, hnx⟩ := hrel
    have hlen := upTo_len 6 op n
    have hsz := hnx.size
    by_cases hlt : n < 6
    · by_cases he : 6 + (n : Int) = op
      · have he2 : (6 + (n : Int) == op) = true := beq_iff_eq.2 he
        have HE := Lib.hid he
        clear he
        go_wp2_with (first | (go_at_call 31; refine (right_yes op _ (by omega) (by omega)).mono ?_; rintro e w' ⟨rfl, rfl⟩) | fail)
        go_roundw
        case rel => exact ⟨n + 1, by omega, by go_num, by rw [upTo_hit HE.out]; exact hown, hnx⟩
        case measure => simp [intOf]; omega
      · have he2 : (6 + (n : Int) == op) = false := beq_eq_false_iff_ne.2 he
        go_wp2_with (first | (go_at_call 31; refine (right_yes op _ (by omega) (by omega)).mono ?_; rintro e w' ⟨rfl, rfl⟩) | (at_builtin; refine wpList_append_own _ rfl _ _ 31 rfl w.heap.size 3 i0 (.int .i64 0) 1 8 Tryd.underlying31 hi hz0 hz1 hz2 rfl (by decide) _ _ _ rfl (hown.alloc _) ⟨wr.heap.size, 0, none⟩ 1 1 [.int .i64 (6 + (n : Int))] rfl rfl ?c1 ?c2 ?c3 ?c4 ?c5 ?_))
        case c1 =>
          intro j u hj
          match j, hj with
          | 0, hj => simp at hj; subst hj; simp [Addr.add]
        case c2 => intro u hu; simp at hu; subst hu; rfl
        case c3 => unfold maxLen; omega
        case c4 => omega
        case c5 => simp; omega
        intro v' w1 hown' hgrow _
        have R := push (by omega) hnx hown hown' hgrow
        clear hown' hgrow hown hnx
        go_wp2
        go_roundw
        case rel => exact ⟨n + 1, by omega, by go_num, by rw [upTo_miss he]; exact R.1, R.2⟩
        case measure => simp [intOf]; omega
    · obtain rfl : n = 6 := by omega
      go_wp2_with (first | (go_at_call 31; refine (right_yes op _ (by omega) (by omega)).mono ?_; rintro e w' ⟨rfl, rfl⟩) | fail)
      go_ret
      exact others_done HF.out hown hnx
theorem others_none (op : Int) (w : World) (h : op < 1 ∨ 11 < op) : Calls Tryd.prog 20 #[.int .i64 op] w (OthersPost op w) := by
  have HF := Lib.hid (others_nil h)
  have H := Lib.hid h
  clear h
  go_enter Tryd.func20, Tryd.ntmps20
  go_wp2_with (go_at_call 28; refine (isop_no op _ H.out).mono ?_; rintro e w' ⟨rfl, rfl⟩)
  go_ret
  exact HF.out _
theorem rothers_none (op : Int) (w : World) (h : op < 1 ∨ 11 < op) : Calls Tryd.prog 21 #[.int .i64 op] w (OthersPost op w) := by
  have HF := Lib.hid (others_nil h)
  have H := Lib.hid h
  by_cases h5 : 5 < op
  all_goals
    clear h
    go_enter Tryd.func21, Tryd.ntmps21
    go_wp2_with fail
    refine wp_loop_rounds 1 ?_
    rw [rounds_succ]
    go_wp2_with (go_at_call 31; refine (right_no op _ H.out).mono ?_; rintro e w' ⟨rfl, rfl⟩)
    go_ret
    exact HF.out _
/-- num.Others, WHATEVER THE OPERATOR. -/
theorem others_any (op : Int) (w : World) : Calls Tryd.prog 20 #[.int .i64 op] w (OthersPost op w) := by
  by_cases h : op < 1 ∨ 11 < op
  · exact others_none op w h
  · by_cases h5 : op ≤ 5
    · exact others_low op w (by omega) h5
    · exact others_high op w (by omega) (by omega)
theorem rothers_any (op : Int) (w : World) : Calls Tryd.prog 21 #[.int .i64 op] w (OthersPost op w) := by
  by_cases h : op < 1 ∨ 11 < op
  · exact rothers_none op w h
  · by_cases h5 : op ≤ 5
    · exact rothers_low op w (by omega) h5
    · exact rothers_high op w (by omega) (by omega)
end Go.Proofs.YtagflojdkanpmaaDoor.Ot
