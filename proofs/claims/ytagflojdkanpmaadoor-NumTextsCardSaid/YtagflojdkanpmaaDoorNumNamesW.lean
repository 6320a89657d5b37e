/-
  THE WALK of the law NumNames: texts, kinds and others of operators, as the document tells them.
-/
import Derived.Test.YtagflojdkanpmaaDoorSame
import Derived.Test.YtagflojdkanpmaaDoorNumDoesW
namespace Go.Proofs.YtagflojdkanpmaaDoor.NumNames
open Go.RowKit Pl Ar Dx Kn Ot Tb Nm Sm
set_option linter.unusedVariables false

theorem all5 {w w1 w2 w3 w4 w5 : World} (h1 : Below w.heap.size w w1) (h2 : Below w1.heap.size w1 w2) (h3 : Below w2.heap.size w2 w3) (h4 : Below w3.heap.size w3 w4) (h5 : Below w4.heap.size w4 w5) : Below w.heap.size w w5 := by
  have s1 := h1.size
  have s2 := h2.size
  have s3 := h3.size
  have s4 := h4.size
  exact (((h1.trans (h2.mono s1)).trans (h3.mono (by omega))).trans (h4.mono (by omega))).trans (h5.mono (by omega))
/-- The table stands among the first blocks. -/
theorem names_lt {w : World} (hn : NamesAt w) : 0 < w.heap.size := by
  have h := hn 0 [] rfl
  unfold World.cell? at h
  rcases Nat.lt_or_ge 0 w.heap.size with h' | h'
  · exact h'
  · rw [Array.getElem?_eq_none h'] at h; simp at h
theorem names_below {w w' : World} (hn : NamesAt w) (hb : Below w.heap.size w w') : NamesAt w' := fun i b h => (hb.cell (p := ⟨0, i, none⟩) (names_lt hn)).trans (hn i b h)
theorem known_below {w w' : World} (hn : NamesAt w) (hb : Below w.heap.size w w') : w'.cell? ⟨0, 7, none⟩ = some (.string ⟨#[47, 61]⟩) := NumDoes.known_at (names_below hn hb)
set_option maxHeartbeats 2000000 in
theorem law_rel (op : Int) (h1 : -9223372036854775808 ≤ op) (h2 : op ≤ 9223372036854775807) (s : ByteArray) (hs : s.size ≤ 9223372036854775807) (ha : 6 ≤ op) (hb : op ≤ 11) (w : World) (hn : NamesAt w) :
    Calls Tryd.prog 4 #[.int .i64 op, .string s] w fun e w' => e = .returned (.bool true) ∧ Below w.heap.size w w' := by
  have HN := Lib.hid hn
  clear hn
  have e1 : decide (6 ≤ op) = true := by simp [ha]
  have e2 : decide (op ≤ 11) = true := by simp [hb]
  go_enter Tryd.func4, Tryd.ntmps4
  go_wp2_with fail
  refine (name_any op _ HN.out).mono ?_
  rintro e w' ⟨⟨rfl, _⟩, rfl⟩
  go_wp2_with fail
  refine (rname_any op _).mono ?_
  rintro e w1 ⟨rfl, hb1⟩
  have HB1 := Lib.hid hb1
  clear hb1
  go_wp2_with fail
  refine (op_any s _).mono ?_
  rintro e w' ⟨⟨rfl, _⟩, rfl⟩
  go_wp2_with fail
  refine (rop_any s _).mono ?_
  rintro e w2 ⟨rfl, hb2⟩
  have HB2 := Lib.hid hb2
  clear hb2
  go_wp2_with fail
  refine (rel_yes op _ ha hb).mono ?_
  rintro e w' ⟨rfl, rfl⟩
  go_wp2_with fail
  refine (others_any op _).mono ?_
  rintro e w3 ⟨v1, rfl, o1, hb3⟩
  have O1 := Lib.hid o1
  have HB3 := Lib.hid hb3
  clear o1 hb3
  go_wp2_with fail
  refine (rothers_any op _).mono ?_
  rintro e w4 ⟨v2, rfl, o2, hb4⟩
  have O2 := Lib.hid o2
  have HB4 := Lib.hid hb4
  clear o2 hb4
  go_wp2_with fail
  refine (same_true v1 v2 (others op) _ (shows_below (shows_of O1.out) HB4.out (owns_lt O1.out)) (shows_of O2.out)).mono ?_
  rintro e w5 ⟨rfl, hb5⟩
  have HB5 := Lib.hid hb5
  clear hb5
  go_wp2_with fail
  refine (known_any _ (known_below HN.out (all5 HB1.out HB2.out HB3.out HB4.out HB5.out))).mono ?_
  rintro e w' ⟨rfl, rfl⟩
  go_wp2
  go_ret
  exact ⟨rfl, all5 HB1.out HB2.out HB3.out HB4.out HB5.out⟩
set_option maxHeartbeats 2000000 in
theorem law_low (op : Int) (h1 : -9223372036854775808 ≤ op) (h2 : op ≤ 9223372036854775807) (s : ByteArray) (hs : s.size ≤ 9223372036854775807) (ha : op < 6) (w : World) (hn : NamesAt w) :
    Calls Tryd.prog 4 #[.int .i64 op, .string s] w fun e w' => e = .returned (.bool true) ∧ Below w.heap.size w w' := by
  have HN := Lib.hid hn
  clear hn
  have e1 : decide (6 ≤ op) = false := by simp; omega
  go_enter Tryd.func4, Tryd.ntmps4
  go_wp2_with fail
  refine (name_any op _ HN.out).mono ?_
  rintro e w' ⟨⟨rfl, _⟩, rfl⟩
  go_wp2_with fail
  refine (rname_any op _).mono ?_
  rintro e w1 ⟨rfl, hb1⟩
  have HB1 := Lib.hid hb1
  clear hb1
  go_wp2_with fail
  refine (op_any s _).mono ?_
  rintro e w' ⟨⟨rfl, _⟩, rfl⟩
  go_wp2_with fail
  refine (rop_any s _).mono ?_
  rintro e w2 ⟨rfl, hb2⟩
  have HB2 := Lib.hid hb2
  clear hb2
  go_wp2_with fail
  refine (rel_no op _ (Or.inl ha)).mono ?_
  rintro e w' ⟨rfl, rfl⟩
  go_wp2_with fail
  refine (others_any op _).mono ?_
  rintro e w3 ⟨v1, rfl, o1, hb3⟩
  have O1 := Lib.hid o1
  have HB3 := Lib.hid hb3
  clear o1 hb3
  go_wp2_with fail
  refine (rothers_any op _).mono ?_
  rintro e w4 ⟨v2, rfl, o2, hb4⟩
  have O2 := Lib.hid o2
  have HB4 := Lib.hid hb4
  clear o2 hb4
  go_wp2_with fail
  refine (same_true v1 v2 (others op) _ (shows_below (shows_of O1.out) HB4.out (owns_lt O1.out)) (shows_of O2.out)).mono ?_
  rintro e w5 ⟨rfl, hb5⟩
  have HB5 := Lib.hid hb5
  clear hb5
  go_wp2_with fail
  refine (known_any _ (known_below HN.out (all5 HB1.out HB2.out HB3.out HB4.out HB5.out))).mono ?_
  rintro e w' ⟨rfl, rfl⟩
  go_wp2
  go_ret
  exact ⟨rfl, all5 HB1.out HB2.out HB3.out HB4.out HB5.out⟩
set_option maxHeartbeats 2000000 in
theorem law_high (op : Int) (h1 : -9223372036854775808 ≤ op) (h2 : op ≤ 9223372036854775807) (s : ByteArray) (hs : s.size ≤ 9223372036854775807) (ha : 11 < op) (w : World) (hn : NamesAt w) :
    Calls Tryd.prog 4 #[.int .i64 op, .string s] w fun e w' => e = .returned (.bool true) ∧ Below w.heap.size w w' := by
  have HN := Lib.hid hn
  clear hn
  have e1 : decide (6 ≤ op) = true := by simp; omega
  have e2 : decide (op ≤ 11) = false := by simp; omega
  go_enter Tryd.func4, Tryd.ntmps4
  go_wp2_with fail
  refine (name_any op _ HN.out).mono ?_
  rintro e w' ⟨⟨rfl, _⟩, rfl⟩
  go_wp2_with fail
  refine (rname_any op _).mono ?_
  rintro e w1 ⟨rfl, hb1⟩
  have HB1 := Lib.hid hb1
  clear hb1
  go_wp2_with fail
  refine (op_any s _).mono ?_
  rintro e w' ⟨⟨rfl, _⟩, rfl⟩
  go_wp2_with fail
  refine (rop_any s _).mono ?_
  rintro e w2 ⟨rfl, hb2⟩
  have HB2 := Lib.hid hb2
  clear hb2
  go_wp2_with fail
  refine (rel_no op _ (Or.inr ha)).mono ?_
  rintro e w' ⟨rfl, rfl⟩
  go_wp2_with fail
  refine (others_any op _).mono ?_
  rintro e w3 ⟨v1, rfl, o1, hb3⟩
  have O1 := Lib.hid o1
  have HB3 := Lib.hid hb3
  clear o1 hb3
  go_wp2_with fail
  refine (rothers_any op _).mono ?_
  rintro e w4 ⟨v2, rfl, o2, hb4⟩
  have O2 := Lib.hid o2
  have HB4 := Lib.hid hb4
  clear o2 hb4
  go_wp2_with fail
  refine (same_true v1 v2 (others op) _ (shows_below (shows_of O1.out) HB4.out (owns_lt O1.out)) (shows_of O2.out)).mono ?_
  rintro e w5 ⟨rfl, hb5⟩
  have HB5 := Lib.hid hb5
  clear hb5
  go_wp2_with fail
  refine (known_any _ (known_below HN.out (all5 HB1.out HB2.out HB3.out HB4.out HB5.out))).mono ?_
  rintro e w' ⟨rfl, rfl⟩
  go_wp2
  go_ret
  exact ⟨rfl, all5 HB1.out HB2.out HB3.out HB4.out HB5.out⟩
theorem law (op : Int) (h1 : -9223372036854775808 ≤ op) (h2 : op ≤ 9223372036854775807) (s : ByteArray) (hs : s.size ≤ 9223372036854775807) (w : World) (hn : NamesAt w) :
    Calls Tryd.prog 4 #[.int .i64 op, .string s] w fun e w' => e = .returned (.bool true) ∧ Below w.heap.size w w' := by
  by_cases ha : op < 6
  · exact law_low op h1 h2 s hs ha w hn
  · by_cases hb : op ≤ 11
    · exact law_rel op h1 h2 s hs (by omega) hb w hn
    · exact law_high op h1 h2 s hs (by omega) w hn
end Go.Proofs.YtagflojdkanpmaaDoor.NumNames
