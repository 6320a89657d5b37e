/-
  THE WALKS of the laws NumTexts and NumBack: numbers written and read.
-/
import Derived.Test.YtagflojdkanpmaaDoorRp2
import Derived.Test.YtagflojdkanpmaaDoorShelf
import Derived.Test.YtagflojdkanpmaaDoorNumNamesW
import Derived.Lib.LaidTab
import Derived.Stop.LaidErr
namespace Go.Proofs.YtagflojdkanpmaaDoor.Tt
open Go.RowKit Pl Ar Dx Dg Pa Tx Rp Kn Tb
set_option linter.unusedVariables false

/-- the library's table of powers lies as its text lays it -/
abbrev TabAt (w : World) : Prop := Lib.TabIs Tryd.prog w "internal/strconv.uint64pow10" .u64 Lib.pow10Tab
theorem below_grow (w : World) (os : Array Obj) : Below w.heap.size w (Sort.grow w os) :=
  ⟨rfl, rfl, rfl, by simp, fun k hk => Sort.heap_grow_old w os hk⟩
def TextPostB (n : Int) (w : World) (e : Ending) (w' : World) : Prop := e = .returned (.string ⟨(Lib.itoa n).toArray⟩) ∧ Below w.heap.size w w'
theorem text_any (n : Int) (h1 : -9223372036854775808 ≤ n) (h2 : n ≤ 9223372036854775807) (w : World) (ht : TabAt w) : Calls Tryd.prog 24 #[.int .i64 n] w (TextPostB n w) := by
  have HT := Lib.hid ht
  clear ht
  go_enter Tryd.func24, Tryd.ntmps24
  go_wp2_with fail
  refine (Tryd.strconv_FormatInt_10 n h1 h2 _ HT.out).mono ?_
  rintro e w' ⟨rfl, k, os, rfl⟩
  have HB := Lib.hid (show Below w.heap.size w (Sort.grow (w.drewN k) os) from (below_drewN (Below.refl _ _) k).trans (below_grow (w.drewN k) os))
  go_wp2
  go_ret
  exact ⟨rfl, HB.out⟩
theorem gP : Tryd.prog.globalNamed "internal/strconv.uint64pow10" = some 1 := by kernel_rfl
theorem gPType : (Tryd.prog.globals[1]?).map (·.type) = some 68 := by kernel_rfl
theorem cellsU : Tryd.prog.cellsOf 41 = 1 := by kernel_rfl
theorem cellsT : Tryd.prog.cellsOf 68 = 20 := by kernel_rfl
theorem tab_lt {w : World} (h : TabAt w) : 1 < w.heap.size := by
  have h0 := Lib.TabIs.cell h gP 0 (by decide)
  unfold World.cell? at h0
  rcases Nat.lt_or_ge 1 w.heap.size with h' | h'
  · exact h'
  · rw [Array.getElem?_eq_none h'] at h0; simp at h0
theorem tab_below {w w' : World} (h : TabAt w) (hb : Below w.heap.size w w') : TabAt w' := var?_below hb gP (tab_lt h) h
def pows : List (String × DataW Unit) := [("math/bits.deBruijn32tab", Rows.laid_math_bits_deBruijn32tab), ("math/bits.deBruijn64tab", Rows.laid_math_bits_deBruijn64tab), ("internal/strconv.uint64pow10", Rows.laid_internal_strconv_uint64pow10), ("changeling/num.names", Rows.laid_changeling_num_names)]
theorem facts {W : World} (h : laidMet Tryd.prog pows W) : NamesAt W ∧ TabAt W :=
  ⟨names_of h.tail.tail.tail, Lib.tabIs_of_head gP gPType Tryd.underlying68 Tryd.underlying41 cellsU cellsT h.tail.tail⟩

theorem prs_itoa {n : Int} (h1 : -9223372036854775808 ≤ n) (h2 : n ≤ 9223372036854775807) : prs (Lib.itoa n) = (n, 0) := by
  by_cases h : n < 0
  · obtain ⟨v, rfl⟩ : ∃ v : Nat, n = -(v : Int) := ⟨n.natAbs, by omega⟩
    have hp : 1 ≤ v := by omega
    rw [itoa_low hp]
    have hd : digitsOf (45 :: Lib.decDigits v) = Lib.decDigits v := by simp [digitsOf]
    obtain ⟨e1, e2⟩ := dec_val _ v (Nat.lt_succ_self _)
    refine ok_low (by rw [hd]; exact dec_ne v) (fun e => ?_) (by rw [hd]; exact ⟨e1.symm, e2⟩) (by omega) (by simp [below])
    rw [hd] at e
    have := dec_head _ v (Nat.lt_succ_self _) e.1
    omega
  · obtain ⟨v, rfl⟩ : ∃ v : Nat, n = (v : Int) := ⟨n.natAbs, by omega⟩
    rw [itoa_high]
    have hne := dec_ne v
    obtain ⟨e1, e2⟩ := dec_val _ v (Nat.lt_succ_self _)
    have hb : below (Lib.decDigits v) = false := by
      cases hd : Lib.decDigits v with
      | nil => exact absurd hd hne
      | cons c r =>
        rw [hd] at e2
        have hc : isD c = true := by simp only [List.all_cons, Bool.and_eq_true] at e2; exact e2.1
        simp only [below, List.head?_cons]
        apply beq_eq_false_iff_ne.2
        intro e
        rw [Option.some.inj e] at hc
        exact absurd hc (by decide)
    have hd : digitsOf (Lib.decDigits v) = Lib.decDigits v := (above_split hb).symm
    refine ok_high (by rw [hd]; exact hne) (fun e => ?_) (by rw [hd]; exact ⟨e1.symm, e2⟩) (by omega) hb
    rw [hd] at e
    have := dec_head _ v (Nat.lt_succ_self _) e.1
    rw [this, dec_zero] at e
    exact e.2 rfl
theorem itoa_inj {a b : Int} (h1 : -9223372036854775808 ≤ a) (h2 : a ≤ 9223372036854775807) (h3 : -9223372036854775808 ≤ b) (h4 : b ≤ 9223372036854775807) (h : Lib.itoa a = Lib.itoa b) : a = b := by
  have := prs_itoa h1 h2
  rw [h, prs_itoa h3 h4] at this
  exact (Prod.mk.inj this).1.symm
theorem itoa_len {n : Int} (h1 : -9223372036854775808 ≤ n) (h2 : n ≤ 9223372036854775807) : (Lib.itoa n).length ≤ 21 := by
  have := dec_len20 (size_lt n h1 h2)
  by_cases h : n < 0
  · rw [itoa_neg h]; simp; omega
  · rw [itoa_pos h]; omega
theorem parse_text {n : Int} (h1 : -9223372036854775808 ≤ n) (h2 : n ≤ 9223372036854775807) (w : World) : Calls Tryd.prog 22 #[.string ⟨(Lib.itoa n).toArray⟩] w fun e w' => e = .returned (.tuple #[.int .i64 n, .int .i64 0]) ∧ w = w' := by
  have h := parse_any ⟨(Lib.itoa n).toArray⟩ (by have := itoa_len h1 h2; rw [Lib.size_eq]; simp; omega) w
  unfold ParsePost at h
  rw [show (⟨(Lib.itoa n).toArray⟩ : ByteArray).data.toList = Lib.itoa n by simp, prs_itoa h1 h2] at h
  exact h
theorem trans2 {w w1 w2 : World} (h1 : Below w.heap.size w w1) (h2 : Below w1.heap.size w1 w2) : Below w.heap.size w w2 := h1.trans (h2.mono h1.size)
end Go.Proofs.YtagflojdkanpmaaDoor.Tt

namespace Go.Proofs.YtagflojdkanpmaaDoor.NumTexts
open Go.RowKit Pl Ar Dx Dg Pa Tx Rp Kn Tb Tt
set_option linter.unusedVariables false
set_option maxHeartbeats 1000000 in
theorem law (n : Int) (h1 : -9223372036854775808 ≤ n) (h2 : n ≤ 9223372036854775807) (s : ByteArray) (hs : s.size ≤ 9223372036854775807) (w : World) (hn : NamesAt w ∧ TabAt w) :
    Calls Tryd.prog 5 #[.int .i64 n, .string s] w fun e w' => e = .returned (.bool true) ∧ Below w.heap.size w w' := by
  have HN := Lib.hid hn.1
  have HT := Lib.hid hn.2
  clear hn
  go_enter Tryd.func5, Tryd.ntmps5
  go_wp2_with fail
  refine (parse_any s hs _).mono ?_
  rintro e w' ⟨rfl, rfl⟩
  go_wp2_with fail
  refine (rparse_any s hs _).mono ?_
  rintro e w1 ⟨rfl, k, rfl⟩
  have HB1 := Lib.hid (below_drewN (Below.refl w.heap.size w) k)
  generalize w.drewN k = w1 at *
  go_wp2_with fail
  refine (text_any n h1 h2 _ (tab_below HT.out HB1.out)).mono ?_
  rintro e w2 ⟨rfl, hb2⟩
  have HB2 := Lib.hid hb2
  clear hb2
  go_wp2_with fail
  refine (rtext_any n h1 h2 _).mono ?_
  rintro e w3 ⟨rfl, k2, rfl⟩
  have HB3 := Lib.hid (below_drewN (Below.refl w2.heap.size w2) k2)
  generalize w2.drewN k2 = w3 at *
  have HB := Lib.hid (trans2 (trans2 HB1.out HB2.out) HB3.out)
  go_wp2_with (go_at_call 13; refine (known_any _ (NumNames.known_below HN.out HB.out)).mono ?_; rintro e w' ⟨rfl, rfl⟩)
  go_ret
  exact ⟨rfl, HB.out⟩
end Go.Proofs.YtagflojdkanpmaaDoor.NumTexts

namespace Go.Proofs.YtagflojdkanpmaaDoor.NumBack
open Go.RowKit Pl Ar Dx Dg Pa Tx Rp Kn Tb Tt
set_option linter.unusedVariables false
set_option maxHeartbeats 1000000 in
theorem law (a : Int) (h1 : -9223372036854775808 ≤ a) (h2 : a ≤ 9223372036854775807) (b : Int) (h3 : -9223372036854775808 ≤ b) (h4 : b ≤ 9223372036854775807) (w : World) (hn : NamesAt w ∧ TabAt w) :
    Calls Tryd.prog 6 #[.int .i64 a, .int .i64 b] w fun e w' => e = .returned (.bool true) ∧ Below w.heap.size w w' := by
  have HN := Lib.hid hn.1
  have HT := Lib.hid hn.2
  clear hn
  by_cases hab : a = b
  · subst hab
    go_enter Tryd.func6, Tryd.ntmps6
    go_wp2_with fail
    refine (text_any a h1 h2 _ HT.out).mono ?_
    rintro e w1 ⟨rfl, hb1⟩
    have HB1 := Lib.hid hb1
    clear hb1
    go_wp2_with fail
    refine (parse_text h1 h2 _).mono ?_
    rintro e w' ⟨rfl, rfl⟩
    go_wp2_with fail
    refine (text_any a h1 h2 _ (tab_below HT.out HB1.out)).mono ?_
    rintro e w2 ⟨rfl, hb2⟩
    have HB2 := Lib.hid (trans2 HB1.out hb2)
    clear hb2
    go_wp2_with fail
    refine (text_any a h1 h2 _ (tab_below HT.out HB2.out)).mono ?_
    rintro e w3 ⟨rfl, hb3⟩
    have HB3 := Lib.hid (trans2 HB2.out hb3)
    clear hb3
    go_wp2_with (go_at_call 13; refine (known_any _ (NumNames.known_below HN.out HB3.out)).mono ?_; rintro e w' ⟨rfl, rfl⟩)
    go_ret
    exact ⟨rfl, HB3.out⟩
  · have hab2 : (a == b) = false := beq_eq_false_iff_ne.2 hab
    have hii : (Lib.itoa a == Lib.itoa b) = false := beq_eq_false_iff_ne.2 (fun e => hab (itoa_inj h1 h2 h3 h4 e))
    clear hab
    go_enter Tryd.func6, Tryd.ntmps6
    go_wp2_with fail
    refine (text_any a h1 h2 _ HT.out).mono ?_
    rintro e w1 ⟨rfl, hb1⟩
    have HB1 := Lib.hid hb1
    clear hb1
    go_wp2_with fail
    refine (parse_text h1 h2 _).mono ?_
    rintro e w' ⟨rfl, rfl⟩
    go_wp2_with fail
    refine (text_any a h1 h2 _ (tab_below HT.out HB1.out)).mono ?_
    rintro e w2 ⟨rfl, hb2⟩
    have HB2 := Lib.hid (trans2 HB1.out hb2)
    clear hb2
    go_wp2_with fail
    refine (text_any b h3 h4 _ (tab_below HT.out HB2.out)).mono ?_
    rintro e w3 ⟨rfl, hb3⟩
    have HB3 := Lib.hid (trans2 HB2.out hb3)
    clear hb3
    go_wp2_with (go_at_call 13; refine (known_any _ (NumNames.known_below HN.out HB3.out)).mono ?_; rintro e w' ⟨rfl, rfl⟩)
    go_ret
    exact ⟨rfl, HB3.out⟩
end Go.Proofs.YtagflojdkanpmaaDoor.NumBack
