/-
  The walk of 'changelinglaw02.LexFirst'.
-/
import Derived.Test.YtigidagcpjmjnaaLexFirst
import Derived.Test.YtigidagcpjmjnaaLexPlacesW
namespace Go.Proofs.Ytigidagcpjmjnaa.Lx
open Go.RowKit Pl Ar Dg Pa
set_option linter.unusedVariables false

set_option maxRecDepth 20000 in
set_option maxHeartbeats 2000000 in
theorem first_law (s : ByteArray) (hs : s.size ≤ 9223372036854775807) (w : World) :
    Calls Try.prog 7 #[.string s] w fun e w' => e = .returned (.bool true) ∧ Below w.heap.size w w' := by
  obtain ⟨r, hr⟩ : ∃ r, lexed s.data.toList = r := ⟨_, rfl⟩
  have HL := Lib.hid hr
  by_cases he : r.err = 0
  · have d0 : (r.err == 0) = true := beq_iff_eq.2 he
    clear hr he
    go_enter Try.func7, Try.ntmps7
    go_wp2_with fail
    refine (tokens_is hs HL.out _).mono ?_
    rintro e w1 ⟨v1, rfl, o1, hb1⟩
    have HB1 := Lib.hid hb1
    clear o1 hb1
    go_wp2_with fail
    refine (known_any _).mono ?_
    rintro e w2 ⟨rfl, hb2⟩
    have HB2 := Lib.hid (((HB1.out.alloc HB1.out.size _).trans (hb2.mono (by have := HB1.out.size; simp; omega))) : Below w.heap.size w w2)
    clear hb2
    go_wp2
    go_returns
    exact ⟨rfl, HB2.out⟩
  · have d0 : (r.err == 0) = false := beq_eq_false_iff_ne.2 he
    by_cases hlen : 8192 < s.size
    · have hr2 : r = ⟨[], 2, 1, 1⟩ := by rw [← hr]; unfold lexed; rw [if_pos (by rw [← Lib.size_eq]; exact hlen)]
      subst hr2
      have d1 : decide ((8192 : Int) < s.size) = true := decide_eq_true (by omega)
      clear hr he d0 hlen
      go_enter Try.func7, Try.ntmps7
      go_wp2_with fail
      refine (tokens_is hs HL.out _).mono ?_
      rintro e w1 ⟨v1, rfl, o1, hb1⟩
      have HB1 := Lib.hid hb1
      clear o1 hb1
      go_wp2_with fail
      refine (known_any _).mono ?_
      rintro e w2 ⟨rfl, hb2⟩
      have HB2 := Lib.hid (((HB1.out.alloc HB1.out.size _).trans (hb2.mono (by have := HB1.out.size; simp; omega))) : Below w.heap.size w w2)
      clear hb2
      go_wp2
      go_returns
      exact ⟨rfl, HB2.out⟩
    · have d1 : decide ((8192 : Int) < s.size) = false := decide_eq_false (by omega)
      obtain ⟨k, k1, k2, k3, k4, k5⟩ := lexed_first (src := s.data.toList) (by rw [hr]; exact he) (by rw [← Lib.size_eq]; omega)
      rw [hr] at k2
      rw [← Lib.size_eq] at k1
      have hx : (s.extract 0 k).data.toList = s.data.toList.take k := take_text s k
      obtain ⟨r2, hr2⟩ : ∃ r2, lexed (s.extract 0 k).data.toList = r2 := ⟨_, rfl⟩
      have hr3 := hr2
      rw [hx] at hr3
      rw [hr3] at k3 k4 k5
      obtain ⟨tk, er, ln2, cl2⟩ := r2
      simp only at k3 k4 k5
      subst k3 k4 k5
      obtain ⟨tk0, er0, ln0, cl0⟩ := r
      have HK2 := Lib.hid k2
      have HR2 := Lib.hid hr2
      have hk' : (k : Int) < s.size := by omega
      have d2 : decide (s.size ≤ k) = false := decide_eq_false (by omega)
      clear hr he hx hr2 hr3 k2
      go_enter Try.func7, Try.ntmps7
      go_wp2_with fail
      refine (tokens_is hs HL.out _).mono ?_
      rintro e w1 ⟨v1, rfl, o1, hb1⟩
      have HB1 := Lib.hid hb1
      clear o1 hb1
      go_wp2_with fail
      refine (offset_any ln0 cl0 s (by omega) _).mono ?_
      rw [HK2.out]
      rintro e w2 ⟨rfl, hb2⟩
      have HB2 := Lib.hid (((HB1.out.alloc HB1.out.size _).trans (hb2.mono (by have := HB1.out.size; simp; omega))) : Below w.heap.size w w2)
      clear hb2
      go_wp2_with fail
      refine (tokens_is (by simp; omega) HR2.out _).mono ?_
      rintro e w3 ⟨v3, rfl, o3, hb3⟩
      have HB3 := Lib.hid (HB2.out.trans (hb3.mono (by have := HB2.out.size; omega)))
      clear o3 hb3
      go_wp2_with fail
      refine (known_any _).mono ?_
      rintro e w4 ⟨rfl, hb4⟩
      have HB4 := Lib.hid (((HB3.out.alloc HB3.out.size _).trans (hb4.mono (by have := HB3.out.size; simp; omega))) : Below w.heap.size w w4)
      clear hb4
      go_wp2
      go_returns
      exact ⟨rfl, HB4.out⟩
end Go.Proofs.Ytigidagcpjmjnaa.Lx
namespace Go.Proofs.Ytigidagcpjmjnaa.LexFirst
open Go.RowKit Lx
theorem law (s : ByteArray) (hs : s.size ≤ 9223372036854775807) (w : World) :
    Calls Try.prog 7 #[.string s] w fun e w' => e = .returned (.bool true) ∧ Below w.heap.size w w' := first_law s hs w
end Go.Proofs.Ytigidagcpjmjnaa.LexFirst
