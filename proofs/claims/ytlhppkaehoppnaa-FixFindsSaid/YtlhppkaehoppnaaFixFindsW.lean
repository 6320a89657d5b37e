/-
  The walk of 'changelinglaw05.FixFinds'.
-/
import Derived.Test.YtlhppkaehoppnaaFixE
namespace Go.Proofs.Ytlhppkaehoppnaa.Fx
open Go.RowKit Fm Mm Nm
set_option linter.unusedVariables false

structure Way where
  o : ByteArray
  a : Int
  l : Int
  p : Int
  q : Int
def findAt (r : Row) (s : ByteArray) : Nat → Nat → Way
  | _, 0 => ⟨s, defA s.data.toList, defL s.data.toList, 0, 0⟩
  | k, d + 1 => if r.O k = s then ⟨r.O k, r.A k, r.L k, r.P k, r.Q k⟩ else findAt r s (k + 1) d
def FindPost (x : Way) (w : World) (e : Ending) (w' : World) : Prop := e = .returned (fixV x.o x.a x.l x.p x.q) ∧ Below w.heap.size w w'
theorem str_eq {a b : ByteArray} (h : a = b) : (a.toList == b.toList) = true := by rw [h]; exact beq_self_eq_true _
theorem str_ne {a b : ByteArray} (h : ¬ a = b) : (a.toList == b.toList) = false := by
  rw [Lib.toList_data, Lib.toList_data]
  refine beq_eq_false_iff_ne.2 fun e => h ?_
  apply ByteArray.ext
  exact Array.toList_inj.1 e
theorem rdef_is {s : ByteArray} {a l : Int} (h1 : defA s.data.toList = a) (h2 : defL s.data.toList = l) (w : World) : Calls Try.prog 14 #[.string s] w fun e w' => e = .returned (fixV s a l 0 0) ∧ Below w.heap.size w w' := by
  refine (rdef_any s w).mono ?_
  rintro e w' ⟨he, hb⟩
  exact ⟨by rw [he]; unfold defV; rw [h1, h2], hb⟩
set_option maxHeartbeats 2000000 in
theorem find_any (b : Option Addr) (n c : Nat) (hn : n ≤ 9223372036854775807) (r : Row) (s : ByteArray) (w : World) (hr : Reads w w.heap.size b n r) :
    Calls Try.prog 15 #[.slice b n c, .string s] w (FindPost (findAt r s 0 n) w) := by
  have HR := Lib.hid hr
  clear hr
  go_enter Try.func15, Try.ntmps15
  go_wp2_with fail
  go_loopg [9] n (fun d i wr => ∃ k : Nat, d + k = n ∧ i = .int .i64 k ∧ findAt r s 0 n = findAt r s k d ∧ Box wr w.heap.size 33 #[.string ByteArray.empty, .int .i64 0, .int .i64 0, .int .i64 0, .int .i64 0] ∧ Below w.heap.size w wr)
  case atStart => exact ⟨0, by omega, rfl, rfl, Box.new _ _ _, (Below.refl _ _).alloc (Nat.le_refl _) _⟩
  case round =>
    obtain ⟨k, hk, rfl, hf, hx, hbw⟩ := hrel
    have HK := Lib.hid hk
    have HF := Lib.hid hf
    have HX := Lib.hid hx
    have HBW := Lib.hid hbw
    have hle : k ≤ n := by omega
    have zr := hx.lt
    have x0 := hx.cell 0
    have x1 := hx.cell 1
    have x2 := hx.cell 2
    have x3 := hx.cell 3
    have x4 := hx.cell 4
    have y0 := hx.free 0
    have y1 := hx.free 1
    have y2 := hx.free 2
    have y3 := hx.free 3
    have y4 := hx.free 4
    simp only [List.getElem?_toArray, List.getElem?_cons_zero, List.getElem?_cons_succ] at x0 x1 x2 x3 x4
    clear hk hf hx hbw
    by_cases hlt : k < n
    · have hlt' : (k : Int) < n := by omega
      obtain ⟨ad, rfl, had, c0, c1, c2, c3, c4⟩ := (HR.out.below HBW.out (Nat.le_refl _)) k hlt
      by_cases he : r.O k = s
      · have d0 := str_eq he
        have HF2 := Lib.hid (show findAt r s 0 n = ⟨r.O k, r.A k, r.L k, r.P k, r.Q k⟩ by
          rw [HF.out]
          have := HK.out
          obtain ⟨d, rfl⟩ : ∃ d, gk = d + 1 := ⟨gk - 1, by omega⟩
          show (if _ then _ else _) = _
          rw [if_pos he])
        obtain ⟨W, hW, q0, q1, q2, q3, q4, qs, qb⟩ := fixW x0 x1 x2 x3 x4 (.string (r.O k)) (.int .i64 (r.A k)) (.int .i64 (r.L k)) (.int .i64 (r.P k)) (.int .i64 (r.Q k))
        have HB2 := Lib.hid (qb _ _ HBW.out (Nat.le_refl _))
        have hz4 : w.heap.size < W.heap.size := by omega
        have hz5 : w.heap.size ≤ W.heap.size := by omega
        have Q0 := Lib.hid q0
        have Q1 := Lib.hid q1
        have Q2 := Lib.hid q2
        have Q3 := Lib.hid q3
        have Q4 := Lib.hid q4
        clear qs qb q0 q1 q2 q3 q4 he
        go_wp2_with fail
        refine bodyPost_ret (v := fixV (r.O k) (r.A k) (r.L k) (r.P k) (r.Q k)) (by simp [results, Try.results15, go_sem, hz4, Q0.out, Q1.out, Q2.out, Q3.out, Q4.out]) rfl ?_
        exact ⟨by rw [HF2.out], HB2.out.alloc hz5 _⟩
      · have d0 := str_ne he
        have HF2 := Lib.hid (show findAt r s 0 n = findAt r s (k + 1) (n - (k + 1)) by
          rw [HF.out]
          have := HK.out
          obtain ⟨d, rfl⟩ : ∃ d, gk = d + 1 := ⟨gk - 1, by omega⟩
          rw [show n - (k + 1) = d by omega]
          show (if _ then _ else _) = _
          rw [if_neg he])
        clear he
        go_wp2
        go_roundg (n - (k + 1))
        case measure => have := HK.out; omega
        case rel => exact ⟨k + 1, by have := HK.out; omega, by go_num, HF2.out, HX.out.alloc _, HBW.out.alloc (by omega) _⟩
    · have hke : k = n := by omega
      subst hke
      obtain ⟨da, hda⟩ : ∃ da, defA s.data.toList = da := ⟨_, rfl⟩
      obtain ⟨dl, hdl⟩ : ∃ dl, defL s.data.toList = dl := ⟨_, rfl⟩
      have HDA := Lib.hid hda
      have HDL := Lib.hid hdl
      have HF2 := Lib.hid (show findAt r s 0 k = ⟨s, da, dl, 0, 0⟩ by
        rw [HF.out, ← hda, ← hdl]
        have := HK.out
        obtain rfl : gk = 0 := by omega
        rfl)
      clear hda hdl
      go_wp2_with fail
      refine (fdef_is HDA.out HDL.out _).mono ?_
      rintro e w2 ⟨rfl, hb2⟩
      have HX2 := HX.out.below hb2 zr
      have u0 := HX2.cell 0
      have u1 := HX2.cell 1
      have u2 := HX2.cell 2
      have u3 := HX2.cell 3
      have u4 := HX2.cell 4
      have v0 := HX2.free 0
      have v1 := HX2.free 1
      have v2 := HX2.free 2
      have v3 := HX2.free 3
      have v4 := HX2.free 4
      simp only [List.getElem?_toArray, List.getElem?_cons_zero, List.getElem?_cons_succ] at u0 u1 u2 u3 u4
      have HBW2 := HBW.out.trans (hb2.mono (by omega))
      have z2 := HX2.lt
      obtain ⟨W, hW, q0, q1, q2, q3, q4, qs, qb⟩ := fixW u0 u1 u2 u3 u4 (.string s) (.int .i64 da) (.int .i64 dl) (.int .i64 0) (.int .i64 0)
      have HB2 := Lib.hid (qb _ _ HBW2 (Nat.le_refl _))
      have hz4 : w.heap.size < W.heap.size := by omega
      have Q0 := Lib.hid q0
      have Q1 := Lib.hid q1
      have Q2 := Lib.hid q2
      have Q3 := Lib.hid q3
      have Q4 := Lib.hid q4
      clear qs qb q0 q1 q2 q3 q4 hb2 HX2 HBW2 x0 x1 x2 x3 x4 y0 y1 y2 y3 y4
      go_wp2_with fail
      refine bodyPost_ret (v := fixV s da dl 0 0) (by simp [results, Try.results15, go_sem, Q0.out, Q1.out, Q2.out, Q3.out, Q4.out]) rfl ?_
      exact ⟨by rw [HF2.out], HB2.out⟩
set_option maxHeartbeats 2000000 in
theorem rfind_any (b : Option Addr) (n c : Nat) (hn : n ≤ 9223372036854775807) (r : Row) (s : ByteArray) (w : World) (hr : Reads w w.heap.size b n r) :
    Calls Try.prog 16 #[.slice b n c, .string s] w (FindPost (findAt r s 0 n) w) := by
  have HR := Lib.hid hr
  clear hr
  go_enter Try.func16, Try.ntmps16
  go_wp2_with fail
  go_loopg [5] n (fun d i wr => ∃ k : Nat, d + k = n ∧ i = .int .i64 k ∧ findAt r s 0 n = findAt r s k d ∧ Box wr w.heap.size 33 #[.string ByteArray.empty, .int .i64 0, .int .i64 0, .int .i64 0, .int .i64 0] ∧ Below w.heap.size w wr)
  case atStart => exact ⟨0, by omega, rfl, rfl, Box.new _ _ _, (Below.refl _ _).alloc (Nat.le_refl _) _⟩
  case round =>
    obtain ⟨k, hk, rfl, hf, hx, hbw⟩ := hrel
    have HK := Lib.hid hk
    have HF := Lib.hid hf
    have HX := Lib.hid hx
    have HBW := Lib.hid hbw
    have hle : k ≤ n := by omega
    have zr := hx.lt
    have x0 := hx.cell 0
    have x1 := hx.cell 1
    have x2 := hx.cell 2
    have x3 := hx.cell 3
    have x4 := hx.cell 4
    have y0 := hx.free 0
    have y1 := hx.free 1
    have y2 := hx.free 2
    have y3 := hx.free 3
    have y4 := hx.free 4
    simp only [List.getElem?_toArray, List.getElem?_cons_zero, List.getElem?_cons_succ] at x0 x1 x2 x3 x4
    clear hk hf hx hbw
    by_cases hlt : k < n
    · have hlt' : (k : Int) < n := by omega
      obtain ⟨ad, rfl, had, c0, c1, c2, c3, c4⟩ := (HR.out.below HBW.out (Nat.le_refl _)) k hlt
      by_cases he : r.O k = s
      · have d0 := str_eq he
        have HF2 := Lib.hid (show findAt r s 0 n = ⟨r.O k, r.A k, r.L k, r.P k, r.Q k⟩ by
          rw [HF.out]
          have := HK.out
          obtain ⟨d, rfl⟩ : ∃ d, gk = d + 1 := ⟨gk - 1, by omega⟩
          show (if _ then _ else _) = _
          rw [if_pos he])
        obtain ⟨W, hW, q0, q1, q2, q3, q4, qs, qb⟩ := fixW x0 x1 x2 x3 x4 (.string (r.O k)) (.int .i64 (r.A k)) (.int .i64 (r.L k)) (.int .i64 (r.P k)) (.int .i64 (r.Q k))
        have HB2 := Lib.hid (qb _ _ HBW.out (Nat.le_refl _))
        have hz4 : w.heap.size < W.heap.size := by omega
        have hz5 : w.heap.size ≤ W.heap.size := by omega
        have Q0 := Lib.hid q0
        have Q1 := Lib.hid q1
        have Q2 := Lib.hid q2
        have Q3 := Lib.hid q3
        have Q4 := Lib.hid q4
        clear qs qb q0 q1 q2 q3 q4 he
        go_wp2_with fail
        refine bodyPost_ret (v := fixV (r.O k) (r.A k) (r.L k) (r.P k) (r.Q k)) (by simp [results, Try.results16, go_sem, Q0.out, Q1.out, Q2.out, Q3.out, Q4.out]) rfl ?_
        exact ⟨by rw [HF2.out], HB2.out⟩
      · have d0 := str_ne he
        have HF2 := Lib.hid (show findAt r s 0 n = findAt r s (k + 1) (n - (k + 1)) by
          rw [HF.out]
          have := HK.out
          obtain ⟨d, rfl⟩ : ∃ d, gk = d + 1 := ⟨gk - 1, by omega⟩
          rw [show n - (k + 1) = d by omega]
          show (if _ then _ else _) = _
          rw [if_neg he])
        clear he
        go_wp2
        go_roundg (n - (k + 1))
        case measure => have := HK.out; omega
        case rel => exact ⟨k + 1, by have := HK.out; omega, by go_num, HF2.out, HX.out, HBW.out⟩
    · have hke : k = n := by omega
      subst hke
      obtain ⟨da, hda⟩ : ∃ da, defA s.data.toList = da := ⟨_, rfl⟩
      obtain ⟨dl, hdl⟩ : ∃ dl, defL s.data.toList = dl := ⟨_, rfl⟩
      have HDA := Lib.hid hda
      have HDL := Lib.hid hdl
      have HF2 := Lib.hid (show findAt r s 0 k = ⟨s, da, dl, 0, 0⟩ by
        rw [HF.out, ← hda, ← hdl]
        have := HK.out
        obtain rfl : gk = 0 := by omega
        rfl)
      clear hda hdl
      go_wp2_with fail
      refine (rdef_is HDA.out HDL.out _).mono ?_
      rintro e w2 ⟨rfl, hb2⟩
      have HX2 := HX.out.below hb2 zr
      have u0 := HX2.cell 0
      have u1 := HX2.cell 1
      have u2 := HX2.cell 2
      have u3 := HX2.cell 3
      have u4 := HX2.cell 4
      have v0 := HX2.free 0
      have v1 := HX2.free 1
      have v2 := HX2.free 2
      have v3 := HX2.free 3
      have v4 := HX2.free 4
      simp only [List.getElem?_toArray, List.getElem?_cons_zero, List.getElem?_cons_succ] at u0 u1 u2 u3 u4
      have HBW2 := HBW.out.trans (hb2.mono (by omega))
      have z2 := HX2.lt
      obtain ⟨W, hW, q0, q1, q2, q3, q4, qs, qb⟩ := fixW u0 u1 u2 u3 u4 (.string s) (.int .i64 da) (.int .i64 dl) (.int .i64 0) (.int .i64 0)
      have HB2 := Lib.hid (qb _ _ HBW2 (Nat.le_refl _))
      have hz4 : w.heap.size < W.heap.size := by omega
      have Q0 := Lib.hid q0
      have Q1 := Lib.hid q1
      have Q2 := Lib.hid q2
      have Q3 := Lib.hid q3
      have Q4 := Lib.hid q4
      clear qs qb q0 q1 q2 q3 q4 hb2 HX2 HBW2 x0 x1 x2 x3 x4 y0 y1 y2 y3 y4
      go_wp2_with fail
      refine bodyPost_ret (v := fixV s da dl 0 0) (by simp [results, Try.results16, go_sem, Q0.out, Q1.out, Q2.out, Q3.out, Q4.out]) rfl ?_
      exact ⟨by rw [HF2.out], HB2.out⟩
theorem find_is {b : Option Addr} {n c : Nat} {r : Row} {s : ByteArray} {x : Way} (h : findAt r s 0 n = x) (hn : n ≤ 9223372036854775807) (w : World) (hr : Reads w w.heap.size b n r) :
    Calls Try.prog 15 #[.slice b n c, .string s] w (FindPost x w) := by rw [← h]; exact find_any b n c hn r s w hr
theorem rfind_is {b : Option Addr} {n c : Nat} {r : Row} {s : ByteArray} {x : Way} (h : findAt r s 0 n = x) (hn : n ≤ 9223372036854775807) (w : World) (hr : Reads w w.heap.size b n r) :
    Calls Try.prog 16 #[.slice b n c, .string s] w (FindPost x w) := by rw [← h]; exact rfind_any b n c hn r s w hr
set_option maxHeartbeats 2000000 in
theorem finds_law (b : Option Addr) (n c : Nat) (hn : n ≤ 9223372036854775807) (r : Row) (s : ByteArray) (w : World) (hr : Reads w w.heap.size b n r) :
    Calls Try.prog 4 #[.slice b n c, .string s] w fun e w' => e = .returned (.bool true) ∧ Below w.heap.size w w' := by
  have HR := Lib.hid hr
  obtain ⟨da, hda⟩ : ∃ da, defA s.data.toList = da := ⟨_, rfl⟩
  obtain ⟨dl, hdl⟩ : ∃ dl, defL s.data.toList = dl := ⟨_, rfl⟩
  obtain ⟨x, hx⟩ : ∃ x, findAt r s 0 n = x := ⟨_, rfl⟩
  have HDA := Lib.hid hda
  have HDL := Lib.hid hdl
  have HFX := Lib.hid hx
  clear hr hda hdl hx
  obtain ⟨xo, xa, xl, xp, xq⟩ := x
  go_enter Try.func4, Try.ntmps4
  go_wp2_with fail
  refine (fdef_is HDA.out HDL.out _).mono ?_
  rintro e w1 ⟨rfl, hb1⟩
  have HB1 := Lib.hid hb1
  have z1 := hb1.size
  clear hb1
  go_wp2_with fail
  refine (rdef_is HDA.out HDL.out _).mono ?_
  rintro e w2 ⟨rfl, hb2⟩
  have HB2 := Lib.hid (HB1.out.trans (hb2.mono z1))
  have z2 := HB2.out.size
  clear hb2 z1
  go_wp2_with fail
  refine (find_is HFX.out hn _ ((HR.out.below HB2.out (Nat.le_refl _)).mono z2)).mono ?_
  rintro e w3 ⟨rfl, hb3⟩
  have HB3 := Lib.hid (HB2.out.trans (hb3.mono z2))
  have z3 := HB3.out.size
  clear hb3 z2
  go_wp2_with fail
  refine (rfind_is HFX.out hn _ ((HR.out.below HB3.out (Nat.le_refl _)).mono z3)).mono ?_
  rintro e w4 ⟨rfl, hb4⟩
  have HB4 := Lib.hid (HB3.out.trans (hb4.mono z3))
  have z4 := HB4.out.size
  clear hb4 z3
  go_wp2_with fail
  refine (known_any _).mono ?_
  rintro e w5 ⟨rfl, hb5⟩
  have HB5 := Lib.hid (HB4.out.trans (hb5.mono z4))
  clear hb5
  go_wp2
  go_returns
  exact ⟨rfl, HB5.out⟩
end Go.Proofs.Ytlhppkaehoppnaa.Fx
namespace Go.Proofs.Ytlhppkaehoppnaa.FixFinds
open Go.RowKit Fx
set_option linter.unusedVariables false
theorem law (b : Option Addr) (n c : Nat) (hn : n ≤ 9223372036854775807) (r : Row) (s : ByteArray) (hs : s.size ≤ 9223372036854775807) (w : World) (hr : Reads w w.heap.size b n r) :
    Calls Try.prog 4 #[.slice b n c, .string s] w fun e w' => e = .returned (.bool true) ∧ Below w.heap.size w w' := finds_law b n c hn r s w hr
end Go.Proofs.Ytlhppkaehoppnaa.FixFinds
