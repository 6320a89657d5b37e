/-
  CONTRACTS of layer lex: the place behind blanks; a token of digits; the first token of a text.
-/
import Derived.Test.YtdajihpfedbihaaGreatGSb

namespace Go.Proofs.YtdajihpfedbihaaGreat.Lx
open Go.RowKit Pl Ar Dg Pa
set_option linter.unusedVariables false

/-- a place -/
abbrev posV (ln col : Int) : Value := .agg #[.int .i64 ln, .int .i64 col]
/-- a token -/
abbrev tokV (k : Int) (t : ByteArray) (n ln col : Int) : Value := .agg #[.int .i64 k, .string t, .int .i64 n, .int .i64 ln, .int .i64 col, .bool false]

def behindL (l : List UInt8) (ln : Int) : Int := if Lib.hasSuffix l [10] then ln + 1 else ln
def behindC (l : List UInt8) (col : Int) : Int := if Lib.hasSuffix l [10] then 1 else col + (l.length : Int)
def BehindPost (l : List UInt8) (ln col : Int) (w : World) (e : Ending) (w' : World) : Prop := e = .returned (posV (behindL l ln) (behindC l col)) ∧ Below w.heap.size w w'
set_option maxHeartbeats 1000000 in
theorem behind_any (ln col : Int) (s : ByteArray) (h1 : 0 ≤ ln) (h2 : ln ≤ 1000000000) (h3 : 0 ≤ col) (h4 : col ≤ 1000000000) (hs : s.size ≤ 1000000000) (w : World) : Calls Tryz.prog 71 #[posV ln col, .string s] w (BehindPost s.data.toList ln col w) := by
  cases hsuf : Lib.hasSuffix s.data.toList [10]
  · have HS := Lib.hid hsuf
    have HL := Lib.hid (show behindL s.data.toList ln = ln by unfold behindL; rw [hsuf]; rfl)
    have HC := Lib.hid (show behindC s.data.toList col = col + s.size by unfold behindC; rw [hsuf, Lib.size_eq]; rfl)
    clear hsuf
    go_enter Tryz.func71, Tryz.ntmps71
    go_wp2_with (go_at_call 95; refine (suf_any _ _ (by omega) _).mono ?_; rw [show Lib.hasSuffix s.data.toList (⟨#[10]⟩ : ByteArray).data.toList = false from HS.out]; rintro e w' ⟨rfl, rfl⟩)
    go_returns
    exact ⟨by rw [HL.out, HC.out], by go_grown⟩
  · have HS := Lib.hid hsuf
    have HL := Lib.hid (show behindL s.data.toList ln = ln + 1 by unfold behindL; rw [hsuf]; rfl)
    have HC := Lib.hid (show behindC s.data.toList col = 1 by unfold behindC; rw [hsuf]; rfl)
    clear hsuf
    go_enter Tryz.func71, Tryz.ntmps71
    go_wp2_with (go_at_call 95; refine (suf_any _ _ (by omega) _).mono ?_; rw [show Lib.hasSuffix s.data.toList (⟨#[10]⟩ : ByteArray).data.toList = true from HS.out]; rintro e w' ⟨rfl, rfl⟩)
    go_returns
    exact ⟨by rw [HL.out, HC.out], by go_grown⟩

/-- the text of 2^63 -/
def beyond : List UInt8 := [57, 50, 50, 51, 51, 55, 50, 48, 51, 54, 56, 53, 52, 55, 55, 53, 56, 48, 56]
/-- the number of some digits in a source, and the error -/
def wholeOf (l : List UInt8) : Int × Int := if l = beyond then (-9223372036854775808, 0) else prs l
theorem parse_is {s : ByteArray} {r f : Int} (hs : s.size ≤ 9223372036854775807) (h : prs s.data.toList = (r, f)) (w : World) : Calls Tryz.prog 124 #[.string s] w fun e w' => e = .returned (.tuple #[.int .i64 r, .int .i64 f]) ∧ w = w' := by
  have g := parse_any s hs w
  unfold ParsePost at g
  rw [h] at g
  exact g
theorem prs_cases (l : List UInt8) : (∃ r, prs l = (r, 0)) ∨ prs l = (0, 11) := by
  cases h : good l
  · right; exact prs_bad h
  · left; exact ⟨_, prs_good h⟩
/-- What a call that tells a token or an error ends with. -/
def TokPost (k : Int) (t : ByteArray) (n err : Int) (w : World) (e : Ending) (w' : World) : Prop :=
  e = .returned (.tuple #[if err = 0 then tokV k t n 0 0 else tokV 0 ByteArray.empty 0 0 0, .int .i64 err]) ∧ Below w.heap.size w w'
theorem tokPost_ok {k : Int} {t : ByteArray} {n : Int} {w w' : World} (hb : Below w.heap.size w w') : TokPost k t n 0 w (.returned (.tuple #[tokV k t n 0 0, .int .i64 0])) w' := ⟨rfl, hb⟩
theorem tokPost_err {k : Int} {t : ByteArray} {n err : Int} {w w' : World} (h : ¬ err = 0) (hb : Below w.heap.size w w') : TokPost k t n err w (.returned (.tuple #[tokV 0 ByteArray.empty 0 0 0, .int .i64 err])) w' := ⟨by rw [if_neg h], hb⟩
set_option maxHeartbeats 1000000 in
theorem whole_any (s : ByteArray) (hs : s.size ≤ 9223372036854775807) (w : World) : Calls Tryz.prog 98 #[.string s] w (TokPost 4 s (wholeOf s.data.toList).1 (wholeOf s.data.toList).2 w) := by
  by_cases hb : s.data.toList = beyond
  · have hw : wholeOf s.data.toList = (-9223372036854775808, 0) := by unfold wholeOf; rw [if_pos hb]
    rw [hw]
    obtain rfl := is_text hb
    obtain ⟨⟨r, f⟩, hp⟩ : ∃ p, prs beyond = p := ⟨_, rfl⟩
    have HP := Lib.hid hp
    clear hb hw hp
    go_enter Tryz.func98, Tryz.ntmps98
    go_wp2_with (go_at_call 124; refine (parse_is hs (show prs (⟨beyond.toArray⟩ : ByteArray).data.toList = (r, f) from HP.out) _).mono ?_; rintro e w' ⟨rfl, rfl⟩)
    go_returns
    exact tokPost_ok (by go_grown)
  · have hw : wholeOf s.data.toList = prs s.data.toList := by unfold wholeOf; rw [if_neg hb]
    rw [hw]
    have hb2 : (s.toList == [57, 50, 50, 51, 51, 55, 50, 48, 51, 54, 56, 53, 52, 55, 55, 53, 56, 48, 56]) = false := by rw [Lib.toList_data]; exact beq_eq_false_iff_ne.2 hb
    clear hb hw
    rcases prs_cases s.data.toList with ⟨r, hr⟩ | hr
    · rw [hr]
      have HP := Lib.hid hr
      clear hr
      go_enter Tryz.func98, Tryz.ntmps98
      go_wp2_with (go_at_call 124; refine (parse_is hs HP.out _).mono ?_; rintro e w' ⟨rfl, rfl⟩)
      go_returns
      exact tokPost_ok (by go_grown)
    · rw [hr]
      have HP := Lib.hid hr
      clear hr
      go_enter Tryz.func98, Tryz.ntmps98
      go_wp2_with (go_at_call 124; refine (parse_is hs HP.out _).mono ?_; rintro e w' ⟨rfl, rfl⟩)
      go_returns
      exact tokPost_err (by decide) (by go_grown)

theorem clone_any (s : ByteArray) (hs : s.size ≤ 281474976710656) (w : World) : Calls Tryz.prog 96 #[.string s] w fun e w' => e = .returned (.string s) ∧ Below w.heap.size w w' := by
  go_enter Tryz.func96, Tryz.ntmps96
  go_wp2_with fail
  refine (Tryz.stringslite_Clone s _ hs).mono ?_
  rintro e w' ⟨rfl, hb⟩
  have HB := Lib.hid hb
  clear hb
  go_wp2
  go_ret
  exact ⟨rfl, HB.out⟩

/-- the class of a text's first byte -/
def hcls (l : List UInt8) : Int := match l with | [] => 1 | c :: _ => cls c.toNat
/-- the text of the token that a text begins with -/
def fText (l : List UInt8) : List UInt8 := l.take (endLen l (hcls l))
def fErr (l : List UInt8) : Int :=
  if hcls l = 0 ∨ hcls l = 5 then 20 else if hcls l = 4 then (wholeOf (fText l)).2 else if 32 < (fText l).length then 2 else 0
def fKind (l : List UInt8) : Int := if hcls l = 4 then 4 else kindOf (fText l) (hcls l)
def fNum (l : List UInt8) : Int := if hcls l = 4 then (wholeOf (fText l)).1 else 0
def FirstPost (l : List UInt8) (w : World) (e : Ending) (w' : World) : Prop := TokPost (fKind l) ⟨(fText l).toArray⟩ (fNum l) (fErr l) w e w'

theorem runR_le (c : Int) (l : List UInt8) : runR c l ≤ l.length := by
  induction l with
  | nil => exact Nat.le_refl _
  | cons x r ih => unfold runR; split <;> simp; omega
theorem endLen_le {l : List UInt8} (c : Int) (h : 0 < l.length) : endLen l c ≤ l.length ∧ 1 ≤ endLen l c := by
  have := runR_le c (l.drop 1)
  unfold endLen
  rw [List.length_drop] at this
  omega
theorem hcls_get {s : ByteArray} (h : 0 < s.size) : hcls s.data.toList = cls s[0].toNat := by
  have := drop_cons h
  rw [List.drop_zero] at this
  rw [this]; rfl
theorem take_text (s : ByteArray) (n : Nat) : (s.extract 0 n).data.toList = s.data.toList.take n := by rw [Lib.extract_data]; simp
theorem kind_is {s : ByteArray} {c n : Int} (h : kindOf s.data.toList c = n) (w : World) : Calls Tryz.prog 99 #[.string s, .int .i64 c] w fun e w' => e = .returned (.int .i64 n) ∧ w = w' := by
  have g := kind_any s c w
  unfold KindPost at g
  rw [h] at g
  exact g
theorem end_is {s : ByteArray} {c : Int} {n : Nat} (h0 : 0 < s.size) (hs : s.size ≤ 9223372036854775807) (hc : c = 2 ∨ c = 3 ∨ c = 4 ∨ c = 6 ∨ c = 7) (h : endLen s.data.toList c = n) (w : World) : Calls Tryz.prog 97 #[.string s, .int .i64 c] w fun e w' => e = .returned (.int .i64 n) ∧ w = w' := by
  have g := end_any s c h0 hs hc w
  unfold EndPost at g
  rw [h] at g
  exact g
theorem whole_is {s : ByteArray} {r f : Int} (hs : s.size ≤ 9223372036854775807) (h : wholeOf s.data.toList = (r, f)) (w : World) : Calls Tryz.prog 98 #[.string s] w (TokPost 4 s r f w) := by
  have g := whole_any s hs w
  rw [h] at g
  exact g
theorem whole_ok {s : ByteArray} {r : Int} (hs : s.size ≤ 9223372036854775807) (h : wholeOf s.data.toList = (r, 0)) (w : World) : Calls Tryz.prog 98 #[.string s] w fun e w' => e = .returned (.tuple #[tokV 4 s r 0 0, .int .i64 0]) ∧ Below w.heap.size w w' := whole_is hs h w
theorem whole_err {s : ByteArray} {r f : Int} (hs : s.size ≤ 9223372036854775807) (hf : ¬ f = 0) (h : wholeOf s.data.toList = (r, f)) (w : World) : Calls Tryz.prog 98 #[.string s] w fun e w' => e = .returned (.tuple #[tokV 0 ByteArray.empty 0 0 0, .int .i64 f]) ∧ Below w.heap.size w w' := by
  have g := whole_is hs h w
  unfold TokPost at g
  rw [if_neg hf] at g
  exact g
/-- a new token's cells, as they lie behind a call -/
theorem keepTok {w w2 : World} {a0 a1 a2 a3 a4 a5 : Value} (hb : Below (w.alloc (.cells #[a0, a1, a2, a3, a4, a5] 54)).heap.size (w.alloc (.cells #[a0, a1, a2, a3, a4, a5] 54)) w2) :
    w2.cell? ⟨w.heap.size, 0, none⟩ = some a0 ∧ w2.cell? ⟨w.heap.size, 1, none⟩ = some a1 ∧ w2.cell? ⟨w.heap.size, 2, none⟩ = some a2 ∧ w2.cell? ⟨w.heap.size, 3, none⟩ = some a3 ∧ w2.cell? ⟨w.heap.size, 4, none⟩ = some a4 ∧ w2.cell? ⟨w.heap.size, 5, none⟩ = some a5 ∧
    w2.frozen? ⟨w.heap.size, 0, none⟩ = false ∧ w2.frozen? ⟨w.heap.size, 1, none⟩ = false ∧ w2.frozen? ⟨w.heap.size, 2, none⟩ = false ∧ w2.frozen? ⟨w.heap.size, 3, none⟩ = false ∧ w2.frozen? ⟨w.heap.size, 4, none⟩ = false ∧ w2.frozen? ⟨w.heap.size, 5, none⟩ = false := by
  have hlt : ∀ j, (⟨w.heap.size, j, none⟩ : Addr).block < (w.alloc (.cells #[a0, a1, a2, a3, a4, a5] 54)).heap.size := fun j => by simp
  have hc : ∀ j, w2.cell? ⟨w.heap.size, j, none⟩ = #[a0, a1, a2, a3, a4, a5][j]? := fun j => by
    rw [hb.cell (hlt j), World.cell?_alloc_at _ _ _ _ rfl]
  have hf : ∀ j, w2.frozen? ⟨w.heap.size, j, none⟩ = false := fun j => by
    rw [hb.frozen (hlt j), World.frozen?_alloc_at _ _ _ _ rfl]
  exact ⟨hc 0, hc 1, hc 2, hc 3, hc 4, hc 5, hf 0, hf 1, hf 2, hf 3, hf 4, hf 5⟩
theorem set_same {X : World} {p : Addr} {u v : Value} (h : X.cell? p = some u) : (X.setCell p v).cell? p = some v := World.cell?_setCell_same _ _ _ h
/-- a token's cells that are written one behind the other read as written -/
theorem setTok {w2 : World} {b : Nat} {a0 a1 a2 a3 a4 a5 : Value} (k0 : w2.cell? ⟨b, 0, none⟩ = some a0) (k1 : w2.cell? ⟨b, 1, none⟩ = some a1) (k2 : w2.cell? ⟨b, 2, none⟩ = some a2) (k3 : w2.cell? ⟨b, 3, none⟩ = some a3) (k4 : w2.cell? ⟨b, 4, none⟩ = some a4) (k5 : w2.cell? ⟨b, 5, none⟩ = some a5) :
    (∀ v0, (w2.setCell ⟨b, 0, none⟩ v0).cell? ⟨b, 0, none⟩ = some v0) ∧
    (∀ v0 v1, ((w2.setCell ⟨b, 0, none⟩ v0).setCell ⟨b, 1, none⟩ v1).cell? ⟨b, 1, none⟩ = some v1) ∧
    (∀ v0 v1 v2, (((w2.setCell ⟨b, 0, none⟩ v0).setCell ⟨b, 1, none⟩ v1).setCell ⟨b, 2, none⟩ v2).cell? ⟨b, 2, none⟩ = some v2) ∧
    (∀ v0 v1 v2 v3, ((((w2.setCell ⟨b, 0, none⟩ v0).setCell ⟨b, 1, none⟩ v1).setCell ⟨b, 2, none⟩ v2).setCell ⟨b, 3, none⟩ v3).cell? ⟨b, 3, none⟩ = some v3) ∧
    (∀ v0 v1 v2 v3 v4, (((((w2.setCell ⟨b, 0, none⟩ v0).setCell ⟨b, 1, none⟩ v1).setCell ⟨b, 2, none⟩ v2).setCell ⟨b, 3, none⟩ v3).setCell ⟨b, 4, none⟩ v4).cell? ⟨b, 4, none⟩ = some v4) ∧
    (∀ v0 v1 v2 v3 v4 v5, ((((((w2.setCell ⟨b, 0, none⟩ v0).setCell ⟨b, 1, none⟩ v1).setCell ⟨b, 2, none⟩ v2).setCell ⟨b, 3, none⟩ v3).setCell ⟨b, 4, none⟩ v4).setCell ⟨b, 5, none⟩ v5).cell? ⟨b, 5, none⟩ = some v5) := by
  refine ⟨fun v0 => World.cell?_setCell_same _ _ _ k0, fun v0 v1 => set_same (u := a1) ?_, fun v0 v1 v2 => set_same (u := a2) ?_, fun v0 v1 v2 v3 => set_same (u := a3) ?_, fun v0 v1 v2 v3 v4 => set_same (u := a4) ?_, fun v0 v1 v2 v3 v4 v5 => set_same (u := a5) ?_⟩
  all_goals
    (repeat rw [World.cell?_setCell_other _ _ _ _ (by simp)])
    assumption
set_option maxHeartbeats 2000000 in
theorem first_bad (s : ByteArray) (h0 : 0 < s.size) (hs : s.size ≤ 1000000000) (c : Int) (hc : c = 0 ∨ c = 5) (hcl : hcls s.data.toList = c) (w : World) : Calls Tryz.prog 72 #[.string s] w (FirstPost s.data.toList w) := by
  have hb := UInt8.toNat_lt s[0]
  have HC := Lib.hid (show cls s[0].toNat = c by rw [← hcls_get h0]; exact hcl)
  have HE := Lib.hid (show fErr s.data.toList = 20 by unfold fErr; rw [if_pos (by rw [hcl]; exact hc)])
  clear hcl
  rcases hc with rfl | rfl
  all_goals
    go_enter Tryz.func72, Tryz.ntmps72
    go_wp2_with (go_at_call 94; refine (class_is hb HC.out _).mono ?_; rintro e w' ⟨rfl, rfl⟩)
    go_returns
    unfold FirstPost
    rw [HE.out]
    exact tokPost_err (by decide) (by go_grown)
set_option maxHeartbeats 2000000 in
theorem first_digit (s : ByteArray) (h0 : 0 < s.size) (hs : s.size ≤ 1000000000) (hcl : hcls s.data.toList = 4) (w : World) : Calls Tryz.prog 72 #[.string s] w (FirstPost s.data.toList w) := by
  have hb := UInt8.toNat_lt s[0]
  have HC := Lib.hid (show cls s[0].toNat = 4 by rw [← hcls_get h0]; exact hcl)
  obtain ⟨n, hn⟩ : ∃ n, endLen s.data.toList 4 = n := ⟨_, rfl⟩
  have hle := endLen_le (l := s.data.toList) 4 (by rw [← Lib.size_eq]; exact h0)
  rw [hn, ← Lib.size_eq] at hle
  obtain ⟨⟨r, f⟩, hw⟩ : ∃ p, wholeOf (s.extract 0 n).data.toList = p := ⟨_, rfl⟩
  have ht : fText s.data.toList = (s.extract 0 n).data.toList := by unfold fText; rw [hcl, hn, take_text]
  have HE := Lib.hid (show fErr s.data.toList = f by unfold fErr; rw [if_neg (by rw [hcl]; decide), if_pos hcl, ht, hw])
  have HK := Lib.hid (show fKind s.data.toList = 4 by unfold fKind; rw [if_pos hcl])
  have HM := Lib.hid (show fNum s.data.toList = r by unfold fNum; rw [if_pos hcl, ht, hw])
  have HT := Lib.hid (show (⟨(fText s.data.toList).toArray⟩ : ByteArray) = s.extract 0 n by rw [ht])
  have hsz : (s.extract 0 n).size ≤ 1000000000 := by simp; omega
  have HN := Lib.hid hn
  have HW := Lib.hid hw
  clear hcl hn hw ht
  go_enter Tryz.func72, Tryz.ntmps72
  go_wp2_with (first | (go_at_call 94; refine (class_is hb HC.out _).mono ?_; rintro e w' ⟨rfl, rfl⟩) | (go_at_call 97; refine (end_is h0 (by omega) (by decide) HN.out _).mono ?_; rintro e w' ⟨rfl, rfl⟩))
  refine (clone_any _ (by omega) _).mono ?_
  rintro e w1 ⟨rfl, hb1⟩
  have HB1 := Lib.hid hb1
  clear hb1
  go_wp2_with fail
  by_cases hf : f = 0
  · refine (whole_ok (by omega) (by rw [HW.out, hf]) _).mono ?_
    rintro e w2 ⟨rfl, hb2⟩
    have HB2 := Lib.hid (HB1.out.trans (hb2.mono HB1.out.size))
    obtain ⟨k0, k1, k2, k3, k4, k5, g0, g1, g2, g3, g4, g5⟩ := keepTok HB2.out
    have hz : w.heap.size < w2.heap.size := by have := HB2.out.size; simp at this; omega
    clear hb2
    have HF := Lib.hid hf
    clear hf
    have hB : Below w.heap.size w w2 := ((Below.refl _ _).alloc (Nat.le_refl _) _).trans (HB2.out.mono (by simp))
    have HBB := Lib.hid hB
    clear hB
    obtain ⟨q0, q1, q2, q3, q4, q5⟩ := setTok k0 k1 k2 k3 k4 k5
    have Q0 := Lib.hid q0
    have Q1 := Lib.hid q1
    have Q2 := Lib.hid q2
    have Q3 := Lib.hid q3
    have Q4 := Lib.hid q4
    have Q5 := Lib.hid q5
    clear q0 q1 q2 q3 q4 q5
    go_wp2
    refine bodyPost_ret (by simp [results, Tryz.results72, go_sem, Q0.out, Q1.out, Q2.out, Q3.out, Q4.out, Q5.out]; try rfl) rfl ?_
    unfold FirstPost
    rw [HK.out, HT.out, HM.out, HE.out, HF.out]
    have hB := HBB.out
    exact tokPost_ok (by go_grown)
  · refine (whole_err (by omega) hf HW.out _).mono ?_
    rintro e w2 ⟨rfl, hb2⟩
    have HB2 := Lib.hid (HB1.out.trans (hb2.mono HB1.out.size))
    obtain ⟨k0, k1, k2, k3, k4, k5, g0, g1, g2, g3, g4, g5⟩ := keepTok HB2.out
    have hz : w.heap.size < w2.heap.size := by have := HB2.out.size; simp at this; omega
    clear hb2
    have HF := Lib.hid hf
    clear hf
    have HBB := Lib.hid (((Below.refl _ _).alloc (Nat.le_refl _) _).trans (HB2.out.mono (by simp)) : Below w.heap.size w w2)
    obtain ⟨q0, q1, q2, q3, q4, q5⟩ := setTok k0 k1 k2 k3 k4 k5
    have Q0 := Lib.hid q0
    have Q1 := Lib.hid q1
    have Q2 := Lib.hid q2
    have Q3 := Lib.hid q3
    have Q4 := Lib.hid q4
    have Q5 := Lib.hid q5
    clear q0 q1 q2 q3 q4 q5
    go_wp2
    refine bodyPost_ret (by simp [results, Tryz.results72, go_sem, Q0.out, Q1.out, Q2.out, Q3.out, Q4.out, Q5.out]; try rfl) rfl ?_
    unfold FirstPost
    rw [HK.out, HT.out, HM.out, HE.out]
    have hB := HBB.out
    exact tokPost_err HF.out (by go_grown)

theorem fText_le (l : List UInt8) : (fText l).length ≤ l.length := by unfold fText; rw [List.length_take]; omega
set_option maxHeartbeats 4000000 in
theorem first_other (s : ByteArray) (h0 : 0 < s.size) (hs : s.size ≤ 1000000000) (c : Int) (hc : c = 2 ∨ c = 3 ∨ c = 6 ∨ c = 7) (hcl : hcls s.data.toList = c) (w : World) : Calls Tryz.prog 72 #[.string s] w (FirstPost s.data.toList w) := by
  have hb := UInt8.toNat_lt s[0]
  have HC := Lib.hid (show cls s[0].toNat = c by rw [← hcls_get h0]; exact hcl)
  obtain ⟨n, hn⟩ : ∃ n, endLen s.data.toList c = n := ⟨_, rfl⟩
  have hle := endLen_le (l := s.data.toList) c (by rw [← Lib.size_eq]; exact h0)
  rw [hn, ← Lib.size_eq] at hle
  have n0 : ¬ c = 0 := by omega
  have n4 : ¬ c = 4 := by omega
  have n5 : ¬ c = 5 := by omega
  have n05 : ¬ (c = 0 ∨ c = 5) := by omega
  have ht : fText s.data.toList = (s.extract 0 n).data.toList := by unfold fText; rw [hcl, hn, take_text]
  have hlen : (fText s.data.toList).length = n := by rw [ht, ← Lib.size_eq]; simp; omega
  have HE := Lib.hid (show fErr s.data.toList = if 32 < n then 2 else 0 by unfold fErr; rw [if_neg (by rw [hcl]; exact n05), if_neg (by rw [hcl]; exact n4), hlen])
  obtain ⟨k, hk⟩ : ∃ k, kindOf (s.extract 0 n).data.toList c = k := ⟨_, rfl⟩
  have HK := Lib.hid (show fKind s.data.toList = k by unfold fKind; rw [if_neg (by rw [hcl]; exact n4), ht, hcl, hk])
  have HM := Lib.hid (show fNum s.data.toList = 0 by unfold fNum; rw [if_neg (by rw [hcl]; exact n4)])
  have HT := Lib.hid (show (⟨(fText s.data.toList).toArray⟩ : ByteArray) = s.extract 0 n by rw [ht])
  have hsz : (s.extract 0 n).size = n := by simp; omega
  have HSZ := Lib.hid hsz
  have d0 : (c == 0) = false := beq_eq_false_iff_ne.2 n0
  have d4 : (c == 4) = false := beq_eq_false_iff_ne.2 n4
  have d5 : (c == 5) = false := beq_eq_false_iff_ne.2 n5
  have HN := Lib.hid hn
  have HKK := Lib.hid hk
  have hc2 : c = 2 ∨ c = 3 ∨ c = 4 ∨ c = 6 ∨ c = 7 := by omega
  have HC2 := Lib.hid hc2
  clear hcl hn ht hlen hk n0 n4 n5 n05 hc hc2 hsz
  by_cases hlong : 32 < n
  all_goals
    go_enter Tryz.func72, Tryz.ntmps72
    go_wp2_with (first | (go_at_call 94; refine (class_is hb HC.out _).mono ?_; rintro e w' ⟨rfl, rfl⟩) | (go_at_call 97; refine (end_is h0 (by omega) HC2.out HN.out _).mono ?_; rintro e w' ⟨rfl, rfl⟩))
    refine (clone_any _ (by rw [HSZ.out]; omega) _).mono ?_
    rintro e w1 ⟨rfl, hb1⟩
    have HB1 := Lib.hid hb1
    obtain ⟨k0, k1, k2, k3, k4, k5, g0, g1, g2, g3, g4, g5⟩ := keepTok HB1.out
    have hz : w.heap.size < w1.heap.size := by have := HB1.out.size; simp at this; omega
    clear hb1
    have HBB := Lib.hid (((Below.refl _ _).alloc (Nat.le_refl _) _).trans (HB1.out.mono (by simp)) : Below w.heap.size w w1)
    obtain ⟨q0, q1, q2, q3, q4, q5⟩ := setTok k0 k1 k2 k3 k4 k5
    have Q0 := Lib.hid q0
    have Q1 := Lib.hid q1
    have Q2 := Lib.hid q2
    have Q3 := Lib.hid q3
    have Q4 := Lib.hid q4
    have Q5 := Lib.hid q5
    clear q0 q1 q2 q3 q4 q5
    go_wp2_with (go_at_call 99; refine (kind_is HKK.out _).mono ?_; rintro e w' ⟨rfl, rfl⟩)
    refine bodyPost_ret (by simp [results, Tryz.results72, go_sem, Q0.out, Q1.out, Q2.out, Q3.out, Q4.out, Q5.out]; try rfl) rfl ?_
    unfold FirstPost
    rw [HK.out, HT.out, HM.out, HE.out]
  · rw [if_pos hlong]
    have hB := HBB.out
    exact tokPost_err (by decide) (by go_grown)
  · rw [if_neg hlong]
    have hB := HBB.out
    exact tokPost_ok (by go_grown)
/-- lex.first, of a text that begins with no blank. -/
theorem first_any (s : ByteArray) (h0 : 0 < s.size) (hs : s.size ≤ 1000000000) (hn : ¬ hcls s.data.toList = 1) (w : World) : Calls Tryz.prog 72 #[.string s] w (FirstPost s.data.toList w) := by
  rcases cls_cases s[0].toNat with h | h | h | h | h | h | h | h <;> rw [← hcls_get h0] at h
  · exact first_bad s h0 hs 0 (Or.inl rfl) h w
  · exact absurd h hn
  · exact first_other s h0 hs 2 (by decide) h w
  · exact first_other s h0 hs 3 (by decide) h w
  · exact first_digit s h0 hs h w
  · exact first_bad s h0 hs 5 (Or.inr rfl) h w
  · exact first_other s h0 hs 6 (by decide) h w
  · exact first_other s h0 hs 7 (by decide) h w
end Go.Proofs.YtdajihpfedbihaaGreat.Lx
