/-
  PLAIN MATHEMATICS for layer num: sums of bits, long division, the operators' plain functions. No program in sight.
-/
import Derived.Test.YtdajihpfedbihaaGreatChecked
import Derived.WalkKit
import Derived.ProofKit
import Derived.Laws.ShiftsVarLaws
import Derived.Laws.Bits64
import Derived.Laws.BitsAllLaws
import Derived.Handy
import Derived.Lib.Hide
import Derived.WalkSpells
import Derived.WalkLawsBesides
import Derived.Outline
import Derived.Lib.Strings
import Derived.Lib.IndexBytes
import Derived.Deep.LoopGhost
namespace Go.Proofs.YtdajihpfedbihaaGreat.Pl
open Go.RowKit

/-- A number without its sign. -/
def size (a : Int) : Nat := a.natAbs
end Go.Proofs.YtdajihpfedbihaaGreat.Pl
/-
  CONTRACT: a number without its sign (changelingref01.Size).
-/
namespace Go.Proofs.YtdajihpfedbihaaGreat.Ar
open Go.RowKit Pl

end Go.Proofs.YtdajihpfedbihaaGreat.Ar
/-
  PLAIN MATHEMATICS: a number's text: digits, their value, reading and writing. No program in sight.
-/
namespace Go.Proofs.YtdajihpfedbihaaGreat.Dg

/-- a value with one digit more -/
def more (v : Nat) (c : UInt8) : Nat := 10 * v + (c.toNat - 48)
/-- the value of some digits (whatever the bytes) behind a value -/
def valF (v : Nat) (d : List UInt8) : Nat := d.foldl more v
def val (d : List UInt8) : Nat := valF 0 d
def isD (c : UInt8) : Bool := decide (48 ≤ c.toNat) && decide (c.toNat ≤ 57)

theorem valF_append (v : Nat) (a b : List UInt8) : valF v (a ++ b) = valF (valF v a) b := List.foldl_append
theorem val_snoc (a : List UInt8) (c : UInt8) : val (a ++ [c]) = 10 * val a + (c.toNat - 48) := valF_append 0 a [c]
theorem more_le (v : Nat) (c : UInt8) : v ≤ more v c := by unfold more; omega
theorem valF_mono (v : Nat) (d : List UInt8) : v ≤ valF v d := by
  induction d generalizing v with
  | nil => exact Nat.le_refl _
  | cons c r ih => exact Nat.le_trans (more_le v c) (ih (more v c))
theorem val_le_append (a b : List UInt8) : val a ≤ val (a ++ b) := by
  unfold val; rw [valF_append]; exact valF_mono _ _
theorem val_take_le (d : List UInt8) (i : Nat) : val (d.take i) ≤ val d := by
  conv => rhs; rw [← List.take_append_drop i d]
  exact val_le_append _ _
theorem take_snoc (d : List UInt8) (i : Nat) (h : i < d.length) : d.take (i + 1) = d.take i ++ [d[i]] := by
  rw [List.take_succ_eq_append_getElem h]
theorem val_take_succ (d : List UInt8) (i : Nat) (h : i < d.length) : val (d.take (i + 1)) = 10 * val (d.take i) + (d[i].toNat - 48) := by
  rw [take_snoc d i h, val_snoc]

/-- the digits of a text behind its sign -/
def digitsOf : List UInt8 → List UInt8
  | [] => []
  | c :: r => if c = 45 then r else c :: r
def below (l : List UInt8) : Bool := l.head? == some 45
/-- the greatest number without a sign that a text may name -/
def most (b : Bool) : Nat := if b then 9223372036854775808 else 9223372036854775807
/-- is it a number's text -/
def good (l : List UInt8) : Bool :=
  !(digitsOf l).isEmpty && !(((digitsOf l).head? == some 48) && !(l == [48])) && (digitsOf l).all isD && decide (val (digitsOf l) ≤ most (below l))
/-- the number that a text names, and the error -/
def prs (l : List UInt8) : Int × Int :=
  if good l then (if below l then -(val (digitsOf l) : Int) else (val (digitsOf l) : Int), 0) else (0, 11)

theorem prs_good {l : List UInt8} (h : good l = true) : prs l = (if below l then -(val (digitsOf l) : Int) else (val (digitsOf l) : Int), 0) := by
  unfold prs; rw [if_pos h]
theorem prs_bad {l : List UInt8} (h : good l = false) : prs l = (0, 11) := by
  unfold prs; rw [if_neg (by rw [h]; decide)]
end Go.Proofs.YtdajihpfedbihaaGreat.Dg
/-
  CONTRACT: num.Parse reads any text as 'prs' says.
-/
namespace Go.Proofs.YtdajihpfedbihaaGreat.Pa
open Go.RowKit Pl Ar Dg

def dg (s : ByteArray) : ByteArray := ⟨(digitsOf s.data.toList).toArray⟩
theorem dg_data (s : ByteArray) : (dg s).data.toList = digitsOf s.data.toList := by simp [dg]
theorem dg_no {s : ByteArray} (h : below s.data.toList = false) : dg s = s := by
  have e : digitsOf s.data.toList = s.data.toList := by
    cases hl : s.data.toList with
    | nil => rfl
    | cons c r =>
      rw [hl] at h
      have hc : ¬ c = 45 := by simpa [below] using h
      simp [digitsOf, hc]
  unfold dg; rw [e]
theorem below_pos {s : ByteArray} (h : below s.data.toList = true) : 0 < s.size ∧ (s.extract 0 1).toList = [45] := by
  rw [Lib.extract_toList, Lib.size_eq]
  cases hl : s.data.toList with
  | nil => rw [hl] at h; simp [below] at h
  | cons c r => 
    rw [hl] at h
    have hc : c = 45 := by simpa [below] using h
    simp [hc]
theorem below_neg {s : ByteArray} (h : below s.data.toList = false) (h0 : 0 < s.size) : ¬ (s.extract 0 1).toList = [45] := by
  rw [Lib.extract_toList]
  rw [Lib.size_eq] at h0
  cases hl : s.data.toList with
  | nil => rw [hl] at h0; simp at h0
  | cons c r =>
    rw [hl] at h
    have hc : ¬ c = 45 := by simpa [below] using h
    simp [hc]
theorem dg_yes {s : ByteArray} (h : below s.data.toList = true) : dg s = s.extract 1 s.size := by
  have e : digitsOf s.data.toList = (s.extract 1 s.size).data.toList := by
    rw [Lib.extract_to_end]
    cases hl : s.data.toList with
    | nil => rfl
    | cons c r =>
      rw [hl] at h
      have hc : c = 45 := by simpa [below] using h
      simp [digitsOf, hc]
  unfold dg; rw [e]

theorem trim_any (s : ByteArray) (hs : s.size ≤ maxLen) (w : World) : Calls Tryz.prog 141 #[.string s, .string ⟨#[45]⟩] w fun e w' => e = .returned (.string (dg s)) ∧ w = w' := by
  unfold maxLen at hs
  cases h : below s.data.toList
  · have HD := Lib.hid (dg_no h)
    by_cases h0 : 0 < s.size
    · have h1 : ((s.extract 0 1).toList == [45]) = false := beq_eq_false_iff_ne.2 (below_neg h h0)
      clear h
      go_enter Tryz.func141, Tryz.ntmps141
      go_wp2
      go_ret
      exact ⟨by rw [HD.out]; rfl, rfl⟩
    · have hz : s.size = 0 := by omega
      clear h
      go_enter Tryz.func141, Tryz.ntmps141
      go_wp2
      go_ret
      exact ⟨by rw [HD.out]; rfl, rfl⟩
  · have HD := Lib.hid (dg_yes h)
    have h0 := (below_pos h).1
    have h1 : ((s.extract 0 1).toList == [45]) = true := beq_iff_eq.2 (below_pos h).2
    clear h
    go_enter Tryz.func141, Tryz.ntmps141
    go_wp2
    go_ret
    exact ⟨by rw [HD.out]; rfl, rfl⟩

/-- What holds when k digits have been gone through. -/
def LoopIs (D : ByteArray) (k V : Nat) : Prop := V = val (D.data.toList.take k) ∧ (D.data.toList.take k).all isD = true
theorem loopIs_zero (D : ByteArray) : LoopIs D 0 0 := ⟨rfl, rfl⟩
theorem get_data (D : ByteArray) (k : Nat) (h : k < D.size) : D.data.toList[k]'(by rw [← Lib.size_eq]; exact h) = D[k] := by
  have := Lib.data_getElem? D k h
  rw [List.getElem?_eq_getElem (by rw [← Lib.size_eq]; exact h)] at this
  exact Option.some.inj this
theorem loopIs_succ {D : ByteArray} {k V : Nat} (h : LoopIs D k V) (hk : k < D.size) (h1 : ¬ D[k].toNat < 48) (h2 : ¬ 57 < D[k].toNat) : LoopIs D (k + 1) (10 * V + (D[k].toNat - 48)) := by
  obtain ⟨hv, hd⟩ := h
  have hl : k < D.data.toList.length := by rw [← Lib.size_eq]; exact hk
  refine ⟨?_, ?_⟩
  · rw [val_take_succ _ _ hl, get_data D k hk, ← hv]
  · rw [take_snoc _ _ hl, List.all_append, hd, get_data D k hk]
    simp [isD]; omega
theorem all_false {d : List UInt8} {k : Nat} (hk : k < d.length) (h : isD d[k] = false) : d.all isD = false := by
  rw [List.all_eq_false]; exact ⟨d[k], List.getElem_mem hk, by rw [h]; decide⟩
theorem isD_no {D : ByteArray} {k : Nat} (hk : k < D.size) (h : D[k].toNat < 48 ∨ 57 < D[k].toNat) : D.data.toList.all isD = false := by
  have hl : k < D.data.toList.length := by rw [← Lib.size_eq]; exact hk
  refine all_false hl ?_
  rw [get_data D k hk]; simp [isD]; omega
theorem big_no {D : ByteArray} {k V : Nat} (h : LoopIs D k V) (hk : k < D.size) (h3 : 9223372036854775808 < 10 * V + (D[k].toNat - 48)) : 9223372036854775808 < val D.data.toList := by
  have hl : k < D.data.toList.length := by rw [← Lib.size_eq]; exact hk
  have := val_take_le D.data.toList (k + 1)
  rw [val_take_succ _ _ hl, get_data D k hk, ← h.1] at this
  omega
theorem loopIs_end {D : ByteArray} {V : Nat} (h : LoopIs D D.size V) : V = val D.data.toList ∧ D.data.toList.all isD = true := by
  obtain ⟨hv, hd⟩ := h
  rw [List.take_of_length_le (by rw [← Lib.size_eq]; exact Nat.le_refl _)] at hv hd
  exact ⟨hv, hd⟩
theorem brk_yes {V c : Int} (h0 : 48 ≤ c) (h1 : c ≤ 57) (h : 9223372036854775808 < 10 * V + (c - 48)) : -V < (-9223372036854775808 + (c - 48)).tdiv 10 := by
  have e : (-9223372036854775808 + (c - 48)) = -(9223372036854775808 - (c - 48)) := by omega
  rw [e, Int.neg_tdiv, Int.tdiv_eq_ediv_of_nonneg (by omega)]
  omega
theorem brk_no {V c : Int} (h0 : 48 ≤ c) (h1 : c ≤ 57) (h : ¬ 9223372036854775808 < 10 * V + (c - 48)) : ¬ -V < (-9223372036854775808 + (c - 48)).tdiv 10 := by
  have e : (-9223372036854775808 + (c - 48)) = -(9223372036854775808 - (c - 48)) := by omega
  rw [e, Int.neg_tdiv, Int.tdiv_eq_ediv_of_nonneg (by omega)]
  omega

/-- What a call of Parse ends with. -/
def ParsePost (l : List UInt8) (w : World) (e : Ending) (w' : World) : Prop := e = .returned (.tuple #[.int .i64 (prs l).1, .int .i64 (prs l).2]) ∧ w = w'
theorem parsePost {l : List UInt8} {r f : Int} {w w' : World} (h : prs l = (r, f)) (hw : w = w') : ParsePost l w (.returned (.tuple #[.int .i64 r, .int .i64 f])) w' := by
  unfold ParsePost; rw [h]; exact ⟨rfl, hw⟩

theorem bad_digits {l : List UInt8} (h : (digitsOf l).all isD = false) : prs l = (0, 11) := prs_bad (by simp only [good, h, Bool.and_false, Bool.false_and])
theorem bad_large {l : List UInt8} (h : most (below l) < val (digitsOf l)) : prs l = (0, 11) := prs_bad (by simp only [good, decide_eq_false (Nat.not_le.2 h), Bool.and_false])
theorem bad_empty {l : List UInt8} (h : digitsOf l = []) : prs l = (0, 11) := prs_bad (by simp [good, h])
theorem bad_zero {l : List UInt8} (h : (digitsOf l).head? = some 48) (h2 : ¬ l = [48]) : prs l = (0, 11) := prs_bad (by simp [good, h, h2])
theorem most_le (b : Bool) : most b ≤ 9223372036854775808 := by cases b <;> decide
theorem dg_size {s D : ByteArray} (h : dg s = D) : D.size = if below s.data.toList then s.size - 1 else s.size := by
  subst h
  rw [Lib.size_eq, dg_data, Lib.size_eq]
  cases hl : s.data.toList with
  | nil => rfl
  | cons c r => by_cases hc : c = 45 <;> simp [digitsOf, below, hc]

theorem prs_ok {l : List UInt8} (h1 : ¬ digitsOf l = []) (h2 : ¬ ((digitsOf l).head? = some 48 ∧ ¬ l = [48])) (h3 : (digitsOf l).all isD = true) (h4 : val (digitsOf l) ≤ most (below l)) : good l = true := by
  have e1 : (digitsOf l).isEmpty = false := by cases hd : digitsOf l with
    | nil => exact absurd hd h1
    | cons _ _ => rfl
  have e2 : (((digitsOf l).head? == some 48) && !(l == [48])) = false := by
    cases hx : ((digitsOf l).head? == some 48) && !(l == [48]) with
    | false => rfl
    | true => exact absurd (by simpa using hx) h2
  simp only [good, e1, e2, h3, decide_eq_true h4, Bool.not_false, Bool.and_self]
theorem ok_low {l : List UInt8} {V : Nat} (h1 : ¬ digitsOf l = []) (h2 : ¬ ((digitsOf l).head? = some 48 ∧ ¬ l = [48])) (h3 : V = val (digitsOf l) ∧ (digitsOf l).all isD = true) (h4 : V ≤ 9223372036854775808) (hb : below l = true) : prs l = (-(V : Int), 0) := by
  rw [prs_good (prs_ok h1 h2 h3.2 (by rw [hb, ← h3.1]; exact h4)), hb, ← h3.1]; rfl
theorem ok_high {l : List UInt8} {V : Nat} (h1 : ¬ digitsOf l = []) (h2 : ¬ ((digitsOf l).head? = some 48 ∧ ¬ l = [48])) (h3 : V = val (digitsOf l) ∧ (digitsOf l).all isD = true) (h4 : V ≤ 9223372036854775807) (hb : below l = false) : prs l = ((V : Int), 0) := by
  rw [prs_good (prs_ok h1 h2 h3.2 (by rw [hb, ← h3.1]; exact h4)), hb, ← h3.1]; rfl

set_option maxHeartbeats 4000000 in
theorem parse_loop (s D : ByteArray) (hs : s.size ≤ 9223372036854775807) (hD : D.size ≤ s.size) (h0 : D.toList.isEmpty = false) (h0s : 0 < D.size) (h1 : ((D[0].toNat : Int) == 48) = false ∨ (((D[0].toNat : Int) == 48) = true ∧ (s.toList == [48]) = true)) (HD : Hid (dg s = D))
    (HG : Hid (¬ ((digitsOf s.data.toList).head? = some 48 ∧ ¬ s.data.toList = [48]))) (w : World) : Calls Tryz.prog 124 #[.string s] w (ParsePost s.data.toList w) := by
  have HB := dg_size HD.out
  have e0 : D.data.toList = digitsOf s.data.toList := by rw [← HD.out]; exact dg_data s
  have E0 := Lib.hid e0
  have HB' := Lib.hid HB
  have hne : below s.data.toList = true → 0 < s.size := fun h => (below_pos h).1
  have hbel : (below s.data.toList = true ∧ D.size < s.size) ∨ (below s.data.toList = false ∧ ¬ D.size < s.size) := by
    cases hb : below s.data.toList
    · rw [hb] at HB; right; simp at HB; exact ⟨rfl, by omega⟩
    · rw [hb] at HB; left; simp at HB; have := hne hb; exact ⟨rfl, by omega⟩
  have HBel := Lib.hid hbel
  have HNE := Lib.hid (show ¬ digitsOf s.data.toList = [] by rw [← E0.out]; intro h; rw [Lib.size_eq, h] at h0s; simp at h0s)
  clear HB e0 hne hbel
  rcases h1 with h1 | ⟨h1, h1s⟩
  all_goals
    go_enter Tryz.func124, Tryz.ntmps124
    go_wp2
    go_step3
    go_wp2_with (go_at_call 141; refine (trim_any s (by unfold maxLen; omega) _).mono ?_; rw [HD.out]; rintro e w' ⟨rfl, rfl⟩)
    go_step3
    go_wp2_with fail
    go_loopg [5, 6] (D.size) (fun j n i wr => ∃ k V : Nat, j + k = D.size ∧ i = .int .i64 k ∧ n = .int .i64 (-(V : Int)) ∧ V ≤ 9223372036854775808 ∧ LoopIs D k V ∧ wr = w)
    case atStart => exact ⟨0, 0, rfl, rfl, rfl, by omega, loopIs_zero D, rfl⟩
    case round =>
      obtain ⟨k, V, hk, rfl, rfl, hV, hI, rfl⟩ := hrel
      have HK := Lib.hid hk
      have HI := Lib.hid hI
      have hle : k ≤ D.size := by omega
      clear hk hI
      by_cases hlt : k < D.size
      · have hb := UInt8.toNat_lt D[k]
        by_cases c1 : D[k].toNat < 48
        · have HF := Lib.hid (bad_digits (by rw [← E0.out]; exact isD_no hlt (Or.inl c1)))
          go_wp2
          rw [Exit.noGoto_ret]
          go_ret2
          exact parsePost HF.out rfl
        · by_cases c2 : 57 < D[k].toNat
          · have HF := Lib.hid (bad_digits (by rw [← E0.out]; exact isD_no hlt (Or.inr c2)))
            go_wp2
            rw [Exit.noGoto_ret]
            go_ret2
            exact parsePost HF.out rfl
          · by_cases c3 : 9223372036854775808 < 10 * V + (D[k].toNat - 48)
            · have HF := Lib.hid (bad_large (l := s.data.toList) (by have := big_no HI.out hlt c3; rw [E0.out] at this; exact Nat.lt_of_le_of_lt (most_le _) this))
              have hq := brk_yes (V := V) (c := D[k].toNat) (by omega) (by omega) (by omega)
              go_wp2
              rw [Exit.noGoto_ret]
              go_ret2
              exact parsePost HF.out rfl
            · have hq := brk_no (V := V) (c := D[k].toNat) (by omega) (by omega) (by omega)
              have c4 : 10 * (V : Int) + ((D[k].toNat : Int) - 48) ≤ 9223372036854775808 := by omega
              have HN := Lib.hid (loopIs_succ HI.out hlt c1 c2)
              go_wp2
              go_roundg (D.size - (k + 1))
              case measure => have := HK.out; omega
              case rel => exact ⟨k + 1, 10 * V + (D[k].toNat - 48), by omega, by go_num, congrArg (Value.int .i64) (by omega), by omega, HN.out, rfl⟩
      · have hkD : k = D.size := by omega
        have hE : V = val (digitsOf s.data.toList) ∧ (digitsOf s.data.toList).all isD = true := by
          have := HI.out; rw [hkD] at this; rw [← E0.out]; exact loopIs_end this
        have HE := Lib.hid hE
        have HkD := Lib.hid hkD
        clear hE hkD
        by_cases hm : V = 9223372036854775808
        · have hm2 : (-(V : Int) == -9223372036854775808) = true := by rw [hm]; rfl
          have Hm := Lib.hid hm
          clear hm
          by_cases hb : D.size < s.size
          · have HB := Lib.hid (show below s.data.toList = true from (HBel.out.resolve_right (fun h => h.2 hb)).1)
            have HF := Lib.hid (ok_low HNE.out HG.out HE.out hV HB.out)
            go_wp2
            rw [Exit.noGoto_ret]
            go_ret2
            exact parsePost HF.out rfl
          · have HB := Lib.hid (show below s.data.toList = false from (HBel.out.resolve_left (fun h => hb h.2)).1)
            have HF := Lib.hid (bad_large (l := s.data.toList) (by rw [HB.out, ← HE.out.1, Hm.out]; decide))
            go_wp2
            rw [Exit.noGoto_ret]
            go_ret2
            exact parsePost HF.out rfl
        · have hm2 : (-(V : Int) == -9223372036854775808) = false := beq_eq_false_iff_ne.2 (by omega)
          have hV2 : V ≤ 9223372036854775807 := by omega
          clear hm
          by_cases hb : D.size < s.size
          · have HB := Lib.hid (show below s.data.toList = true from (HBel.out.resolve_right (fun h => h.2 hb)).1)
            have HF := Lib.hid (ok_low HNE.out HG.out HE.out hV HB.out)
            go_wp2
            rw [Exit.noGoto_ret]
            go_ret2
            exact parsePost HF.out rfl
          · have HB := Lib.hid (show below s.data.toList = false from (HBel.out.resolve_left (fun h => hb h.2)).1)
            have HF := Lib.hid (ok_high HNE.out HG.out HE.out hV2 HB.out)
            go_wp2
            rw [Exit.noGoto_ret]
            go_ret2
            exact parsePost HF.out rfl

theorem head_data {D : ByteArray} (h : 0 < D.size) : D.data.toList.head? = some D[0] := by
  rw [← Lib.data_getElem? D 0 h]; cases D.data.toList <;> rfl
/-- num.Parse, WHATEVER THE TEXT. -/
theorem parse_any (s : ByteArray) (hs : s.size ≤ 9223372036854775807) (w : World) : Calls Tryz.prog 124 #[.string s] w (ParsePost s.data.toList w) := by
  obtain ⟨D, hD⟩ : ∃ D, dg s = D := ⟨_, rfl⟩
  have HD := Lib.hid hD
  have hsz := dg_size hD
  have e0 : D.data.toList = digitsOf s.data.toList := by rw [← hD]; exact dg_data s
  have E0 := Lib.hid e0
  have hle : D.size ≤ s.size := by rw [hsz]; split <;> omega
  clear hsz
  by_cases hz : D.size = 0
  · have hemp : D.toList.isEmpty = true := by rw [Lib.toList_data, List.isEmpty_iff_length_eq_zero, ← Lib.size_eq]; exact hz
    have HF := Lib.hid (bad_empty (l := s.data.toList) (by rw [← e0]; exact List.length_eq_zero_iff.1 (by rw [← Lib.size_eq]; exact hz)))
    clear e0 hD
    go_enter Tryz.func124, Tryz.ntmps124
    go_wp2
    go_step3
    go_wp2_with (go_at_call 141; refine (trim_any s (by unfold maxLen; omega) _).mono ?_; rw [HD.out]; rintro e w' ⟨rfl, rfl⟩)
    rw [Exit.noGoto_ret]
    go_ret2
    exact parsePost HF.out rfl
  · have h0s : 0 < D.size := by omega
    have hemp : D.toList.isEmpty = false := by
      rw [Lib.toList_data]
      cases hx : D.data.toList with
      | nil => rw [Lib.size_eq, hx] at h0s; simp at h0s
      | cons _ _ => rfl
    by_cases hd : D[0].toNat = 48
    · have hd2 : ((D[0].toNat : Int) == 48) = true := beq_iff_eq.2 (by omega)
      by_cases hs1 : s.data.toList = [48]
      · exact parse_loop s D hs hle hemp h0s (Or.inr ⟨hd2, by rw [Lib.toList_data]; exact beq_iff_eq.2 hs1⟩) HD (Lib.hid (fun h => h.2 hs1)) w
      · have hs2 : (s.toList == [48]) = false := by rw [Lib.toList_data]; exact beq_eq_false_iff_ne.2 hs1
        have HF := Lib.hid (bad_zero (l := s.data.toList) (by rw [← e0, head_data h0s, show D[0] = 48 from UInt8.toNat_inj.1 hd]) hs1)
        clear e0 hD hd hs1 hz
        go_enter Tryz.func124, Tryz.ntmps124
        go_wp2
        go_step3
        go_wp2_with (go_at_call 141; refine (trim_any s (by unfold maxLen; omega) _).mono ?_; rw [HD.out]; rintro e w' ⟨rfl, rfl⟩)
        rw [Exit.noGoto_ret]
        go_ret2
        exact parsePost HF.out rfl
    · have hd2 : ((D[0].toNat : Int) == 48) = false := beq_eq_false_iff_ne.2 (by omega)
      refine parse_loop s D hs hle hemp h0s (Or.inl hd2) HD (Lib.hid ?_) w
      rintro ⟨h, _⟩
      rw [← e0, head_data h0s] at h
      have := Option.some.inj h
      rw [this] at hd
      exact hd rfl
end Go.Proofs.YtdajihpfedbihaaGreat.Pa
