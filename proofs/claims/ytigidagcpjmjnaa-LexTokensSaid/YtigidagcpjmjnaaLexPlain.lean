/-
  PLAIN LAWS of 'lexed': places are those of the bytes; what tokens are made of.
-/
import Derived.Test.YtigidagcpjmjnaaTokens
namespace Go.Proofs.Ytigidagcpjmjnaa.Lx
open Go.RowKit Pl Ar Dg Pa
set_option linter.unusedVariables false

/-- the place behind a byte -/
def plStep (p : Int × Int) (c : UInt8) : Int × Int := if c = 10 then (p.1 + 1, 1) else (p.1, p.2 + 1)
/-- the place behind some bytes -/
def plF (p : Int × Int) (l : List UInt8) : Int × Int := l.foldl plStep p
theorem plF_append (p : Int × Int) (a b : List UInt8) : plF p (a ++ b) = plF (plF p a) b := List.foldl_append
theorem plF_plain {l : List UInt8} (h : ∀ c, c ∈ l → ¬ c = 10) (p : Int × Int) : plF p l = (p.1, p.2 + l.length) := by
  induction l generalizing p with
  | nil => simp [plF]
  | cons c r ih =>
    have hc := h c (List.mem_cons_self ..)
    have e : plF p (c :: r) = plF (plStep p c) r := rfl
    rw [e, ih (fun x hx => h x (List.mem_cons_of_mem _ hx))]
    unfold plStep
    rw [if_neg hc]
    simp only [List.length_cons]
    congr 1
    omega
theorem suf_line (a : List UInt8) : Lib.hasSuffix (a ++ [10]) [10] = true := by
  unfold Lib.hasSuffix
  rw [List.isSuffixOf_iff_suffix]
  exact ⟨a, rfl⟩
theorem suf_plain {l : List UInt8} (h : ∀ c, c ∈ l → ¬ c = 10) : Lib.hasSuffix l [10] = false := by
  cases hs : Lib.hasSuffix l [10] with
  | false => rfl
  | true =>
    exfalso
    unfold Lib.hasSuffix at hs
    rw [List.isSuffixOf_iff_suffix] at hs
    obtain ⟨t, ht⟩ := hs
    exact h 10 (by rw [← ht]; simp) rfl
/-- a gap holds no line's end but at its own -/
theorem gap_split (rm : Bool) (l : List UInt8) : (∀ c, c ∈ l.take (gapR rm l) → ¬ c = 10) ∨ ∃ a, l.take (gapR rm l) = a ++ [10] ∧ ∀ c, c ∈ a → ¬ c = 10 := by
  induction l with
  | nil => left; intro c hc; simp at hc
  | cons x r ih =>
    by_cases hx : x = 10
    · right
      subst hx
      rw [gapR_line]
      exact ⟨[], rfl, fun c hc => by cases hc⟩
    · by_cases hs : rm = false ∧ ¬ x = 32
      · left
        have : gapR rm (x :: r) = 0 := by show (if x = 10 then 1 else if rm = false ∧ ¬ x = 32 then 0 else _) = 0; rw [if_neg hx, if_pos hs]
        rw [this]
        intro c hc; simp at hc
      · have e : gapR rm (x :: r) = gapR rm r + 1 := by show (if x = 10 then 1 else if rm = false ∧ ¬ x = 32 then 0 else _) = _; rw [if_neg hx, if_neg hs]
        rw [e, List.take_succ_cons]
        rcases ih with ih | ⟨a, ha, hn⟩
        · left
          intro c hc
          rcases List.mem_cons.1 hc with rfl | hc
          · exact hx
          · exact ih c hc
        · right
          refine ⟨x :: a, by rw [ha]; rfl, fun c hc => ?_⟩
          rcases List.mem_cons.1 hc with rfl | hc
          · exact hx
          · exact hn c hc
/-- behind a gap: the place that the program reckons is the bytes' place -/
theorem gap_pl (rm : Bool) (l : List UInt8) (ln col : Int) : plF (ln, col) (l.take (gapR rm l)) = (behindL (l.take (gapR rm l)) ln, behindC (l.take (gapR rm l)) col) := by
  rcases gap_split rm l with h | ⟨a, ha, hn⟩
  · rw [plF_plain h]
    unfold behindL behindC
    rw [suf_plain h]; rfl
  · rw [ha, plF_append, plF_plain hn]
    unfold behindL behindC
    rw [suf_line]; rfl
theorem goes_line {c : Int} {x : UInt8} (h : goes c (cls x.toNat) = true) : ¬ x = 10 := by
  intro e
  rw [e] at h
  have : cls (10 : UInt8).toNat = 1 := by decide
  rw [this] at h
  unfold goes at h
  simp at h
  omega
theorem run_take (c : Int) (l : List UInt8) : ∀ x, x ∈ l.take (runR c l) → goes c (cls x.toNat) = true := by
  induction l with
  | nil => intro x hx; simp at hx
  | cons y r ih =>
    intro x hx
    cases hg : goes c (cls y.toNat) with
    | false => rw [run_no hg] at hx; simp at hx
    | true =>
      rw [run_yes hg, List.take_succ_cons] at hx
      rcases List.mem_cons.1 hx with rfl | hx
      · exact hg
      · exact ih x hx
/-- a token holds no line's end -/
theorem text_plain {l : List UInt8} (h : ¬ hcls l = 1) : ∀ x, x ∈ fText l → ¬ x = 10 := by
  intro x hx
  cases l with
  | nil => simp [fText] at hx
  | cons c r =>
    unfold fText endLen at hx
    rw [List.drop_one, List.tail_cons, Nat.add_comm 1, List.take_succ_cons] at hx
    rcases List.mem_cons.1 hx with rfl | hx
    · intro e
      rw [e] at h
      exact h (show cls (10 : UInt8).toNat = 1 by decide)
    · exact goes_line (run_take _ r x hx)
theorem text_pl {l : List UInt8} (h : ¬ hcls l = 1) (ln col : Int) : plF (ln, col) (fText l) = (ln, col + (fText l).length) := plF_plain (text_plain h) _
theorem text_take (l : List UInt8) : fText l = l.take (fText l).length := by
  unfold fText
  rw [List.length_take]
  by_cases h : endLen l (hcls l) ≤ l.length
  · rw [Nat.min_eq_left h]
  · rw [Nat.min_eq_right (by omega), List.take_of_length_le (by omega), List.take_of_length_le (Nat.le_refl _)]
end Go.Proofs.Ytigidagcpjmjnaa.Lx
