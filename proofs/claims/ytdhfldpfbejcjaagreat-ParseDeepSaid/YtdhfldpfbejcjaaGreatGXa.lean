/-
  PLAIN LAWS of 'lexed': places are those of the bytes; what tokens are made of.
-/
import Derived.Test.YtdhfldpfbejcjaaGreatGTokens

namespace Go.Proofs.YtdhfldpfbejcjaaGreat.Lx
open Go.RowKit Pl Ar Dg Pa
set_option linter.unusedVariables false

/-- the place behind a byte -/
def plStep (p : Int × Int) (c : UInt8) : Int × Int := if c = 10 then (p.1 + 1, 1) else (p.1, p.2 + 1)
/-- the place behind some bytes -/
def plF (p : Int × Int) (l : List UInt8) : Int × Int := l.foldl plStep p
theorem plF_append (p : Int × Int) (a b : List UInt8) : plF p (a ++ b) = plF (plF p a) b := List.foldl_append
theorem plF_plain {l : List UInt8} (h : ∀ c, c ∈ l → ¬ c = 10) (p : Int × Int) : plF p l = (p.1, p.2 + l.length) := by
  induction l generalizing p with
  | nil => simp [plF]
  | cons c r ih =>
    have hc := h c (List.mem_cons_self ..)
    have e : plF p (c :: r) = plF (plStep p c) r := rfl
    rw [e, ih (fun x hx => h x (List.mem_cons_of_mem _ hx))]
    unfold plStep
    rw [if_neg hc]
    simp only [List.length_cons]
    congr 1
    omega
theorem suf_line (a : List UInt8) : Lib.hasSuffix (a ++ [10]) [10] = true := by
  unfold Lib.hasSuffix
  rw [List.isSuffixOf_iff_suffix]
  exact ⟨a, rfl⟩
theorem suf_plain {l : List UInt8} (h : ∀ c, c ∈ l → ¬ c = 10) : Lib.hasSuffix l [10] = false := by
  cases hs : Lib.hasSuffix l [10] with
  | false => rfl
  | true =>
    exfalso
    unfold Lib.hasSuffix at hs
    rw [List.isSuffixOf_iff_suffix] at hs
    obtain ⟨t, ht⟩ := hs
    exact h 10 (by rw [← ht]; simp) rfl
/-- a gap holds no line's end but at its own -/
theorem gap_split (rm : Bool) (l : List UInt8) : (∀ c, c ∈ l.take (gapR rm l) → ¬ c = 10) ∨ ∃ a, l.take (gapR rm l) = a ++ [10] ∧ ∀ c, c ∈ a → ¬ c = 10 := by
  induction l with
  | nil => left; intro c hc; simp at hc
  | cons x r ih =>
    by_cases hx : x = 10
    · right
      subst hx
      rw [gapR_line]
      exact ⟨[], rfl, fun c hc => by cases hc⟩
    · by_cases hs : rm = false ∧ ¬ x = 32
      · left
        have : gapR rm (x :: r) = 0 := by show (if x = 10 then 1 else if rm = false ∧ ¬ x = 32 then 0 else _) = 0; rw [if_neg hx, if_pos hs]
        rw [this]
        intro c hc; simp at hc
      · have e : gapR rm (x :: r) = gapR rm r + 1 := by show (if x = 10 then 1 else if rm = false ∧ ¬ x = 32 then 0 else _) = _; rw [if_neg hx, if_neg hs]
        rw [e, List.take_succ_cons]
        rcases ih with ih | ⟨a, ha, hn⟩
        · left
          intro c hc
          rcases List.mem_cons.1 hc with rfl | hc
          · exact hx
          · exact ih c hc
        · right
          refine ⟨x :: a, by rw [ha]; rfl, fun c hc => ?_⟩
          rcases List.mem_cons.1 hc with rfl | hc
          · exact hx
          · exact hn c hc
/-- behind a gap: the place that the program reckons is the bytes' place -/
theorem gap_pl (rm : Bool) (l : List UInt8) (ln col : Int) : plF (ln, col) (l.take (gapR rm l)) = (behindL (l.take (gapR rm l)) ln, behindC (l.take (gapR rm l)) col) := by
  rcases gap_split rm l with h | ⟨a, ha, hn⟩
  · rw [plF_plain h]
    unfold behindL behindC
    rw [suf_plain h]; rfl
  · rw [ha, plF_append, plF_plain hn]
    unfold behindL behindC
    rw [suf_line]; rfl
theorem goes_line {c : Int} {x : UInt8} (h : goes c (cls x.toNat) = true) : ¬ x = 10 := by
  intro e
  rw [e] at h
  have : cls (10 : UInt8).toNat = 1 := by decide
  rw [this] at h
  unfold goes at h
  simp at h
  omega
theorem run_take (c : Int) (l : List UInt8) : ∀ x, x ∈ l.take (runR c l) → goes c (cls x.toNat) = true := by
  induction l with
  | nil => intro x hx; simp at hx
  | cons y r ih =>
    intro x hx
    cases hg : goes c (cls y.toNat) with
    | false => rw [run_no hg] at hx; simp at hx
    | true =>
      rw [run_yes hg, List.take_succ_cons] at hx
      rcases List.mem_cons.1 hx with rfl | hx
      · exact hg
      · exact ih x hx
/-- a token holds no line's end -/
theorem text_plain {l : List UInt8} (h : ¬ hcls l = 1) : ∀ x, x ∈ fText l → ¬ x = 10 := by
  intro x hx
  cases l with
  | nil => simp [fText] at hx
  | cons c r =>
    unfold fText endLen at hx
    rw [List.drop_one, List.tail_cons, Nat.add_comm 1, List.take_succ_cons] at hx
    rcases List.mem_cons.1 hx with rfl | hx
    · intro e
      rw [e] at h
      exact h (show cls (10 : UInt8).toNat = 1 by decide)
    · exact goes_line (run_take _ r x hx)
theorem text_pl {l : List UInt8} (h : ¬ hcls l = 1) (ln col : Int) : plF (ln, col) (fText l) = (ln, col + (fText l).length) := plF_plain (text_plain h) _
theorem text_take (l : List UInt8) : fText l = l.take (fText l).length := by
  unfold fText
  rw [List.length_take]
  by_cases h : endLen l (hcls l) ≤ l.length
  · rw [Nat.min_eq_left h]
  · rw [Nat.min_eq_right (by omega), List.take_of_length_le (by omega), List.take_of_length_le (Nat.le_refl _)]
end Go.Proofs.YtdhfldpfbejcjaaGreat.Lx
/-
  PLAIN LAWS of 'lexed': every token stands at the place told; the places rise.
-/
namespace Go.Proofs.YtdhfldpfbejcjaaGreat.Lx
open Go.RowKit Pl Ar Dg Pa
set_option linter.unusedVariables false

/-- a place stands behind another one -/
def plLt (p q : Int × Int) : Prop := p.1 < q.1 ∨ p.1 = q.1 ∧ p.2 < q.2
theorem plLt_irrefl (p : Int × Int) : ¬ plLt p p := by unfold plLt; omega
theorem plLt_trans {p q r : Int × Int} (h : plLt p q) (g : plLt q r) : plLt p r := by unfold plLt at *; omega
theorem plLt_step (p : Int × Int) (c : UInt8) : plLt p (plStep p c) := by
  unfold plLt plStep
  split <;> simp <;> omega
theorem plF_lt (l : List UInt8) (hl : l ≠ []) (p : Int × Int) : plLt p (plF p l) := by
  induction l generalizing p with
  | nil => exact absurd rfl hl
  | cons c r ih =>
    have e : plF p (c :: r) = plF (plStep p c) r := rfl
    rw [e]
    by_cases hr : r = []
    · subst hr; exact plLt_step p c
    · exact plLt_trans (plLt_step p c) (ih hr _)
/-- where a place is, told in bytes -/
def offF (q : Int × Int) : Int × Int → List UInt8 → Nat
  | _, [] => 0
  | p, c :: r => if p = q then 0 else offF q (plStep p c) r + 1
theorem offF_is (a b : List UInt8) (hb : b ≠ []) (p : Int × Int) : offF (plF p a) p (a ++ b) = a.length := by
  induction a generalizing p with
  | nil =>
    cases b with
    | nil => exact absurd rfl hb
    | cons c r =>
      show (if p = p then 0 else _) = 0
      rw [if_pos rfl]
  | cons c r ih =>
    have hne : ¬ p = plF p (c :: r) := by
      intro e
      have h := plF_lt (c :: r) (by simp) p
      rw [← e] at h
      exact plLt_irrefl p h
    show (if p = plF p (c :: r) then 0 else offF (plF p (c :: r)) (plStep p c) (r ++ b) + 1) = r.length + 1
    rw [if_neg hne]
    exact congrArg (· + 1) (ih (plStep p c))

/-- a token stands in a text where its place says -/
def Stands (src : List UInt8) (t : Tok) : Prop := ∃ a b, src = a ++ (t.text ++ b) ∧ t.text ≠ [] ∧ plF (1, 1) a = (t.line, t.col)
/-- the tokens so far stand ahead of a place, and rise -/
def Rise (p : Int × Int) (l : List Tok) : Prop := l.Pairwise (fun a b => plLt (a.line, a.col) (b.line, b.col)) ∧ ∀ t, t ∈ l → plLt (t.line, t.col) p
theorem Rise.le {p q : Int × Int} {l : List Tok} (h : Rise p l) (g : plLt p q) : Rise q l := ⟨h.1, fun t ht => plLt_trans (h.2 t ht) g⟩
theorem Rise.add {p q : Int × Int} {l : List Tok} {t : Tok} (h : Rise p l) (ht : (t.line, t.col) = p) (g : plLt p q) : Rise q (l ++ [t]) := by
  refine ⟨?_, ?_⟩
  · rw [List.pairwise_append]
    refine ⟨h.1, List.pairwise_singleton _ _, fun a ha b hb => ?_⟩
    rw [List.mem_singleton] at hb
    subst hb
    rw [ht]
    exact h.2 a ha
  · intro x hx
    rcases List.mem_append.1 hx with hx | hx
    · exact plLt_trans (h.2 x hx) g
    · rw [List.mem_singleton] at hx
      subst hx
      rw [ht]; exact g
theorem gap_pos {l : List UInt8} (h : 0 < gapLen l) : l.take (gapLen l) ≠ [] := by
  have := gapLen_le l
  intro e
  have h2 := congrArg List.length e
  rw [List.length_take, List.length_nil] at h2
  omega
theorem hcls_line {l : List UInt8} (h : gapLen l = 0) (hl : l ≠ []) : ¬ hcls l = 1 := by
  cases l with
  | nil => exact absurd rfl hl
  | cons c r =>
    intro e
    have e2 : cls c.toNat = 1 := e
    have hc : c = 10 ∨ c = 32 := by
      unfold cls at e2
      have hb := UInt8.toNat_lt c
      by_cases h1 : c.toNat = 10
      · left; exact UInt8.toNat_inj.1 (by rw [h1]; rfl)
      · by_cases h2 : c.toNat = 32
        · right; exact UInt8.toNat_inj.1 (by rw [h2]; rfl)
        · exfalso
          (repeat' split at e2) <;> omega
    unfold gapLen at h
    rcases hc with rfl | rfl
    · rw [gapR_line] at h; omega
    · have : gapR (isRem (32 :: r)) (32 :: r) = gapR (isRem (32 :: r)) r + 1 := by
        show (if (32 : UInt8) = 10 then 1 else if _ ∧ ¬ (32 : UInt8) = 32 then 0 else _) = _
        rw [if_neg (by decide), if_neg (fun x => x.2 rfl)]
      rw [this] at h; omega
theorem lexG_stands (f : Nat) (src pre l : List UInt8) (ln col : Int) (acc : List Tok) (hs : src = pre ++ l) (hp : plF (1, 1) pre = (ln, col)) (ha : ∀ t, t ∈ acc → Stands src t) (hr : Rise (ln, col) acc) :
    (∀ t, t ∈ (lexG f l ln col acc).toks → Stands src t) ∧ (lexG f l ln col acc).toks.Pairwise (fun a b => plLt (a.line, a.col) (b.line, b.col)) := by
  induction f generalizing pre l ln col acc with
  | zero => exact ⟨ha, hr.1⟩
  | succ f ih =>
    unfold lexG
    by_cases h0 : l = []
    · rw [if_pos h0]; exact ⟨ha, hr.1⟩
    rw [if_neg h0]
    by_cases h1 : 0 < gapLen l
    · rw [if_pos h1]
      have hg := gap_pl (isRem l) l ln col
      change plF (ln, col) (l.take (gapLen l)) = (behindL (l.take (gapLen l)) ln, behindC (l.take (gapLen l)) col) at hg
      refine ih (pre ++ l.take (gapLen l)) _ _ _ acc (by rw [List.append_assoc, List.take_append_drop]; exact hs) (by rw [plF_append, hp]; exact hg) ha (hr.le ?_)
      rw [← hg]
      exact plF_lt _ (gap_pos h1) _
    rw [if_neg h1]
    by_cases h2 : fErr l ≠ 0
    · rw [if_pos h2]; exact ⟨fun t ht => (by cases ht), List.Pairwise.nil⟩
    rw [if_neg h2]
    by_cases h3 : acc.length = 2048
    · rw [if_pos h3]; exact ⟨fun t ht => (by cases ht), List.Pairwise.nil⟩
    rw [if_neg h3]
    have hz : gapLen l = 0 := by omega
    have hpl := text_pl (hcls_line hz h0) ln col
    have hne : fText l ≠ [] := by
      intro e
      have := (fText_len (l := l) (List.length_pos_iff.2 h0)).1
      rw [e] at this
      simp at this
    have hsp : fText l ++ l.drop (fText l).length = l := by
      conv => lhs; arg 1; rw [text_take l]
      exact List.take_append_drop _ _
    have hlt : plLt (ln, col) (ln, col + (fText l).length) := by
      rw [← hpl]
      exact plF_lt _ hne _
    refine ih (pre ++ fText l) _ _ _ _ (by rw [List.append_assoc, hsp]; exact hs) (by rw [plF_append, hp]; exact hpl) ?_ (hr.add rfl hlt)
    intro t ht
    rcases List.mem_append.1 ht with ht | ht
    · exact ha t ht
    · rw [List.mem_singleton] at ht
      subst ht
      exact ⟨pre, l.drop (fText l).length, by show src = pre ++ (fText l ++ _); rw [hsp]; exact hs, hne, hp⟩
/-- every token stands where its place says, and the places rise -/
theorem lexed_stands (src : List UInt8) : (∀ t, t ∈ (lexed src).toks → Stands src t) ∧ (lexed src).toks.Pairwise (fun a b => plLt (a.line, a.col) (b.line, b.col)) := by
  unfold lexed
  by_cases h : 8192 < src.length
  · rw [if_pos h]; exact ⟨fun t ht => (by cases ht), List.Pairwise.nil⟩
  · rw [if_neg h]
    exact lexG_stands _ src [] src 1 1 [] rfl rfl (fun t ht => by cases ht) ⟨List.Pairwise.nil, fun t ht => by cases ht⟩
end Go.Proofs.YtdhfldpfbejcjaaGreat.Lx
/-
  PLAIN MATHEMATICS for layer lex: what stands ahead of an error's place has none. No walk.
-/
namespace Go.Proofs.YtdhfldpfbejcjaaGreat.Lx
open Go.RowKit Pl Ar Dg Pa
set_option linter.unusedVariables false

theorem gapR_take (rm : Bool) (l : List UInt8) : ∀ m, gapR rm l ≤ m → gapR rm (l.take m) = gapR rm l := by
  induction l with
  | nil => intro m _; simp [gapR]
  | cons c r ih =>
    intro m hm
    cases m with
    | zero =>
      have h0 : gapR rm (c :: r) = 0 := by omega
      rw [h0]; rfl
    | succ m =>
      rw [List.take_succ_cons]
      unfold gapR at hm ⊢
      split
      · rfl
      · rename_i h1
        rw [if_neg h1] at hm
        split
        · rfl
        · rename_i h2
          rw [if_neg h2] at hm
          rw [ih m (by omega)]
theorem isRem_iff (l : List UInt8) : isRem l = true ↔ ∃ r, l = 45 :: 45 :: r := by
  unfold isRem Lib.hasPrefix
  constructor
  · intro h
    match l with
    | [] => simp at h
    | [a] => simp at h
    | a :: b :: r => simp at h; exact ⟨r, by rw [← h.1, ← h.2]⟩
  · rintro ⟨r, rfl⟩
    simp
theorem isRem_take {l : List UInt8} {m : Nat} (h : gapLen l ≤ m) : isRem (l.take m) = isRem l := by
  by_cases hr : isRem l = true
  · obtain ⟨r, rfl⟩ := (isRem_iff l).1 hr
    have h2 : 2 ≤ m := by
      unfold gapLen at h
      rw [hr, gapR_rem _ (by decide), gapR_rem _ (by decide)] at h
      omega
    rw [hr]
    exact (isRem_iff _).2 ⟨r.take (m - 2), by obtain ⟨q, rfl⟩ : ∃ q, m = q + 2 := ⟨m - 2, by omega⟩; simp⟩
  · have hr' : isRem l = false := by simpa using hr
    rw [hr']
    rw [Bool.eq_false_iff]
    intro h3
    obtain ⟨r, h4⟩ := (isRem_iff _).1 h3
    refine hr ((isRem_iff l).2 ⟨r ++ l.drop m, ?_⟩)
    have h5 := (List.take_append_drop m l).symm
    rw [h4] at h5
    exact h5
theorem gapLen_take {l : List UInt8} {m : Nat} (h : gapLen l ≤ m) : gapLen (l.take m) = gapLen l := by
  unfold gapLen
  rw [isRem_take h]
  exact gapR_take _ _ _ h
theorem runR_take (c : Int) (l : List UInt8) : ∀ m, runR c l ≤ m → runR c (l.take m) = runR c l := by
  induction l with
  | nil => intro m _; simp [runR]
  | cons x r ih =>
    intro m hm
    cases m with
    | zero =>
      have h0 : runR c (x :: r) = 0 := by omega
      rw [h0]; rfl
    | succ m =>
      rw [List.take_succ_cons]
      unfold runR at hm ⊢
      split
      · rename_i h1
        rw [if_pos h1] at hm
        rw [ih m (by omega)]
      · rfl
theorem first_take {l : List UInt8} {m : Nat} (h0 : 0 < l.length) (h : (fText l).length ≤ m) : hcls (l.take m) = hcls l ∧ fText (l.take m) = fText l ∧ fErr (l.take m) = fErr l ∧ fKind (l.take m) = fKind l ∧ fNum (l.take m) = fNum l := by
  have hp := fText_len h0
  have hc : hcls (l.take m) = hcls l := by
    cases l with
    | nil => cases h0
    | cons c r =>
      obtain ⟨q, rfl⟩ : ∃ q, m = q + 1 := ⟨m - 1, by omega⟩
      rfl
  have he := endLen_le (hcls l) h0
  have hm : endLen l (hcls l) ≤ m := by
    unfold fText at h
    rw [List.length_take] at h
    omega
  have hr : endLen (l.take m) (hcls l) = endLen l (hcls l) := by
    unfold endLen at hm ⊢
    rw [List.drop_take, runR_take _ _ _ (by omega)]
  have ht : fText (l.take m) = fText l := by
    unfold fText
    rw [hc, hr, List.take_take, Nat.min_eq_left hm]
  refine ⟨hc, ht, ?_, ?_, ?_⟩
  · unfold fErr; rw [hc, ht]
  · unfold fKind; rw [hc, ht]
  · unfold fNum; rw [hc, ht]
theorem lexG_nil (f : Nat) (ln col : Int) (acc : List Tok) : lexG f [] ln col acc = ⟨acc, 0, 0, 0⟩ := by
  cases f with
  | zero => rfl
  | succ f => unfold lexG; rw [if_pos rfl]
theorem lexG_first (f : Nat) : ∀ (l : List UInt8) (ln col : Int) (acc : List Tok), (lexG f l ln col acc).err ≠ 0 →
    ∃ k, k < l.length ∧ plF (ln, col) (l.take k) = ((lexG f l ln col acc).line, (lexG f l ln col acc).col) ∧ ∀ g, k < g → (lexG g (l.take k) ln col acc).err = 0 ∧ (lexG g (l.take k) ln col acc).line = 0 ∧ (lexG g (l.take k) ln col acc).col = 0 := by
  induction f with
  | zero => intro l ln col acc h; exact absurd rfl h
  | succ f ih =>
    intro l ln col acc h
    by_cases hl : l = []
    · rw [hl, lexG_nil] at h; exact absurd rfl h
    have hl0 : 0 < l.length := List.length_pos_iff.2 hl
    by_cases hg : 0 < gapLen l
    · have e : lexG (f + 1) l ln col acc = lexG f (l.drop (gapLen l)) (behindL (l.take (gapLen l)) ln) (behindC (l.take (gapLen l)) col) acc := by
        conv => lhs; unfold lexG
        rw [if_neg hl, if_pos hg]
      rw [e] at h ⊢
      obtain ⟨k, h1, h2, h3⟩ := ih _ _ _ _ h
      have hle := gapLen_le l
      rw [List.length_drop] at h1
      have hdt : (l.take (gapLen l + k)).drop (gapLen l) = (l.drop (gapLen l)).take k := by rw [List.drop_take, Nat.add_sub_cancel_left]
      refine ⟨gapLen l + k, by omega, ?_, fun g hgk => ?_⟩
      · rw [List.take_add, plF_append]
        have hp := gap_pl (isRem l) l ln col
        rw [show plF (ln, col) (l.take (gapLen l)) = _ from hp]
        exact h2
      · obtain ⟨q, rfl⟩ : ∃ q, g = q + 1 := ⟨g - 1, by omega⟩
        have e2 : lexG (q + 1) (l.take (gapLen l + k)) ln col acc = lexG q ((l.drop (gapLen l)).take k) (behindL (l.take (gapLen l)) ln) (behindC (l.take (gapLen l)) col) acc := by
          conv => lhs; unfold lexG
          rw [if_neg (by intro e; have := congrArg List.length e; rw [List.length_take, List.length_nil] at this; omega), gapLen_take (by omega), if_pos hg, hdt, List.take_take, Nat.min_eq_left (by omega)]
        rw [e2]
        exact h3 q (by omega)
    by_cases he : fErr l ≠ 0
    · have e : lexG (f + 1) l ln col acc = ⟨[], fErr l, ln, col⟩ := by
        conv => lhs; unfold lexG
        rw [if_neg hl, if_neg hg, if_pos he]
      rw [e]
      exact ⟨0, hl0, by rw [List.take_zero]; rfl, fun g _ => by rw [List.take_zero, lexG_nil]; exact ⟨rfl, rfl, rfl⟩⟩
    by_cases ha : acc.length = 2048
    · have e : lexG (f + 1) l ln col acc = ⟨[], 2, ln, col⟩ := by
        conv => lhs; unfold lexG
        rw [if_neg hl, if_neg hg, if_neg he, if_pos ha]
      rw [e]
      exact ⟨0, hl0, by rw [List.take_zero]; rfl, fun g _ => by rw [List.take_zero, lexG_nil]; exact ⟨rfl, rfl, rfl⟩⟩
    · have e : lexG (f + 1) l ln col acc = lexG f (l.drop (fText l).length) ln (col + (fText l).length) (acc ++ [⟨fKind l, fText l, fNum l, ln, col⟩]) := by
        conv => lhs; unfold lexG
        rw [if_neg hl, if_neg hg, if_neg he, if_neg ha]
      rw [e] at h ⊢
      obtain ⟨k, h1, h2, h3⟩ := ih _ _ _ _ h
      have hp := fText_len hl0
      have hc := hcls_line (by omega) hl
      rw [List.length_drop] at h1
      have hdt : (l.take ((fText l).length + k)).drop (fText l).length = (l.drop (fText l).length).take k := by rw [List.drop_take, Nat.add_sub_cancel_left]
      refine ⟨(fText l).length + k, by omega, ?_, fun g hgk => ?_⟩
      · rw [List.take_add, plF_append, ← text_take l, text_pl hc]
        exact h2
      · obtain ⟨q, rfl⟩ : ∃ q, g = q + 1 := ⟨g - 1, by omega⟩
        obtain ⟨t1, t2, t3, t4, t5⟩ := first_take (m := (fText l).length + k) hl0 (by omega)
        have e2 : lexG (q + 1) (l.take ((fText l).length + k)) ln col acc = lexG q ((l.drop (fText l).length).take k) ln (col + (fText l).length) (acc ++ [⟨fKind l, fText l, fNum l, ln, col⟩]) := by
          conv => lhs; unfold lexG
          rw [if_neg (by intro e; have := congrArg List.length e; rw [List.length_take, List.length_nil] at this; omega), gapLen_take (by omega), if_neg hg, t2, t3, t4, t5, if_neg he, if_neg ha, hdt]
        rw [e2]
        exact h3 q (by omega)
theorem lexed_first {src : List UInt8} (h : (lexed src).err ≠ 0) (hs : src.length ≤ 8192) :
    ∃ k, k < src.length ∧ offF ((lexed src).line, (lexed src).col) (1, 1) src = k ∧ (lexed (src.take k)).err = 0 ∧ (lexed (src.take k)).line = 0 ∧ (lexed (src.take k)).col = 0 := by
  have e : lexed src = lexG (src.length + 1) src 1 1 [] := by unfold lexed; rw [if_neg (by omega)]
  rw [e] at h ⊢
  obtain ⟨k, h1, h2, h3⟩ := lexG_first _ _ _ _ _ h
  refine ⟨k, h1, ?_, ?_⟩
  · rw [← h2]
    have := offF_is (src.take k) (src.drop k) (by intro e; have := congrArg List.length e; rw [List.length_drop] at this; simp at this; omega) (1, 1)
    rw [List.take_append_drop, List.length_take, Nat.min_eq_left (by omega)] at this
    exact this
  · have e2 : lexed (src.take k) = lexG ((src.take k).length + 1) (src.take k) 1 1 [] := by unfold lexed; rw [if_neg (by rw [List.length_take]; omega)]
    rw [e2]
    exact h3 _ (by rw [List.length_take]; omega)
end Go.Proofs.YtdhfldpfbejcjaaGreat.Lx
/-
  The document's 'Offset' (ref02), for every source and every place.
-/
namespace Go.Proofs.YtdhfldpfbejcjaaGreat.Lx
open Go.RowKit Pl Ar Dg Pa
set_option linter.unusedVariables false

theorem offF_yes {q p : Int × Int} {c : UInt8} {r : List UInt8} (h : p = q) : offF q p (c :: r) = 0 := by
  show (if p = q then 0 else _) = 0
  rw [if_pos h]
theorem offF_no {q p : Int × Int} {c : UInt8} {r : List UInt8} (h : ¬ p = q) : offF q p (c :: r) = offF q (plStep p c) r + 1 := by
  show (if p = q then 0 else _) = _
  rw [if_neg h]
end Go.Proofs.YtdhfldpfbejcjaaGreat.Lx
/-
  CONTRACT: the fixed calls of the statements of layer lex hold.
-/
namespace Go.Proofs.YtdhfldpfbejcjaaGreat.Lx
open Go.RowKit Pl Ar Dg Pa
set_option linter.unusedVariables false

theorem lexed_one : lexed [102, 32, 120, 32, 61, 32, 120, 43, 49, 32, 45, 45, 32, 111, 110, 101] = ⟨[⟨1, [102], 0, 1, 1⟩, ⟨1, [120], 0, 1, 3⟩, ⟨5, [61], 0, 1, 5⟩, ⟨1, [120], 0, 1, 7⟩, ⟨3, [43], 0, 1, 8⟩, ⟨4, [49], 1, 1, 9⟩], 0, 0, 0⟩ := by rfl
theorem lexed_two : lexed [97, 45, 45, 45, 98] = ⟨[⟨1, [97], 0, 1, 1⟩], 0, 0, 0⟩ := by rfl
theorem lexed_three : lexed [32, 48, 48, 55] = ⟨[], 11, 1, 2⟩ := by rfl
theorem tokens_is {s : ByteArray} {r : Lexed} (hs : s.size ≤ 9223372036854775807) (h : lexed s.data.toList = r) (w : World) : Calls Tryz.prog 45 #[.string s] w fun e w' =>
    ∃ v, e = .returned (.tuple #[v, .agg #[.int .i64 r.err, .int .i64 r.line, .int .i64 r.col]]) ∧ OwnsT w' w.heap.size v r.toks ∧ Below w.heap.size w w' := by
  have g := tokens_any s hs w
  unfold TokensPost at g
  rw [h] at g
  exact g
theorem owns_cells {w : World} {B : Nat} {v : Value} {l : List Tok} (hl : 0 < l.length) (h : OwnsT w B v l) : ∃ g c, v = .slice (some ⟨g, 0, none⟩) l.length c ∧ B ≤ g ∧ g < w.heap.size ∧ ∀ j, j < l.length * 6 → w.cell? ⟨g, j, none⟩ = (toksCells l)[j]? := by
  have hx := h
  rcases h.2 with ⟨rfl, hn⟩ | ⟨g, cap, cur, rfl, hg, _⟩
  · omega
  · exact ⟨g, cap, rfl, hg, (hx.lt g rfl).2, fun j hj => World.ownsRow.cellAt hx j hj⟩
theorem keep1 {w2 w3 : World} {o : Obj} {g j : Nat} (h : g < w2.heap.size) (hb : Below (w2.alloc o).heap.size (w2.alloc o) w3) : w3.cell? ⟨g, j, none⟩ = w2.cell? ⟨g, j, none⟩ := by
  rw [hb.cell (p := ⟨g, j, none⟩) (by simp; omega), World.cell?_alloc_past _ _ _ (by show g < _; omega)]
theorem keep2 {w1 w2 w3 : World} {o o' : Obj} {g j : Nat} (h : g < w1.heap.size) (hb2 : Below (w1.alloc o).heap.size (w1.alloc o) w2) (hb : Below (w2.alloc o').heap.size (w2.alloc o') w3) : w3.cell? ⟨g, j, none⟩ = w1.cell? ⟨g, j, none⟩ := by
  have := hb2.size
  simp only [World.size_alloc] at this
  rw [keep1 (by omega) hb, keep1 h hb2]
theorem keepL {w2 w3 : World} {cs : Array Value} {t : TypeId} (hb : Below (w2.alloc (.cells cs t)).heap.size (w2.alloc (.cells cs t)) w3) (j : Nat) : w3.cell? ⟨w2.heap.size, j, none⟩ = cs[j]? := by
  rw [hb.cell (p := ⟨w2.heap.size, j, none⟩) (by simp), World.cell?_alloc_at _ _ _ _ rfl]
theorem keepF {w1 w2 w3 : World} {cs : Array Value} {t : TypeId} {o' : Obj} (hb2 : Below (w1.alloc (.cells cs t)).heap.size (w1.alloc (.cells cs t)) w2) (hb : Below (w2.alloc o').heap.size (w2.alloc o') w3) (j : Nat) : w3.cell? ⟨w1.heap.size, j, none⟩ = cs[j]? := by
  have := hb2.size
  simp only [World.size_alloc] at this
  rw [keep1 (by omega) hb, keepL hb2]
theorem all3 {w w1 w2 w3 : World} {o o' : Obj} (h1 : Below w.heap.size w w1) (h2 : Below (w1.alloc o).heap.size (w1.alloc o) w2) (h3 : Below (w2.alloc o').heap.size (w2.alloc o') w3) : Below w.heap.size w w3 := by
  have s1 := h1.size
  have s2 := h2.size
  simp only [World.size_alloc] at s2
  have g2 : Below w.heap.size w w2 := (h1.alloc s1 o).trans (h2.mono (by simp; omega))
  exact (g2.alloc (by omega) o').trans (h3.mono (by simp; omega))
end Go.Proofs.YtdhfldpfbejcjaaGreat.Lx
