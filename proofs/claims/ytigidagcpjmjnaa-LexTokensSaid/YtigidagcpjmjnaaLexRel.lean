/-
  PLAIN MATHEMATICS for layer lex: a source as blanks and tokens in turn; what blanks more, and tokens' texts with blanks between, come to. No walk.
-/
import Derived.Test.YtigidagcpjmjnaaLexFirst
import Derived.Test.YtigidagcpjmjnaaLexPlacesW
namespace Go.Proofs.Ytigidagcpjmjnaa.Lx
open Go.RowKit Pl Ar Dg Pa
set_option linter.unusedVariables false

/-- blanks: blanks, lines' ends, remarks that a line's end ends -/
inductive Blanks : List UInt8 → Prop where
  | nil : Blanks []
  | blank {r : List UInt8} : Blanks r → Blanks (32 :: r)
  | line {r : List UInt8} : Blanks r → Blanks (10 :: r)
  | rem {x r : List UInt8} : (∀ c, c ∈ x → ¬ c = 10) → Blanks r → Blanks (45 :: 45 :: (x ++ 10 :: r))
theorem Blanks.app {a b : List UInt8} (h : Blanks a) (g : Blanks b) : Blanks (a ++ b) := by
  induction h with
  | nil => exact g
  | blank _ ih => exact .blank ih
  | line _ ih => exact .line ih
  | rem hx _ ih =>
    rw [List.cons_append, List.cons_append, List.append_assoc, List.cons_append]
    exact .rem hx ih
/-- a token without its place -/
structure Tk where
  kind : Int
  text : List UInt8
  num : Int
def strip (t : Tok) : Tk := ⟨t.kind, t.text, t.num⟩
/-- nothing but blanks is left: a remark may stand at the end -/
def Rest (l : List UInt8) : Prop := Blanks l ∨ ∃ p x, l = p ++ 45 :: 45 :: x ∧ Blanks p ∧ ∀ c, c ∈ x → ¬ c = 10
/-- what a source without an error comes to -/
inductive Lexes : List UInt8 → List Tk → Prop where
  | done {l : List UInt8} : Rest l → Lexes l []
  | tok {p b : List UInt8} {ts : List Tk} : Blanks p → b ≠ [] → gapLen b = 0 → fErr b = 0 → Lexes (b.drop (fText b).length) ts → Lexes (p ++ b) (⟨fKind b, fText b, fNum b⟩ :: ts)
theorem Lexes.pre {p l : List UInt8} {ts : List Tk} (h : Lexes l ts) (hp : Blanks p) : Lexes (p ++ l) ts := by
  cases h with
  | done hr =>
    refine .done ?_
    rcases hr with hr | ⟨q, x, rfl, hq, hx⟩
    · exact .inl (hp.app hr)
    · exact .inr ⟨p ++ q, x, by rw [List.append_assoc], hp.app hq, hx⟩
  | tok h1 h2 h3 h4 h5 =>
    rw [← List.append_assoc]
    exact .tok (hp.app h1) h2 h3 h4 h5
/-! ### a gap is blanks -/
theorem gapR_false_blanks (l : List UInt8) : Blanks (l.take (gapR false l)) := by
  induction l with
  | nil => simp [gapR]; exact .nil
  | cons c r ih =>
    unfold gapR
    split
    · rename_i h; rw [h]; exact .line .nil
    · split
      · exact .nil
      · rename_i h1 h2
        have : c = 32 := Classical.byContradiction fun h => h2 ⟨rfl, h⟩
        rw [this, List.take_succ_cons]
        exact .blank ih
theorem gapR_true_split (l : List UInt8) : (∃ x, l.take (gapR true l) = x ++ [10] ∧ ∀ c, c ∈ x → ¬ c = 10) ∨ (gapR true l = l.length ∧ ∀ c, c ∈ l → ¬ c = 10) := by
  induction l with
  | nil => exact .inr ⟨rfl, fun c h => by cases h⟩
  | cons c r ih =>
    by_cases h : c = 10
    · refine .inl ⟨[], ?_, fun c h => by cases h⟩
      rw [h, gapR_line]; rfl
    · rw [gapR_rem r h, List.take_succ_cons]
      rcases ih with ⟨x, h1, h2⟩ | ⟨h1, h2⟩
      · exact .inl ⟨c :: x, by rw [h1]; rfl, fun d hd => by
          rcases List.mem_cons.1 hd with rfl | hd
          · exact h
          · exact h2 d hd⟩
      · exact .inr ⟨by rw [h1]; rfl, fun d hd => by
          rcases List.mem_cons.1 hd with rfl | hd
          · exact h
          · exact h2 d hd⟩
theorem gap_blanks (l : List UInt8) : Blanks (l.take (gapLen l)) ∨ (gapLen l = l.length ∧ Rest l) := by
  by_cases hr : isRem l = true
  · obtain ⟨r, rfl⟩ := (isRem_iff l).1 hr
    unfold gapLen
    rw [hr, gapR_rem _ (by decide), gapR_rem _ (by decide), List.take_succ_cons, List.take_succ_cons]
    rcases gapR_true_split r with ⟨x, h1, h2⟩ | ⟨h1, h2⟩
    · exact .inl (by rw [h1]; exact .rem h2 .nil)
    · exact .inr ⟨by rw [h1]; rfl, .inr ⟨[], r, rfl, .nil, h2⟩⟩
  · unfold gapLen
    rw [show isRem l = false by simpa using hr]
    exact .inl (gapR_false_blanks l)
theorem gapR_stop0 {l : List UInt8} (h : gapLen l = 0) : isRem l = false := by
  rw [Bool.eq_false_iff]
  intro hr
  obtain ⟨r, rfl⟩ := (isRem_iff l).1 hr
  unfold gapLen at h
  rw [hr, gapR_rem _ (by decide)] at h
  omega
/-! ### without places -/
def lexS : Nat → List UInt8 → List Tk → Int × List Tk
  | 0, _, acc => (0, acc)
  | f + 1, l, acc =>
    if l = [] then (0, acc)
    else if 0 < gapLen l then lexS f (l.drop (gapLen l)) acc
    else if fErr l ≠ 0 then (fErr l, [])
    else if acc.length = 2048 then (2, [])
    else lexS f (l.drop (fText l).length) (acc ++ [⟨fKind l, fText l, fNum l⟩])
theorem lexG_lexS (f : Nat) : ∀ (l : List UInt8) (ln col : Int) (acc : List Tok), ((lexG f l ln col acc).err, (lexG f l ln col acc).toks.map strip) = lexS f l (acc.map strip) := by
  induction f with
  | zero => intro l ln col acc; rfl
  | succ f ih =>
    intro l ln col acc
    unfold lexG lexS
    split
    · rfl
    split
    · exact ih _ _ _ _
    split
    · rfl
    rw [List.length_map]
    split
    · rfl
    · rw [ih]; simp [strip]
theorem lexS_nil (f : Nat) (acc : List Tk) : lexS f [] acc = (0, acc) := by
  cases f with
  | zero => rfl
  | succ f => unfold lexS; rw [if_pos rfl]
theorem lexS_fuel (f : Nat) : ∀ (g : Nat) (l : List UInt8) (acc : List Tk), l.length < f → l.length < g → lexS f l acc = lexS g l acc := by
  induction f with
  | zero => intro g l acc h; omega
  | succ f ih =>
    intro g l acc h1 h2
    obtain ⟨g, rfl⟩ : ∃ q, g = q + 1 := ⟨g - 1, by omega⟩
    by_cases hl : l = []
    · rw [hl, lexS_nil, lexS_nil]
    have hl0 : 0 < l.length := List.length_pos_iff.2 hl
    have hp := fText_len hl0
    unfold lexS
    rw [if_neg hl, if_neg hl]
    split
    · exact ih _ _ _ (by rw [List.length_drop]; omega) (by rw [List.length_drop]; omega)
    split
    · rfl
    split
    · rfl
    · exact ih _ _ _ (by rw [List.length_drop]; omega) (by rw [List.length_drop]; omega)
/-- a gap, however long, turns nothing -/
theorem lexS_gap {f : Nat} {l : List UInt8} {acc : List Tk} (h : l.length < f) : lexS f l acc = lexS f (l.drop (gapLen l)) acc := by
  by_cases hg : 0 < gapLen l
  · by_cases hl : l = []
    · rw [hl]; simp
    obtain ⟨f, rfl⟩ : ∃ q, f = q + 1 := ⟨f - 1, by omega⟩
    have e : lexS (f + 1) l acc = lexS f (l.drop (gapLen l)) acc := by
      conv => lhs; unfold lexS
      rw [if_neg hl, if_pos hg]
    rw [e]
    exact lexS_fuel _ _ _ _ (by rw [List.length_drop]; have := List.length_pos_iff.2 hl; omega) (by rw [List.length_drop]; omega)
  · rw [show gapLen l = 0 by omega, List.drop_zero]
theorem lexS_blank {f : Nat} {l : List UInt8} {acc : List Tk} (h : (32 :: l).length < f) : lexS f (32 :: l) acc = lexS f l acc := by
  have e : gapLen (32 :: l) = gapR false l + 1 := by
    unfold gapLen
    have : isRem (32 :: l) = false := by
      rw [Bool.eq_false_iff]
      intro hr
      obtain ⟨r, h⟩ := (isRem_iff _).1 hr
      simp at h
    rw [this, gapR_blank]
  rw [lexS_gap h, e, List.drop_succ_cons]
  by_cases hrem : isRem l = true
  · have : gapR false l = 0 := by
      obtain ⟨x, rfl⟩ := (isRem_iff l).1 hrem
      exact gapR_stop _ (by decide) (by decide)
    rw [this, List.drop_zero]
  · have : gapLen l = gapR false l := by unfold gapLen; rw [show isRem l = false by simpa using hrem]
    rw [← this]
    exact (lexS_gap (by simp at h; omega)).symm
theorem lexS_line {f : Nat} {l : List UInt8} {acc : List Tk} (h : (10 :: l).length < f) : lexS f (10 :: l) acc = lexS f l acc := by
  have e : gapLen (10 :: l) = 1 := by unfold gapLen; exact gapR_line _ _
  rw [lexS_gap h, e]
  rfl
theorem gapR_run {x : List UInt8} (z : List UInt8) (h : ∀ c, c ∈ x → ¬ c = 10) : gapR true (x ++ 10 :: z) = x.length + 1 := by
  induction x with
  | nil => rw [List.nil_append, gapR_line]; rfl
  | cons c y ihy =>
    rw [List.cons_append, gapR_rem _ (h c (by simp)), ihy (fun d hd => h d (by simp [hd]))]
    simp
theorem gapR_all {x : List UInt8} (h : ∀ c, c ∈ x → ¬ c = 10) : gapR true x = x.length := by
  induction x with
  | nil => rfl
  | cons c y ihy =>
    rw [gapR_rem _ (h c (by simp)), ihy (fun d hd => h d (by simp [hd]))]
    rfl
theorem lexS_rem {f : Nat} {x l : List UInt8} {acc : List Tk} (hx : ∀ c, c ∈ x → ¬ c = 10) (h : (45 :: 45 :: (x ++ 10 :: l)).length < f) : lexS f (45 :: 45 :: (x ++ 10 :: l)) acc = lexS f l acc := by
  have e : gapLen (45 :: 45 :: (x ++ 10 :: l)) = x.length + 1 + 1 + 1 := by
    unfold gapLen
    rw [(isRem_iff _).2 ⟨_, rfl⟩, gapR_rem _ (by decide), gapR_rem _ (by decide), gapR_run _ hx]
  rw [lexS_gap h, e, List.drop_succ_cons, List.drop_succ_cons]
  have : (x ++ 10 :: l).drop (x.length + 1) = l := by
    rw [List.drop_append, List.drop_of_length_le (by omega), List.nil_append, Nat.add_sub_cancel_left]
    rfl
  rw [this]
theorem lexS_skip {p : List UInt8} (hp : Blanks p) (f : Nat) (l : List UInt8) (acc : List Tk) (h : (p ++ l).length < f) : lexS f (p ++ l) acc = lexS f l acc := by
  induction hp with
  | nil => rfl
  | blank _ ih =>
    rw [List.cons_append] at h ⊢
    rw [lexS_blank h]
    exact ih (by simp at h ⊢; omega)
  | line _ ih =>
    rw [List.cons_append] at h ⊢
    rw [lexS_line h]
    exact ih (by simp at h ⊢; omega)
  | rem hx _ ih =>
    rw [List.cons_append, List.cons_append, List.append_assoc, List.cons_append] at h ⊢
    rw [lexS_rem hx h]
    exact ih (by simp at h ⊢; omega)
theorem lexS_rest {l : List UInt8} (hr : Rest l) (f : Nat) (acc : List Tk) (h : l.length < f) : lexS f l acc = (0, acc) := by
  rcases hr with hr | ⟨p, x, rfl, hp, hx⟩
  · have := lexS_skip hr f [] acc (by simpa using h)
    rw [List.append_nil] at this
    rw [this, lexS_nil]
  · rw [lexS_skip hp _ _ _ h, lexS_gap (by simp at h ⊢; omega)]
    have e : gapLen (45 :: 45 :: x) = x.length + 1 + 1 := by
      unfold gapLen
      rw [(isRem_iff _).2 ⟨_, rfl⟩, gapR_rem _ (by decide), gapR_rem _ (by decide), gapR_all hx]
    rw [e, List.drop_of_length_le (by simp), lexS_nil]
theorem lexes_lexS {l : List UInt8} {ts : List Tk} (h : Lexes l ts) : ∀ (f : Nat) (acc : List Tk), l.length < f → acc.length + ts.length ≤ 2048 → lexS f l acc = (0, acc ++ ts) := by
  induction h with
  | done hr => intro f acc hf _; rw [lexS_rest hr f acc hf, List.append_nil]
  | @tok p b ts hp hb hg he _ ih =>
    intro f acc hf hc
    simp only [List.length_cons] at hc
    rw [lexS_skip hp _ _ _ hf]
    have hb0 : 0 < b.length := List.length_pos_iff.2 hb
    have hl := fText_len hb0
    rw [List.length_append] at hf
    obtain ⟨f, rfl⟩ : ∃ q, f = q + 1 := ⟨f - 1, by omega⟩
    have e : lexS (f + 1) b acc = lexS f (b.drop (fText b).length) (acc ++ [⟨fKind b, fText b, fNum b⟩]) := by
      conv => lhs; unfold lexS
      rw [if_neg hb, if_neg (by omega), if_neg (by simp [he]), if_neg (by omega)]
    rw [e, ih f _ (by rw [List.length_drop]; omega) (by simp; omega)]
    simp
theorem lexS_lexes (f : Nat) : ∀ (l : List UInt8) (acc : List Tk), l.length < f → acc.length ≤ 2048 → (lexS f l acc).1 = 0 → ∃ ts, Lexes l ts ∧ (lexS f l acc).2 = acc ++ ts ∧ acc.length + ts.length ≤ 2048 := by
  induction f with
  | zero => intro l acc h; omega
  | succ f ih =>
    intro l acc hlen hacc h
    by_cases hl : l = []
    · rw [hl, lexS_nil]; exact ⟨[], .done (.inl .nil), by simp, by simpa using hacc⟩
    have hl0 : 0 < l.length := List.length_pos_iff.2 hl
    by_cases hg : 0 < gapLen l
    · have e : lexS (f + 1) l acc = lexS f (l.drop (gapLen l)) acc := by
        conv => lhs; unfold lexS
        rw [if_neg hl, if_pos hg]
      rw [e] at h ⊢
      obtain ⟨ts, h1, h2, h3⟩ := ih _ _ (by rw [List.length_drop]; omega) hacc h
      rcases gap_blanks l with hb | ⟨hb, hr⟩
      · exact ⟨ts, by rw [← List.take_append_drop (gapLen l) l]; exact h1.pre hb, h2, h3⟩
      · have e0 : l.drop (gapLen l) = [] := List.drop_of_length_le (by omega)
        rw [e0, lexS_nil]
        exact ⟨[], .done hr, by simp, by simpa using hacc⟩
    by_cases he : fErr l ≠ 0
    · have e : lexS (f + 1) l acc = (fErr l, []) := by
        conv => lhs; unfold lexS
        rw [if_neg hl, if_neg hg, if_pos he]
      rw [e] at h
      exact absurd h he
    by_cases ha : acc.length = 2048
    · have e : lexS (f + 1) l acc = (2, []) := by
        conv => lhs; unfold lexS
        rw [if_neg hl, if_neg hg, if_neg he, if_pos ha]
      rw [e] at h
      exact absurd h (by decide)
    · have e : lexS (f + 1) l acc = lexS f (l.drop (fText l).length) (acc ++ [⟨fKind l, fText l, fNum l⟩]) := by
        conv => lhs; unfold lexS
        rw [if_neg hl, if_neg hg, if_neg he, if_neg ha]
      rw [e] at h ⊢
      have hp := fText_len hl0
      obtain ⟨ts, h1, h2, h3⟩ := ih _ _ (by rw [List.length_drop]; omega) (by simp; omega) h
      refine ⟨_, .tok (p := []) (b := l) .nil hl (by omega) (by simpa using he) h1, ?_, ?_⟩
      · rw [h2]; simp
      · simp at h3 ⊢; omega
/-! ### a token's text, whatever stands behind it that does not go on with it -/
theorem runR_app {c : Int} {y : List UInt8} (m : List UInt8) (h : ∀ x, x ∈ y → goes c (cls x.toNat) = true) : runR c (y ++ m) = y.length + runR c m := by
  induction y with
  | nil => simp
  | cons x y ih =>
    rw [List.cons_append, run_yes (h x (by simp)), ih (fun z hz => h z (by simp [hz]))]
    simp; omega
theorem runR_drop (c : Int) (l : List UInt8) : runR c (l.drop (runR c l)) = 0 := by
  induction l with
  | nil => simp [runR]
  | cons x r ih =>
    by_cases h : goes c (cls x.toNat) = true
    · rw [run_yes h, List.drop_succ_cons]; exact ih
    · have h' : goes c (cls x.toNat) = false := by simpa using h
      rw [run_no h', List.drop_zero, run_no h']
theorem runR_head {c : Int} {l m : List UInt8} (h : runR c l = 0) (hh : l.head? = m.head?) : runR c m = 0 := by
  cases m with
  | nil => rfl
  | cons x y =>
    cases l with
    | nil => cases hh
    | cons a b =>
      simp at hh
      subst hh
      by_cases hg : goes c (cls a.toNat) = true
      · rw [run_yes hg] at h; omega
      · exact run_no (by simpa using hg)
theorem runR_cls1 {c : Int} {x : UInt8} (m : List UInt8) (h : cls x.toNat = 1) : runR c (x :: m) = 0 := by
  refine run_no ?_
  rw [h]
  unfold goes
  by_cases h4 : c = 4 <;> by_cases h7 : c = 7 <;> simp_all
theorem text_swap {l m : List UInt8} (hl : l ≠ []) (hg : gapLen l = 0) (hm : runR (hcls l) m = 0) :
    fText l ++ m ≠ [] ∧ gapLen (fText l ++ m) = 0 ∧ fText (fText l ++ m) = fText l ∧ fErr (fText l ++ m) = fErr l ∧ fKind (fText l ++ m) = fKind l ∧ fNum (fText l ++ m) = fNum l ∧ (fText l ++ m).drop (fText l).length = m := by
  have hrem := gapR_stop0 hg
  cases l with
  | nil => exact absurd rfl hl
  | cons c r =>
    have hT : fText (c :: r) = c :: r.take (runR (hcls (c :: r)) r) := by
      unfold fText endLen
      rw [show 1 + runR (hcls (c :: r)) ((c :: r).drop 1) = runR (hcls (c :: r)) r + 1 by rw [List.drop_succ_cons, List.drop_zero]; omega, List.take_succ_cons]
    have hc : hcls (fText (c :: r) ++ m) = hcls (c :: r) := by rw [hT]; rfl
    have hE : fText (fText (c :: r) ++ m) = fText (c :: r) := by
      have hrun := run_take (hcls (c :: r)) r
      show (fText (c :: r) ++ m).take (1 + runR (hcls (fText (c :: r) ++ m)) ((fText (c :: r) ++ m).drop 1)) = fText (c :: r)
      rw [hc, hT, List.cons_append, List.drop_succ_cons, List.drop_zero, runR_app m hrun, hm, Nat.add_zero, Nat.add_comm, List.take_succ_cons, List.take_left]
    have hnb : ¬ c = 10 ∧ ¬ c = 32 := by
      unfold gapLen at hg
      rw [hrem] at hg
      constructor
      · rintro rfl; rw [gapR_line] at hg; omega
      · rintro rfl; rw [gapR_blank] at hg; omega
    have hr2 : isRem (fText (c :: r) ++ m) = false := by
      rw [Bool.eq_false_iff]
      intro hr
      obtain ⟨z, hz⟩ := (isRem_iff _).1 hr
      rw [hT, List.cons_append] at hz
      injection hz with hc1 hz
      subst hc1
      have h7 : hcls (45 :: r) = 7 := show cls (45 : UInt8).toNat = 7 by decide
      rw [h7] at hz hm
      cases r with
      | nil =>
        simp at hz
        rw [hz, run_yes (by decide)] at hm
        omega
      | cons d q =>
        by_cases hgo : goes 7 (cls d.toNat) = true
        · rw [run_yes hgo, List.take_succ_cons, List.cons_append] at hz
          injection hz with hd _
          subst hd
          have := (isRem_iff (45 :: 45 :: q)).2 ⟨q, rfl⟩
          rw [this] at hrem
          cases hrem
        · rw [run_no (by simpa using hgo), List.take_zero, List.nil_append] at hz
          rw [hz, run_yes (by decide)] at hm
          omega
    refine ⟨by rw [hT]; simp, ?_, hE, ?_, ?_, ?_, List.drop_left⟩
    · unfold gapLen
      rw [hr2, hT, List.cons_append]
      exact gapR_stop _ hnb.1 hnb.2
    · unfold fErr; rw [hc, hE]
    · unfold fKind; rw [hc, hE]
    · unfold fNum; rw [hc, hE]
/-- tokens' texts, each with a blank behind it -/
def joinT : List Tk → List UInt8
  | [] => []
  | t :: ts => t.text ++ 32 :: joinT ts
theorem lexes_join {l : List UInt8} {ts : List Tk} (h : Lexes l ts) : Lexes (joinT ts) ts := by
  induction h with
  | done _ => exact .done (.inl .nil)
  | @tok p b ts hp hb hg he _ ih =>
    obtain ⟨h1, h2, h3, h4, h5, h6, h7⟩ := text_swap (m := 32 :: joinT ts) hb hg (runR_cls1 _ (by decide))
    have := Lexes.tok (p := []) (b := fText b ++ 32 :: joinT ts) (ts := ts) .nil h1 h2 (by rw [h4, he]) (by rw [h3, h7]; exact ih.pre (.blank .nil))
    rw [h3, h5, h6, List.nil_append] at this
    exact this
theorem lexG_ext (f : Nat) : ∀ (l : List UInt8) (ln col : Int) (acc : List Tok), (lexG f l ln col acc).err = 0 → ∃ ts, (lexG f l ln col acc).toks = acc ++ ts := by
  induction f with
  | zero => intro l ln col acc _; exact ⟨[], by simp [lexG]⟩
  | succ f ih =>
    intro l ln col acc h
    by_cases hl : l = []
    · rw [hl, lexG_nil]; exact ⟨[], by simp⟩
    by_cases hg : 0 < gapLen l
    · have e : lexG (f + 1) l ln col acc = lexG f (l.drop (gapLen l)) (behindL (l.take (gapLen l)) ln) (behindC (l.take (gapLen l)) col) acc := by
        conv => lhs; unfold lexG
        rw [if_neg hl, if_pos hg]
      rw [e] at h ⊢
      exact ih _ _ _ _ h
    by_cases he : fErr l ≠ 0
    · have e : lexG (f + 1) l ln col acc = ⟨[], fErr l, ln, col⟩ := by
        conv => lhs; unfold lexG
        rw [if_neg hl, if_neg hg, if_pos he]
      rw [e] at h
      exact absurd h he
    by_cases ha : acc.length = 2048
    · have e : lexG (f + 1) l ln col acc = ⟨[], 2, ln, col⟩ := by
        conv => lhs; unfold lexG
        rw [if_neg hl, if_neg hg, if_neg he, if_pos ha]
      rw [e] at h
      exact absurd (show (2 : Int) = 0 from h) (by decide)
    · have e : lexG (f + 1) l ln col acc = lexG f (l.drop (fText l).length) ln (col + (fText l).length) (acc ++ [⟨fKind l, fText l, fNum l, ln, col⟩]) := by
        conv => lhs; unfold lexG
        rw [if_neg hl, if_neg hg, if_neg he, if_neg ha]
      rw [e] at h ⊢
      obtain ⟨ts, h1⟩ := ih _ _ _ _ h
      exact ⟨_, by rw [h1, List.append_assoc]⟩
/-- blanks more ahead of a token turn nothing -/
theorem lexG_ins {s : List UInt8} (hs : Blanks s) (hs1 : s ≠ []) (hs2 : ∀ x, s.head? = some x → cls x.toNat = 1) (f : Nat) : ∀ (l : List UInt8) (ln col : Int) (acc : List Tok) (w : Nat) (t : Tok), l.length < f → acc.length ≤ 2048 → acc.length ≤ w → (lexG f l ln col acc).err = 0 → (lexG f l ln col acc).toks[w]? = some t →
    ∃ k, k < l.length ∧ plF (ln, col) (l.take k) = (t.line, t.col) ∧ ∃ ts, Lexes (l.take k ++ s ++ l.drop k) ts ∧ (lexG f l ln col acc).toks.map strip = acc.map strip ++ ts := by
  induction f with
  | zero => intro l ln col acc w t h; omega
  | succ f ih =>
    intro l ln col acc w t hlen hacc hw h ht
    by_cases hl : l = []
    · rw [hl, lexG_nil] at ht
      rw [List.getElem?_eq_none (by simpa using hw)] at ht
      cases ht
    have hl0 : 0 < l.length := List.length_pos_iff.2 hl
    by_cases hg : 0 < gapLen l
    · have e : lexG (f + 1) l ln col acc = lexG f (l.drop (gapLen l)) (behindL (l.take (gapLen l)) ln) (behindC (l.take (gapLen l)) col) acc := by
        conv => lhs; unfold lexG
        rw [if_neg hl, if_pos hg]
      rw [e] at h ht ⊢
      have hle := gapLen_le l
      obtain ⟨k, h1, h2, ts, h3, h4⟩ := ih _ _ _ _ w t (by rw [List.length_drop]; omega) hacc hw h ht
      rw [List.length_drop] at h1
      refine ⟨gapLen l + k, by omega, ?_, ts, ?_, h4⟩
      · rw [List.take_add, plF_append]
        have hp := gap_pl (isRem l) l ln col
        rw [show plF (ln, col) (l.take (gapLen l)) = _ from hp]
        exact h2
      · rcases gap_blanks l with hb | ⟨hb, _⟩
        · rw [List.take_add, ← List.drop_drop, List.append_assoc, List.append_assoc]
          rw [List.append_assoc] at h3
          exact h3.pre hb
        · omega
    by_cases he : fErr l ≠ 0
    · have e : lexG (f + 1) l ln col acc = ⟨[], fErr l, ln, col⟩ := by
        conv => lhs; unfold lexG
        rw [if_neg hl, if_neg hg, if_pos he]
      rw [e] at h
      exact absurd h he
    by_cases ha : acc.length = 2048
    · have e : lexG (f + 1) l ln col acc = ⟨[], 2, ln, col⟩ := by
        conv => lhs; unfold lexG
        rw [if_neg hl, if_neg hg, if_neg he, if_pos ha]
      rw [e] at h
      exact absurd (show (2 : Int) = 0 from h) (by decide)
    have e : lexG (f + 1) l ln col acc = lexG f (l.drop (fText l).length) ln (col + (fText l).length) (acc ++ [⟨fKind l, fText l, fNum l, ln, col⟩]) := by
      conv => lhs; unfold lexG
      rw [if_neg hl, if_neg hg, if_neg he, if_neg ha]
    have hp := fText_len hl0
    have hc := hcls_line (by omega) hl
    by_cases hw0 : w = acc.length
    · -- it is this token
      have hS := lexG_lexS (f + 1) l ln col acc
      have hx : (lexS (f + 1) l (acc.map strip)).1 = 0 := by rw [← hS]; exact h
      obtain ⟨ts, h1, h2, _⟩ := lexS_lexes _ _ _ hlen (by rw [List.length_map]; exact hacc) hx
      have ht' : (⟨fKind l, fText l, fNum l, ln, col⟩ : Tok) = t := by
        have h' := h
        rw [e] at h' ht
        obtain ⟨r, hr⟩ := lexG_ext _ _ _ _ _ h'
        rw [hr, hw0, List.append_assoc, List.getElem?_append_right (by omega), Nat.sub_self] at ht
        simpa using ht
      refine ⟨0, hl0, ?_, ts, ?_, ?_⟩
      · rw [← ht']; rfl
      · rw [List.take_zero, List.nil_append, List.drop_zero]
        exact h1.pre hs
      · rw [← h2, ← hS]
    · rw [e] at h ht ⊢
      obtain ⟨k, h1, h2, ts, h3, h4⟩ := ih _ _ _ _ w t (by rw [List.length_drop]; omega) (by simp; omega) (by simp; omega) h ht
      rw [List.length_drop] at h1
      have hend : runR (hcls l) (l.drop (fText l).length) = 0 := by
        have hT : (fText l).length = 1 + runR (hcls l) (l.drop 1) := by
          have := endLen_le (hcls l) hl0
          unfold fText
          rw [List.length_take]
          unfold endLen at this ⊢
          omega
        rw [hT, ← List.drop_drop]
        exact runR_drop _ _
      have hm : runR (hcls l) ((l.drop (fText l).length).take k ++ s ++ (l.drop (fText l).length).drop k) = 0 := by
        cases k with
        | zero =>
          cases s with
          | nil => exact absurd rfl hs1
          | cons x y =>
            rw [List.take_zero, List.nil_append, List.cons_append]
            exact runR_cls1 _ (hs2 x rfl)
        | succ k =>
          refine runR_head hend ?_
          have hd : 0 < (l.drop (fText l).length).length := by rw [List.length_drop]; omega
          cases hq : l.drop (fText l).length with
          | nil => rw [hq] at hd; cases hd
          | cons a b => rfl
      obtain ⟨g1, g2, g3, g4, g5, g6, g7⟩ := text_swap (l := l) (by exact hl) (by omega) hm
      refine ⟨(fText l).length + k, by omega, ?_, ⟨fKind l, fText l, fNum l⟩ :: ts, ?_, ?_⟩
      · rw [List.take_add, plF_append, ← text_take l, text_pl hc]
        exact h2
      · have := Lexes.tok (p := []) .nil g1 g2 (by rw [g4]; simpa using he) (by rw [g3, g7]; exact h3)
        rw [g3, g5, g6, List.nil_append] at this
        rw [List.take_add, ← text_take l, ← List.drop_drop, List.append_assoc, List.append_assoc]
        rw [List.append_assoc] at this
        exact this
      · rw [h4]; simp [strip]
theorem lexed_ins {src s : List UInt8} (hs : Blanks s) (hs1 : s ≠ []) (hs2 : ∀ x, s.head? = some x → cls x.toNat = 1) (h : (lexed src).err = 0) {w : Nat} {t : Tok} (ht : (lexed src).toks[w]? = some t) (hl : src.length + s.length ≤ 8192) :
    ∃ k, k < src.length ∧ offF (t.line, t.col) (1, 1) src = k ∧ (lexed (src.take k ++ s ++ src.drop k)).err = 0 ∧ (lexed (src.take k ++ s ++ src.drop k)).toks.map strip = (lexed src).toks.map strip := by
  have e : lexed src = lexG (src.length + 1) src 1 1 [] := by unfold lexed; rw [if_neg (by omega)]
  have hlen := lexed_len src
  rw [e] at h ht ⊢
  rw [e] at hlen
  obtain ⟨k, h1, h2, ts, h3, h4⟩ := lexG_ins hs hs1 hs2 _ _ _ _ _ w t (by omega) (by simp) (by simp) h ht
  refine ⟨k, h1, ?_, ?_⟩
  · rw [← h2]
    have := offF_is (src.take k) (src.drop k) (by intro e; have := congrArg List.length e; rw [List.length_drop, List.length_nil] at this; omega) (1, 1)
    rw [List.take_append_drop, List.length_take, Nat.min_eq_left (by omega)] at this
    exact this
  · have hn : (src.take k ++ s ++ src.drop k).length = src.length + s.length := by simp; omega
    have e2 : lexed (src.take k ++ s ++ src.drop k) = lexG ((src.take k ++ s ++ src.drop k).length + 1) (src.take k ++ s ++ src.drop k) 1 1 [] := by unfold lexed; rw [if_neg (by omega)]
    rw [e2]
    have hS := lexG_lexS ((src.take k ++ s ++ src.drop k).length + 1) (src.take k ++ s ++ src.drop k) 1 1 []
    have hts : ts.length ≤ 2048 := by
      have := congrArg List.length h4
      simp at this
      omega
    rw [lexes_lexS h3 _ _ (by omega) (by simpa using hts)] at hS
    rw [Prod.mk.injEq] at hS
    exact ⟨hS.1, by rw [hS.2, h4]⟩
theorem lexed_join {src : List UInt8} (h : (lexed src).err = 0) (hl : (joinT ((lexed src).toks.map strip)).length ≤ 8192) :
    (lexed (joinT ((lexed src).toks.map strip))).err = 0 ∧ (lexed (joinT ((lexed src).toks.map strip))).toks.map strip = (lexed src).toks.map strip := by
  have hlen := lexed_len src
  have hsrc : ¬ 8192 < src.length := by
    intro h8
    unfold lexed at h
    rw [if_pos h8] at h
    exact absurd (show (2 : Int) = 0 from h) (by decide)
  have e : lexed src = lexG (src.length + 1) src 1 1 [] := by unfold lexed; rw [if_neg hsrc]
  have hS := lexG_lexS (src.length + 1) src 1 1 []
  have hx : (lexS (src.length + 1) src []).1 = 0 := by
    have := congrArg Prod.fst hS
    rw [← e] at this
    exact (show (lexS (src.length + 1) src []).1 = (lexed src).err from this.symm).trans h
  obtain ⟨ts, h1, h2, h3⟩ := lexS_lexes _ _ _ (by omega) (by simp) hx
  have hts : (lexed src).toks.map strip = ts := by
    have := congrArg Prod.snd hS
    rw [← e] at this
    rw [show (lexed src).toks.map strip = _ from this]
    simpa using h2
  rw [hts] at hl ⊢
  have e2 : lexed (joinT ts) = lexG ((joinT ts).length + 1) (joinT ts) 1 1 [] := by unfold lexed; rw [if_neg (by omega)]
  have hJ := lexG_lexS ((joinT ts).length + 1) (joinT ts) 1 1 []
  rw [lexes_lexS (lexes_join h1) _ _ (by omega) (by simpa using h3), ← e2] at hJ
  rw [Prod.mk.injEq] at hJ
  exact ⟨hJ.1, by rw [hJ.2]; rfl⟩
end Go.Proofs.Ytigidagcpjmjnaa.Lx
