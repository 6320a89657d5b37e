/-
  THE WALK of the law LexNumbers: a number's digits are one token, with that number.
-/
import Derived.Test.YtdhfldpfbejcjaaGreatGXa
import Derived.Test.YtdhfldpfbejcjaaGreatGXb
import Derived.Deep.Cut
import Derived.Deep.QuietTactic
import Derived.BigQuiet
import Derived.StillTailTactics
namespace Go.Proofs.YtdhfldpfbejcjaaGreat.Lx
open Go.RowKit Pl Ar Dg Pa Tx Rp
set_option linter.unusedVariables false

theorem cls_digit {c : UInt8} (h : isD c = true) : cls c.toNat = 4 := by
  simp only [isD, Bool.and_eq_true, decide_eq_true_eq] at h
  unfold cls
  (repeat' split) <;> omega
theorem run_digits {l : List UInt8} (h : l.all isD = true) : runR 4 l = l.length := by
  induction l with
  | nil => rfl
  | cons c r ih =>
    simp only [List.all_cons, Bool.and_eq_true] at h
    rw [run_yes (by rw [cls_digit h.1]; decide), ih h.2]; rfl
/-- the number of a source's token of digits -/
def numOf (v : Nat) : Int := if v = 9223372036854775808 then -9223372036854775808 else (v : Int)
theorem lexed_digits {v : Nat} (hv : v ≤ 9223372036854775808) : lexed (Lib.decDigits v) = ⟨[⟨4, Lib.decDigits v, numOf v, 1, 1⟩], 0, 0, 0⟩ := by
  have hne := dec_ne v
  obtain ⟨e1, e2⟩ := dec_val _ v (Nat.lt_succ_self _)
  have hlen := dec_len20 (u := v) (by omega)
  have hz : (Lib.decDigits v).head? = some 48 → v = 0 := dec_head _ v (Nat.lt_succ_self _)
  have hb : wholeOf (Lib.decDigits v) = (numOf v, 0) := by
    unfold wholeOf numOf
    by_cases h : v = 9223372036854775808
    · have : Lib.decDigits v = beyond := by
        have hb := dec_of_val _ beyond (Nat.lt_succ_self _) (by decide) (by decide) (by decide)
        rw [h, ← hb]
        rfl
      rw [if_pos this, if_pos h]
    · have h2 : ¬ Lib.decDigits v = beyond := by
        intro e
        rw [e] at e1
        exact h (by rw [← e1]; rfl)
      rw [if_neg h2, if_neg h, ← itoa_high]
      have hb : below (Lib.decDigits v) = false := by
        cases hd : Lib.decDigits v with
        | nil => exact absurd hd hne
        | cons c r =>
          rw [hd] at e2
          have hc : isD c = true := by simp only [List.all_cons, Bool.and_eq_true] at e2; exact e2.1
          simp only [below, List.head?_cons]
          apply beq_eq_false_iff_ne.2
          intro e
          rw [Option.some.inj e] at hc
          exact absurd hc (by decide)
      rw [itoa_high]
      have hd : digitsOf (Lib.decDigits v) = Lib.decDigits v := (above_split hb).symm
      refine ok_high (by rw [hd]; exact hne) (fun e => ?_) (by rw [hd]; exact ⟨e1.symm, e2⟩) (by omega) hb
      rw [hd] at e
      have := hz e.1
      rw [this, dec_zero] at e
      exact e.2 rfl
  generalize Lib.decDigits v = d at *
  cases d with
  | nil => exact absurd rfl hne
  | cons c r =>
    have hc : isD c = true := by simp only [List.all_cons, Bool.and_eq_true] at e2; exact e2.1
    have hr : r.all isD = true := by simp only [List.all_cons, Bool.and_eq_true] at e2; exact e2.2
    have hcl : hcls (c :: r) = 4 := cls_digit hc
    have hcn : 48 ≤ c.toNat := by simp only [isD, Bool.and_eq_true, decide_eq_true_eq] at hc; exact hc.1
    have hg : gapLen (c :: r) = 0 := by
      have h45 : ¬ c = 45 := by intro e; rw [e] at hcn; exact absurd hcn (by decide)
      have h10 : ¬ c = 10 := by intro e; rw [e] at hcn; exact absurd hcn (by decide)
      have h32 : ¬ c = 32 := by intro e; rw [e] at hcn; exact absurd hcn (by decide)
      unfold gapLen
      have : isRem (c :: r) = false := by
        unfold isRem Lib.hasPrefix
        simp only [List.isPrefixOf]
        have : ((45 : UInt8) == c) = false := beq_eq_false_iff_ne.2 (fun e => h45 e.symm)
        rw [this]; rfl
      rw [this, gapR_stop r h10 h32]
    have ht : fText (c :: r) = c :: r := by
      unfold fText
      rw [hcl]
      unfold endLen
      rw [List.drop_one, List.tail_cons, run_digits hr]
      rw [List.take_of_length_le (by simp; omega)]
    have he : fErr (c :: r) = 0 := by
      unfold fErr
      rw [if_neg (by rw [hcl]; decide), if_pos hcl, ht, hb]
    have hk : fKind (c :: r) = 4 := by unfold fKind; rw [if_pos hcl]
    have hm : fNum (c :: r) = numOf v := by unfold fNum; rw [if_pos hcl, ht, hb]
    unfold lexed
    rw [if_neg (by omega)]
    unfold lexG
    rw [if_neg (by simp), if_neg (by rw [hg]; omega), if_neg (by simp [he]), if_neg (by simp), ht, hk, hm, List.drop_length]
    rw [List.length_cons]
    unfold lexG
    rw [if_pos rfl, List.nil_append]

theorem owns_one {w : World} {B : Nat} {v : Value} {k n ln col : Int} {s : ByteArray} (h : OwnsT w B v [⟨k, s.data.toList, n, ln, col⟩]) : ∃ g c, v = .slice (some ⟨g, 0, none⟩) 1 c ∧ g < w.heap.size ∧
    w.cell? ⟨g, 0, none⟩ = some (.int .i64 k) ∧ w.cell? ⟨g, 1, none⟩ = some (.string s) ∧ w.cell? ⟨g, 2, none⟩ = some (.int .i64 n) ∧ w.cell? ⟨g, 3, none⟩ = some (.int .i64 ln) ∧ w.cell? ⟨g, 4, none⟩ = some (.int .i64 col) ∧ w.cell? ⟨g, 5, none⟩ = some (.bool false) := by
  obtain ⟨g, c, rfl, _, hl, hk⟩ := owns_cells (l := [⟨k, s.data.toList, n, ln, col⟩]) Nat.one_pos h
  have h6 : ∀ j, j < 6 → w.cell? ⟨g, j, none⟩ = (toksCells [⟨k, s.data.toList, n, ln, col⟩])[j]? := hk
  exact ⟨g, c, rfl, hl, h6 0 (by decide), h6 1 (by decide), h6 2 (by decide), h6 3 (by decide), h6 4 (by decide), h6 5 (by decide)⟩
set_option maxHeartbeats 400000 in
theorem one_yes (s : ByteArray) (hs : s.size ≤ 9223372036854775807) (k n ln col : Int) (h : lexed s.data.toList = ⟨[⟨k, s.data.toList, n, ln, col⟩], 0, 0, 0⟩) (w : World) : Calls Tryz.prog 17 #[.string s] w fun e w' => e = .returned (.tuple #[tokV k s n ln col, .bool true]) ∧ Below w.heap.size w w' := by
  have H := Lib.hid h
  clear h
  go_enter Tryz.func17, Tryz.ntmps17
  go_wp2_with fail
  refine (tokens_is hs H.out _).mono ?_
  rintro e w1 ⟨v1, rfl, o1, hb1⟩
  have HB1 := Lib.hid hb1
  obtain ⟨g1, c1, rfl, hl1, K0, K1, K2, K3, K4, K5⟩ := owns_one o1
  have s1 := hb1.size
  have hz2 : g1 < w1.heap.size := hl1
  have HO1 := Lib.hid o1
  clear o1
  go_upto_region 4 with (fail)
  obtain ⟨p0, p1, p2, p3, p4, p5, f0, f1, f2, f3, f4, f5⟩ := keepTok HB1.out
  have hz : w.heap.size < w1.heap.size := by simp only [World.size_alloc] at s1; omega
  have HBB := Lib.hid (((Below.refl _ _).alloc (Nat.le_refl _) _).trans (HB1.out.mono (by simp)) : Below w.heap.size w w1)
  obtain ⟨X, hX⟩ : ∃ X, w1.alloc (.cells #[.int .i64 0, .int .i64 0, .int .i64 0] 45) = X := ⟨_, rfl⟩
  have c : ∀ b j, b < w1.heap.size → X.cell? ⟨b, j, none⟩ = w1.cell? ⟨b, j, none⟩ := fun b j hb => by rw [← hX, World.cell?_alloc_past _ _ _ hb]
  have f : ∀ b j, b < w1.heap.size → X.frozen? ⟨b, j, none⟩ = w1.frozen? ⟨b, j, none⟩ := fun b j hb => by rw [← hX, World.frozen?_alloc_past _ _ _ hb]
  have HBX := Lib.hid (show Below w.heap.size w X by rw [← hX]; exact HBB.out.alloc (by omega) _)
  have hzX : w.heap.size < X.heap.size := by rw [← hX]; simp; omega
  have hzG : g1 < X.heap.size := by rw [← hX]; simp; omega
  have C := Lib.hid c
  have F := Lib.hid f
  rw [hX]
  have K0' := (C.out g1 0 hl1).trans K0
  have K1' := (C.out g1 1 hl1).trans K1
  have K2' := (C.out g1 2 hl1).trans K2
  have K3' := (C.out g1 3 hl1).trans K3
  have K4' := (C.out g1 4 hl1).trans K4
  have K5' := (C.out g1 5 hl1).trans K5
  have p0' := (C.out _ 0 hz).trans p0
  have p1' := (C.out _ 1 hz).trans p1
  have p2' := (C.out _ 2 hz).trans p2
  have p3' := (C.out _ 3 hz).trans p3
  have p4' := (C.out _ 4 hz).trans p4
  have p5' := (C.out _ 5 hz).trans p5
  have f0' := (F.out _ 0 hz).trans f0
  have f1' := (F.out _ 1 hz).trans f1
  have f2' := (F.out _ 2 hz).trans f2
  have f3' := (F.out _ 3 hz).trans f3
  have f4' := (F.out _ 4 hz).trans f4
  have f5' := (F.out _ 5 hz).trans f5
  obtain ⟨q0, q1, q2, q3, q4, q5⟩ := setTok p0' p1' p2' p3' p4' p5'
  have Q0 := Lib.hid q0
  have Q1 := Lib.hid q1
  have Q2 := Lib.hid q2
  have Q3 := Lib.hid q3
  have Q4 := Lib.hid q4
  have Q5 := Lib.hid q5
  clear hX hb1 q0 q1 q2 q3 q4 q5 c f K0 K1 K2 K3 K4 K5 p0 p1 p2 p3 p4 p5 f0 f1 f2 f3 f4 f5 s1 hl1 hz hz2
  go_wp2
  refine bodyPost_ret (by simp [results, Tryz.results17, go_sem, Q0.out, Q1.out, Q2.out, Q3.out, Q4.out, Q5.out]; try rfl) rfl ?_
  have hB := HBX.out
  exact ⟨rfl, by go_grown⟩

theorem numOf_pos {n : Int} (h : 0 ≤ n) (h2 : n ≤ 9223372036854775807) : numOf (size n) = n := by unfold numOf size; rw [if_neg (by omega)]; omega
theorem numOf_low : numOf (size (-9223372036854775808)) = -9223372036854775808 := by unfold numOf; rw [if_pos (by decide)]
theorem numOf_neg {n : Int} (h : n < 0) (h1 : -9223372036854775808 ≤ n) (h2 : ¬ n = -9223372036854775808) : numOf (size n) = -n := by unfold numOf size; rw [if_neg (by omega)]; omega
theorem size_le (n : Int) (h1 : -9223372036854775808 ≤ n) (h2 : n ≤ 9223372036854775807) : size n ≤ 9223372036854775808 := by unfold size; omega
end Go.Proofs.YtdhfldpfbejcjaaGreat.Lx

namespace Go.Proofs.YtdhfldpfbejcjaaGreat.LexNumbers
open Go.RowKit Pl Ar Dg Pa Tx Rp Lx
set_option linter.unusedVariables false
end Go.Proofs.YtdhfldpfbejcjaaGreat.LexNumbers
/-
  The walk of 'changelinglaw02.LexPlaces'.
-/
namespace Go.Proofs.YtdhfldpfbejcjaaGreat.Lx
open Go.RowKit Pl Ar Dg Pa
set_option linter.unusedVariables false

theorem plF_ge (l : List UInt8) (p : Int × Int) (h : 1 ≤ p.1 ∧ 1 ≤ p.2) : 1 ≤ (plF p l).1 ∧ 1 ≤ (plF p l).2 := by
  induction l generalizing p with
  | nil => exact h
  | cons c r ih =>
    refine ih (plStep p c) ?_
    unfold plStep
    split <;> simp <;> omega
theorem lexG_none (f : Nat) (l : List UInt8) (ln col : Int) (acc : List Tok) : (lexG f l ln col acc).err ≠ 0 → (lexG f l ln col acc).toks = [] := by
  induction f generalizing l ln col acc with
  | zero => intro h; exact absurd rfl h
  | succ f ih =>
    unfold lexG
    split
    · intro h; exact absurd rfl h
    split
    · exact ih _ _ _ _
    split
    · intro _; rfl
    split
    · intro _; rfl
    · exact ih _ _ _ _
theorem lexed_none (l : List UInt8) : (lexed l).err ≠ 0 → (lexed l).toks = [] := by
  unfold lexed
  split
  · intro _; rfl
  · exact lexG_none _ _ _ _ _
theorem lexG_len (f : Nat) (l : List UInt8) (ln col : Int) (acc : List Tok) (h : acc.length ≤ 2048) : (lexG f l ln col acc).toks.length ≤ 2048 := by
  induction f generalizing l ln col acc with
  | zero => exact h
  | succ f ih =>
    unfold lexG
    split
    · exact h
    split
    · exact ih _ _ _ _ h
    split
    · exact Nat.zero_le _
    split
    · exact Nat.zero_le _
    · rename_i hne
      exact ih _ _ _ _ (by simp only [List.length_append, List.length_singleton]; omega)
theorem lexed_len (l : List UInt8) : (lexed l).toks.length ≤ 2048 := by
  unfold lexed
  split
  · exact Nat.zero_le _
  · exact lexG_len _ _ _ _ _ (Nat.zero_le _)
theorem tok_at {src : List UInt8} {t : Tok} (h : Stands src t) : ∃ n : Nat, offF (t.line, t.col) (1, 1) src = n ∧ n < src.length ∧ n + t.text.length ≤ src.length ∧ (src.drop n).take t.text.length = t.text ∧ 0 < t.text.length ∧ 1 ≤ t.line ∧ 1 ≤ t.col := by
  obtain ⟨a, b, rfl, hn, hp⟩ := h
  have hl := List.length_pos_iff.2 hn
  have hg := plF_ge a (1, 1) ⟨by decide, by decide⟩
  rw [hp] at hg
  refine ⟨a.length, ?_, ?_, ?_, ?_, hl, hg.1, hg.2⟩
  · rw [← hp]
    exact offF_is a _ (by simp [hn]) _
  · simp only [List.length_append]; omega
  · simp only [List.length_append]; omega
  · rw [List.drop_left, List.take_left]
theorem tok_after {l : List Tok} (h : l.Pairwise (fun a b => plLt (a.line, a.col) (b.line, b.col))) {k : Nat} (h0 : k + 1 < l.length) : plLt (l[k].line, l[k].col) (l[k + 1].line, l[k + 1].col) := by
  rw [List.pairwise_iff_getElem] at h
  exact h k (k + 1) (by omega) h0 (by omega)
instance (p q : Int × Int) : Decidable (plLt p q) := by unfold plLt; infer_instance
theorem toks_cell (l : List Tok) (k j : Nat) (hk : k < l.length) (hj : j < 6) : (toksCells l)[k * 6 + j]? = (tokCells l[k])[j]? := by
  induction l generalizing k with
  | nil => cases hk
  | cons t r ih =>
    have e : toksCells (t :: r) = tokCells t ++ toksCells r := rfl
    have e6 : (tokCells t).length = 6 := rfl
    rw [e]
    cases k with
    | zero =>
      rw [List.getElem?_append_left (by rw [e6]; omega), Nat.zero_mul, Nat.zero_add]
      rfl
    | succ k =>
      rw [List.getElem?_append_right (by rw [e6]; omega), e6, show (k + 1) * 6 + j - 6 = k * 6 + j by omega, ih k (by simpa using hk)]
      rfl
theorem owns_at {w : World} {B N : Nat} {b : Option Addr} {c : Nat} {l : List Tok} (hN : l.length = N) {k : Nat} (hk : k < l.length) (h : OwnsT w B (.slice b N c) l) : ∃ g, b = some ⟨g, 0, none⟩ ∧ g < w.heap.size ∧
    ∀ (k : Nat) (hk : k < l.length), w.cell? ⟨g, k * 6, none⟩ = some (.int .i64 l[k].kind) ∧ w.cell? ⟨g, k * 6 + 1, none⟩ = some (.string ⟨l[k].text.toArray⟩) ∧ w.cell? ⟨g, k * 6 + 2, none⟩ = some (.int .i64 l[k].num) ∧ w.cell? ⟨g, k * 6 + 3, none⟩ = some (.int .i64 l[k].line) ∧ w.cell? ⟨g, k * 6 + 4, none⟩ = some (.int .i64 l[k].col) ∧ w.cell? ⟨g, k * 6 + 5, none⟩ = some (.bool false) := by
  obtain ⟨g, c', hv, _, hl, hc⟩ := owns_cells (by omega) h
  simp only [Value.slice.injEq] at hv
  refine ⟨g, hv.1, hl, fun k hk => ?_⟩
  have q : ∀ j, j < 6 → w.cell? ⟨g, k * 6 + j, none⟩ = (tokCells l[k])[j]? := fun j hj => by rw [hc (k * 6 + j) (by omega), toks_cell l k j hk hj]
  exact ⟨q 0 (by decide), q 1 (by decide), q 2 (by decide), q 3 (by decide), q 4 (by decide), q 5 (by decide)⟩
end Go.Proofs.YtdhfldpfbejcjaaGreat.Lx

namespace Go.Proofs.YtdhfldpfbejcjaaGreat.LexPlaces
open Go.RowKit Lx
end Go.Proofs.YtdhfldpfbejcjaaGreat.LexPlaces
/-
  PLAIN MATHEMATICS for layer lex: a source as blanks and tokens in turn; what blanks more, and tokens' texts with blanks between, come to. No walk.
-/
namespace Go.Proofs.YtdhfldpfbejcjaaGreat.Lx
open Go.RowKit Pl Ar Dg Pa
set_option linter.unusedVariables false

/-- blanks: blanks, lines' ends, remarks that a line's end ends -/
inductive Blanks : List UInt8 → Prop where
  | nil : Blanks []
  | blank {r : List UInt8} : Blanks r → Blanks (32 :: r)
  | line {r : List UInt8} : Blanks r → Blanks (10 :: r)
  | rem {x r : List UInt8} : (∀ c, c ∈ x → ¬ c = 10) → Blanks r → Blanks (45 :: 45 :: (x ++ 10 :: r))
theorem Blanks.app {a b : List UInt8} (h : Blanks a) (g : Blanks b) : Blanks (a ++ b) := by
  induction h with
  | nil => exact g
  | blank _ ih => exact .blank ih
  | line _ ih => exact .line ih
  | rem hx _ ih =>
    rw [List.cons_append, List.cons_append, List.append_assoc, List.cons_append]
    exact .rem hx ih
/-- a token without its place -/
structure Tk where
  kind : Int
  text : List UInt8
  num : Int
def strip (t : Tok) : Tk := ⟨t.kind, t.text, t.num⟩
/-- nothing but blanks is left: a remark may stand at the end -/
def Rest (l : List UInt8) : Prop := Blanks l ∨ ∃ p x, l = p ++ 45 :: 45 :: x ∧ Blanks p ∧ ∀ c, c ∈ x → ¬ c = 10
/-- what a source without an error comes to -/
inductive Lexes : List UInt8 → List Tk → Prop where
  | done {l : List UInt8} : Rest l → Lexes l []
  | tok {p b : List UInt8} {ts : List Tk} : Blanks p → b ≠ [] → gapLen b = 0 → fErr b = 0 → Lexes (b.drop (fText b).length) ts → Lexes (p ++ b) (⟨fKind b, fText b, fNum b⟩ :: ts)
theorem Lexes.pre {p l : List UInt8} {ts : List Tk} (h : Lexes l ts) (hp : Blanks p) : Lexes (p ++ l) ts := by
  cases h with
  | done hr =>
    refine .done ?_
    rcases hr with hr | ⟨q, x, rfl, hq, hx⟩
    · exact .inl (hp.app hr)
    · exact .inr ⟨p ++ q, x, by rw [List.append_assoc], hp.app hq, hx⟩
  | tok h1 h2 h3 h4 h5 =>
    rw [← List.append_assoc]
    exact .tok (hp.app h1) h2 h3 h4 h5
/-! ### a gap is blanks -/
theorem gapR_false_blanks (l : List UInt8) : Blanks (l.take (gapR false l)) := by
  induction l with
  | nil => simp [gapR]; exact .nil
  | cons c r ih =>
    unfold gapR
    split
    · rename_i h; rw [h]; exact .line .nil
    · split
      · exact .nil
      · rename_i h1 h2
        have : c = 32 := Classical.byContradiction fun h => h2 ⟨rfl, h⟩
        rw [this, List.take_succ_cons]
        exact .blank ih
theorem gapR_true_split (l : List UInt8) : (∃ x, l.take (gapR true l) = x ++ [10] ∧ ∀ c, c ∈ x → ¬ c = 10) ∨ (gapR true l = l.length ∧ ∀ c, c ∈ l → ¬ c = 10) := by
  induction l with
  | nil => exact .inr ⟨rfl, fun c h => by cases h⟩
  | cons c r ih =>
    by_cases h : c = 10
    · refine .inl ⟨[], ?_, fun c h => by cases h⟩
      rw [h, gapR_line]; rfl
    · rw [gapR_rem r h, List.take_succ_cons]
      rcases ih with ⟨x, h1, h2⟩ | ⟨h1, h2⟩
      · exact .inl ⟨c :: x, by rw [h1]; rfl, fun d hd => by
          rcases List.mem_cons.1 hd with rfl | hd
          · exact h
          · exact h2 d hd⟩
      · exact .inr ⟨by rw [h1]; rfl, fun d hd => by
          rcases List.mem_cons.1 hd with rfl | hd
          · exact h
          · exact h2 d hd⟩
theorem gap_blanks (l : List UInt8) : Blanks (l.take (gapLen l)) ∨ (gapLen l = l.length ∧ Rest l) := by
  by_cases hr : isRem l = true
  · obtain ⟨r, rfl⟩ := (isRem_iff l).1 hr
    unfold gapLen
    rw [hr, gapR_rem _ (by decide), gapR_rem _ (by decide), List.take_succ_cons, List.take_succ_cons]
    rcases gapR_true_split r with ⟨x, h1, h2⟩ | ⟨h1, h2⟩
    · exact .inl (by rw [h1]; exact .rem h2 .nil)
    · exact .inr ⟨by rw [h1]; rfl, .inr ⟨[], r, rfl, .nil, h2⟩⟩
  · unfold gapLen
    rw [show isRem l = false by simpa using hr]
    exact .inl (gapR_false_blanks l)
theorem gapR_stop0 {l : List UInt8} (h : gapLen l = 0) : isRem l = false := by
  rw [Bool.eq_false_iff]
  intro hr
  obtain ⟨r, rfl⟩ := (isRem_iff l).1 hr
  unfold gapLen at h
  rw [hr, gapR_rem _ (by decide)] at h
  omega
/-! ### without places -/
def lexS : Nat → List UInt8 → List Tk → Int × List Tk
  | 0, _, acc => (0, acc)
  | f + 1, l, acc =>
    if l = [] then (0, acc)
    else if 0 < gapLen l then lexS f (l.drop (gapLen l)) acc
    else if fErr l ≠ 0 then (fErr l, [])
    else if acc.length = 2048 then (2, [])
    else lexS f (l.drop (fText l).length) (acc ++ [⟨fKind l, fText l, fNum l⟩])
theorem lexG_lexS (f : Nat) : ∀ (l : List UInt8) (ln col : Int) (acc : List Tok), ((lexG f l ln col acc).err, (lexG f l ln col acc).toks.map strip) = lexS f l (acc.map strip) := by
  induction f with
  | zero => intro l ln col acc; rfl
  | succ f ih =>
    intro l ln col acc
    unfold lexG lexS
    split
    · rfl
    split
    · exact ih _ _ _ _
    split
    · rfl
    rw [List.length_map]
    split
    · rfl
    · rw [ih]; simp [strip]
theorem lexS_nil (f : Nat) (acc : List Tk) : lexS f [] acc = (0, acc) := by
  cases f with
  | zero => rfl
  | succ f => unfold lexS; rw [if_pos rfl]
theorem lexS_fuel (f : Nat) : ∀ (g : Nat) (l : List UInt8) (acc : List Tk), l.length < f → l.length < g → lexS f l acc = lexS g l acc := by
  induction f with
  | zero => intro g l acc h; omega
  | succ f ih =>
    intro g l acc h1 h2
    obtain ⟨g, rfl⟩ : ∃ q, g = q + 1 := ⟨g - 1, by omega⟩
    by_cases hl : l = []
    · rw [hl, lexS_nil, lexS_nil]
    have hl0 : 0 < l.length := List.length_pos_iff.2 hl
    have hp := fText_len hl0
    unfold lexS
    rw [if_neg hl, if_neg hl]
    split
    · exact ih _ _ _ (by rw [List.length_drop]; omega) (by rw [List.length_drop]; omega)
    split
    · rfl
    split
    · rfl
    · exact ih _ _ _ (by rw [List.length_drop]; omega) (by rw [List.length_drop]; omega)
/-- a gap, however long, turns nothing -/
theorem lexS_gap {f : Nat} {l : List UInt8} {acc : List Tk} (h : l.length < f) : lexS f l acc = lexS f (l.drop (gapLen l)) acc := by
  by_cases hg : 0 < gapLen l
  · by_cases hl : l = []
    · rw [hl]; simp
    obtain ⟨f, rfl⟩ : ∃ q, f = q + 1 := ⟨f - 1, by omega⟩
    have e : lexS (f + 1) l acc = lexS f (l.drop (gapLen l)) acc := by
      conv => lhs; unfold lexS
      rw [if_neg hl, if_pos hg]
    rw [e]
    exact lexS_fuel _ _ _ _ (by rw [List.length_drop]; have := List.length_pos_iff.2 hl; omega) (by rw [List.length_drop]; omega)
  · rw [show gapLen l = 0 by omega, List.drop_zero]
theorem lexS_blank {f : Nat} {l : List UInt8} {acc : List Tk} (h : (32 :: l).length < f) : lexS f (32 :: l) acc = lexS f l acc := by
  have e : gapLen (32 :: l) = gapR false l + 1 := by
    unfold gapLen
    have : isRem (32 :: l) = false := by
      rw [Bool.eq_false_iff]
      intro hr
      obtain ⟨r, h⟩ := (isRem_iff _).1 hr
      simp at h
    rw [this, gapR_blank]
  rw [lexS_gap h, e, List.drop_succ_cons]
  by_cases hrem : isRem l = true
  · have : gapR false l = 0 := by
      obtain ⟨x, rfl⟩ := (isRem_iff l).1 hrem
      exact gapR_stop _ (by decide) (by decide)
    rw [this, List.drop_zero]
  · have : gapLen l = gapR false l := by unfold gapLen; rw [show isRem l = false by simpa using hrem]
    rw [← this]
    exact (lexS_gap (by simp at h; omega)).symm
theorem lexS_line {f : Nat} {l : List UInt8} {acc : List Tk} (h : (10 :: l).length < f) : lexS f (10 :: l) acc = lexS f l acc := by
  have e : gapLen (10 :: l) = 1 := by unfold gapLen; exact gapR_line _ _
  rw [lexS_gap h, e]
  rfl
theorem gapR_run {x : List UInt8} (z : List UInt8) (h : ∀ c, c ∈ x → ¬ c = 10) : gapR true (x ++ 10 :: z) = x.length + 1 := by
  induction x with
  | nil => rw [List.nil_append, gapR_line]; rfl
  | cons c y ihy =>
    rw [List.cons_append, gapR_rem _ (h c (by simp)), ihy (fun d hd => h d (by simp [hd]))]
    simp
theorem gapR_all {x : List UInt8} (h : ∀ c, c ∈ x → ¬ c = 10) : gapR true x = x.length := by
  induction x with
  | nil => rfl
  | cons c y ihy =>
    rw [gapR_rem _ (h c (by simp)), ihy (fun d hd => h d (by simp [hd]))]
    rfl
theorem lexS_rem {f : Nat} {x l : List UInt8} {acc : List Tk} (hx : ∀ c, c ∈ x → ¬ c = 10) (h : (45 :: 45 :: (x ++ 10 :: l)).length < f) : lexS f (45 :: 45 :: (x ++ 10 :: l)) acc = lexS f l acc := by
  have e : gapLen (45 :: 45 :: (x ++ 10 :: l)) = x.length + 1 + 1 + 1 := by
    unfold gapLen
    rw [(isRem_iff _).2 ⟨_, rfl⟩, gapR_rem _ (by decide), gapR_rem _ (by decide), gapR_run _ hx]
  rw [lexS_gap h, e, List.drop_succ_cons, List.drop_succ_cons]
  have : (x ++ 10 :: l).drop (x.length + 1) = l := by
    rw [List.drop_append, List.drop_of_length_le (by omega), List.nil_append, Nat.add_sub_cancel_left]
    rfl
  rw [this]
theorem lexS_skip {p : List UInt8} (hp : Blanks p) (f : Nat) (l : List UInt8) (acc : List Tk) (h : (p ++ l).length < f) : lexS f (p ++ l) acc = lexS f l acc := by
  induction hp with
  | nil => rfl
  | blank _ ih =>
    rw [List.cons_append] at h ⊢
    rw [lexS_blank h]
    exact ih (by simp at h ⊢; omega)
  | line _ ih =>
    rw [List.cons_append] at h ⊢
    rw [lexS_line h]
    exact ih (by simp at h ⊢; omega)
  | rem hx _ ih =>
    rw [List.cons_append, List.cons_append, List.append_assoc, List.cons_append] at h ⊢
    rw [lexS_rem hx h]
    exact ih (by simp at h ⊢; omega)
theorem lexS_rest {l : List UInt8} (hr : Rest l) (f : Nat) (acc : List Tk) (h : l.length < f) : lexS f l acc = (0, acc) := by
  rcases hr with hr | ⟨p, x, rfl, hp, hx⟩
  · have := lexS_skip hr f [] acc (by simpa using h)
    rw [List.append_nil] at this
    rw [this, lexS_nil]
  · rw [lexS_skip hp _ _ _ h, lexS_gap (by simp at h ⊢; omega)]
    have e : gapLen (45 :: 45 :: x) = x.length + 1 + 1 := by
      unfold gapLen
      rw [(isRem_iff _).2 ⟨_, rfl⟩, gapR_rem _ (by decide), gapR_rem _ (by decide), gapR_all hx]
    rw [e, List.drop_of_length_le (by simp), lexS_nil]
theorem lexes_lexS {l : List UInt8} {ts : List Tk} (h : Lexes l ts) : ∀ (f : Nat) (acc : List Tk), l.length < f → acc.length + ts.length ≤ 2048 → lexS f l acc = (0, acc ++ ts) := by
  induction h with
  | done hr => intro f acc hf _; rw [lexS_rest hr f acc hf, List.append_nil]
  | @tok p b ts hp hb hg he _ ih =>
    intro f acc hf hc
    simp only [List.length_cons] at hc
    rw [lexS_skip hp _ _ _ hf]
    have hb0 : 0 < b.length := List.length_pos_iff.2 hb
    have hl := fText_len hb0
    rw [List.length_append] at hf
    obtain ⟨f, rfl⟩ : ∃ q, f = q + 1 := ⟨f - 1, by omega⟩
    have e : lexS (f + 1) b acc = lexS f (b.drop (fText b).length) (acc ++ [⟨fKind b, fText b, fNum b⟩]) := by
      conv => lhs; unfold lexS
      rw [if_neg hb, if_neg (by omega), if_neg (by simp [he]), if_neg (by omega)]
    rw [e, ih f _ (by rw [List.length_drop]; omega) (by simp; omega)]
    simp
theorem lexS_lexes (f : Nat) : ∀ (l : List UInt8) (acc : List Tk), l.length < f → acc.length ≤ 2048 → (lexS f l acc).1 = 0 → ∃ ts, Lexes l ts ∧ (lexS f l acc).2 = acc ++ ts ∧ acc.length + ts.length ≤ 2048 := by
  induction f with
  | zero => intro l acc h; omega
  | succ f ih =>
    intro l acc hlen hacc h
    by_cases hl : l = []
    · rw [hl, lexS_nil]; exact ⟨[], .done (.inl .nil), by simp, by simpa using hacc⟩
    have hl0 : 0 < l.length := List.length_pos_iff.2 hl
    by_cases hg : 0 < gapLen l
    · have e : lexS (f + 1) l acc = lexS f (l.drop (gapLen l)) acc := by
        conv => lhs; unfold lexS
        rw [if_neg hl, if_pos hg]
      rw [e] at h ⊢
      obtain ⟨ts, h1, h2, h3⟩ := ih _ _ (by rw [List.length_drop]; omega) hacc h
      rcases gap_blanks l with hb | ⟨hb, hr⟩
      · exact ⟨ts, by rw [← List.take_append_drop (gapLen l) l]; exact h1.pre hb, h2, h3⟩
      · have e0 : l.drop (gapLen l) = [] := List.drop_of_length_le (by omega)
        rw [e0, lexS_nil]
        exact ⟨[], .done hr, by simp, by simpa using hacc⟩
    by_cases he : fErr l ≠ 0
    · have e : lexS (f + 1) l acc = (fErr l, []) := by
        conv => lhs; unfold lexS
        rw [if_neg hl, if_neg hg, if_pos he]
      rw [e] at h
      exact absurd h he
    by_cases ha : acc.length = 2048
    · have e : lexS (f + 1) l acc = (2, []) := by
        conv => lhs; unfold lexS
        rw [if_neg hl, if_neg hg, if_neg he, if_pos ha]
      rw [e] at h
      exact absurd h (by decide)
    · have e : lexS (f + 1) l acc = lexS f (l.drop (fText l).length) (acc ++ [⟨fKind l, fText l, fNum l⟩]) := by
        conv => lhs; unfold lexS
        rw [if_neg hl, if_neg hg, if_neg he, if_neg ha]
      rw [e] at h ⊢
      have hp := fText_len hl0
      obtain ⟨ts, h1, h2, h3⟩ := ih _ _ (by rw [List.length_drop]; omega) (by simp; omega) h
      refine ⟨_, .tok (p := []) (b := l) .nil hl (by omega) (by simpa using he) h1, ?_, ?_⟩
      · rw [h2]; simp
      · simp at h3 ⊢; omega
/-! ### a token's text, whatever stands behind it that does not go on with it -/
theorem runR_app {c : Int} {y : List UInt8} (m : List UInt8) (h : ∀ x, x ∈ y → goes c (cls x.toNat) = true) : runR c (y ++ m) = y.length + runR c m := by
  induction y with
  | nil => simp
  | cons x y ih =>
    rw [List.cons_append, run_yes (h x (by simp)), ih (fun z hz => h z (by simp [hz]))]
    simp; omega
theorem runR_drop (c : Int) (l : List UInt8) : runR c (l.drop (runR c l)) = 0 := by
  induction l with
  | nil => simp [runR]
  | cons x r ih =>
    by_cases h : goes c (cls x.toNat) = true
    · rw [run_yes h, List.drop_succ_cons]; exact ih
    · have h' : goes c (cls x.toNat) = false := by simpa using h
      rw [run_no h', List.drop_zero, run_no h']
theorem runR_head {c : Int} {l m : List UInt8} (h : runR c l = 0) (hh : l.head? = m.head?) : runR c m = 0 := by
  cases m with
  | nil => rfl
  | cons x y =>
    cases l with
    | nil => cases hh
    | cons a b =>
      simp at hh
      subst hh
      by_cases hg : goes c (cls a.toNat) = true
      · rw [run_yes hg] at h; omega
      · exact run_no (by simpa using hg)
theorem runR_cls1 {c : Int} {x : UInt8} (m : List UInt8) (h : cls x.toNat = 1) : runR c (x :: m) = 0 := by
  refine run_no ?_
  rw [h]
  unfold goes
  by_cases h4 : c = 4 <;> by_cases h7 : c = 7 <;> simp_all
theorem text_swap {l m : List UInt8} (hl : l ≠ []) (hg : gapLen l = 0) (hm : runR (hcls l) m = 0) :
    fText l ++ m ≠ [] ∧ gapLen (fText l ++ m) = 0 ∧ fText (fText l ++ m) = fText l ∧ fErr (fText l ++ m) = fErr l ∧ fKind (fText l ++ m) = fKind l ∧ fNum (fText l ++ m) = fNum l ∧ (fText l ++ m).drop (fText l).length = m := by
  have hrem := gapR_stop0 hg
  cases l with
  | nil => exact absurd rfl hl
  | cons c r =>
    have hT : fText (c :: r) = c :: r.take (runR (hcls (c :: r)) r) := by
      unfold fText endLen
      rw [show 1 + runR (hcls (c :: r)) ((c :: r).drop 1) = runR (hcls (c :: r)) r + 1 by rw [List.drop_succ_cons, List.drop_zero]; omega, List.take_succ_cons]
    have hc : hcls (fText (c :: r) ++ m) = hcls (c :: r) := by rw [hT]; rfl
    have hE : fText (fText (c :: r) ++ m) = fText (c :: r) := by
      have hrun := run_take (hcls (c :: r)) r
      show (fText (c :: r) ++ m).take (1 + runR (hcls (fText (c :: r) ++ m)) ((fText (c :: r) ++ m).drop 1)) = fText (c :: r)
      rw [hc, hT, List.cons_append, List.drop_succ_cons, List.drop_zero, runR_app m hrun, hm, Nat.add_zero, Nat.add_comm, List.take_succ_cons, List.take_left]
    have hnb : ¬ c = 10 ∧ ¬ c = 32 := by
      unfold gapLen at hg
      rw [hrem] at hg
      constructor
      · rintro rfl; rw [gapR_line] at hg; omega
      · rintro rfl; rw [gapR_blank] at hg; omega
    have hr2 : isRem (fText (c :: r) ++ m) = false := by
      rw [Bool.eq_false_iff]
      intro hr
      obtain ⟨z, hz⟩ := (isRem_iff _).1 hr
      rw [hT, List.cons_append] at hz
      injection hz with hc1 hz
      subst hc1
      have h7 : hcls (45 :: r) = 7 := show cls (45 : UInt8).toNat = 7 by decide
      rw [h7] at hz hm
      cases r with
      | nil =>
        simp at hz
        rw [hz, run_yes (by decide)] at hm
        omega
      | cons d q =>
        by_cases hgo : goes 7 (cls d.toNat) = true
        · rw [run_yes hgo, List.take_succ_cons, List.cons_append] at hz
          injection hz with hd _
          subst hd
          have := (isRem_iff (45 :: 45 :: q)).2 ⟨q, rfl⟩
          rw [this] at hrem
          cases hrem
        · rw [run_no (by simpa using hgo), List.take_zero, List.nil_append] at hz
          rw [hz, run_yes (by decide)] at hm
          omega
    refine ⟨by rw [hT]; simp, ?_, hE, ?_, ?_, ?_, List.drop_left⟩
    · unfold gapLen
      rw [hr2, hT, List.cons_append]
      exact gapR_stop _ hnb.1 hnb.2
    · unfold fErr; rw [hc, hE]
    · unfold fKind; rw [hc, hE]
    · unfold fNum; rw [hc, hE]
/-- tokens' texts, each with a blank behind it -/
def joinT : List Tk → List UInt8
  | [] => []
  | t :: ts => t.text ++ 32 :: joinT ts
theorem lexes_join {l : List UInt8} {ts : List Tk} (h : Lexes l ts) : Lexes (joinT ts) ts := by
  induction h with
  | done _ => exact .done (.inl .nil)
  | @tok p b ts hp hb hg he _ ih =>
    obtain ⟨h1, h2, h3, h4, h5, h6, h7⟩ := text_swap (m := 32 :: joinT ts) hb hg (runR_cls1 _ (by decide))
    have := Lexes.tok (p := []) (b := fText b ++ 32 :: joinT ts) (ts := ts) .nil h1 h2 (by rw [h4, he]) (by rw [h3, h7]; exact ih.pre (.blank .nil))
    rw [h3, h5, h6, List.nil_append] at this
    exact this
theorem lexG_ext (f : Nat) : ∀ (l : List UInt8) (ln col : Int) (acc : List Tok), (lexG f l ln col acc).err = 0 → ∃ ts, (lexG f l ln col acc).toks = acc ++ ts := by
  induction f with
  | zero => intro l ln col acc _; exact ⟨[], by simp [lexG]⟩
  | succ f ih =>
    intro l ln col acc h
    by_cases hl : l = []
    · rw [hl, lexG_nil]; exact ⟨[], by simp⟩
    by_cases hg : 0 < gapLen l
    · have e : lexG (f + 1) l ln col acc = lexG f (l.drop (gapLen l)) (behindL (l.take (gapLen l)) ln) (behindC (l.take (gapLen l)) col) acc := by
        conv => lhs; unfold lexG
        rw [if_neg hl, if_pos hg]
      rw [e] at h ⊢
      exact ih _ _ _ _ h
    by_cases he : fErr l ≠ 0
    · have e : lexG (f + 1) l ln col acc = ⟨[], fErr l, ln, col⟩ := by
        conv => lhs; unfold lexG
        rw [if_neg hl, if_neg hg, if_pos he]
      rw [e] at h
      exact absurd h he
    by_cases ha : acc.length = 2048
    · have e : lexG (f + 1) l ln col acc = ⟨[], 2, ln, col⟩ := by
        conv => lhs; unfold lexG
        rw [if_neg hl, if_neg hg, if_neg he, if_pos ha]
      rw [e] at h
      exact absurd (show (2 : Int) = 0 from h) (by decide)
    · have e : lexG (f + 1) l ln col acc = lexG f (l.drop (fText l).length) ln (col + (fText l).length) (acc ++ [⟨fKind l, fText l, fNum l, ln, col⟩]) := by
        conv => lhs; unfold lexG
        rw [if_neg hl, if_neg hg, if_neg he, if_neg ha]
      rw [e] at h ⊢
      obtain ⟨ts, h1⟩ := ih _ _ _ _ h
      exact ⟨_, by rw [h1, List.append_assoc]⟩
/-- blanks more ahead of a token turn nothing -/
theorem lexG_ins {s : List UInt8} (hs : Blanks s) (hs1 : s ≠ []) (hs2 : ∀ x, s.head? = some x → cls x.toNat = 1) (f : Nat) : ∀ (l : List UInt8) (ln col : Int) (acc : List Tok) (w : Nat) (t : Tok), l.length < f → acc.length ≤ 2048 → acc.length ≤ w → (lexG f l ln col acc).err = 0 → (lexG f l ln col acc).toks[w]? = some t →
    ∃ k, k < l.length ∧ plF (ln, col) (l.take k) = (t.line, t.col) ∧ ∃ ts, Lexes (l.take k ++ s ++ l.drop k) ts ∧ (lexG f l ln col acc).toks.map strip = acc.map strip ++ ts := by
  induction f with
  | zero => intro l ln col acc w t h; omega
  | succ f ih =>
    intro l ln col acc w t hlen hacc hw h ht
    by_cases hl : l = []
    · rw [hl, lexG_nil] at ht
      rw [List.getElem?_eq_none (by simpa using hw)] at ht
      cases ht
    have hl0 : 0 < l.length := List.length_pos_iff.2 hl
    by_cases hg : 0 < gapLen l
    · have e : lexG (f + 1) l ln col acc = lexG f (l.drop (gapLen l)) (behindL (l.take (gapLen l)) ln) (behindC (l.take (gapLen l)) col) acc := by
        conv => lhs; unfold lexG
        rw [if_neg hl, if_pos hg]
      rw [e] at h ht ⊢
      have hle := gapLen_le l
      obtain ⟨k, h1, h2, ts, h3, h4⟩ := ih _ _ _ _ w t (by rw [List.length_drop]; omega) hacc hw h ht
      rw [List.length_drop] at h1
      refine ⟨gapLen l + k, by omega, ?_, ts, ?_, h4⟩
      · rw [List.take_add, plF_append]
        have hp := gap_pl (isRem l) l ln col
        rw [show plF (ln, col) (l.take (gapLen l)) = _ from hp]
        exact h2
      · rcases gap_blanks l with hb | ⟨hb, _⟩
        · rw [List.take_add, ← List.drop_drop, List.append_assoc, List.append_assoc]
          rw [List.append_assoc] at h3
          exact h3.pre hb
        · omega
    by_cases he : fErr l ≠ 0
    · have e : lexG (f + 1) l ln col acc = ⟨[], fErr l, ln, col⟩ := by
        conv => lhs; unfold lexG
        rw [if_neg hl, if_neg hg, if_pos he]
      rw [e] at h
      exact absurd h he
    by_cases ha : acc.length = 2048
    · have e : lexG (f + 1) l ln col acc = ⟨[], 2, ln, col⟩ := by
        conv => lhs; unfold lexG
        rw [if_neg hl, if_neg hg, if_neg he, if_pos ha]
      rw [e] at h
      exact absurd (show (2 : Int) = 0 from h) (by decide)
    have e : lexG (f + 1) l ln col acc = lexG f (l.drop (fText l).length) ln (col + (fText l).length) (acc ++ [⟨fKind l, fText l, fNum l, ln, col⟩]) := by
      conv => lhs; unfold lexG
      rw [if_neg hl, if_neg hg, if_neg he, if_neg ha]
    have hp := fText_len hl0
    have hc := hcls_line (by omega) hl
    by_cases hw0 : w = acc.length
    · -- it is this token
      have hS := lexG_lexS (f + 1) l ln col acc
      have hx : (lexS (f + 1) l (acc.map strip)).1 = 0 := by rw [← hS]; exact h
      obtain ⟨ts, h1, h2, _⟩ := lexS_lexes _ _ _ hlen (by rw [List.length_map]; exact hacc) hx
      have ht' : (⟨fKind l, fText l, fNum l, ln, col⟩ : Tok) = t := by
        have h' := h
        rw [e] at h' ht
        obtain ⟨r, hr⟩ := lexG_ext _ _ _ _ _ h'
        rw [hr, hw0, List.append_assoc, List.getElem?_append_right (by omega), Nat.sub_self] at ht
        simpa using ht
      refine ⟨0, hl0, ?_, ts, ?_, ?_⟩
      · rw [← ht']; rfl
      · rw [List.take_zero, List.nil_append, List.drop_zero]
        exact h1.pre hs
      · rw [← h2, ← hS]
    · rw [e] at h ht ⊢
      obtain ⟨k, h1, h2, ts, h3, h4⟩ := ih _ _ _ _ w t (by rw [List.length_drop]; omega) (by simp; omega) (by simp; omega) h ht
      rw [List.length_drop] at h1
      have hend : runR (hcls l) (l.drop (fText l).length) = 0 := by
        have hT : (fText l).length = 1 + runR (hcls l) (l.drop 1) := by
          have := endLen_le (hcls l) hl0
          unfold fText
          rw [List.length_take]
          unfold endLen at this ⊢
          omega
        rw [hT, ← List.drop_drop]
        exact runR_drop _ _
      have hm : runR (hcls l) ((l.drop (fText l).length).take k ++ s ++ (l.drop (fText l).length).drop k) = 0 := by
        cases k with
        | zero =>
          cases s with
          | nil => exact absurd rfl hs1
          | cons x y =>
            rw [List.take_zero, List.nil_append, List.cons_append]
            exact runR_cls1 _ (hs2 x rfl)
        | succ k =>
          refine runR_head hend ?_
          have hd : 0 < (l.drop (fText l).length).length := by rw [List.length_drop]; omega
          cases hq : l.drop (fText l).length with
          | nil => rw [hq] at hd; cases hd
          | cons a b => rfl
      obtain ⟨g1, g2, g3, g4, g5, g6, g7⟩ := text_swap (l := l) (by exact hl) (by omega) hm
      refine ⟨(fText l).length + k, by omega, ?_, ⟨fKind l, fText l, fNum l⟩ :: ts, ?_, ?_⟩
      · rw [List.take_add, plF_append, ← text_take l, text_pl hc]
        exact h2
      · have := Lexes.tok (p := []) .nil g1 g2 (by rw [g4]; simpa using he) (by rw [g3, g7]; exact h3)
        rw [g3, g5, g6, List.nil_append] at this
        rw [List.take_add, ← text_take l, ← List.drop_drop, List.append_assoc, List.append_assoc]
        rw [List.append_assoc] at this
        exact this
      · rw [h4]; simp [strip]
theorem lexed_ins {src s : List UInt8} (hs : Blanks s) (hs1 : s ≠ []) (hs2 : ∀ x, s.head? = some x → cls x.toNat = 1) (h : (lexed src).err = 0) {w : Nat} {t : Tok} (ht : (lexed src).toks[w]? = some t) (hl : src.length + s.length ≤ 8192) :
    ∃ k, k < src.length ∧ offF (t.line, t.col) (1, 1) src = k ∧ (lexed (src.take k ++ s ++ src.drop k)).err = 0 ∧ (lexed (src.take k ++ s ++ src.drop k)).toks.map strip = (lexed src).toks.map strip := by
  have e : lexed src = lexG (src.length + 1) src 1 1 [] := by unfold lexed; rw [if_neg (by omega)]
  have hlen := lexed_len src
  rw [e] at h ht ⊢
  rw [e] at hlen
  obtain ⟨k, h1, h2, ts, h3, h4⟩ := lexG_ins hs hs1 hs2 _ _ _ _ _ w t (by omega) (by simp) (by simp) h ht
  refine ⟨k, h1, ?_, ?_⟩
  · rw [← h2]
    have := offF_is (src.take k) (src.drop k) (by intro e; have := congrArg List.length e; rw [List.length_drop, List.length_nil] at this; omega) (1, 1)
    rw [List.take_append_drop, List.length_take, Nat.min_eq_left (by omega)] at this
    exact this
  · have hn : (src.take k ++ s ++ src.drop k).length = src.length + s.length := by simp; omega
    have e2 : lexed (src.take k ++ s ++ src.drop k) = lexG ((src.take k ++ s ++ src.drop k).length + 1) (src.take k ++ s ++ src.drop k) 1 1 [] := by unfold lexed; rw [if_neg (by omega)]
    rw [e2]
    have hS := lexG_lexS ((src.take k ++ s ++ src.drop k).length + 1) (src.take k ++ s ++ src.drop k) 1 1 []
    have hts : ts.length ≤ 2048 := by
      have := congrArg List.length h4
      simp at this
      omega
    rw [lexes_lexS h3 _ _ (by omega) (by simpa using hts)] at hS
    rw [Prod.mk.injEq] at hS
    exact ⟨hS.1, by rw [hS.2, h4]⟩
theorem lexed_join {src : List UInt8} (h : (lexed src).err = 0) (hl : (joinT ((lexed src).toks.map strip)).length ≤ 8192) :
    (lexed (joinT ((lexed src).toks.map strip))).err = 0 ∧ (lexed (joinT ((lexed src).toks.map strip))).toks.map strip = (lexed src).toks.map strip := by
  have hlen := lexed_len src
  have hsrc : ¬ 8192 < src.length := by
    intro h8
    unfold lexed at h
    rw [if_pos h8] at h
    exact absurd (show (2 : Int) = 0 from h) (by decide)
  have e : lexed src = lexG (src.length + 1) src 1 1 [] := by unfold lexed; rw [if_neg hsrc]
  have hS := lexG_lexS (src.length + 1) src 1 1 []
  have hx : (lexS (src.length + 1) src []).1 = 0 := by
    have := congrArg Prod.fst hS
    rw [← e] at this
    exact (show (lexS (src.length + 1) src []).1 = (lexed src).err from this.symm).trans h
  obtain ⟨ts, h1, h2, h3⟩ := lexS_lexes _ _ _ (by omega) (by simp) hx
  have hts : (lexed src).toks.map strip = ts := by
    have := congrArg Prod.snd hS
    rw [← e] at this
    rw [show (lexed src).toks.map strip = _ from this]
    simpa using h2
  rw [hts] at hl ⊢
  have e2 : lexed (joinT ts) = lexG ((joinT ts).length + 1) (joinT ts) 1 1 [] := by unfold lexed; rw [if_neg (by omega)]
  have hJ := lexG_lexS ((joinT ts).length + 1) (joinT ts) 1 1 []
  rw [lexes_lexS (lexes_join h1) _ _ (by omega) (by simpa using h3), ← e2] at hJ
  rw [Prod.mk.injEq] at hJ
  exact ⟨hJ.1, by rw [hJ.2]; rfl⟩
end Go.Proofs.YtdhfldpfbejcjaaGreat.Lx
/-
  CONTRACT: rows of tokens that are alike but for places (changelingref02.Alike).
-/
namespace Go.Proofs.YtdhfldpfbejcjaaGreat.Lx
open Go.RowKit Pl Ar Dg Pa
set_option linter.unusedVariables false

/-- without an error the fault is the zero one -/
theorem lexG_zero (f : Nat) : ∀ (l : List UInt8) (ln col : Int) (acc : List Tok), (lexG f l ln col acc).err = 0 → (lexG f l ln col acc).line = 0 ∧ (lexG f l ln col acc).col = 0 := by
  induction f with
  | zero => intro l ln col acc _; exact ⟨rfl, rfl⟩
  | succ f ih =>
    intro l ln col acc h
    unfold lexG at h ⊢
    split
    · exact ⟨rfl, rfl⟩
    rename_i h1
    rw [if_neg h1] at h
    split
    · rename_i h2
      rw [if_pos h2] at h
      exact ih _ _ _ _ h
    rename_i h2
    rw [if_neg h2] at h
    split
    · rename_i h3
      rw [if_pos h3] at h
      exact absurd h h3
    rename_i h3
    rw [if_neg h3] at h
    split
    · rename_i h4
      rw [if_pos h4] at h
      exact absurd (show (2 : Int) = 0 from h) (by decide)
    rename_i h4
    rw [if_neg h4] at h
    exact ih _ _ _ _ h
theorem lexed_zero {l : List UInt8} (h : (lexed l).err = 0) : (lexed l).line = 0 ∧ (lexed l).col = 0 := by
  unfold lexed at h ⊢
  split
  · rename_i h1
    rw [if_pos h1] at h
    exact absurd (show (2 : Int) = 0 from h) (by decide)
  · rename_i h1
    rw [if_neg h1] at h
    exact lexG_zero _ _ _ _ _ h
/-- a value reads as a row of tokens -/
def ShowsT (w : World) (v : Value) (l : List Tok) : Prop := ∃ b c, v = .slice b l.length c ∧ ∀ (k : Nat) (hk : k < l.length), ∃ g, b = some ⟨g, 0, none⟩ ∧ g < w.heap.size ∧
  w.cell? ⟨g, k * 6, none⟩ = some (.int .i64 l[k].kind) ∧ w.cell? ⟨g, k * 6 + 1, none⟩ = some (.string ⟨l[k].text.toArray⟩) ∧ w.cell? ⟨g, k * 6 + 2, none⟩ = some (.int .i64 l[k].num) ∧
  w.cell? ⟨g, k * 6 + 3, none⟩ = some (.int .i64 l[k].line) ∧ w.cell? ⟨g, k * 6 + 4, none⟩ = some (.int .i64 l[k].col) ∧ w.cell? ⟨g, k * 6 + 5, none⟩ = some (.bool false)
theorem showsT_of {w : World} {B : Nat} {v : Value} {l : List Tok} (h : OwnsT w B v l) : ShowsT w v l := by
  have hv : ∃ b c, v = .slice b l.length c := by
    rcases h.2 with ⟨rfl, hn⟩ | ⟨g, cap, cur, rfl, _⟩
    · exact ⟨none, 0, by rw [hn]⟩
    · exact ⟨_, _, rfl⟩
  obtain ⟨b, c, rfl⟩ := hv
  refine ⟨b, c, rfl, fun k hk => ?_⟩
  obtain ⟨g, hb, hg, hc⟩ := owns_at rfl hk h
  exact ⟨g, hb, hg, hc k hk⟩
theorem ShowsT.below {w w' : World} {v : Value} {l : List Tok} (h : ShowsT w v l) (hb : Below w.heap.size w w') : ShowsT w' v l := by
  obtain ⟨b, c, rfl, hc⟩ := h
  refine ⟨b, c, rfl, fun k hk => ?_⟩
  obtain ⟨g, h1, h2, h3, h4, h5, h6, h7, h8⟩ := hc k hk
  exact ⟨g, h1, by have := hb.size; omega, (hb.cell (p := ⟨g, k * 6, none⟩) h2).trans h3, (hb.cell (p := ⟨g, k * 6 + 1, none⟩) h2).trans h4, (hb.cell (p := ⟨g, k * 6 + 2, none⟩) h2).trans h5, (hb.cell (p := ⟨g, k * 6 + 3, none⟩) h2).trans h6, (hb.cell (p := ⟨g, k * 6 + 4, none⟩) h2).trans h7, (hb.cell (p := ⟨g, k * 6 + 5, none⟩) h2).trans h8⟩
theorem belowN {B : Nat} {a w : World} (h : Below B a w) (n : Nat) : Below B a (w.drewN n) := by
  induction n with
  | zero => exact h
  | succ n ih => exact ih.drew
end Go.Proofs.YtdhfldpfbejcjaaGreat.Lx
