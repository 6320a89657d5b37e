/-
  PLAIN LAWS of 'lexed': every token stands at the place told; the places rise.
-/
import Derived.Test.YtigidagcpjmjnaaLexPlain
namespace Go.Proofs.Ytigidagcpjmjnaa.Lx
open Go.RowKit Pl Ar Dg Pa
set_option linter.unusedVariables false

/-- a place stands behind another one -/
def plLt (p q : Int × Int) : Prop := p.1 < q.1 ∨ p.1 = q.1 ∧ p.2 < q.2
theorem plLt_irrefl (p : Int × Int) : ¬ plLt p p := by unfold plLt; omega
theorem plLt_trans {p q r : Int × Int} (h : plLt p q) (g : plLt q r) : plLt p r := by unfold plLt at *; omega
theorem plLt_step (p : Int × Int) (c : UInt8) : plLt p (plStep p c) := by
  unfold plLt plStep
  split <;> simp <;> omega
theorem plF_lt (l : List UInt8) (hl : l ≠ []) (p : Int × Int) : plLt p (plF p l) := by
  induction l generalizing p with
  | nil => exact absurd rfl hl
  | cons c r ih =>
    have e : plF p (c :: r) = plF (plStep p c) r := rfl
    rw [e]
    by_cases hr : r = []
    · subst hr; exact plLt_step p c
    · exact plLt_trans (plLt_step p c) (ih hr _)
/-- where a place is, told in bytes -/
def offF (q : Int × Int) : Int × Int → List UInt8 → Nat
  | _, [] => 0
  | p, c :: r => if p = q then 0 else offF q (plStep p c) r + 1
theorem offF_is (a b : List UInt8) (hb : b ≠ []) (p : Int × Int) : offF (plF p a) p (a ++ b) = a.length := by
  induction a generalizing p with
  | nil =>
    cases b with
    | nil => exact absurd rfl hb
    | cons c r =>
      show (if p = p then 0 else _) = 0
      rw [if_pos rfl]
  | cons c r ih =>
    have hne : ¬ p = plF p (c :: r) := by
      intro e
      have h := plF_lt (c :: r) (by simp) p
      rw [← e] at h
      exact plLt_irrefl p h
    show (if p = plF p (c :: r) then 0 else offF (plF p (c :: r)) (plStep p c) (r ++ b) + 1) = r.length + 1
    rw [if_neg hne]
    exact congrArg (· + 1) (ih (plStep p c))

/-- a token stands in a text where its place says -/
def Stands (src : List UInt8) (t : Tok) : Prop := ∃ a b, src = a ++ (t.text ++ b) ∧ t.text ≠ [] ∧ plF (1, 1) a = (t.line, t.col)
/-- the tokens so far stand ahead of a place, and rise -/
def Rise (p : Int × Int) (l : List Tok) : Prop := l.Pairwise (fun a b => plLt (a.line, a.col) (b.line, b.col)) ∧ ∀ t, t ∈ l → plLt (t.line, t.col) p
theorem Rise.le {p q : Int × Int} {l : List Tok} (h : Rise p l) (g : plLt p q) : Rise q l := ⟨h.1, fun t ht => plLt_trans (h.2 t ht) g⟩
theorem Rise.add {p q : Int × Int} {l : List Tok} {t : Tok} (h : Rise p l) (ht : (t.line, t.col) = p) (g : plLt p q) : Rise q (l ++ [t]) := by
  refine ⟨?_, ?_⟩
  · rw [List.pairwise_append]
    refine ⟨h.1, List.pairwise_singleton _ _, fun a ha b hb => ?_⟩
    rw [List.mem_singleton] at hb
    subst hb
    rw [ht]
    exact h.2 a ha
  · intro x hx
    rcases List.mem_append.1 hx with hx | hx
    · exact plLt_trans (h.2 x hx) g
    · rw [List.mem_singleton] at hx
      subst hx
      rw [ht]; exact g
theorem gap_pos {l : List UInt8} (h : 0 < gapLen l) : l.take (gapLen l) ≠ [] := by
  have := gapLen_le l
  intro e
  have h2 := congrArg List.length e
  rw [List.length_take, List.length_nil] at h2
  omega
theorem hcls_line {l : List UInt8} (h : gapLen l = 0) (hl : l ≠ []) : ¬ hcls l = 1 := by
  cases l with
  | nil => exact absurd rfl hl
  | cons c r =>
    intro e
    have e2 : cls c.toNat = 1 := e
    have hc : c = 10 ∨ c = 32 := by
      unfold cls at e2
      have hb := UInt8.toNat_lt c
      by_cases h1 : c.toNat = 10
      · left; exact UInt8.toNat_inj.1 (by rw [h1]; rfl)
      · by_cases h2 : c.toNat = 32
        · right; exact UInt8.toNat_inj.1 (by rw [h2]; rfl)
        · exfalso
          (repeat' split at e2) <;> omega
    unfold gapLen at h
    rcases hc with rfl | rfl
    · rw [gapR_line] at h; omega
    · have : gapR (isRem (32 :: r)) (32 :: r) = gapR (isRem (32 :: r)) r + 1 := by
        show (if (32 : UInt8) = 10 then 1 else if _ ∧ ¬ (32 : UInt8) = 32 then 0 else _) = _
        rw [if_neg (by decide), if_neg (fun x => x.2 rfl)]
      rw [this] at h; omega
theorem lexG_stands (f : Nat) (src pre l : List UInt8) (ln col : Int) (acc : List Tok) (hs : src = pre ++ l) (hp : plF (1, 1) pre = (ln, col)) (ha : ∀ t, t ∈ acc → Stands src t) (hr : Rise (ln, col) acc) :
    (∀ t, t ∈ (lexG f l ln col acc).toks → Stands src t) ∧ (lexG f l ln col acc).toks.Pairwise (fun a b => plLt (a.line, a.col) (b.line, b.col)) := by
  induction f generalizing pre l ln col acc with
  | zero => exact ⟨ha, hr.1⟩
  | succ f ih =>
    unfold lexG
    by_cases h0 : l = []
    · rw [if_pos h0]; exact ⟨ha, hr.1⟩
    rw [if_neg h0]
    by_cases h1 : 0 < gapLen l
    · rw [if_pos h1]
      have hg := gap_pl (isRem l) l ln col
      change plF (ln, col) (l.take (gapLen l)) = (behindL (l.take (gapLen l)) ln, behindC (l.take (gapLen l)) col) at hg
      refine ih (pre ++ l.take (gapLen l)) _ _ _ acc (by rw [List.append_assoc, List.take_append_drop]; exact hs) (by rw [plF_append, hp]; exact hg) ha (hr.le ?_)
      rw [← hg]
      exact plF_lt _ (gap_pos h1) _
    rw [if_neg h1]
    by_cases h2 : fErr l ≠ 0
    · rw [if_pos h2]; exact ⟨fun t ht => (by cases ht), List.Pairwise.nil⟩
    rw [if_neg h2]
    by_cases h3 : acc.length = 2048
    · rw [if_pos h3]; exact ⟨fun t ht => (by cases ht), List.Pairwise.nil⟩
    rw [if_neg h3]
    have hz : gapLen l = 0 := by omega
    have hpl := text_pl (hcls_line hz h0) ln col
    have hne : fText l ≠ [] := by
      intro e
      have := (fText_len (l := l) (List.length_pos_iff.2 h0)).1
      rw [e] at this
      simp at this
    have hsp : fText l ++ l.drop (fText l).length = l := by
      conv => lhs; arg 1; rw [text_take l]
      exact List.take_append_drop _ _
    have hlt : plLt (ln, col) (ln, col + (fText l).length) := by
      rw [← hpl]
      exact plF_lt _ hne _
    refine ih (pre ++ fText l) _ _ _ _ (by rw [List.append_assoc, hsp]; exact hs) (by rw [plF_append, hp]; exact hpl) ?_ (hr.add rfl hlt)
    intro t ht
    rcases List.mem_append.1 ht with ht | ht
    · exact ha t ht
    · rw [List.mem_singleton] at ht
      subst ht
      exact ⟨pre, l.drop (fText l).length, by show src = pre ++ (fText l ++ _); rw [hsp]; exact hs, hne, hp⟩
/-- every token stands where its place says, and the places rise -/
theorem lexed_stands (src : List UInt8) : (∀ t, t ∈ (lexed src).toks → Stands src t) ∧ (lexed src).toks.Pairwise (fun a b => plLt (a.line, a.col) (b.line, b.col)) := by
  unfold lexed
  by_cases h : 8192 < src.length
  · rw [if_pos h]; exact ⟨fun t ht => (by cases ht), List.Pairwise.nil⟩
  · rw [if_neg h]
    exact lexG_stands _ src [] src 1 1 [] rfl rfl (fun t ht => by cases ht) ⟨List.Pairwise.nil, fun t ht => by cases ht⟩
end Go.Proofs.Ytigidagcpjmjnaa.Lx
