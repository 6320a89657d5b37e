/-
  WORDS: the tags of constructors are their places among their data type's.
-/
import Derived.Test.YtgmgnnmmapdikaaDcT
namespace Go.Proofs.Ytgmgnnmmapdikaa.Dc
open Go.RowKit Mm Tm Mv
set_option linter.unusedVariables false
set_option linter.unusedSimpArgs false
def Tags (cs : List ConS) : Prop := ∀ (i : Nat) (x : ConS), cs[i]? = some x → x.tag = ((ofD (cs.take i) x.data).length : Int)
theorem tags_snoc {cs : List ConS} {y : ConS} (h : Tags cs) (hy : y.tag = ((ofD cs y.data).length : Int)) : Tags (cs ++ [y]) := by
  intro i x hx
  by_cases hi : i < cs.length
  · rw [List.getElem?_append_left hi] at hx
    rw [List.take_append_of_le_length (Nat.le_of_lt hi)]
    exact h i x hx
  · have hl : i < (cs ++ [y]).length := (List.getElem?_eq_some_iff.1 hx).1
    have e : i = cs.length := by simp at hl; omega
    subst e
    rw [List.getElem?_concat_length] at hx
    injection hx with hx
    subst hx
    rw [List.take_left]
    exact hy
theorem tags_of {l : List DataS} (hnd : ((dlOf l).map Prod.fst).Nodup) : ∀ i, i ≤ l.length → Tags (consOf (l.take i)) := by
  intro i
  induction i with
  | zero =>
    intro _
    have h0 : Tags [] := fun i x hx => by simp at hx
    have h1 : Tags [cFalse] := tags_snoc (cs := []) h0 rfl
    have h2 : Tags ([cFalse] ++ [cTrue]) := tags_snoc h1 (by decide)
    exact h2
  | succ i ih =>
    intro hi
    have hlt : i < l.length := hi
    have e : consOf (l.take (i + 1)) = consOf (l.take i) ++ consD l[i] := by
      rw [List.take_add_one, List.getElem?_eq_getElem hlt]
      exact consOf_snoc _ _
    have h : ∀ j, j ≤ l[i].cons.length → Tags (consOf (l.take i) ++ (consD l[i]).take j) := by
      intro j
      induction j with
      | zero => intro _; rw [List.take_zero, List.append_nil]; exact ih (by omega)
      | succ j jh =>
        intro hj
        rw [consD_take l[i] hj, ← List.append_assoc]
        refine tags_snoc (jh (by omega)) ?_
        show (j : Int) = _
        rw [show (conD l[i] (l[i].cons[j], j)).data = l[i].name from rfl, tag_is hnd hlt j (by omega)]
    have := h _ (Nat.le_refl _)
    rw [← consD_len, List.take_length] at this
    rw [e]
    exact this
theorem tag_get {cs : List ConS} (h : Tags cs) {i : Nat} {x : ConS} (hx : cs[i]? = some x) : ∃ k : Nat, x.tag = k ∧ k < (ofD cs x.data).length ∧ (ofD cs x.data)[k]? = some x := by
  have hi : i < cs.length := (List.getElem?_eq_some_iff.1 hx).1
  have e : cs = cs.take i ++ x :: cs.drop (i + 1) := by
    have : cs[i] = x := by rw [List.getElem?_eq_getElem hi] at hx; injection hx
    rw [← this, ← List.drop_eq_getElem_cons hi, List.take_append_drop]
  have e2 : ofD cs x.data = ofD (cs.take i) x.data ++ x :: ofD (cs.drop (i + 1)) x.data := by
    conv => lhs; rw [e]
    unfold ofD
    rw [List.filter_append, List.filter_cons_of_pos (by simp)]
  refine ⟨(ofD (cs.take i) x.data).length, h i x hx, ?_, ?_⟩
  · rw [e2, List.length_append, List.length_cons]; omega
  · rw [e2, List.getElem?_append_right (Nat.le_refl _), Nat.sub_self]; rfl
theorem consOf_step {l : List DataS} {k : Nat} (hk : k < l.length) : (consOf (l.take (k + 1))).length = (consOf (l.take k)).length + l[k].cons.length := by
  rw [List.take_add_one, List.getElem?_eq_getElem hk]
  show (consOf (l.take k ++ [l[k]])).length = _
  rw [consOf_snoc, List.length_append, consD_len]
theorem own_cap {w : World} {B n k sz : Nat} {e : TypeId} {a : Option Addr} {c : Nat} {vs : List Value} (h : w.ownsRow B e sz (.slice a n c) k vs) : n ≤ c ∧ n = k := by
  rcases h.2 with ⟨h1, h2⟩ | ⟨g, cap, cur, h1, h2, _⟩
  · injection h1 with e1 e2 e3
    subst e1 e2 e3
    exact ⟨Nat.le_refl _, by omega⟩
  · injection h1 with e1 e2 e3
    subst e1 e2 e3
    exact ⟨by omega, rfl⟩
/-- one constructor of a row is a row of one -/
theorem CAt.one {Z : Nat → Prop} {w : World} {ad : Addr} {k : Nat} {x : ConS} (h : CAt Z w (some ad) k x) : RdC Z w (some (ad.add (k * 5))) [x] := by
  obtain ⟨ad', a2, c2, e, hz, h2⟩ := h
  injection e with e
  subst e
  intro i y hy
  have hi : i = 0 := by
    have := (List.getElem?_eq_some_iff.1 hy).1
    simpa using this
  subst hi
  obtain rfl : x = y := by simpa using hy
  have q : (ad.add (k * 5)).add (0 * 5) = ad.add (k * 5) := by simp [Addr.add]
  exact ⟨ad.add (k * 5), a2, c2, rfl, by rw [add_block]; exact hz, by rw [q]; exact h2⟩
/-- a row of one in a box -/
theorem Box.oneC {w : World} {g : Nat} {a : Option Addr} {c : Nat} {x : ConS} (h : Box w g TC #[.string x.name, .string x.data, .int .i64 x.tag, .int .i64 x.params, .slice a x.fields.length c]) (hs : x.name.size ≤ 9223372036854775807) (hf : x.fields.length * 56 ≤ 140737488355328) (hr : RdT (· < w.heap.size) w a (Tys.ofL x.fields) 0) :
    RdC (· < w.heap.size) w (some ⟨g, 0, none⟩) [x] := by
  intro i y hy
  have hi : i = 0 := by
    have := (List.getElem?_eq_some_iff.1 hy).1
    simpa using this
  subst hi
  obtain rfl : x = y := by simpa using hy
  obtain ⟨r0, r1, r2, r3, r4, _⟩ := h.cells5
  exact ⟨⟨g, 0, none⟩, a, c, rfl, h.lt, r0, r1, r2, r3, r4, hs, hf, hr⟩
end Go.Proofs.Ytgmgnnmmapdikaa.Dc
