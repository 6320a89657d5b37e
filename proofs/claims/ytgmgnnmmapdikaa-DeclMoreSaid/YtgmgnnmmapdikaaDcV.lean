/-
  WORDS ON MEMORY: a row of declarations of the call's own, that refer to declarations that came in.
-/
import Derived.Test.YtgmgnnmmapdikaaDcU
namespace Go.Proofs.Ytgmgnnmmapdikaa.Dc
open Go.RowKit Mm Tm Mv
set_option linter.unusedVariables false
set_option linter.unusedSimpArgs false
/-- the cells of declarations -/
def RowV (Z : Nat → Prop) (w : World) : List Value → List DataS → Prop
  | vs, [] => vs = []
  | vs, x :: l => ∃ ap cp ac cc ln co r, vs = [.string x.name, .slice ap x.params.length cp, .slice ac x.cons.length cc, .int .i64 ln, .int .i64 co] ++ r ∧ x.name.size ≤ 9223372036854775807 ∧ RdS Z w ap x.params ∧ RdCn Z w ac x.cons ∧ RowV Z w r l
theorem RowV.below {Z : Nat → Prop} {B : Nat} {w w' : World} (hb : Below B w w') (hz : ∀ b, Z b → b < B) : ∀ {vs : List Value} {l : List DataS}, RowV Z w vs l → RowV Z w' vs l
  | _, [], h => h
  | vs, x :: l, ⟨ap, cp, ac, cc, ln, co, r, h1, h2, h3, h4, h5⟩ => ⟨ap, cp, ac, cc, ln, co, r, h1, h2, h3.below hb hz, h4.below hb hz, RowV.below hb hz h5⟩
theorem RowV.snoc {Z : Nat → Prop} {w : World} {x : DataS} {ap ac : Option Addr} {cp cc : Nat} {ln co : Int} (h2 : x.name.size ≤ 9223372036854775807) (h3 : RdS Z w ap x.params) (h4 : RdCn Z w ac x.cons) : ∀ {vs : List Value} {l : List DataS}, RowV Z w vs l → RowV Z w (vs ++ [.string x.name, .slice ap x.params.length cp, .slice ac x.cons.length cc, .int .i64 ln, .int .i64 co]) (l ++ [x])
  | vs, [], h => by rw [show vs = [] from h]; exact ⟨ap, cp, ac, cc, ln, co, [], rfl, h2, h3, h4, rfl⟩
  | vs, y :: l, ⟨bp, dp, bc, dc, ln2, co2, r, k1, k2, k3, k4, k5⟩ => by
    subst k1
    exact ⟨bp, dp, bc, dc, ln2, co2, r ++ [.string x.name, .slice ap x.params.length cp, .slice ac x.cons.length cc, .int .i64 ln, .int .i64 co], List.append_assoc _ _ _, k2, k3, k4, RowV.snoc h2 h3 h4 k5⟩
theorem RowV.get {Z : Nat → Prop} {w : World} : ∀ {vs : List Value} {l : List DataS}, RowV Z w vs l → ∀ (i : Nat) (x : DataS), l[i]? = some x →
    ∃ ap cp ac cc ln co, vs[i * 5]? = some (.string x.name) ∧ vs[i * 5 + 1]? = some (.slice ap x.params.length cp) ∧ vs[i * 5 + 2]? = some (.slice ac x.cons.length cc) ∧ vs[i * 5 + 3]? = some (.int .i64 ln) ∧ vs[i * 5 + 4]? = some (.int .i64 co) ∧ x.name.size ≤ 9223372036854775807 ∧ RdS Z w ap x.params ∧ RdCn Z w ac x.cons
  | vs, [], h, i, x, hx => by simp at hx
  | vs, y :: l, ⟨bp, dp, bc, dc, ln2, co2, r, k1, k2, k3, k4, k5⟩, 0, x, hx => by
    simp at hx
    subst hx
    subst k1
    exact ⟨bp, dp, bc, dc, ln2, co2, rfl, rfl, rfl, rfl, rfl, k2, k3, k4⟩
  | vs, y :: l, ⟨bp, dp, bc, dc, ln2, co2, r, k1, k2, k3, k4, k5⟩, i + 1, x, hx => by
    obtain ⟨ap, cp, ac, cc, ln, co, g0, g1, g2, g3, g4, g5⟩ := RowV.get k5 i x (by simpa using hx)
    subst k1
    refine ⟨ap, cp, ac, cc, ln, co, ?_, ?_, ?_, ?_, ?_, g5⟩
    · rw [show (i + 1) * 5 = i * 5 + 5 by omega]; exact g0
    · rw [show (i + 1) * 5 + 1 = i * 5 + 1 + 5 by omega]; exact g1
    · rw [show (i + 1) * 5 + 2 = i * 5 + 2 + 5 by omega]; exact g2
    · rw [show (i + 1) * 5 + 3 = i * 5 + 3 + 5 by omega]; exact g3
    · rw [show (i + 1) * 5 + 4 = i * 5 + 4 + 5 by omega]; exact g4
/-- a row of the call's own whose cells refer to blocks below B0 -/
def OwnV (B B0 : Nat) (w : World) (v : Value) (l : List DataS) : Prop := ∃ vs, w.ownsRow B TD 5 v l.length vs ∧ RowV (· < B0) w vs l
theorem OwnV.nil (B B0 : Nat) (w : World) : OwnV B B0 w (.slice none 0 0) [] := ⟨[], World.ownsRow_nil _ _ _ _, rfl⟩
theorem OwnV.reads {B B0 : Nat} {w : World} {a : Option Addr} {n c : Nat} {l : List DataS} (h : OwnV B B0 w (.slice a n c) l) (h0 : B0 ≤ w.heap.size) : RdD (· < w.heap.size) w a l := by
  obtain ⟨vs, h1, h2⟩ := h
  intro i x hx
  have hi : i < l.length := (List.getElem?_eq_some_iff.1 hx).1
  obtain ⟨b, d, hv⟩ := own_slice h1
  injection hv with e1 e2 e3
  subst e1 e2
  obtain ⟨g, rfl, hg1, hg2, _, hc⟩ := own_at h1 (by omega)
  obtain ⟨ap, cp, ac, cc, ln, co, g0, g1, g2, g3, g4, g5, g6, g7⟩ := h2.get i x hx
  have hadd : ((⟨g, 0, none⟩ : Addr).add (i * 5)) = ⟨g, i * 5, none⟩ := by
    simp [Addr.add]
    try (intro e; omega)
  refine ⟨⟨g, 0, none⟩, ap, cp, ac, cc, ln, co, rfl, hg2, ?_, ?_, ?_, ?_, ?_, g5, g6.mono fun b hb => by omega, fun j y hy => ?_⟩
  · rw [hadd, hc _ (by omega)]; exact g0
  · rw [hadd]; show w.cell? ⟨g, i * 5 + 1, none⟩ = _; rw [hc _ (by omega)]; exact g1
  · rw [hadd]; show w.cell? ⟨g, i * 5 + 2, none⟩ = _; rw [hc _ (by omega)]; exact g2
  · rw [hadd]; show w.cell? ⟨g, i * 5 + 3, none⟩ = _; rw [hc _ (by omega)]; exact g3
  · rw [hadd]; show w.cell? ⟨g, i * 5 + 4, none⟩ = _; rw [hc _ (by omega)]; exact g4
  · obtain ⟨ad, af, cf, ln, co, k1, k2, k3, k4, k5, k6, k7, k8, k9⟩ := g7 j y hy
    exact ⟨ad, af, cf, ln, co, k1, Nat.lt_of_lt_of_le k2 h0, k3, k4, k5, k6, k7, k8, k9.mono fun b hb => by omega⟩
/-- a declaration in a box is a row of one -/
theorem Box.oneD {w : World} {g : Nat} {ap ac : Option Addr} {cp cc : Nat} {ln co : Int} {x : DataS} (h : Box w g TD #[.string x.name, .slice ap x.params.length cp, .slice ac x.cons.length cc, .int .i64 ln, .int .i64 co]) (hs : x.name.size ≤ 9223372036854775807) (hp : RdS (· < w.heap.size) w ap x.params) (hc : RdCn (· < w.heap.size) w ac x.cons) :
    RdD (· < w.heap.size) w (some ⟨g, 0, none⟩) [x] := by
  intro i y hy
  have hi : i = 0 := by
    have := (List.getElem?_eq_some_iff.1 hy).1
    simpa using this
  subst hi
  obtain rfl : x = y := by simpa using hy
  obtain ⟨r0, r1, r2, r3, r4, _⟩ := h.cells5
  exact ⟨⟨g, 0, none⟩, ap, cp, ac, cc, ln, co, rfl, h.lt, r0, r1, r2, r3, r4, hs, hp, hc⟩
theorem RdC.prefix {Z : Nat → Prop} {w : World} {a : Option Addr} {l m : List ConS} (h : RdC Z w a (l ++ m)) : RdC Z w a l := fun i x hx => h i x (by
  rw [List.getElem?_append_left (List.getElem?_eq_some_iff.1 hx).1]; exact hx)
theorem RdS.mono6 {B B' : Nat} {w : World} {a : Option Addr} {l : List ByteArray} (h : RdS (· < B) w a l) (hle : B ≤ B') : RdS (· < B') w a l := h.mono fun b hb => Nat.lt_of_lt_of_le hb hle
theorem RdCn.mono6 {B B' : Nat} {w : World} {a : Option Addr} {l : List CnS} (h : RdCn (· < B) w a l) (hle : B ≤ B') : RdCn (· < B') w a l := fun j y hy => by
  obtain ⟨ad, af, cf, ln, co, k1, k2, k3, k4, k5, k6, k7, k8, k9⟩ := h j y hy
  exact ⟨ad, af, cf, ln, co, k1, Nat.lt_of_lt_of_le k2 hle, k3, k4, k5, k6, k7, k8, k9.mono fun b hb => Nat.lt_of_lt_of_le hb hle⟩
theorem infoD : (Try.prog.info? 38).map (fun i => (i.size, i.bytes)) = some (5, 80) := by kernel_rfl
end Go.Proofs.Ytgmgnnmmapdikaa.Dc
