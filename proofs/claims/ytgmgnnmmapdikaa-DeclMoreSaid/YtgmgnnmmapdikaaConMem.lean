/-
  WORDS ON MEMORY: constructors (api.Con) that are read: rows of structs of five cells, the last one a row of types. No program in sight.
-/
import Derived.Test.YtgmgnnmmapdikaaTyMem
namespace Go.Proofs.Ytgmgnnmmapdikaa.Tm
open Go.RowKit Mm
set_option linter.unusedVariables false
/-- a constructor -/
structure ConS where
  name : ByteArray
  data : ByteArray
  tag : Int
  params : Int
  fields : List Ty
/-- The constructor that lies at place k of a row, in blocks of Z. -/
def CAt (Z : Nat → Prop) (w : World) (a : Option Addr) (k : Nat) (x : ConS) : Prop :=
  ∃ ad a2 c2, a = some ad ∧ Z ad.block ∧ w.cell? (ad.add (k * 5)) = some (.string x.name) ∧ w.cell? ⟨(ad.add (k * 5)).block, (ad.add (k * 5)).off + 1, none⟩ = some (.string x.data) ∧ w.cell? ⟨(ad.add (k * 5)).block, (ad.add (k * 5)).off + 2, none⟩ = some (.int .i64 x.tag) ∧
      w.cell? ⟨(ad.add (k * 5)).block, (ad.add (k * 5)).off + 3, none⟩ = some (.int .i64 x.params) ∧ w.cell? ⟨(ad.add (k * 5)).block, (ad.add (k * 5)).off + 4, none⟩ = some (.slice a2 x.fields.length c2) ∧ x.name.size ≤ 9223372036854775807 ∧ x.fields.length * 56 ≤ 140737488355328 ∧ RdT Z w a2 (Tys.ofL x.fields) 0
def RdC (Z : Nat → Prop) (w : World) (a : Option Addr) (l : List ConS) : Prop := ∀ (i : Nat) x, l[i]? = some x → CAt Z w a i x
theorem CAt.frame {Z Z' : Nat → Prop} {w w' : World} {a : Option Addr} {k : Nat} {x : ConS} (h : CAt Z w a k x) (hc : ∀ ad : Addr, Z ad.block → w'.cell? ad = w.cell? ad) (hz : ∀ b, Z b → Z' b) : CAt Z' w' a k x := by
  obtain ⟨ad, a2, c2, h1, h2, h3, h4, h5, h6, h7, h8, h9, h10⟩ := h
  have q : Z (ad.add (k * 5)).block := by rw [add_block]; exact h2
  exact ⟨ad, a2, c2, h1, hz _ h2, (hc _ q).trans h3, (hc ⟨_, _, none⟩ q).trans h4, (hc ⟨_, _, none⟩ q).trans h5, (hc ⟨_, _, none⟩ q).trans h6, (hc ⟨_, _, none⟩ q).trans h7, h8, h9, h10.frame (fun b o hZ => hc ⟨b, o, none⟩ hZ) hc hz⟩
theorem RdC.frame {Z Z' : Nat → Prop} {w w' : World} {a : Option Addr} {l : List ConS} (h : RdC Z w a l) (hc : ∀ ad : Addr, Z ad.block → w'.cell? ad = w.cell? ad) (hz : ∀ b, Z b → Z' b) : RdC Z' w' a l :=
  fun i x hx => (h i x hx).frame hc hz
theorem RdC.below {Z : Nat → Prop} {B : Nat} {w w' : World} {a : Option Addr} {l : List ConS} (h : RdC Z w a l) (hb : Below B w w') (hz : ∀ b, Z b → b < B) : RdC Z w' a l :=
  h.frame (fun ad hZ => hb.cell (hz _ hZ)) fun _ h => h
/-- The cells of a row of the call's own. -/
def RowC (Z : Nat → Prop) (w : World) : List Value → List ConS → Prop
  | vs, [] => vs = []
  | vs, x :: l => ∃ a2 c2 r, vs = [.string x.name, .string x.data, .int .i64 x.tag, .int .i64 x.params, .slice a2 x.fields.length c2] ++ r ∧ x.name.size ≤ 9223372036854775807 ∧ x.fields.length * 56 ≤ 140737488355328 ∧ RdT Z w a2 (Tys.ofL x.fields) 0 ∧ RowC Z w r l
theorem RowC.frame {Z Z' : Nat → Prop} {w w' : World} (ha : ∀ ad : Addr, Z ad.block → w'.cell? ad = w.cell? ad) (hz : ∀ b, Z b → Z' b) : ∀ {vs : List Value} {l : List ConS}, RowC Z w vs l → RowC Z' w' vs l
  | _, [], h => h
  | vs, x :: l, ⟨a2, c2, r, h1, h2, h3, h4, h5⟩ => ⟨a2, c2, r, h1, h2, h3, h4.frame (fun b o hZ => ha ⟨b, o, none⟩ hZ) ha hz, RowC.frame ha hz h5⟩
theorem RowC.snoc {Z : Nat → Prop} {w : World} {x : ConS} {a2 : Option Addr} {c2 : Nat} (h2 : x.name.size ≤ 9223372036854775807) (h3 : x.fields.length * 56 ≤ 140737488355328) (h4 : RdT Z w a2 (Tys.ofL x.fields) 0) : ∀ {vs : List Value} {l : List ConS}, RowC Z w vs l → RowC Z w (vs ++ [.string x.name, .string x.data, .int .i64 x.tag, .int .i64 x.params, .slice a2 x.fields.length c2]) (l ++ [x])
  | vs, [], h => by rw [show vs = [] from h]; exact ⟨a2, c2, [], rfl, h2, h3, h4, rfl⟩
  | vs, y :: l, ⟨b2, d2, r, k1, k2, k3, k4, k5⟩ => by
    subst k1
    exact ⟨b2, d2, r ++ [.string x.name, .string x.data, .int .i64 x.tag, .int .i64 x.params, .slice a2 x.fields.length c2], List.append_assoc _ _ _, k2, k3, k4, RowC.snoc h2 h3 h4 k5⟩
theorem RowC.get {Z : Nat → Prop} {w : World} : ∀ {vs : List Value} {l : List ConS}, RowC Z w vs l → ∀ (i : Nat) (x : ConS), l[i]? = some x →
    ∃ a2 c2, vs[i * 5]? = some (.string x.name) ∧ vs[i * 5 + 1]? = some (.string x.data) ∧ vs[i * 5 + 2]? = some (.int .i64 x.tag) ∧ vs[i * 5 + 3]? = some (.int .i64 x.params) ∧ vs[i * 5 + 4]? = some (.slice a2 x.fields.length c2) ∧ x.name.size ≤ 9223372036854775807 ∧ x.fields.length * 56 ≤ 140737488355328 ∧ RdT Z w a2 (Tys.ofL x.fields) 0
  | vs, [], h, i, x, hx => by simp at hx
  | vs, y :: l, ⟨b2, d2, r, k1, k2, k3, k4, k5⟩, 0, x, hx => by
    simp at hx
    subst hx
    subst k1
    exact ⟨b2, d2, rfl, rfl, rfl, rfl, rfl, k2, k3, k4⟩
  | vs, y :: l, ⟨b2, d2, r, k1, k2, k3, k4, k5⟩, i + 1, x, hx => by
    obtain ⟨a2, c2, g0, g1, g2, g3, g4, g5⟩ := RowC.get k5 i x (by simpa using hx)
    subst k1
    refine ⟨a2, c2, ?_, ?_, ?_, ?_, ?_, g5⟩
    · rw [show (i + 1) * 5 = i * 5 + 5 by omega]; exact g0
    · rw [show (i + 1) * 5 + 1 = i * 5 + 1 + 5 by omega]; exact g1
    · rw [show (i + 1) * 5 + 2 = i * 5 + 2 + 5 by omega]; exact g2
    · rw [show (i + 1) * 5 + 3 = i * 5 + 3 + 5 by omega]; exact g3
    · rw [show (i + 1) * 5 + 4 = i * 5 + 4 + 5 by omega]; exact g4
/-- A row of constructors of the call's own (ec, et: the numbers of the types of constructors and of types). -/
def OwnC (B : Nat) (ec et : TypeId) (w : World) (v : Value) (l : List ConS) : Prop :=
  ∃ vs, w.ownsRow B ec 5 v l.length vs ∧ RowC (fun b => B ≤ b ∧ TyB et w b) w vs l
theorem OwnC.nil (B : Nat) (ec et : TypeId) (w : World) : OwnC B ec et w (.slice none 0 0) [] := ⟨[], World.ownsRow_nil _ _ _ _, rfl⟩
theorem OwnC.here {B : Nat} {ec et : TypeId} {w w' : World} {v : Value} {l : List ConS} (h : OwnC B ec et w v l) (hb : Below w.heap.size w w') : OwnC B ec et w' v l := by
  obtain ⟨vs, h1, h2⟩ := h
  exact ⟨vs, own_here h1 hb, h2.frame (fun ad hZ => hb.cell hZ.2.lt) fun b hZ => ⟨hZ.1, hZ.2.below hb⟩⟩
theorem OwnC.reads {B : Nat} {ec et : TypeId} {w : World} {a : Option Addr} {n c : Nat} {l : List ConS} (h : OwnC B ec et w (.slice a n c) l) : RdC (fun b => B ≤ b ∧ (TyB ec w b ∨ TyB et w b)) w a l := by
  obtain ⟨vs, h1, h2⟩ := h
  intro i x hx
  have hi : i < l.length := (List.getElem?_eq_some_iff.1 hx).1
  obtain ⟨b, d, hv⟩ := own_slice h1
  injection hv with e1 e2 e3
  subst e1 e2
  obtain ⟨g, rfl, hg1, hg2, _, hc⟩ := own_at h1 (by omega)
  obtain ⟨cur, hcur⟩ := own_block h1
  obtain ⟨a2, c2, g0, g1, g2, g3, g4, g5, g6, g7⟩ := h2.get i x hx
  have hadd : ((⟨g, 0, none⟩ : Addr).add (i * 5)) = ⟨g, i * 5, none⟩ := by
    simp [Addr.add]
    try (intro e; omega)
  refine ⟨⟨g, 0, none⟩, a2, c2, rfl, ⟨hg1, .inl ⟨cur, hcur⟩⟩, ?_, ?_, ?_, ?_, ?_, g5, g6, g7.mono fun b hZ => ⟨hZ.1, .inr hZ.2⟩⟩
  · rw [hadd, hc _ (by omega)]; exact g0
  · rw [hadd]; show w.cell? ⟨g, i * 5 + 1, none⟩ = _; rw [hc _ (by omega)]; exact g1
  · rw [hadd]; show w.cell? ⟨g, i * 5 + 2, none⟩ = _; rw [hc _ (by omega)]; exact g2
  · rw [hadd]; show w.cell? ⟨g, i * 5 + 3, none⟩ = _; rw [hc _ (by omega)]; exact g3
  · rw [hadd]; show w.cell? ⟨g, i * 5 + 4, none⟩ = _; rw [hc _ (by omega)]; exact g4
/-- one more constructor behind a row of the call's own: its fields were made in new memory behind the world of the row; the append -/
theorem OwnC.more {B k : Nat} {ec et : TypeId} (hne : ec ≠ et) {wr w3 w7 : World} {l : List ConS} {x : ConS} {vs : List Value} {a5 a3 : Option Addr} {c5 c3 : Nat} {v7 : Value} {o' : Obj} (hlk : l.length = k)
    (h1 : wr.ownsRow B ec 5 (.slice a5 l.length c5) l.length vs) (h2 : RowC (fun b => B ≤ b ∧ TyB et wr b) wr vs l) (hB : B ≤ wr.heap.size)
    (h3 : RdT (fun b => wr.heap.size ≤ b ∧ TyB et w3 b) w3 a3 (Tys.ofL x.fields) 0) (hb3 : Below wr.heap.size wr w3)
    (hx : x.name.size ≤ 9223372036854775807 ∧ x.fields.length * 56 ≤ 140737488355328)
    (hown : w7.ownsRow B ec 5 v7 (k + 1) (vs ++ [.string x.name, .string x.data, .int .i64 x.tag, .int .i64 x.params, .slice a3 x.fields.length c3])) (hg : (w3.alloc o').grownBy w7 (Value.slice a5 k c5).ownBlock) :
    OwnC B ec et w7 v7 (l ++ [x]) := by
  subst hlk
  refine ⟨_, by rwa [List.length_append, List.length_singleton], ?_⟩
  have hA : RowC (fun b => B ≤ b ∧ TyB et w3 b) w3 vs l := h2.frame (fun ad hZ => hb3.cell hZ.2.lt) fun b hZ => ⟨hZ.1, hZ.2.below hb3⟩
  have hS := RowC.snoc (c2 := c3) hx.1 hx.2 (h3.mono (Z' := fun b => B ≤ b ∧ TyB et w3 b) fun b hZ => ⟨by omega, hZ.2⟩) hA
  have hsz : (w3.alloc o').heap.size = w3.heap.size + 1 := by simp
  have h1' := own_here h1 hb3
  have hbl : ∀ b, TyB et w3 b → w7.heap[b]? = w3.heap[b]? := by
    intro b hZ
    refine (hg.block b (by rw [hsz]; have := hZ.lt; omega) fun e => ?_).trans (Below.heap_alloc w3 o' b hZ.lt)
    obtain ⟨cs, hcs⟩ := hZ
    rcases h1'.2 with ⟨q, _⟩ | ⟨g, cap, cur, q, _, hh, _⟩
    · injection q with q1 q2 q3
      rw [q1] at e
      simp [Value.ownBlock] at e
    · injection q with q1 q2 q3
      rw [q1] at e
      simp only [Value.ownBlock, Option.some.injEq] at e
      subst e
      rw [hh] at hcs
      injection hcs with hcs
      injection hcs with _ hcs
      exact hne hcs
  exact hS.frame (fun ad hZ => World.cell?_of_block (hbl _ hZ.2)) fun b hZ => ⟨hZ.1, hZ.2.same (hbl _ hZ.2)⟩
end Go.Proofs.Ytgmgnnmmapdikaa.Tm
