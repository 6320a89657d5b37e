/-
  WORDS ON MEMORY: types (api.Type) that are read: rows of structs of four cells, the last one a row of the same kind. No program in sight.
-/
import Derived.Test.YtbkklnihgejeoaaMem
namespace Go.Proofs.Ytbkklnihgejeoaa.Tm
open Go.RowKit Mm
set_option linter.unusedVariables false
/-- rows of types: the first one, what it is made of, the others -/
inductive Tys where
  | nil
  | cons (kd n : Int) (nm : ByteArray) (args rest : Tys)
/-- one type -/
structure Ty where
  kd : Int
  n : Int
  nm : ByteArray
  args : Tys
namespace Tys
def len : Tys → Nat
  | nil => 0
  | cons _ _ _ _ r => r.len + 1
def nodes : Tys → Nat
  | nil => 0
  | cons _ _ _ a r => a.nodes + r.nodes + 1
def toL : Tys → List Ty
  | nil => []
  | cons k n m a r => ⟨k, n, m, a⟩ :: r.toL
def ofL : List Ty → Tys
  | [] => nil
  | x :: l => cons x.kd x.n x.nm x.args (ofL l)
theorem toL_len : ∀ t : Tys, t.toL.length = t.len
  | nil => rfl
  | cons _ _ _ _ r => by rw [toL, List.length_cons, toL_len r, len]
theorem toL_ofL : ∀ l : List Ty, (ofL l).toL = l
  | [] => rfl
  | x :: l => by rw [ofL, toL, toL_ofL l]
theorem ofL_toL : ∀ t : Tys, ofL t.toL = t
  | nil => rfl
  | cons k n m a r => by rw [toL, ofL, ofL_toL r]
theorem len_ofL (l : List Ty) : (ofL l).len = l.length := by rw [← toL_len, toL_ofL]
theorem nodes_get : ∀ (t : Tys) (i : Nat) (x : Ty), t.toL[i]? = some x → x.args.nodes < t.nodes
  | nil, i, x, h => by simp [toL] at h
  | cons k n m a r, 0, x, h => by
    simp [toL] at h
    subst h
    show a.nodes < a.nodes + r.nodes + 1
    omega
  | cons k n m a r, i + 1, x, h => by
    have := nodes_get r i x (by simpa [toL] using h)
    show x.args.nodes < a.nodes + r.nodes + 1
    omega
end Tys
/-- The row of types that lies at a, from place k on, in blocks of Z. -/
def RdT (Z : Nat → Prop) (w : World) : Option Addr → Tys → Nat → Prop
  | _, .nil, _ => True
  | a, .cons kd n nm args rest, k =>
    (∃ ad a2 c2, a = some ad ∧ Z ad.block ∧ w.cell? (ad.add (k * 4)) = some (.int .i64 kd) ∧ w.cell? ⟨(ad.add (k * 4)).block, (ad.add (k * 4)).off + 1, none⟩ = some (.int .i64 n) ∧ w.cell? ⟨(ad.add (k * 4)).block, (ad.add (k * 4)).off + 2, none⟩ = some (.string nm) ∧
      w.cell? ⟨(ad.add (k * 4)).block, (ad.add (k * 4)).off + 3, none⟩ = some (.slice a2 args.len c2) ∧ nm.size ≤ 9223372036854775807 ∧ args.len * 56 ≤ 140737488355328 ∧ RdT Z w a2 args 0) ∧ RdT Z w a rest (k + 1)
/-- One type of a row. -/
def TyAt (Z : Nat → Prop) (w : World) (a : Option Addr) (k : Nat) (x : Ty) : Prop :=
  ∃ ad a2 c2, a = some ad ∧ Z ad.block ∧ w.cell? (ad.add (k * 4)) = some (.int .i64 x.kd) ∧ w.cell? ⟨(ad.add (k * 4)).block, (ad.add (k * 4)).off + 1, none⟩ = some (.int .i64 x.n) ∧ w.cell? ⟨(ad.add (k * 4)).block, (ad.add (k * 4)).off + 2, none⟩ = some (.string x.nm) ∧
      w.cell? ⟨(ad.add (k * 4)).block, (ad.add (k * 4)).off + 3, none⟩ = some (.slice a2 x.args.len c2) ∧ x.nm.size ≤ 9223372036854775807 ∧ x.args.len * 56 ≤ 140737488355328 ∧ RdT Z w a2 x.args 0
theorem add_block (a : Addr) (n : Nat) : (a.add n).block = a.block := by unfold Addr.add; split <;> rfl
theorem RdT.at_ {Z : Nat → Prop} {w : World} {a : Option Addr} : ∀ {t : Tys} {k : Nat}, RdT Z w a t k → ∀ (i : Nat) (x : Ty), t.toL[i]? = some x → TyAt Z w a (k + i) x
  | .nil, k, _, i, x, hx => by simp [Tys.toL] at hx
  | .cons kd n nm args rest, k, h, 0, x, hx => by
    simp [Tys.toL] at hx
    subst hx
    exact h.1
  | .cons kd n nm args rest, k, h, i + 1, x, hx => by
    have := RdT.at_ h.2 i x (by simpa [Tys.toL] using hx)
    rwa [show k + (i + 1) = k + 1 + i by omega]
theorem RdT.mk {Z : Nat → Prop} {w : World} {a : Option Addr} : ∀ {t : Tys} {k : Nat}, (∀ (i : Nat) (x : Ty), t.toL[i]? = some x → TyAt Z w a (k + i) x) → RdT Z w a t k
  | .nil, k, _ => trivial
  | .cons kd n nm args rest, k, h => ⟨h 0 ⟨kd, n, nm, args⟩ rfl, RdT.mk fun i x hx => by
    have := h (i + 1) x (by simpa [Tys.toL] using hx)
    rwa [show k + (i + 1) = k + 1 + i by omega] at this⟩
theorem RdT.frame {Z Z' : Nat → Prop} {w w' : World} (hc : ∀ b o, Z b → w'.cell? ⟨b, o, none⟩ = w.cell? ⟨b, o, none⟩) (ha : ∀ ad : Addr, Z ad.block → w'.cell? ad = w.cell? ad) (hz : ∀ b, Z b → Z' b) : ∀ {a : Option Addr} {t : Tys} {k : Nat}, RdT Z w a t k → RdT Z' w' a t k
  | _, .nil, _, _ => trivial
  | a, .cons kd n nm args rest, k, ⟨⟨ad, a2, c2, h1, h2, h3, h4, h5, h6, h7, h8, h9⟩, hr⟩ =>
    ⟨⟨ad, a2, c2, h1, hz _ h2, by rw [ha _ (by rw [add_block]; exact h2)]; exact h3, by rw [hc _ _ (by rw [add_block]; exact h2)]; exact h4, by rw [hc _ _ (by rw [add_block]; exact h2)]; exact h5, by rw [hc _ _ (by rw [add_block]; exact h2)]; exact h6, h7, h8, RdT.frame hc ha hz h9⟩, RdT.frame hc ha hz hr⟩
theorem RdT.mono {Z Z' : Nat → Prop} {w : World} {a : Option Addr} {t : Tys} {k : Nat} (h : RdT Z w a t k) (hz : ∀ b, Z b → Z' b) : RdT Z' w a t k := h.frame (fun _ _ _ => rfl) (fun _ _ => rfl) hz
theorem RdT.below {Z : Nat → Prop} {B : Nat} {w w' : World} {a : Option Addr} {t : Tys} {k : Nat} (h : RdT Z w a t k) (hb : Below B w w') (hz : ∀ b, Z b → b < B) : RdT Z w' a t k :=
  h.frame (fun b o hZ => hb.cell (p := ⟨b, o, none⟩) (hz b hZ)) (fun ad hZ => hb.cell (hz _ hZ)) fun _ h => h
theorem RdT.grown {Z : Nat → Prop} {w w' : World} {row : Option Nat} {a : Option Addr} {t : Tys} {k : Nat} (h : RdT Z w a t k) (hg : w.grownBy w' row) (hz : ∀ b, Z b → b < w.heap.size ∧ row ≠ some b) : RdT Z w' a t k :=
  h.frame (fun b o hZ => World.cell?_of_block (hg.block b (hz b hZ).1 (fun e => (hz b hZ).2 e.symm))) (fun ad hZ => World.cell?_of_block (hg.block _ (hz _ hZ).1 (fun e => (hz _ hZ).2 e.symm))) fun _ h => h
theorem RdT.drew {Z : Nat → Prop} {w : World} {a : Option Addr} {t : Tys} {k : Nat} (h : RdT Z w a t k) : RdT Z w.drew a t k := h.frame (w := w) (w' := w.drew) (fun _ _ _ => rfl) (fun _ _ => rfl) fun _ h => h
theorem RdT.drewN {Z : Nat → Prop} {w : World} {a : Option Addr} {t : Tys} {k : Nat} (h : RdT Z w a t k) (n : Nat) : RdT Z (w.drewN n) a t k := h.frame (w := w) (w' := w.drewN n) (fun _ _ _ => rfl) (fun _ _ => rfl) fun _ h => h
/-- The cells of a row of the call's own: each type's own row lies in blocks of Z. -/
def RowT (Z : Nat → Prop) (w : World) : List Value → List Ty → Prop
  | vs, [] => vs = []
  | vs, x :: l => ∃ a2 c2 r, vs = [.int .i64 x.kd, .int .i64 x.n, .string x.nm, .slice a2 x.args.len c2] ++ r ∧ x.nm.size ≤ 9223372036854775807 ∧ x.args.len * 56 ≤ 140737488355328 ∧ RdT Z w a2 x.args 0 ∧ RowT Z w r l
theorem RowT.frame {Z Z' : Nat → Prop} {w w' : World} (hc : ∀ b o, Z b → w'.cell? ⟨b, o, none⟩ = w.cell? ⟨b, o, none⟩) (ha : ∀ ad : Addr, Z ad.block → w'.cell? ad = w.cell? ad) (hz : ∀ b, Z b → Z' b) : ∀ {vs : List Value} {l : List Ty}, RowT Z w vs l → RowT Z' w' vs l
  | _, [], h => h
  | vs, x :: l, ⟨a2, c2, r, h1, h2, h3, h4, h5⟩ => ⟨a2, c2, r, h1, h2, h3, h4.frame hc ha hz, RowT.frame hc ha hz h5⟩
theorem RowT.mono {Z Z' : Nat → Prop} {w : World} {vs : List Value} {l : List Ty} (h : RowT Z w vs l) (hz : ∀ b, Z b → Z' b) : RowT Z' w vs l := h.frame (fun _ _ _ => rfl) (fun _ _ => rfl) hz
theorem RowT.below {Z : Nat → Prop} {B : Nat} {w w' : World} {vs : List Value} {l : List Ty} (h : RowT Z w vs l) (hb : Below B w w') (hz : ∀ b, Z b → b < B) : RowT Z w' vs l :=
  h.frame (fun b o hZ => hb.cell (p := ⟨b, o, none⟩) (hz b hZ)) (fun ad hZ => hb.cell (hz _ hZ)) fun _ h => h
theorem RowT.grown {Z : Nat → Prop} {w w' : World} {row : Option Nat} {vs : List Value} {l : List Ty} (h : RowT Z w vs l) (hg : w.grownBy w' row) (hz : ∀ b, Z b → b < w.heap.size ∧ row ≠ some b) : RowT Z w' vs l :=
  h.frame (fun b o hZ => World.cell?_of_block (hg.block b (hz b hZ).1 (fun e => (hz b hZ).2 e.symm))) (fun ad hZ => World.cell?_of_block (hg.block _ (hz _ hZ).1 (fun e => (hz _ hZ).2 e.symm))) fun _ h => h
theorem RowT.len {Z : Nat → Prop} {w : World} : ∀ {vs : List Value} {l : List Ty}, RowT Z w vs l → vs.length = l.length * 4
  | vs, [], h => by rw [show vs = [] from h]; rfl
  | vs, x :: l, ⟨a2, c2, r, h1, _, _, _, h5⟩ => by
    rw [h1, List.length_append, RowT.len h5, List.length_cons]
    simp; omega
theorem RowT.snoc {Z : Nat → Prop} {w : World} {x : Ty} {a2 : Option Addr} {c2 : Nat} (h2 : x.nm.size ≤ 9223372036854775807) (h3 : x.args.len * 56 ≤ 140737488355328) (h4 : RdT Z w a2 x.args 0) : ∀ {vs : List Value} {l : List Ty}, RowT Z w vs l → RowT Z w (vs ++ [.int .i64 x.kd, .int .i64 x.n, .string x.nm, .slice a2 x.args.len c2]) (l ++ [x])
  | vs, [], h => by rw [show vs = [] from h]; exact ⟨a2, c2, [], rfl, h2, h3, h4, rfl⟩
  | vs, y :: l, ⟨b2, d2, r, k1, k2, k3, k4, k5⟩ => by
    subst k1
    exact ⟨b2, d2, r ++ [.int .i64 x.kd, .int .i64 x.n, .string x.nm, .slice a2 x.args.len c2], List.append_assoc _ _ _, k2, k3, k4, RowT.snoc h2 h3 h4 k5⟩
theorem RowT.get {Z : Nat → Prop} {w : World} : ∀ {vs : List Value} {l : List Ty}, RowT Z w vs l → ∀ (i : Nat) (x : Ty), l[i]? = some x →
    ∃ a2 c2, vs[i * 4]? = some (.int .i64 x.kd) ∧ vs[i * 4 + 1]? = some (.int .i64 x.n) ∧ vs[i * 4 + 2]? = some (.string x.nm) ∧ vs[i * 4 + 3]? = some (.slice a2 x.args.len c2) ∧ x.nm.size ≤ 9223372036854775807 ∧ x.args.len * 56 ≤ 140737488355328 ∧ RdT Z w a2 x.args 0
  | vs, [], h, i, x, hx => by simp at hx
  | vs, y :: l, ⟨b2, d2, r, k1, k2, k3, k4, k5⟩, 0, x, hx => by
    simp at hx
    subst hx
    subst k1
    exact ⟨b2, d2, rfl, rfl, rfl, rfl, k2, k3, k4⟩
  | vs, y :: l, ⟨b2, d2, r, k1, k2, k3, k4, k5⟩, i + 1, x, hx => by
    obtain ⟨a2, c2, g0, g1, g2, g3, g4⟩ := RowT.get k5 i x (by simpa using hx)
    subst k1
    refine ⟨a2, c2, ?_, ?_, ?_, ?_, g4⟩
    · rw [show (i + 1) * 4 = i * 4 + 4 by omega]; exact g0
    · rw [show (i + 1) * 4 + 1 = i * 4 + 1 + 4 by omega]; exact g1
    · rw [show (i + 1) * 4 + 2 = i * 4 + 2 + 4 by omega]; exact g2
    · rw [show (i + 1) * 4 + 3 = i * 4 + 3 + 4 by omega]; exact g3
/-- block b holds cells of a type's own -/
def TyB (e : TypeId) (w : World) (b : Nat) : Prop := ∃ cs, w.heap[b]? = some (.cells cs e (0, 0))
theorem TyB.lt {e : TypeId} {w : World} {b : Nat} (h : TyB e w b) : b < w.heap.size := by
  obtain ⟨cs, h⟩ := h
  exact lt_of_block h
theorem TyB.same {e : TypeId} {w w' : World} {b : Nat} (h : TyB e w b) (hb : w'.heap[b]? = w.heap[b]?) : TyB e w' b := by
  obtain ⟨cs, h⟩ := h
  exact ⟨cs, hb.trans h⟩
theorem TyB.below {e : TypeId} {w w' : World} {b : Nat} (h : TyB e w b) (hb : Below w.heap.size w w') : TyB e w' b := h.same (hb.block b h.lt)
/-- A row of types of the call's own, in blocks from B on. -/
def OwnT (B : Nat) (e : TypeId) (w : World) (v : Value) (l : List Ty) : Prop :=
  ∃ vs, w.ownsRow B e 4 v l.length vs ∧ RowT (fun b => B ≤ b ∧ TyB e w b ∧ v.ownBlock ≠ some b) w vs l
theorem OwnT.nil (B : Nat) (e : TypeId) (w : World) : OwnT B e w (.slice none 0 0) [] := ⟨[], World.ownsRow_nil _ _ _ _, rfl⟩
theorem OwnT.slice {B : Nat} {e : TypeId} {w : World} {v : Value} {l : List Ty} (h : OwnT B e w v l) : ∃ a c, v = .slice a l.length c := by
  obtain ⟨vs, h1, _⟩ := h
  exact own_slice h1
theorem OwnT.here {B : Nat} {e : TypeId} {w w' : World} {v : Value} {l : List Ty} (h : OwnT B e w v l) (hb : Below w.heap.size w w') : OwnT B e w' v l := by
  obtain ⟨vs, h1, h2⟩ := h
  exact ⟨vs, own_here h1 hb, (h2.below hb fun b hZ => hZ.2.1.lt).mono fun b hZ => ⟨hZ.1, hZ.2.1.below hb, hZ.2.2⟩⟩
theorem OwnT.base {B B' : Nat} {e : TypeId} {w : World} {v : Value} {l : List Ty} (h : OwnT B e w v l) (hB : B' ≤ B) : OwnT B' e w v l := by
  obtain ⟨vs, h1, h2⟩ := h
  exact ⟨vs, own_base h1 hB, h2.mono fun b hZ => ⟨Nat.le_trans hB hZ.1, hZ.2⟩⟩
theorem OwnT.reads {B : Nat} {e : TypeId} {w : World} {a : Option Addr} {n c : Nat} {l : List Ty} (h : OwnT B e w (.slice a n c) l) : RdT (fun b => B ≤ b ∧ TyB e w b) w a (Tys.ofL l) 0 := by
  obtain ⟨vs, h1, h2⟩ := h
  refine RdT.mk fun i x hx => ?_
  rw [Tys.toL_ofL] at hx
  have hi : i < l.length := (List.getElem?_eq_some_iff.1 hx).1
  obtain ⟨b, d, hv⟩ := own_slice h1
  injection hv with e1 e2 e3
  subst e1 e2
  obtain ⟨g, rfl, hg1, hg2, _, hc⟩ := own_at h1 (by omega)
  obtain ⟨cur, hcur⟩ := own_block h1
  obtain ⟨a2, c2, g0, g1, g2, g3, g4, g5, g6⟩ := h2.get i x hx
  have hadd : ((⟨g, 0, none⟩ : Addr).add ((0 + i) * 4)) = ⟨g, i * 4, none⟩ := by
    rw [Nat.zero_add]
    simp [Addr.add]
    try (intro e; omega)
  refine ⟨⟨g, 0, none⟩, a2, c2, rfl, ⟨hg1, cur, hcur⟩, ?_, ?_, ?_, ?_, g4, g5, g6.mono fun b hZ => ⟨hZ.1, hZ.2.1⟩⟩
  · rw [hadd, hc _ (by omega)]; exact g0
  · rw [hadd]; show w.cell? ⟨g, i * 4 + 1, none⟩ = _; rw [hc _ (by omega)]; exact g1
  · rw [hadd]; show w.cell? ⟨g, i * 4 + 2, none⟩ = _; rw [hc _ (by omega)]; exact g2
  · rw [hadd]; show w.cell? ⟨g, i * 4 + 3, none⟩ = _; rw [hc _ (by omega)]; exact g3
/-- one more type behind a row of the call's own: the append, in a world in which the new type's own row has been made behind it -/
theorem OwnT.more {B : Nat} {e : TypeId} {w w' : World} {v v' : Value} {l : List Ty} {x : Ty} {vs : List Value} {a2 : Option Addr} {c2 : Nat} {o : Obj}
    (hr : RowT (fun b => B ≤ b ∧ TyB e w b ∧ v.ownBlock ≠ some b) w vs l) (hB : B ≤ w.heap.size)
    (h2 : x.nm.size ≤ 9223372036854775807) (h3 : x.args.len * 56 ≤ 140737488355328) (h4 : RdT (fun b => B ≤ b ∧ TyB e w b ∧ v.ownBlock ≠ some b) w a2 x.args 0)
    (hown : w'.ownsRow B e 4 v' (l.length + 1) (vs ++ [.int .i64 x.kd, .int .i64 x.n, .string x.nm, .slice a2 x.args.len c2])) (hg : (w.alloc o).grownBy w' v.ownBlock) (hat : v'.ownBlock = v.ownBlock ∨ v'.ownBlock = some (w.alloc o).heap.size) :
    OwnT B e w' v' (l ++ [x]) := by
  refine ⟨_, by rwa [List.length_append, List.length_singleton], ?_⟩
  have hs := RowT.snoc (c2 := c2) h2 h3 h4 hr
  have hA := hs.below ((Below.refl w.heap.size w).alloc (Nat.le_refl _) o) (fun b hZ => hZ.2.1.lt)
  have hsz : (w.alloc o).heap.size = w.heap.size + 1 := by simp
  refine (hA.grown hg (fun b hZ => ⟨by rw [hsz]; have := hZ.2.1.lt; omega, hZ.2.2⟩)).mono fun b hZ => ⟨hZ.1, ?_, ?_⟩
  · have hlt := hZ.2.1.lt
    exact hZ.2.1.same ((hg.block b (by rw [hsz]; omega) (fun e => hZ.2.2 e.symm)).trans (Below.heap_alloc w o b hlt))
  · have hlt := hZ.2.1.lt
    rcases hat with q | q
    · rw [q]; exact hZ.2.2
    · rw [q, hsz]
      intro e
      injection e with e
      omega
end Go.Proofs.Ytbkklnihgejeoaa.Tm
