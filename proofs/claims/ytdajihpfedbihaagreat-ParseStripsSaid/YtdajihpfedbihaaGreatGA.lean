/-
  WORDS ON MEMORY: a block that is known whole; rows that the call owns, cut, kept beside stores elsewhere. No program in sight.
-/
import Derived.WalkKit
import Derived.ProofKit
import Derived.Lib.Hide
import Derived.Below
import Derived.Laws.OwnMore
import Derived.OneCell
import Derived.Deep.Draws
import Derived.BigQuiet
import Derived.StillTail
import Derived.Maps.Own
import Derived.Maps.OwnOps
import Derived.Maps.OwnSet
import Derived.Maps.Views
namespace Go.Proofs.YtdajihpfedbihaaGreat.Mm
open Go.RowKit
set_option linter.unusedVariables false

/-- block g holds just these cells, none of which is frozen -/
def Box (w : World) (g : Nat) (t : TypeId) (cs : Array Value) : Prop := w.heap[g]? = some (.cells cs t (0, 0))
section
variable {w w' : World} {g : Nat} {t : TypeId} {cs : Array Value}
theorem Box.lt (h : Box w g t cs) : g < w.heap.size := lt_of_block h
theorem Box.cell (h : Box w g t cs) (j : Nat) : w.cell? ⟨g, j, none⟩ = cs[j]? := cell_of_row w g j cs t (0, 0) h
theorem Box.free (h : Box w g t cs) (j : Nat) : w.frozen? ⟨g, j, none⟩ = false := frozen_of_row w g j cs t h
theorem Box.new (w : World) (cs : Array Value) (t : TypeId) : Box (w.alloc (.cells cs t)) w.heap.size t cs := heap_alloc_new w _
theorem Box.alloc (h : Box w g t cs) (o : Obj) : Box (w.alloc o) g t cs := (Below.heap_alloc w o g h.lt).trans h
theorem Box.drew (h : Box w g t cs) : Box w.drew g t cs := h
theorem Box.drewN (h : Box w g t cs) (n : Nat) : Box (w.drewN n) g t cs := h
theorem Box.far (h : Box w g t cs) {a : Addr} (ha : a.block ≠ g) (u : Value) : Box (w.setCell a u) g t cs := (heap_setCell_other w a g u (fun e => ha e.symm)).trans h
theorem Box.put (h : Box w g t cs) (i : Nat) (u : Value) : Box (w.setCell ⟨g, i, none⟩ u) g t (cs.setIfInBounds i u) := heap_setCell_same w g i cs t u h
theorem Box.below {B : Nat} (h : Box w g t cs) (hb : Below B w w') (hg : g < B) : Box w' g t cs := (hb.block g hg).trans h
theorem Box.grown {row : Option Nat} (h : Box w g t cs) (hb : w.grownBy w' row) (hg : some g ≠ row) : Box w' g t cs := (hb.block g h.lt hg).trans h
theorem Box.same {t' : TypeId} {cs' : Array Value} (h : Box w g t cs) (h' : Box w g t' cs') : t = t' := by
  unfold Box at h h'
  rw [h] at h'
  injection h' with h'
  injection h' with _ ht
end
section
variable {w w' : World} {B : Nat} {e : TypeId} {size n : Nat} {v : Value} {xs : List Value}
theorem own_form {m : Nat} (h : w.ownsRow B e size v (m + 1) xs) : ∃ g c, v = .slice (some ⟨g, 0, none⟩) (m + 1) c ∧ B ≤ g ∧ g < w.heap.size ∧ m + 1 ≤ c := by
  have hx := h
  rcases h.2 with ⟨_, hn⟩ | ⟨g, cap, cur, rfl, hg, hh, hc, _⟩
  · cases hn
  · exact ⟨g, cap, rfl, hg, lt_of_block hh, hc⟩
theorem own_at {b : Option Addr} {c : Nat} (h : w.ownsRow B e size (.slice b n c) n xs) (hn : 0 < n) : ∃ g, b = some ⟨g, 0, none⟩ ∧ B ≤ g ∧ g < w.heap.size ∧ n ≤ c ∧ ∀ j, j < n * size → w.cell? ⟨g, j, none⟩ = xs[j]? := by
  obtain ⟨m, rfl⟩ : ∃ m, n = m + 1 := ⟨n - 1, by omega⟩
  obtain ⟨g, c', hv, h1, h2, h3⟩ := own_form h
  injection hv with hb _ hc
  subst hb
  subst hc
  exact ⟨g, rfl, h1, h2, h3, fun j hj => World.ownsRow.cellAt h j hj⟩
theorem own_slice (h : w.ownsRow B e size v n xs) : ∃ b c, v = .slice b n c := by
  rcases h.2 with ⟨rfl, rfl⟩ | ⟨g, cap, cur, rfl, _⟩
  · exact ⟨_, _, rfl⟩
  · exact ⟨_, _, rfl⟩
/-- a row cut behind some of its elements -/
theorem own_cut {g c m : Nat} (h : w.ownsRow B e size (.slice (some ⟨g, 0, none⟩) n c) n xs) (hm : m ≤ n) : w.ownsRow B e size (.slice (some ⟨g, 0, none⟩) m c) m (xs.take (m * size)) := by
  rcases h.2 with ⟨h', _⟩ | ⟨g', cap', cur, h', hb, hg, hnc, hcm, hcs, htake⟩
  · simp at h'
  · simp only [Value.slice.injEq, Option.some.injEq, Addr.mk.injEq, and_true, true_and] at h'
    obtain ⟨rfl, rfl⟩ := h'
    have hle : m * size ≤ n * size := Nat.mul_le_mul_right _ hm
    refine ⟨by rw [List.length_take, h.1]; omega, .inr ⟨g, c, cur, rfl, hb, hg, by omega, hcm, hcs, ?_⟩⟩
    rw [← htake, List.take_take, Nat.min_eq_left hle]
theorem own_below {B' : Nat} (h : w.ownsRow B e size v n xs) (hb : Below B' w w') (hl : ∀ g, v.ownBlock = some g → g < B') : w'.ownsRow B e size v n xs := by
  refine ⟨h.1, ?_⟩
  rcases h.2 with h2 | ⟨g, cap, cur, rfl, hg, hh, r⟩
  · exact .inl h2
  · exact .inr ⟨g, cap, cur, rfl, hg, by rw [hb.block g (hl g rfl)]; exact hh, r⟩
theorem own_here (h : w.ownsRow B e size v n xs) (hb : Below w.heap.size w w') : w'.ownsRow B e size v n xs := own_below h hb fun g hg => (h.lt g hg).2
theorem own_base {B' : Nat} (h : w.ownsRow B e size v n xs) (hB : B' ≤ B) : w.ownsRow B' e size v n xs := by
  refine ⟨h.1, ?_⟩
  rcases h.2 with h2 | ⟨g, cap, cur, rfl, hg, r⟩
  · exact .inl h2
  · exact .inr ⟨g, cap, cur, rfl, by omega, r⟩
theorem own_drew (h : w.ownsRow B e size v n xs) : w.drew.ownsRow B e size v n xs := h
theorem own_drewN (h : w.ownsRow B e size v n xs) (k : Nat) : (w.drewN k).ownsRow B e size v n xs := h
/-- the block of a row that is owned -/
theorem own_block {g c : Nat} (h : w.ownsRow B e size (.slice (some ⟨g, 0, none⟩) n c) n xs) : ∃ cur, Box w g e cur := by
  rcases h.2 with ⟨h', _⟩ | ⟨g', cap', cur, h', hb, hg, _⟩
  · simp at h'
  · simp only [Value.slice.injEq, Option.some.injEq, Addr.mk.injEq, and_true, true_and] at h'
    obtain ⟨rfl, rfl⟩ := h'
    exact ⟨cur, hg⟩
theorem own_far {g : Nat} {t : TypeId} {cs : Array Value} (h : w.ownsRow B e size v n xs) (hx : Box w g t cs) (hne : e ≠ t) (j : Nat) (u : Value) : (w.setCell ⟨g, j, none⟩ u).ownsRow B e size v n xs := by
  refine ownsRow_setCell_other h ?_ u
  intro hv
  rcases h.2 with ⟨rfl, _⟩ | ⟨g', cap, cur, rfl, _, hh, _⟩
  · simp [Value.ownBlock] at hv
  · obtain rfl : g' = g := by simpa [Value.ownBlock] using hv
    exact hne (Box.same hh hx)
theorem own_ne {g : Nat} {t : TypeId} {cs : Array Value} (h : w.ownsRow B e size v n xs) (hx : Box w g t cs) (hne : e ≠ t) : some g ≠ v.ownBlock := by
  intro hv
  rcases h.2 with ⟨rfl, _⟩ | ⟨g', cap, cur, rfl, _, hh, _⟩
  · simp [Value.ownBlock] at hv
  · obtain rfl : g' = g := by simpa [Value.ownBlock] using hv.symm
    exact hne (Box.same hh hx)
end
end Go.Proofs.YtdajihpfedbihaaGreat.Mm
/-
  WORDS ON MEMORY: types (api.Type) that are read: rows of structs of four cells, the last one a row of the same kind. No program in sight.
-/
namespace Go.Proofs.YtdajihpfedbihaaGreat.Tm
open Go.RowKit Mm
set_option linter.unusedVariables false
/-- rows of types: the first one, what it is made of, the others -/
inductive Tys where
  | nil
  | cons (kd n : Int) (nm : ByteArray) (args rest : Tys)
/-- one type -/
structure Ty where
  kd : Int
  n : Int
  nm : ByteArray
  args : Tys
namespace Tys
def len : Tys → Nat
  | nil => 0
  | cons _ _ _ _ r => r.len + 1
def toL : Tys → List Ty
  | nil => []
  | cons k n m a r => ⟨k, n, m, a⟩ :: r.toL
def ofL : List Ty → Tys
  | [] => nil
  | x :: l => cons x.kd x.n x.nm x.args (ofL l)
theorem toL_len : ∀ t : Tys, t.toL.length = t.len
  | nil => rfl
  | cons _ _ _ _ r => by rw [toL, List.length_cons, toL_len r, len]
theorem toL_ofL : ∀ l : List Ty, (ofL l).toL = l
  | [] => rfl
  | x :: l => by rw [ofL, toL, toL_ofL l]
theorem len_ofL (l : List Ty) : (ofL l).len = l.length := by rw [← toL_len, toL_ofL]
end Tys
/-- The row of types that lies at a, from place k on, in blocks of Z. -/
def RdT (Z : Nat → Prop) (w : World) : Option Addr → Tys → Nat → Prop
  | _, .nil, _ => True
  | a, .cons kd n nm args rest, k =>
    (∃ ad a2 c2, a = some ad ∧ Z ad.block ∧ w.cell? (ad.add (k * 4)) = some (.int .i64 kd) ∧ w.cell? ⟨(ad.add (k * 4)).block, (ad.add (k * 4)).off + 1, none⟩ = some (.int .i64 n) ∧ w.cell? ⟨(ad.add (k * 4)).block, (ad.add (k * 4)).off + 2, none⟩ = some (.string nm) ∧
      w.cell? ⟨(ad.add (k * 4)).block, (ad.add (k * 4)).off + 3, none⟩ = some (.slice a2 args.len c2) ∧ nm.size ≤ 9223372036854775807 ∧ args.len * 56 ≤ 140737488355328 ∧ RdT Z w a2 args 0) ∧ RdT Z w a rest (k + 1)
/-- One type of a row. -/
def TyAt (Z : Nat → Prop) (w : World) (a : Option Addr) (k : Nat) (x : Ty) : Prop :=
  ∃ ad a2 c2, a = some ad ∧ Z ad.block ∧ w.cell? (ad.add (k * 4)) = some (.int .i64 x.kd) ∧ w.cell? ⟨(ad.add (k * 4)).block, (ad.add (k * 4)).off + 1, none⟩ = some (.int .i64 x.n) ∧ w.cell? ⟨(ad.add (k * 4)).block, (ad.add (k * 4)).off + 2, none⟩ = some (.string x.nm) ∧
      w.cell? ⟨(ad.add (k * 4)).block, (ad.add (k * 4)).off + 3, none⟩ = some (.slice a2 x.args.len c2) ∧ x.nm.size ≤ 9223372036854775807 ∧ x.args.len * 56 ≤ 140737488355328 ∧ RdT Z w a2 x.args 0
theorem add_block (a : Addr) (n : Nat) : (a.add n).block = a.block := by unfold Addr.add; split <;> rfl
theorem RdT.at_ {Z : Nat → Prop} {w : World} {a : Option Addr} : ∀ {t : Tys} {k : Nat}, RdT Z w a t k → ∀ (i : Nat) (x : Ty), t.toL[i]? = some x → TyAt Z w a (k + i) x
  | .nil, k, _, i, x, hx => by simp [Tys.toL] at hx
  | .cons kd n nm args rest, k, h, 0, x, hx => by
    simp [Tys.toL] at hx
    subst hx
    exact h.1
  | .cons kd n nm args rest, k, h, i + 1, x, hx => by
    have := RdT.at_ h.2 i x (by simpa [Tys.toL] using hx)
    rwa [show k + (i + 1) = k + 1 + i by omega]
theorem RdT.mk {Z : Nat → Prop} {w : World} {a : Option Addr} : ∀ {t : Tys} {k : Nat}, (∀ (i : Nat) (x : Ty), t.toL[i]? = some x → TyAt Z w a (k + i) x) → RdT Z w a t k
  | .nil, k, _ => trivial
  | .cons kd n nm args rest, k, h => ⟨h 0 ⟨kd, n, nm, args⟩ rfl, RdT.mk fun i x hx => by
    have := h (i + 1) x (by simpa [Tys.toL] using hx)
    rwa [show k + (i + 1) = k + 1 + i by omega] at this⟩
theorem RdT.frame {Z Z' : Nat → Prop} {w w' : World} (hc : ∀ b o, Z b → w'.cell? ⟨b, o, none⟩ = w.cell? ⟨b, o, none⟩) (ha : ∀ ad : Addr, Z ad.block → w'.cell? ad = w.cell? ad) (hz : ∀ b, Z b → Z' b) : ∀ {a : Option Addr} {t : Tys} {k : Nat}, RdT Z w a t k → RdT Z' w' a t k
  | _, .nil, _, _ => trivial
  | a, .cons kd n nm args rest, k, ⟨⟨ad, a2, c2, h1, h2, h3, h4, h5, h6, h7, h8, h9⟩, hr⟩ =>
    ⟨⟨ad, a2, c2, h1, hz _ h2, by rw [ha _ (by rw [add_block]; exact h2)]; exact h3, by rw [hc _ _ (by rw [add_block]; exact h2)]; exact h4, by rw [hc _ _ (by rw [add_block]; exact h2)]; exact h5, by rw [hc _ _ (by rw [add_block]; exact h2)]; exact h6, h7, h8, RdT.frame hc ha hz h9⟩, RdT.frame hc ha hz hr⟩
theorem RdT.mono {Z Z' : Nat → Prop} {w : World} {a : Option Addr} {t : Tys} {k : Nat} (h : RdT Z w a t k) (hz : ∀ b, Z b → Z' b) : RdT Z' w a t k := h.frame (fun _ _ _ => rfl) (fun _ _ => rfl) hz
theorem RdT.below {Z : Nat → Prop} {B : Nat} {w w' : World} {a : Option Addr} {t : Tys} {k : Nat} (h : RdT Z w a t k) (hb : Below B w w') (hz : ∀ b, Z b → b < B) : RdT Z w' a t k :=
  h.frame (fun b o hZ => hb.cell (p := ⟨b, o, none⟩) (hz b hZ)) (fun ad hZ => hb.cell (hz _ hZ)) fun _ h => h
theorem RdT.grown {Z : Nat → Prop} {w w' : World} {row : Option Nat} {a : Option Addr} {t : Tys} {k : Nat} (h : RdT Z w a t k) (hg : w.grownBy w' row) (hz : ∀ b, Z b → b < w.heap.size ∧ row ≠ some b) : RdT Z w' a t k :=
  h.frame (fun b o hZ => World.cell?_of_block (hg.block b (hz b hZ).1 (fun e => (hz b hZ).2 e.symm))) (fun ad hZ => World.cell?_of_block (hg.block _ (hz _ hZ).1 (fun e => (hz _ hZ).2 e.symm))) fun _ h => h
theorem RdT.drew {Z : Nat → Prop} {w : World} {a : Option Addr} {t : Tys} {k : Nat} (h : RdT Z w a t k) : RdT Z w.drew a t k := h.frame (w := w) (w' := w.drew) (fun _ _ _ => rfl) (fun _ _ => rfl) fun _ h => h
theorem RdT.drewN {Z : Nat → Prop} {w : World} {a : Option Addr} {t : Tys} {k : Nat} (h : RdT Z w a t k) (n : Nat) : RdT Z (w.drewN n) a t k := h.frame (w := w) (w' := w.drewN n) (fun _ _ _ => rfl) (fun _ _ => rfl) fun _ h => h
/-- The cells of a row of the call's own: each type's own row lies in blocks of Z. -/
def RowT (Z : Nat → Prop) (w : World) : List Value → List Ty → Prop
  | vs, [] => vs = []
  | vs, x :: l => ∃ a2 c2 r, vs = [.int .i64 x.kd, .int .i64 x.n, .string x.nm, .slice a2 x.args.len c2] ++ r ∧ x.nm.size ≤ 9223372036854775807 ∧ x.args.len * 56 ≤ 140737488355328 ∧ RdT Z w a2 x.args 0 ∧ RowT Z w r l
theorem RowT.frame {Z Z' : Nat → Prop} {w w' : World} (hc : ∀ b o, Z b → w'.cell? ⟨b, o, none⟩ = w.cell? ⟨b, o, none⟩) (ha : ∀ ad : Addr, Z ad.block → w'.cell? ad = w.cell? ad) (hz : ∀ b, Z b → Z' b) : ∀ {vs : List Value} {l : List Ty}, RowT Z w vs l → RowT Z' w' vs l
  | _, [], h => h
  | vs, x :: l, ⟨a2, c2, r, h1, h2, h3, h4, h5⟩ => ⟨a2, c2, r, h1, h2, h3, h4.frame hc ha hz, RowT.frame hc ha hz h5⟩
theorem RowT.mono {Z Z' : Nat → Prop} {w : World} {vs : List Value} {l : List Ty} (h : RowT Z w vs l) (hz : ∀ b, Z b → Z' b) : RowT Z' w vs l := h.frame (fun _ _ _ => rfl) (fun _ _ => rfl) hz
theorem RowT.below {Z : Nat → Prop} {B : Nat} {w w' : World} {vs : List Value} {l : List Ty} (h : RowT Z w vs l) (hb : Below B w w') (hz : ∀ b, Z b → b < B) : RowT Z w' vs l :=
  h.frame (fun b o hZ => hb.cell (p := ⟨b, o, none⟩) (hz b hZ)) (fun ad hZ => hb.cell (hz _ hZ)) fun _ h => h
theorem RowT.grown {Z : Nat → Prop} {w w' : World} {row : Option Nat} {vs : List Value} {l : List Ty} (h : RowT Z w vs l) (hg : w.grownBy w' row) (hz : ∀ b, Z b → b < w.heap.size ∧ row ≠ some b) : RowT Z w' vs l :=
  h.frame (fun b o hZ => World.cell?_of_block (hg.block b (hz b hZ).1 (fun e => (hz b hZ).2 e.symm))) (fun ad hZ => World.cell?_of_block (hg.block _ (hz _ hZ).1 (fun e => (hz _ hZ).2 e.symm))) fun _ h => h
theorem RowT.len {Z : Nat → Prop} {w : World} : ∀ {vs : List Value} {l : List Ty}, RowT Z w vs l → vs.length = l.length * 4
  | vs, [], h => by rw [show vs = [] from h]; rfl
  | vs, x :: l, ⟨a2, c2, r, h1, _, _, _, h5⟩ => by
    rw [h1, List.length_append, RowT.len h5, List.length_cons]
    simp; omega
theorem RowT.snoc {Z : Nat → Prop} {w : World} {x : Ty} {a2 : Option Addr} {c2 : Nat} (h2 : x.nm.size ≤ 9223372036854775807) (h3 : x.args.len * 56 ≤ 140737488355328) (h4 : RdT Z w a2 x.args 0) : ∀ {vs : List Value} {l : List Ty}, RowT Z w vs l → RowT Z w (vs ++ [.int .i64 x.kd, .int .i64 x.n, .string x.nm, .slice a2 x.args.len c2]) (l ++ [x])
  | vs, [], h => by rw [show vs = [] from h]; exact ⟨a2, c2, [], rfl, h2, h3, h4, rfl⟩
  | vs, y :: l, ⟨b2, d2, r, k1, k2, k3, k4, k5⟩ => by
    subst k1
    exact ⟨b2, d2, r ++ [.int .i64 x.kd, .int .i64 x.n, .string x.nm, .slice a2 x.args.len c2], List.append_assoc _ _ _, k2, k3, k4, RowT.snoc h2 h3 h4 k5⟩
theorem RowT.get {Z : Nat → Prop} {w : World} : ∀ {vs : List Value} {l : List Ty}, RowT Z w vs l → ∀ (i : Nat) (x : Ty), l[i]? = some x →
    ∃ a2 c2, vs[i * 4]? = some (.int .i64 x.kd) ∧ vs[i * 4 + 1]? = some (.int .i64 x.n) ∧ vs[i * 4 + 2]? = some (.string x.nm) ∧ vs[i * 4 + 3]? = some (.slice a2 x.args.len c2) ∧ x.nm.size ≤ 9223372036854775807 ∧ x.args.len * 56 ≤ 140737488355328 ∧ RdT Z w a2 x.args 0
  | vs, [], h, i, x, hx => by simp at hx
  | vs, y :: l, ⟨b2, d2, r, k1, k2, k3, k4, k5⟩, 0, x, hx => by
    simp at hx
    subst hx
    subst k1
    exact ⟨b2, d2, rfl, rfl, rfl, rfl, k2, k3, k4⟩
  | vs, y :: l, ⟨b2, d2, r, k1, k2, k3, k4, k5⟩, i + 1, x, hx => by
    obtain ⟨a2, c2, g0, g1, g2, g3, g4⟩ := RowT.get k5 i x (by simpa using hx)
    subst k1
    refine ⟨a2, c2, ?_, ?_, ?_, ?_, g4⟩
    · rw [show (i + 1) * 4 = i * 4 + 4 by omega]; exact g0
    · rw [show (i + 1) * 4 + 1 = i * 4 + 1 + 4 by omega]; exact g1
    · rw [show (i + 1) * 4 + 2 = i * 4 + 2 + 4 by omega]; exact g2
    · rw [show (i + 1) * 4 + 3 = i * 4 + 3 + 4 by omega]; exact g3
/-- block b holds cells of a type's own -/
def TyB (e : TypeId) (w : World) (b : Nat) : Prop := ∃ cs, w.heap[b]? = some (.cells cs e (0, 0))
theorem TyB.lt {e : TypeId} {w : World} {b : Nat} (h : TyB e w b) : b < w.heap.size := by
  obtain ⟨cs, h⟩ := h
  exact lt_of_block h
theorem TyB.same {e : TypeId} {w w' : World} {b : Nat} (h : TyB e w b) (hb : w'.heap[b]? = w.heap[b]?) : TyB e w' b := by
  obtain ⟨cs, h⟩ := h
  exact ⟨cs, hb.trans h⟩
theorem TyB.below {e : TypeId} {w w' : World} {b : Nat} (h : TyB e w b) (hb : Below w.heap.size w w') : TyB e w' b := h.same (hb.block b h.lt)
/-- A row of types of the call's own, in blocks from B on. -/
def OwnT (B : Nat) (e : TypeId) (w : World) (v : Value) (l : List Ty) : Prop :=
  ∃ vs, w.ownsRow B e 4 v l.length vs ∧ RowT (fun b => B ≤ b ∧ TyB e w b ∧ v.ownBlock ≠ some b) w vs l
theorem OwnT.nil (B : Nat) (e : TypeId) (w : World) : OwnT B e w (.slice none 0 0) [] := ⟨[], World.ownsRow_nil _ _ _ _, rfl⟩
theorem OwnT.slice {B : Nat} {e : TypeId} {w : World} {v : Value} {l : List Ty} (h : OwnT B e w v l) : ∃ a c, v = .slice a l.length c := by
  obtain ⟨vs, h1, _⟩ := h
  exact own_slice h1
theorem OwnT.here {B : Nat} {e : TypeId} {w w' : World} {v : Value} {l : List Ty} (h : OwnT B e w v l) (hb : Below w.heap.size w w') : OwnT B e w' v l := by
  obtain ⟨vs, h1, h2⟩ := h
  exact ⟨vs, own_here h1 hb, (h2.below hb fun b hZ => hZ.2.1.lt).mono fun b hZ => ⟨hZ.1, hZ.2.1.below hb, hZ.2.2⟩⟩
theorem OwnT.base {B B' : Nat} {e : TypeId} {w : World} {v : Value} {l : List Ty} (h : OwnT B e w v l) (hB : B' ≤ B) : OwnT B' e w v l := by
  obtain ⟨vs, h1, h2⟩ := h
  exact ⟨vs, own_base h1 hB, h2.mono fun b hZ => ⟨Nat.le_trans hB hZ.1, hZ.2⟩⟩
theorem OwnT.reads {B : Nat} {e : TypeId} {w : World} {a : Option Addr} {n c : Nat} {l : List Ty} (h : OwnT B e w (.slice a n c) l) : RdT (fun b => B ≤ b ∧ TyB e w b) w a (Tys.ofL l) 0 := by
  obtain ⟨vs, h1, h2⟩ := h
  refine RdT.mk fun i x hx => ?_
  rw [Tys.toL_ofL] at hx
  have hi : i < l.length := (List.getElem?_eq_some_iff.1 hx).1
  obtain ⟨b, d, hv⟩ := own_slice h1
  injection hv with e1 e2 e3
  subst e1 e2
  obtain ⟨g, rfl, hg1, hg2, _, hc⟩ := own_at h1 (by omega)
  obtain ⟨cur, hcur⟩ := own_block h1
  obtain ⟨a2, c2, g0, g1, g2, g3, g4, g5, g6⟩ := h2.get i x hx
  have hadd : ((⟨g, 0, none⟩ : Addr).add ((0 + i) * 4)) = ⟨g, i * 4, none⟩ := by
    rw [Nat.zero_add]
    simp [Addr.add]
    try (intro e; omega)
  refine ⟨⟨g, 0, none⟩, a2, c2, rfl, ⟨hg1, cur, hcur⟩, ?_, ?_, ?_, ?_, g4, g5, g6.mono fun b hZ => ⟨hZ.1, hZ.2.1⟩⟩
  · rw [hadd, hc _ (by omega)]; exact g0
  · rw [hadd]; show w.cell? ⟨g, i * 4 + 1, none⟩ = _; rw [hc _ (by omega)]; exact g1
  · rw [hadd]; show w.cell? ⟨g, i * 4 + 2, none⟩ = _; rw [hc _ (by omega)]; exact g2
  · rw [hadd]; show w.cell? ⟨g, i * 4 + 3, none⟩ = _; rw [hc _ (by omega)]; exact g3
/-- one more type behind a row of the call's own: the append, in a world in which the new type's own row has been made behind it -/
theorem OwnT.more {B : Nat} {e : TypeId} {w w' : World} {v v' : Value} {l : List Ty} {x : Ty} {vs : List Value} {a2 : Option Addr} {c2 : Nat} {o : Obj}
    (hr : RowT (fun b => B ≤ b ∧ TyB e w b ∧ v.ownBlock ≠ some b) w vs l) (hB : B ≤ w.heap.size)
    (h2 : x.nm.size ≤ 9223372036854775807) (h3 : x.args.len * 56 ≤ 140737488355328) (h4 : RdT (fun b => B ≤ b ∧ TyB e w b ∧ v.ownBlock ≠ some b) w a2 x.args 0)
    (hown : w'.ownsRow B e 4 v' (l.length + 1) (vs ++ [.int .i64 x.kd, .int .i64 x.n, .string x.nm, .slice a2 x.args.len c2])) (hg : (w.alloc o).grownBy w' v.ownBlock) (hat : v'.ownBlock = v.ownBlock ∨ v'.ownBlock = some (w.alloc o).heap.size) :
    OwnT B e w' v' (l ++ [x]) := by
  refine ⟨_, by rwa [List.length_append, List.length_singleton], ?_⟩
  have hs := RowT.snoc (c2 := c2) h2 h3 h4 hr
  have hA := hs.below ((Below.refl w.heap.size w).alloc (Nat.le_refl _) o) (fun b hZ => hZ.2.1.lt)
  have hsz : (w.alloc o).heap.size = w.heap.size + 1 := by simp
  refine (hA.grown hg (fun b hZ => ⟨by rw [hsz]; have := hZ.2.1.lt; omega, hZ.2.2⟩)).mono fun b hZ => ⟨hZ.1, ?_, ?_⟩
  · have hlt := hZ.2.1.lt
    exact hZ.2.1.same ((hg.block b (by rw [hsz]; omega) (fun e => hZ.2.2 e.symm)).trans (Below.heap_alloc w o b hlt))
  · have hlt := hZ.2.1.lt
    rcases hat with q | q
    · rw [q]; exact hZ.2.2
    · rw [q, hsz]
      intro e
      injection e with e
      omega
end Go.Proofs.YtdajihpfedbihaaGreat.Tm
/-
  WORDS ON MEMORY: a struct's box of two, four, five cells: read, written as a whole. No program in sight.
-/
namespace Go.Proofs.YtdajihpfedbihaaGreat.Mm
open Go.RowKit
set_option linter.unusedVariables false
section
variable {w : World} {g : Nat} {t : TypeId} {a0 a1 a2 a3 a4 : Value}
/-- what a world keeps in which one block was written -/
structure Wrote (w W : World) (g : Nat) : Prop where
  size : W.heap.size = w.heap.size
  below : ∀ {B : Nat} {w0 : World}, Below B w0 w → B ≤ g → Below B w0 W
  cell : ∀ ad : Addr, ad.block ≠ g → W.cell? ad = w.cell? ad
  block : ∀ k, k ≠ g → W.heap[k]? = w.heap[k]?
theorem Wrote.refl (w : World) (g : Nat) : Wrote w w g := ⟨rfl, fun h _ => h, fun _ _ => rfl, fun _ _ => rfl⟩
theorem Wrote.set {W : World} (h : Wrote w W g) (j : Nat) (v : Value) : Wrote w (W.setCell ⟨g, j, none⟩ v) g :=
  ⟨by rw [World.size_setCell, h.size], fun hb hB => (h.below hb hB).setCell (p := ⟨g, j, none⟩) hB v, fun ad hne => (World.cell?_of_block (Below.heap_setCell W ⟨g, j, none⟩ v _ hne)).trans (h.cell ad hne), fun k hne => (Below.heap_setCell W ⟨g, j, none⟩ v k hne).trans (h.block k hne)⟩
theorem Box.wrote {w W : World} {g g' : Nat} {t : TypeId} {cs : Array Value} (h : Box w g t cs) (hw : Wrote w W g') (hne : g ≠ g') : Box W g t cs := (hw.block g hne).trans h
theorem Box.at_ {w : World} {k : Nat} (cs : Array Value) (t : TypeId) (hk : w.heap.size = k) : Box (w.alloc (.cells cs t)) k t cs := by subst hk; exact Box.new w cs t
end
end Go.Proofs.YtdajihpfedbihaaGreat.Mm
/-
  WORDS ON MEMORY for layer unify: what a call may turn; rows of numbers that are read or owned; rows of types of the call's own whose parts lie wherever they lie. No program in sight.
-/
namespace Go.Proofs.YtdajihpfedbihaaGreat.Tm
open Go.RowKit Mm
set_option linter.unusedVariables false
/-- From w to w' nothing turned but, perhaps, blocks of X; no block has gone. -/
structure Kept (X : Nat → Prop) (w w' : World) : Prop where
  os : w'.os = w.os
  tape : w'.tape = w.tape
  output : w'.output = w.output
  size : w.heap.size ≤ w'.heap.size
  block : ∀ k, k < w.heap.size → ¬ X k → w'.heap[k]? = w.heap[k]?
section
variable {X Y : Nat → Prop} {w w' w'' : World}
theorem Kept.refl (X : Nat → Prop) (w : World) : Kept X w w := ⟨rfl, rfl, rfl, Nat.le_refl _, fun _ _ _ => rfl⟩
theorem Kept.trans (h : Kept X w w') (k : Kept X w' w'') : Kept X w w'' :=
  ⟨k.os.trans h.os, k.tape.trans h.tape, k.output.trans h.output, Nat.le_trans h.size k.size, fun i hi hx => (k.block i (Nat.lt_of_lt_of_le hi h.size) hx).trans (h.block i hi hx)⟩
theorem Kept.mono (h : Kept X w w') (hx : ∀ k, k < w.heap.size → X k → Y k) : Kept Y w w' := ⟨h.os, h.tape, h.output, h.size, fun i hi hy => h.block i hi fun e => hy (hx i hi e)⟩
theorem Kept.below {B : Nat} (h : Kept X w w') (hB : B ≤ w.heap.size) (hx : ∀ k, X k → B ≤ k) : Below B w w' :=
  ⟨h.os, h.tape, h.output, h.size, fun k hk => h.block k (by omega) fun e => by have := hx k e; omega⟩
theorem Kept.of_below {B : Nat} (h : Below B w w') (hB : w.heap.size ≤ B) (X : Nat → Prop) : Kept X w w' := ⟨h.os, h.tape, h.output, h.size, fun k hk _ => h.block k (by omega)⟩
theorem Kept.alloc (h : Kept X w w') (o : Obj) : Kept X w (w'.alloc o) :=
  h.trans ⟨rfl, rfl, rfl, by simp, fun k hk _ => Below.heap_alloc _ _ _ hk⟩
theorem Kept.drew (h : Kept X w w') : Kept X w w'.drew := ⟨h.os, h.tape, h.output, h.size, h.block⟩
theorem Kept.setCell (h : Kept X w w') {a : Addr} (ha : a.block < w.heap.size → X a.block) (u : Value) : Kept X w (w'.setCell a u) :=
  ⟨h.os, h.tape, h.output, by simpa [World.setCell] using h.size, fun k hk hx => (Below.heap_setCell _ _ _ _ (fun e => hx (by subst e; exact ha hk))).trans (h.block k hk hx)⟩
theorem Kept.grown {row : Option Nat} (h : Kept X w w') (hg : w'.grownBy w'' row) (hr : ∀ k, row = some k → k < w.heap.size → X k) : Kept X w w'' :=
  ⟨hg.os.trans h.os, hg.tape.trans h.tape, hg.output.trans h.output, Nat.le_trans h.size hg.size, fun k hk hx => (hg.block k (Nat.lt_of_lt_of_le hk h.size) (fun e => hx (hr k e.symm hk))).trans (h.block k hk hx)⟩
theorem Kept.box {g : Nat} {t : TypeId} {cs : Array Value} (h : Kept X w w') (b : Box w g t cs) (hg : ¬ X g) : Box w' g t cs := (h.block g b.lt hg).trans b
theorem Kept.cell {a : Addr} {v : Value} (h : Kept X w w') (ha : w.cell? a = some v) (hx : ¬ X a.block) : w'.cell? a = some v :=
  (World.cell?_of_block (h.block a.block (World.block_lt_of_cell? w a ha) hx)).trans ha
/-- types that are read stay, where what may turn is none of theirs -/
theorem Kept.types {Z : Nat → Prop} (h : Kept X w w') {a : Option Addr} {t : Tys} {k : Nat} (hr : RdT Z w a t k) (hz : ∀ b, Z b → b < w.heap.size ∧ ¬ X b) : RdT Z w' a t k :=
  hr.frame (fun b o hZ => World.cell?_of_block (h.block b (hz b hZ).1 (hz b hZ).2)) (fun ad hZ => World.cell?_of_block (h.block ad.block (hz _ hZ).1 (hz _ hZ).2)) fun _ h => h
end
/-- A row of numbers that is read, in blocks of Z. -/
def RdI (Z : Nat → Prop) (w : World) (a : Option Addr) (l : List Int) : Prop := ∀ (i : Nat) (x : Int), l[i]? = some x → ∃ ad, a = some ad ∧ Z ad.block ∧ w.cell? (ad.add i) = some (.int .i64 x)
section
variable {Z Z' : Nat → Prop} {w w' : World} {a : Option Addr} {l : List Int}
theorem RdI.frame (h : RdI Z w a l) (ha : ∀ ad : Addr, Z ad.block → w'.cell? ad = w.cell? ad) (hz : ∀ b, Z b → Z' b) : RdI Z' w' a l := by
  intro i x hx
  obtain ⟨ad, h1, h2, h3⟩ := h i x hx
  exact ⟨ad, h1, hz _ h2, by rw [ha _ (by rw [add_block]; exact h2)]; exact h3⟩
theorem RdI.mono (h : RdI Z w a l) (hz : ∀ b, Z b → Z' b) : RdI Z' w a l := h.frame (fun _ _ => rfl) hz
theorem RdI.below {B : Nat} (h : RdI Z w a l) (hb : Below B w w') (hz : ∀ b, Z b → b < B) : RdI Z w' a l := h.frame (fun ad hZ => hb.cell (hz _ hZ)) fun _ h => h
theorem RdI.nil (Z : Nat → Prop) (w : World) (a : Option Addr) : RdI Z w a [] := fun i x hx => by simp at hx
theorem RdI.drew (h : RdI Z w a l) : RdI Z w.drew a l := h
end
/-- A row of numbers of the call's own. -/
def OwnI (B : Nat) (e : TypeId) (w : World) (v : Value) (l : List Int) : Prop := w.ownsRow B e 1 v l.length (l.map fun x => .int .i64 x)
theorem OwnI.nil (B : Nat) (e : TypeId) (w : World) : OwnI B e w (.slice none 0 0) [] := World.ownsRow_nil _ _ _ _
theorem OwnI.slice {B : Nat} {e : TypeId} {w : World} {v : Value} {l : List Int} (h : OwnI B e w v l) : ∃ a c, v = .slice a l.length c := own_slice h
theorem OwnI.here {B : Nat} {e : TypeId} {w w' : World} {v : Value} {l : List Int} (h : OwnI B e w v l) (hb : Below w.heap.size w w') : OwnI B e w' v l := own_here h hb
theorem OwnI.reads {B : Nat} {e : TypeId} {w : World} {a : Option Addr} {n c : Nat} {l : List Int} (h : OwnI B e w (.slice a n c) l) : RdI (fun b => B ≤ b ∧ b < w.heap.size) w a l := by
  intro i x hx
  have hi : i < l.length := (List.getElem?_eq_some_iff.1 hx).1
  obtain ⟨b, d, hv⟩ := own_slice h
  injection hv with e1 e2 e3
  subst e1 e2
  obtain ⟨g, rfl, hg1, hg2, _, hc⟩ := own_at h (by omega)
  refine ⟨⟨g, 0, none⟩, rfl, ⟨hg1, hg2⟩, ?_⟩
  have hadd : ((⟨g, 0, none⟩ : Addr).add i) = ⟨g, i, none⟩ := by
    simp [Addr.add]
    try (intro e; omega)
  rw [hadd, hc _ (by omega), List.getElem?_map, hx]
  rfl
/-- A row of types of the call's own, whose parts lie wherever they lie, but not in it. -/
def OwnA (B : Nat) (e : TypeId) (w : World) (v : Value) (l : List Ty) : Prop :=
  ∃ vs, w.ownsRow B e 4 v l.length vs ∧ RowT (fun b => b < w.heap.size ∧ v.ownBlock ≠ some b) w vs l
theorem OwnA.nil (B : Nat) (e : TypeId) (w : World) : OwnA B e w (.slice none 0 0) [] := ⟨[], World.ownsRow_nil _ _ _ _, rfl⟩
theorem OwnA.slice {B : Nat} {e : TypeId} {w : World} {v : Value} {l : List Ty} (h : OwnA B e w v l) : ∃ a c, v = .slice a l.length c := by
  obtain ⟨vs, h1, _⟩ := h
  exact own_slice h1
theorem OwnA.here {B : Nat} {e : TypeId} {w w' : World} {v : Value} {l : List Ty} (h : OwnA B e w v l) (hb : Below w.heap.size w w') : OwnA B e w' v l := by
  obtain ⟨vs, h1, h2⟩ := h
  exact ⟨vs, own_here h1 hb, (h2.below hb fun b hZ => hZ.1).mono fun b hZ => ⟨Nat.lt_of_lt_of_le hZ.1 hb.size, hZ.2⟩⟩
theorem OwnA.base {B B' : Nat} {e : TypeId} {w : World} {v : Value} {l : List Ty} (h : OwnA B e w v l) (hB : B' ≤ B) : OwnA B' e w v l := by
  obtain ⟨vs, h1, h2⟩ := h
  exact ⟨vs, own_base h1 hB, h2⟩
theorem OwnA.reads {B : Nat} {e : TypeId} {w : World} {a : Option Addr} {n c : Nat} {l : List Ty} (h : OwnA B e w (.slice a n c) l) : RdT (fun b => b < w.heap.size) w a (Tys.ofL l) 0 := by
  obtain ⟨vs, h1, h2⟩ := h
  refine RdT.mk fun i x hx => ?_
  rw [Tys.toL_ofL] at hx
  have hi : i < l.length := (List.getElem?_eq_some_iff.1 hx).1
  obtain ⟨b, d, hv⟩ := own_slice h1
  injection hv with e1 e2 e3
  subst e1 e2
  obtain ⟨g, rfl, hg1, hg2, _, hc⟩ := own_at h1 (by omega)
  obtain ⟨a2, c2, g0, g1, g2, g3, g4, g5, g6⟩ := h2.get i x hx
  have hadd : ((⟨g, 0, none⟩ : Addr).add ((0 + i) * 4)) = ⟨g, i * 4, none⟩ := by
    rw [Nat.zero_add]
    simp [Addr.add]
    try (intro e; omega)
  refine ⟨⟨g, 0, none⟩, a2, c2, rfl, hg2, ?_, ?_, ?_, ?_, g4, g5, g6.mono fun b hZ => hZ.1⟩
  · rw [hadd, hc _ (by omega)]; exact g0
  · rw [hadd]; show w.cell? ⟨g, i * 4 + 1, none⟩ = _; rw [hc _ (by omega)]; exact g1
  · rw [hadd]; show w.cell? ⟨g, i * 4 + 2, none⟩ = _; rw [hc _ (by omega)]; exact g2
  · rw [hadd]; show w.cell? ⟨g, i * 4 + 3, none⟩ = _; rw [hc _ (by omega)]; exact g3
/-- one more type behind a row of the call's own: the append -/
theorem OwnA.more {B : Nat} {e : TypeId} {w w' : World} {v v' : Value} {l : List Ty} {x : Ty} {vs : List Value} {a2 : Option Addr} {c2 : Nat} {o : Obj}
    (hr : RowT (fun b => b < w.heap.size ∧ v.ownBlock ≠ some b) w vs l)
    (h2 : x.nm.size ≤ 9223372036854775807) (h3 : x.args.len * 56 ≤ 140737488355328) (h4 : RdT (fun b => b < w.heap.size ∧ v.ownBlock ≠ some b) w a2 x.args 0)
    (hown : w'.ownsRow B e 4 v' (l.length + 1) (vs ++ [.int .i64 x.kd, .int .i64 x.n, .string x.nm, .slice a2 x.args.len c2])) (hg : (w.alloc o).grownBy w' v.ownBlock) (hat : v'.ownBlock = v.ownBlock ∨ v'.ownBlock = some (w.heap.size + 1)) :
    OwnA B e w' v' (l ++ [x]) := by
  refine ⟨_, by rwa [List.length_append, List.length_singleton], ?_⟩
  have hs := RowT.snoc (c2 := c2) h2 h3 h4 hr
  have hA := hs.below ((Below.refl w.heap.size w).alloc (Nat.le_refl _) o) (fun b hZ => hZ.1)
  have hsz : (w.alloc o).heap.size = w.heap.size + 1 := by simp
  have hgs := hg.size
  refine (hA.grown hg (fun b hZ => ⟨by rw [hsz]; have := hZ.1; omega, hZ.2⟩)).mono fun b hZ => ⟨?_, ?_⟩
  · have hlt := hZ.1
    omega
  · have hlt := hZ.1
    rcases hat with q | q
    · rw [q]; exact hZ.2
    · rw [q]
      intro e
      injection e with e
      omega
end Go.Proofs.YtdajihpfedbihaaGreat.Tm
/-
  WORDS ON MEMORY: a struct's box of seven, of nine cells: read, written as a whole. No program in sight.
-/
namespace Go.Proofs.YtdajihpfedbihaaGreat.Mm
open Go.RowKit
set_option linter.unusedVariables false
section
variable {w : World} {g : Nat} {t : TypeId} {a0 a1 a2 a3 a4 a5 a6 a7 a8 : Value}
theorem Box.cells7 (h : Box w g t #[a0, a1, a2, a3, a4, a5, a6]) : w.cell? ⟨g, 0, none⟩ = some a0 ∧ w.cell? ⟨g, 1, none⟩ = some a1 ∧ w.cell? ⟨g, 2, none⟩ = some a2 ∧ w.cell? ⟨g, 3, none⟩ = some a3 ∧ w.cell? ⟨g, 4, none⟩ = some a4 ∧ w.cell? ⟨g, 5, none⟩ = some a5 ∧ w.cell? ⟨g, 6, none⟩ = some a6 :=
  ⟨h.cell 0, h.cell 1, h.cell 2, h.cell 3, h.cell 4, h.cell 5, h.cell 6⟩
theorem Box.free7 (h : Box w g t #[a0, a1, a2, a3, a4, a5, a6]) : w.frozen? ⟨g, 0, none⟩ = false ∧ w.frozen? ⟨g, 1, none⟩ = false ∧ w.frozen? ⟨g, 2, none⟩ = false ∧ w.frozen? ⟨g, 3, none⟩ = false ∧ w.frozen? ⟨g, 4, none⟩ = false ∧ w.frozen? ⟨g, 5, none⟩ = false ∧ w.frozen? ⟨g, 6, none⟩ = false :=
  ⟨h.free 0, h.free 1, h.free 2, h.free 3, h.free 4, h.free 5, h.free 6⟩
theorem Box.cells9 (h : Box w g t #[a0, a1, a2, a3, a4, a5, a6, a7, a8]) : w.cell? ⟨g, 0, none⟩ = some a0 ∧ w.cell? ⟨g, 1, none⟩ = some a1 ∧ w.cell? ⟨g, 2, none⟩ = some a2 ∧ w.cell? ⟨g, 3, none⟩ = some a3 ∧ w.cell? ⟨g, 4, none⟩ = some a4 ∧ w.cell? ⟨g, 5, none⟩ = some a5 ∧ w.cell? ⟨g, 6, none⟩ = some a6 ∧ w.cell? ⟨g, 7, none⟩ = some a7 ∧ w.cell? ⟨g, 8, none⟩ = some a8 :=
  ⟨h.cell 0, h.cell 1, h.cell 2, h.cell 3, h.cell 4, h.cell 5, h.cell 6, h.cell 7, h.cell 8⟩
/-- the box, its cells written anew -/
theorem Box.write7 (h : Box w g t #[a0, a1, a2, a3, a4, a5, a6]) (v0 v1 v2 v3 v4 v5 v6 : Value) : ∃ W, (((((((w.setCell ⟨g, 0, none⟩ v0).setCell ⟨g, 1, none⟩ v1).setCell ⟨g, 2, none⟩ v2).setCell ⟨g, 3, none⟩ v3).setCell ⟨g, 4, none⟩ v4).setCell ⟨g, 5, none⟩ v5).setCell ⟨g, 6, none⟩ v6) = W ∧ Box W g t #[v0, v1, v2, v3, v4, v5, v6] ∧ Wrote w W g := by
  have h0 : Box _ g t #[v0, a1, a2, a3, a4, a5, a6] := h.put 0 v0
  have h1 : Box _ g t #[v0, v1, a2, a3, a4, a5, a6] := h0.put 1 v1
  have h2 : Box _ g t #[v0, v1, v2, a3, a4, a5, a6] := h1.put 2 v2
  have h3 : Box _ g t #[v0, v1, v2, v3, a4, a5, a6] := h2.put 3 v3
  have h4 : Box _ g t #[v0, v1, v2, v3, v4, a5, a6] := h3.put 4 v4
  have h5 : Box _ g t #[v0, v1, v2, v3, v4, v5, a6] := h4.put 5 v5
  have h6 : Box _ g t #[v0, v1, v2, v3, v4, v5, v6] := h5.put 6 v6
  exact ⟨_, rfl, h6, ((((((((Wrote.refl w g).set 0 v0).set 1 v1).set 2 v2).set 3 v3).set 4 v4).set 5 v5).set 6 v6)⟩
theorem Box.write9 (h : Box w g t #[a0, a1, a2, a3, a4, a5, a6, a7, a8]) (v0 v1 v2 v3 v4 v5 v6 v7 v8 : Value) : ∃ W, (((((((((w.setCell ⟨g, 0, none⟩ v0).setCell ⟨g, 1, none⟩ v1).setCell ⟨g, 2, none⟩ v2).setCell ⟨g, 3, none⟩ v3).setCell ⟨g, 4, none⟩ v4).setCell ⟨g, 5, none⟩ v5).setCell ⟨g, 6, none⟩ v6).setCell ⟨g, 7, none⟩ v7).setCell ⟨g, 8, none⟩ v8) = W ∧ Box W g t #[v0, v1, v2, v3, v4, v5, v6, v7, v8] ∧ Wrote w W g := by
  have h0 : Box _ g t #[v0, a1, a2, a3, a4, a5, a6, a7, a8] := h.put 0 v0
  have h1 : Box _ g t #[v0, v1, a2, a3, a4, a5, a6, a7, a8] := h0.put 1 v1
  have h2 : Box _ g t #[v0, v1, v2, a3, a4, a5, a6, a7, a8] := h1.put 2 v2
  have h3 : Box _ g t #[v0, v1, v2, v3, a4, a5, a6, a7, a8] := h2.put 3 v3
  have h4 : Box _ g t #[v0, v1, v2, v3, v4, a5, a6, a7, a8] := h3.put 4 v4
  have h5 : Box _ g t #[v0, v1, v2, v3, v4, v5, a6, a7, a8] := h4.put 5 v5
  have h6 : Box _ g t #[v0, v1, v2, v3, v4, v5, v6, a7, a8] := h5.put 6 v6
  have h7 : Box _ g t #[v0, v1, v2, v3, v4, v5, v6, v7, a8] := h6.put 7 v7
  have h8 : Box _ g t #[v0, v1, v2, v3, v4, v5, v6, v7, v8] := h7.put 8 v8
  exact ⟨_, rfl, h8, ((((((((((Wrote.refl w g).set 0 v0).set 1 v1).set 2 v2).set 3 v3).set 4 v4).set 5 v5).set 6 v6).set 7 v7).set 8 v8)⟩
end
end Go.Proofs.YtdajihpfedbihaaGreat.Mm
/-
  WORDS on a region that draws its order and ends in a writing call: the reads ahead of it, by the quiet walk's cheap steps. No program in sight.
-/
namespace Go.Proofs.YtdajihpfedbihaaGreat.Sq
open Go Go.RowKit
theorem still_of_quiet {P : Program} {ops : Array Oper} {w : World} {Q : Act → Prop} : ∀ (l : List Oper) (a : Act), wpQuiet P ops (fun w' => w' = w) Q l a → wpStill P ops w Q l a
  | [], _, h => h
  | o :: rest, a, h => by
    unfold wpQuiet at h
    unfold wpStill
    split
    · rename_i hw
      rw [if_pos hw] at h
      obtain ⟨v, h1, h2⟩ := h
      have h3 := h1 w rfl
      have h4 := still_of_quiet rest _ h2
      unfold Oper.quietAt at h3
      unfold Oper.still
      generalize (execOp a.eval o).run P w = r at h3 ⊢
      cases r with
      | ok n w' =>
        cases n <;> simp only [Oper.quietUpon] at h3 <;> simp only [Oper.stillUpon]
        case value u => exact ⟨h3.1, h3.2 ▸ h4⟩
        case skip => exact ⟨h3.1, h3.2 ▸ h4⟩
        case enter f args => exact ⟨h3.1, v, h3.1 ▸ h3.2, h4⟩
      | halt x w' => simp only [Oper.quietUpon] at h3
    · rename_i hw
      rw [if_neg hw] at h
      exact still_of_quiet rest _ h
/-- A region that draws: n reads, by the quiet walk, then its tail in its order. -/
theorem region_reads {P : Program} {id : Nat} {Q : Exit → Act → World → Prop} {a : Act} {w : World} {l : List Oper} (n : Nat) (hm : P.follows .mixedOrders = true) (hB : Region.lexTailB .any l.toArray n = true)
    (h : wpQuiet P l.toArray (fun w' => w' = w.drew) (fun a' => wpList P l.toArray Q (l.drop n) a' w.drew) (l.take n) a) : (Code.region id l.toArray true).wp P Q a w :=
  wp_region_still_tail n hm hB (still_of_quiet _ _ h)
end Go.Proofs.YtdajihpfedbihaaGreat.Sq
/-
  WORDS ON MEMORY: patterns (api.Pat) that are read: rows of structs of six cells, the fourth one a row of the same kind. No program in sight.
-/
namespace Go.Proofs.YtdajihpfedbihaaGreat.Pm
open Go.RowKit Mm Tm
set_option linter.unusedVariables false
/-- rows of types: the first one, what it is made of, the others -/
inductive Pts where
  | nil
  | cons (kd n : Int) (nm : ByteArray) (args : Pts) (ln col : Int) (rest : Pts)
/-- one type -/
structure Pt where
  kd : Int
  n : Int
  nm : ByteArray
  args : Pts
  ln : Int
  col : Int
namespace Pts
def len : Pts → Nat
  | nil => 0
  | cons _ _ _ _ _ _ r => r.len + 1
def toL : Pts → List Pt
  | nil => []
  | cons k n m a ln col r => ⟨k, n, m, a, ln, col⟩ :: r.toL
def ofL : List Pt → Pts
  | [] => nil
  | x :: l => cons x.kd x.n x.nm x.args x.ln x.col (ofL l)
theorem toL_len : ∀ t : Pts, t.toL.length = t.len
  | nil => rfl
  | cons _ _ _ _ _ _ r => by rw [toL, List.length_cons, toL_len r, len]
theorem toL_ofL : ∀ l : List Pt, (ofL l).toL = l
  | [] => rfl
  | x :: l => by rw [ofL, toL, toL_ofL l]
theorem len_ofL (l : List Pt) : (ofL l).len = l.length := by rw [← toL_len, toL_ofL]
end Pts
/-- The row of types that lies at a, from place k on, in blocks of Z. -/
def RdP (Z : Nat → Prop) (w : World) : Option Addr → Pts → Nat → Prop
  | _, .nil, _ => True
  | a, .cons kd n nm args ln col rest, k =>
    (∃ ad a2 c2, a = some ad ∧ Z ad.block ∧ w.cell? (ad.add (k * 6)) = some (.int .i64 kd) ∧ w.cell? ⟨(ad.add (k * 6)).block, (ad.add (k * 6)).off + 1, none⟩ = some (.string nm) ∧ w.cell? ⟨(ad.add (k * 6)).block, (ad.add (k * 6)).off + 2, none⟩ = some (.int .i64 n) ∧
      w.cell? ⟨(ad.add (k * 6)).block, (ad.add (k * 6)).off + 3, none⟩ = some (.slice a2 args.len c2) ∧ w.cell? ⟨(ad.add (k * 6)).block, (ad.add (k * 6)).off + 4, none⟩ = some (.int .i64 ln) ∧ w.cell? ⟨(ad.add (k * 6)).block, (ad.add (k * 6)).off + 5, none⟩ = some (.int .i64 col) ∧ nm.size ≤ 9223372036854775807 ∧ args.len * 72 ≤ 140737488355328 ∧ RdP Z w a2 args 0) ∧ RdP Z w a rest (k + 1)
/-- One type of a row. -/
def PtAt (Z : Nat → Prop) (w : World) (a : Option Addr) (k : Nat) (x : Pt) : Prop :=
  ∃ ad a2 c2, a = some ad ∧ Z ad.block ∧ w.cell? (ad.add (k * 6)) = some (.int .i64 x.kd) ∧ w.cell? ⟨(ad.add (k * 6)).block, (ad.add (k * 6)).off + 1, none⟩ = some (.string x.nm) ∧ w.cell? ⟨(ad.add (k * 6)).block, (ad.add (k * 6)).off + 2, none⟩ = some (.int .i64 x.n) ∧
      w.cell? ⟨(ad.add (k * 6)).block, (ad.add (k * 6)).off + 3, none⟩ = some (.slice a2 x.args.len c2) ∧ w.cell? ⟨(ad.add (k * 6)).block, (ad.add (k * 6)).off + 4, none⟩ = some (.int .i64 x.ln) ∧ w.cell? ⟨(ad.add (k * 6)).block, (ad.add (k * 6)).off + 5, none⟩ = some (.int .i64 x.col) ∧ x.nm.size ≤ 9223372036854775807 ∧ x.args.len * 72 ≤ 140737488355328 ∧ RdP Z w a2 x.args 0
theorem RdP.at_ {Z : Nat → Prop} {w : World} {a : Option Addr} : ∀ {t : Pts} {k : Nat}, RdP Z w a t k → ∀ (i : Nat) (x : Pt), t.toL[i]? = some x → PtAt Z w a (k + i) x
  | .nil, k, _, i, x, hx => by simp [Pts.toL] at hx
  | .cons kd n nm args ln col rest, k, h, 0, x, hx => by
    simp [Pts.toL] at hx
    subst hx
    exact h.1
  | .cons kd n nm args ln col rest, k, h, i + 1, x, hx => by
    have := RdP.at_ h.2 i x (by simpa [Pts.toL] using hx)
    rwa [show k + (i + 1) = k + 1 + i by omega]
theorem RdP.mk {Z : Nat → Prop} {w : World} {a : Option Addr} : ∀ {t : Pts} {k : Nat}, (∀ (i : Nat) (x : Pt), t.toL[i]? = some x → PtAt Z w a (k + i) x) → RdP Z w a t k
  | .nil, k, _ => trivial
  | .cons kd n nm args ln col rest, k, h => ⟨h 0 ⟨kd, n, nm, args, ln, col⟩ rfl, RdP.mk fun i x hx => by
    have := h (i + 1) x (by simpa [Pts.toL] using hx)
    rwa [show k + (i + 1) = k + 1 + i by omega] at this⟩
theorem RdP.frame {Z Z' : Nat → Prop} {w w' : World} (hc : ∀ b o, Z b → w'.cell? ⟨b, o, none⟩ = w.cell? ⟨b, o, none⟩) (ha : ∀ ad : Addr, Z ad.block → w'.cell? ad = w.cell? ad) (hz : ∀ b, Z b → Z' b) : ∀ {a : Option Addr} {t : Pts} {k : Nat}, RdP Z w a t k → RdP Z' w' a t k
  | _, .nil, _, _ => trivial
  | a, .cons kd n nm args ln col rest, k, ⟨⟨ad, a2, c2, h1, h2, h3, h4, h5, h6, i1, i2, h7, h8, h9⟩, hr⟩ =>
    ⟨⟨ad, a2, c2, h1, hz _ h2, by rw [ha _ (by rw [add_block]; exact h2)]; exact h3, by rw [hc _ _ (by rw [add_block]; exact h2)]; exact h4, by rw [hc _ _ (by rw [add_block]; exact h2)]; exact h5, by rw [hc _ _ (by rw [add_block]; exact h2)]; exact h6, by rw [hc _ _ (by rw [add_block]; exact h2)]; exact i1, by rw [hc _ _ (by rw [add_block]; exact h2)]; exact i2, h7, h8, RdP.frame hc ha hz h9⟩, RdP.frame hc ha hz hr⟩
theorem RdP.mono {Z Z' : Nat → Prop} {w : World} {a : Option Addr} {t : Pts} {k : Nat} (h : RdP Z w a t k) (hz : ∀ b, Z b → Z' b) : RdP Z' w a t k := h.frame (fun _ _ _ => rfl) (fun _ _ => rfl) hz
theorem RdP.below {Z : Nat → Prop} {B : Nat} {w w' : World} {a : Option Addr} {t : Pts} {k : Nat} (h : RdP Z w a t k) (hb : Below B w w') (hz : ∀ b, Z b → b < B) : RdP Z w' a t k :=
  h.frame (fun b o hZ => hb.cell (p := ⟨b, o, none⟩) (hz b hZ)) (fun ad hZ => hb.cell (hz _ hZ)) fun _ h => h
theorem RdP.grown {Z : Nat → Prop} {w w' : World} {row : Option Nat} {a : Option Addr} {t : Pts} {k : Nat} (h : RdP Z w a t k) (hg : w.grownBy w' row) (hz : ∀ b, Z b → b < w.heap.size ∧ row ≠ some b) : RdP Z w' a t k :=
  h.frame (fun b o hZ => World.cell?_of_block (hg.block b (hz b hZ).1 (fun e => (hz b hZ).2 e.symm))) (fun ad hZ => World.cell?_of_block (hg.block _ (hz _ hZ).1 (fun e => (hz _ hZ).2 e.symm))) fun _ h => h
theorem RdP.drew {Z : Nat → Prop} {w : World} {a : Option Addr} {t : Pts} {k : Nat} (h : RdP Z w a t k) : RdP Z w.drew a t k := h.frame (w := w) (w' := w.drew) (fun _ _ _ => rfl) (fun _ _ => rfl) fun _ h => h
theorem RdP.drewN {Z : Nat → Prop} {w : World} {a : Option Addr} {t : Pts} {k : Nat} (h : RdP Z w a t k) (n : Nat) : RdP Z (w.drewN n) a t k := h.frame (w := w) (w' := w.drewN n) (fun _ _ _ => rfl) (fun _ _ => rfl) fun _ h => h
/-- The cells of a row of the call's own: each type's own row lies in blocks of Z. -/
def RowP (Z : Nat → Prop) (w : World) : List Value → List Pt → Prop
  | vs, [] => vs = []
  | vs, x :: l => ∃ a2 c2 r, vs = [.int .i64 x.kd, .string x.nm, .int .i64 x.n, .slice a2 x.args.len c2, .int .i64 x.ln, .int .i64 x.col] ++ r ∧ x.nm.size ≤ 9223372036854775807 ∧ x.args.len * 72 ≤ 140737488355328 ∧ RdP Z w a2 x.args 0 ∧ RowP Z w r l
theorem RowP.frame {Z Z' : Nat → Prop} {w w' : World} (hc : ∀ b o, Z b → w'.cell? ⟨b, o, none⟩ = w.cell? ⟨b, o, none⟩) (ha : ∀ ad : Addr, Z ad.block → w'.cell? ad = w.cell? ad) (hz : ∀ b, Z b → Z' b) : ∀ {vs : List Value} {l : List Pt}, RowP Z w vs l → RowP Z' w' vs l
  | _, [], h => h
  | vs, x :: l, ⟨a2, c2, r, h1, h2, h3, h4, h5⟩ => ⟨a2, c2, r, h1, h2, h3, h4.frame hc ha hz, RowP.frame hc ha hz h5⟩
theorem RowP.mono {Z Z' : Nat → Prop} {w : World} {vs : List Value} {l : List Pt} (h : RowP Z w vs l) (hz : ∀ b, Z b → Z' b) : RowP Z' w vs l := h.frame (fun _ _ _ => rfl) (fun _ _ => rfl) hz
theorem RowP.below {Z : Nat → Prop} {B : Nat} {w w' : World} {vs : List Value} {l : List Pt} (h : RowP Z w vs l) (hb : Below B w w') (hz : ∀ b, Z b → b < B) : RowP Z w' vs l :=
  h.frame (fun b o hZ => hb.cell (p := ⟨b, o, none⟩) (hz b hZ)) (fun ad hZ => hb.cell (hz _ hZ)) fun _ h => h
theorem RowP.grown {Z : Nat → Prop} {w w' : World} {row : Option Nat} {vs : List Value} {l : List Pt} (h : RowP Z w vs l) (hg : w.grownBy w' row) (hz : ∀ b, Z b → b < w.heap.size ∧ row ≠ some b) : RowP Z w' vs l :=
  h.frame (fun b o hZ => World.cell?_of_block (hg.block b (hz b hZ).1 (fun e => (hz b hZ).2 e.symm))) (fun ad hZ => World.cell?_of_block (hg.block _ (hz _ hZ).1 (fun e => (hz _ hZ).2 e.symm))) fun _ h => h
theorem RowP.len {Z : Nat → Prop} {w : World} : ∀ {vs : List Value} {l : List Pt}, RowP Z w vs l → vs.length = l.length * 6
  | vs, [], h => by rw [show vs = [] from h]; rfl
  | vs, x :: l, ⟨a2, c2, r, h1, _, _, _, h5⟩ => by
    rw [h1, List.length_append, RowP.len h5, List.length_cons]
    simp; omega
theorem RowP.snoc {Z : Nat → Prop} {w : World} {x : Pt} {a2 : Option Addr} {c2 : Nat} (h2 : x.nm.size ≤ 9223372036854775807) (h3 : x.args.len * 72 ≤ 140737488355328) (h4 : RdP Z w a2 x.args 0) : ∀ {vs : List Value} {l : List Pt}, RowP Z w vs l → RowP Z w (vs ++ [.int .i64 x.kd, .string x.nm, .int .i64 x.n, .slice a2 x.args.len c2, .int .i64 x.ln, .int .i64 x.col]) (l ++ [x])
  | vs, [], h => by rw [show vs = [] from h]; exact ⟨a2, c2, [], rfl, h2, h3, h4, rfl⟩
  | vs, y :: l, ⟨b2, d2, r, k1, k2, k3, k4, k5⟩ => by
    subst k1
    exact ⟨b2, d2, r ++ [.int .i64 x.kd, .string x.nm, .int .i64 x.n, .slice a2 x.args.len c2, .int .i64 x.ln, .int .i64 x.col], List.append_assoc _ _ _, k2, k3, k4, RowP.snoc h2 h3 h4 k5⟩
theorem RowP.get {Z : Nat → Prop} {w : World} : ∀ {vs : List Value} {l : List Pt}, RowP Z w vs l → ∀ (i : Nat) (x : Pt), l[i]? = some x →
    ∃ a2 c2, vs[i * 6]? = some (.int .i64 x.kd) ∧ vs[i * 6 + 1]? = some (.string x.nm) ∧ vs[i * 6 + 2]? = some (.int .i64 x.n) ∧ vs[i * 6 + 3]? = some (.slice a2 x.args.len c2) ∧ vs[i * 6 + 4]? = some (.int .i64 x.ln) ∧ vs[i * 6 + 5]? = some (.int .i64 x.col) ∧ x.nm.size ≤ 9223372036854775807 ∧ x.args.len * 72 ≤ 140737488355328 ∧ RdP Z w a2 x.args 0
  | vs, [], h, i, x, hx => by simp at hx
  | vs, y :: l, ⟨b2, d2, r, k1, k2, k3, k4, k5⟩, 0, x, hx => by
    simp at hx
    subst hx
    subst k1
    exact ⟨b2, d2, rfl, rfl, rfl, rfl, rfl, rfl, k2, k3, k4⟩
  | vs, y :: l, ⟨b2, d2, r, k1, k2, k3, k4, k5⟩, i + 1, x, hx => by
    obtain ⟨a2, c2, g0, g1, g2, g3, u1, u2, g4⟩ := RowP.get k5 i x (by simpa using hx)
    subst k1
    refine ⟨a2, c2, ?_, ?_, ?_, ?_, ?_, ?_, g4⟩
    · rw [show (i + 1) * 6 = i * 6 + 6 by omega]; exact g0
    · rw [show (i + 1) * 6 + 1 = i * 6 + 1 + 6 by omega]; exact g1
    · rw [show (i + 1) * 6 + 2 = i * 6 + 2 + 6 by omega]; exact g2
    · rw [show (i + 1) * 6 + 3 = i * 6 + 3 + 6 by omega]; exact g3
    · rw [show (i + 1) * 6 + 4 = i * 6 + 4 + 6 by omega]; exact u1
    · rw [show (i + 1) * 6 + 5 = i * 6 + 5 + 6 by omega]; exact u2
/-- A row of types of the call's own, in blocks from B on. -/
def OwnP (B : Nat) (e : TypeId) (w : World) (v : Value) (l : List Pt) : Prop :=
  ∃ vs, w.ownsRow B e 6 v l.length vs ∧ RowP (fun b => B ≤ b ∧ TyB e w b ∧ v.ownBlock ≠ some b) w vs l
theorem OwnP.nil (B : Nat) (e : TypeId) (w : World) : OwnP B e w (.slice none 0 0) [] := ⟨[], World.ownsRow_nil _ _ _ _, rfl⟩
theorem OwnP.slice {B : Nat} {e : TypeId} {w : World} {v : Value} {l : List Pt} (h : OwnP B e w v l) : ∃ a c, v = .slice a l.length c := by
  obtain ⟨vs, h1, _⟩ := h
  exact own_slice h1
theorem OwnP.here {B : Nat} {e : TypeId} {w w' : World} {v : Value} {l : List Pt} (h : OwnP B e w v l) (hb : Below w.heap.size w w') : OwnP B e w' v l := by
  obtain ⟨vs, h1, h2⟩ := h
  exact ⟨vs, own_here h1 hb, (h2.below hb fun b hZ => hZ.2.1.lt).mono fun b hZ => ⟨hZ.1, hZ.2.1.below hb, hZ.2.2⟩⟩
theorem OwnP.base {B B' : Nat} {e : TypeId} {w : World} {v : Value} {l : List Pt} (h : OwnP B e w v l) (hB : B' ≤ B) : OwnP B' e w v l := by
  obtain ⟨vs, h1, h2⟩ := h
  exact ⟨vs, own_base h1 hB, h2.mono fun b hZ => ⟨Nat.le_trans hB hZ.1, hZ.2⟩⟩
theorem OwnP.reads {B : Nat} {e : TypeId} {w : World} {a : Option Addr} {n c : Nat} {l : List Pt} (h : OwnP B e w (.slice a n c) l) : RdP (fun b => B ≤ b ∧ TyB e w b) w a (Pts.ofL l) 0 := by
  obtain ⟨vs, h1, h2⟩ := h
  refine RdP.mk fun i x hx => ?_
  rw [Pts.toL_ofL] at hx
  have hi : i < l.length := (List.getElem?_eq_some_iff.1 hx).1
  obtain ⟨b, d, hv⟩ := own_slice h1
  injection hv with e1 e2 e3
  subst e1 e2
  obtain ⟨g, rfl, hg1, hg2, _, hc⟩ := own_at h1 (by omega)
  obtain ⟨cur, hcur⟩ := own_block h1
  obtain ⟨a2, c2, g0, g1, g2, g3, u1, u2, g4, g5, g6⟩ := h2.get i x hx
  have hadd : ((⟨g, 0, none⟩ : Addr).add ((0 + i) * 6)) = ⟨g, i * 6, none⟩ := by
    rw [Nat.zero_add]
    simp [Addr.add]
    try (intro e; omega)
  refine ⟨⟨g, 0, none⟩, a2, c2, rfl, ⟨hg1, cur, hcur⟩, ?_, ?_, ?_, ?_, ?_, ?_, g4, g5, g6.mono fun b hZ => ⟨hZ.1, hZ.2.1⟩⟩
  · rw [hadd, hc _ (by omega)]; exact g0
  · rw [hadd]; show w.cell? ⟨g, i * 6 + 1, none⟩ = _; rw [hc _ (by omega)]; exact g1
  · rw [hadd]; show w.cell? ⟨g, i * 6 + 2, none⟩ = _; rw [hc _ (by omega)]; exact g2
  · rw [hadd]; show w.cell? ⟨g, i * 6 + 3, none⟩ = _; rw [hc _ (by omega)]; exact g3
  · rw [hadd]; show w.cell? ⟨g, i * 6 + 4, none⟩ = _; rw [hc _ (by omega)]; exact u1
  · rw [hadd]; show w.cell? ⟨g, i * 6 + 5, none⟩ = _; rw [hc _ (by omega)]; exact u2
/-- one more type behind a row of the call's own: the append, in a world in which the new type's own row has been made behind it -/
theorem OwnP.more {B : Nat} {e : TypeId} {w w' : World} {v v' : Value} {l : List Pt} {x : Pt} {vs : List Value} {a2 : Option Addr} {c2 : Nat} {o : Obj}
    (hr : RowP (fun b => B ≤ b ∧ TyB e w b ∧ v.ownBlock ≠ some b) w vs l) (hB : B ≤ w.heap.size)
    (h2 : x.nm.size ≤ 9223372036854775807) (h3 : x.args.len * 72 ≤ 140737488355328) (h4 : RdP (fun b => B ≤ b ∧ TyB e w b ∧ v.ownBlock ≠ some b) w a2 x.args 0)
    (hown : w'.ownsRow B e 6 v' (l.length + 1) (vs ++ [.int .i64 x.kd, .string x.nm, .int .i64 x.n, .slice a2 x.args.len c2, .int .i64 x.ln, .int .i64 x.col])) (hg : (w.alloc o).grownBy w' v.ownBlock) (hat : v'.ownBlock = v.ownBlock ∨ v'.ownBlock = some (w.alloc o).heap.size) :
    OwnP B e w' v' (l ++ [x]) := by
  refine ⟨_, by rwa [List.length_append, List.length_singleton], ?_⟩
  have hs := RowP.snoc (c2 := c2) h2 h3 h4 hr
  have hA := hs.below ((Below.refl w.heap.size w).alloc (Nat.le_refl _) o) (fun b hZ => hZ.2.1.lt)
  have hsz : (w.alloc o).heap.size = w.heap.size + 1 := by simp
  refine (hA.grown hg (fun b hZ => ⟨by rw [hsz]; have := hZ.2.1.lt; omega, hZ.2.2⟩)).mono fun b hZ => ⟨hZ.1, ?_, ?_⟩
  · have hlt := hZ.2.1.lt
    exact hZ.2.1.same ((hg.block b (by rw [hsz]; omega) (fun e => hZ.2.2 e.symm)).trans (Below.heap_alloc w o b hlt))
  · have hlt := hZ.2.1.lt
    rcases hat with q | q
    · rw [q]; exact hZ.2.2
    · rw [q, hsz]
      intro e
      injection e with e
      omega
end Go.Proofs.YtdajihpfedbihaaGreat.Pm
/-
  WORDS ON MAPS of any keys and elements: a block that reads as a function of the key's datum, its entries counted: looked up, stored into, struck. No program in sight.
-/
namespace Go.Proofs.YtdajihpfedbihaaGreat.Mk
open Go.RowKit Mm Go.Maps Go.ChangeMaps
set_option linter.unusedVariables false
abbrev FK := Lit → Option Value
/-- an element is read as itself -/
def rawK (v : Value) : Option (DataW Value × List MemPlace) := some (.held v, [])
open Classical in
noncomputable def updK (F : FK) (s : Lit) (v : Value) : FK := fun x => if x = s then some v else F x
open Classical in
noncomputable def delK (F : FK) (s : Lit) : FK := fun x => if x = s then none else F x
/-- the datum reads as F -/
def ReadsK (D : DataW Value) (F : FK) : Prop := ∀ s, WideAt.IsKeyLit s → ∀ z, D.atKey s z = ((F s).elim z .held)
/-- Block b is a map of c entries that reads as F. -/
def MapK (w : World) (P : Program) (k : TypeId) (b : Nat) (F : FK) (c : Nat) : Prop :=
  ∃ D : DataW Value, w.ownsMap P k rawK b c D ∧ ReadsK D F ∧ Maps.size D = c
section
variable {w : World} {P : Program} {k : TypeId} {b c n : Nat} {F : FK} {D : DataW Value}
theorem own_tight (h : w.ownsMap P k rawK b n D) : w.ownsMap P k rawK b (Maps.size D) D := by
  obtain ⟨es, clock, k1, k2, k3, k4⟩ := h
  refine ⟨es, clock, k1, k2, ?_, k4⟩
  subst k4
  simp [Maps.size, length_sorted]
theorem MapK.made (w : World) (P : Program) (k : TypeId) : MapK (w.alloc (.map #[] 0)) P k w.heap.size (fun _ => none) 0 :=
  ⟨_, World.ownsMap_made _ _ _ _, fun s _ z => by simp [DataW.atKey], rfl⟩
theorem MapK.congr (h : MapK w P k b F c) {F' : FK} (hF : ∀ s, F s = F' s) : MapK w P k b F' c := by
  obtain ⟨D, h1, h2, h3⟩ := h
  exact ⟨D, h1, fun s hs z => by rw [h2 s hs, hF], h3⟩
theorem MapK.lt (h : MapK w P k b F c) : b < w.heap.size := by
  obtain ⟨D, h1, h2⟩ := h
  exact h1.lt
theorem MapK.same (h : MapK w P k b F c) {w' : World} (hb : w'.heap[b]? = w.heap[b]?) : MapK w' P k b F c := by
  obtain ⟨D, ⟨es, clock, k1, k2, k3, k4⟩, h2⟩ := h
  exact ⟨D, ⟨es, clock, hb.trans k1, k2, k3, k4⟩, h2⟩
theorem MapK.below (h : MapK w P k b F c) {B : Nat} {w' : World} (hb : Below B w w') (hlt : b < B) : MapK w' P k b F c := h.same (hb.block b hlt)
theorem MapK.kept (h : MapK w P k b F c) {w' : World} {row : Option Nat} (hg : w.grownBy w' row) (hne : some b ≠ row) : MapK w' P k b F c := h.same (hg.block b h.lt hne)
theorem MapK.alloc (h : MapK w P k b F c) (o : Obj) : MapK (w.alloc o) P k b F c := h.same (Below.heap_alloc w o b h.lt)
theorem MapK.drew (h : MapK w P k b F c) : MapK w.drew P k b F c := h
theorem MapK.drewN (h : MapK w P k b F c) (j : Nat) : MapK (w.drewN j) P k b F c := h
theorem MapK.setCell (h : MapK w P k b F c) {a : Addr} (ha : b ≠ a.block) (u : Value) : MapK (w.setCell a u) P k b F c := by
  obtain ⟨D, h1, h2⟩ := h
  exact ⟨D, h1.setCell ha u, h2⟩
theorem MapK.ne (h : MapK w P k b F c) {g : Nat} {t : TypeId} {cs : Array Value} (hx : Box w g t cs) : b ≠ g := by
  rintro rfl
  obtain ⟨D, ⟨es, clock, k1, _⟩, _⟩ := h
  unfold Box at hx
  rw [hx] at k1
  cases k1
theorem hasK {s : Lit} (h : ∀ z, D.atKey s z = ((F s).elim z .held)) : Maps.has D s = (F s).isSome := by
  cases hF : F s with
  | none => exact has_false_of_atKey fun z => by rw [h, hF]; rfl
  | some v => exact has_true_of_atKey (y := .held v) fun z => by rw [h, hF]; rfl
theorem rawK_inv {v : Value} {d : DataW Value} {ps : List MemPlace} {z : Value} {s : Lit} (hv : rawK v = some (d, ps)) (hd : d = ((F s).elim (.held z) .held)) : v = (F s).getD z := by
  unfold rawK at hv
  injection hv with hv
  injection hv with h1 h2
  rw [hd] at h1
  cases hF : F s with
  | none => rw [hF] at h1; injection h1
  | some u => rw [hF] at h1; injection h1
/-- v, ok := m[s] -/
theorem MapK.look_ok {t e : TypeId} (h : MapK w P k b F c) (K : Keyed P k) (ht : P.underlying t = some (.map k e)) {z : Value} (hz : (zeroValue e).run P w = .ok z w) {key : Value} {s : Lit} (hkey : keyOf P k key = some s) (hs : WideAt.IsKeyLit s) :
    (Instr.lookup t (.map (some b)) key true).run P w = .ok (.tuple #[(F s).getD z, .bool (F s).isSome]) w := by
  obtain ⟨D, h1, h2, _⟩ := h
  obtain ⟨v, ps, hrun, hv⟩ := h1.look_ok K ht hz (show rawK z = some (.held z, []) from rfl) hkey
  rw [hrun, rawK_inv hv (h2 s hs _), hasK (h2 s hs)]
/-- len(m) -/
theorem MapK.len {t e : TypeId} (h : MapK w P k b F c) (ht : P.underlying t = some (.map k e)) (ty : TypeId) : (Builtin.len_ #[t] ty #[.map (some b)]).run P w = .ok (.int .i64 c) w := by
  obtain ⟨D, h1, h2, h3⟩ := h
  rw [← h3]
  exact h1.len ht ty
theorem put_isK (hD : IsMap D) (h : ReadsK D F) (s : Lit) (hs : WideAt.IsKeyLit s) (v : Value) : ReadsK (D.put s (.held v)) (updK F s v) := by
  intro x hx z
  unfold updK
  by_cases e : x = s
  · subst e
    rw [if_pos rfl, atKey_put_same hD hs]
    rfl
  · rw [if_neg e, atKey_put_other e, h x hx]
/-- how many entries there are behind a store -/
def cntPut (F : FK) (s : Lit) (c : Nat) : Nat := if (F s).isSome then c else c + 1
theorem put_sizeK (h : w.ownsMap P k rawK b n D) (K : Keyed P k) (hr : ReadsK D F) {s : Lit} (hs : WideAt.IsKeyLit s) (hc : Maps.size D = c) (v : DataW Value) : Maps.size (D.put s v) = cntPut F s c := by
  unfold cntPut
  rw [size_put (h.tidy K), hasK (hr s hs), hc]
end
theorem turned_same {w w' : World} {b : Nat} (h : w.mapTurned w' b) : w.grownBy w' (some b) ∧ w'.heap.size = w.heap.size := by
  refine ⟨h.grown, ?_⟩
  obtain ⟨es, clock, es', clock', hb, rfl⟩ := h
  simp [setBlock]
section
variable {P : Program} (w : World) {ops : Array Oper} {rest : List Oper} {o : Oper} {a : Act} {Q : Exit → Act → World → Prop}
/-- m[s] = v at the operation -/
theorem wpList_putK (hg : o.guard = none) (m x v : Operand) (t : TypeId) (hop : o.op = Op.mapUpdate t m x v)
    (k e : TypeId) (K : Keyed P k) (ht : P.underlying t = some (.map k e)) (b : Nat) (F : FK) (c : Nat)
    (hm : a.eval m = .map (some b)) (hown : MapK w P k b F c) (hn : c < maxLen) (key val : Value) (s : Lit) (hs : WideAt.IsKeyLit s) (hx : a.eval x = key) (hv : a.eval v = val) (hkey : keyOf P k key = some s)
    (hK : ∀ w', MapK w' P k b (updK F s val) (cntPut F s c) → w.mapTurned w' b → wpList P ops Q rest (a.put o.dst undef) w') :
    wpList P ops Q (o :: rest) a w := by
  obtain ⟨D, h1, h2, h3⟩ := hown
  refine wpList_mapUpdate_in w hg m x v t hop k e K ht rawK b c D hm h1 hn key val s hx hv hkey (.held val) [] rfl fun w' k1 k2 => hK w' ?_ k2
  have h4 := put_sizeK h1 K h2 hs h3 (.held val)
  exact ⟨_, by rw [← h4]; exact own_tight k1, put_isK h1.isMap h2 s hs val, h4⟩
/-- v, ok := m[s] at the operation -/
theorem wpList_look_okK (hg : o.guard = none) (m x : Operand) (t : TypeId) (hop : o.op = Op.lookup t m x true)
    (k e : TypeId) (K : Keyed P k) (ht : P.underlying t = some (.map k e)) {z : Value} (hz : (zeroValue e).run P w = .ok z w) (b : Nat) (F : FK) (c : Nat)
    (hm : a.eval m = .map (some b)) (hown : MapK w P k b F c) (key : Value) (s : Lit) (hs : WideAt.IsKeyLit s) (hx : a.eval x = key) (hkey : keyOf P k key = some s)
    (hK : wpList P ops Q rest (a.put o.dst (.tuple #[(F s).getD z, .bool (F s).isSome])) w) :
    wpList P ops Q (o :: rest) a w := by
  refine wpList_plain hg fun K' hK' => ?_
  have hrun := hown.look_ok K ht hz hkey hs
  unfold Oper.wp
  simp [execOp, hop, hm, hx, hrun, Result.andThen]
  exact hK' _ _ hK
end
end Go.Proofs.YtdajihpfedbihaaGreat.Mk
