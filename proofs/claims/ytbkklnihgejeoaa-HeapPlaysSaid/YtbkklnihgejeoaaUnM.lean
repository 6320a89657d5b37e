/-
  WORDS ON MEMORY for layer unify: what a call may turn; rows of numbers that are read or owned; rows of types of the call's own whose parts lie wherever they lie. No program in sight.
-/
import Derived.Test.YtbkklnihgejeoaaTyMem
import Derived.Test.YtbkklnihgejeoaaBoxes
namespace Go.Proofs.Ytbkklnihgejeoaa.Tm
open Go.RowKit Mm
set_option linter.unusedVariables false
/-- From w to w' nothing turned but, perhaps, blocks of X; no block has gone. -/
structure Kept (X : Nat → Prop) (w w' : World) : Prop where
  os : w'.os = w.os
  tape : w'.tape = w.tape
  output : w'.output = w.output
  size : w.heap.size ≤ w'.heap.size
  block : ∀ k, k < w.heap.size → ¬ X k → w'.heap[k]? = w.heap[k]?
section
variable {X Y : Nat → Prop} {w w' w'' : World}
theorem Kept.refl (X : Nat → Prop) (w : World) : Kept X w w := ⟨rfl, rfl, rfl, Nat.le_refl _, fun _ _ _ => rfl⟩
theorem Kept.trans (h : Kept X w w') (k : Kept X w' w'') : Kept X w w'' :=
  ⟨k.os.trans h.os, k.tape.trans h.tape, k.output.trans h.output, Nat.le_trans h.size k.size, fun i hi hx => (k.block i (Nat.lt_of_lt_of_le hi h.size) hx).trans (h.block i hi hx)⟩
theorem Kept.mono (h : Kept X w w') (hx : ∀ k, k < w.heap.size → X k → Y k) : Kept Y w w' := ⟨h.os, h.tape, h.output, h.size, fun i hi hy => h.block i hi fun e => hy (hx i hi e)⟩
theorem Kept.below {B : Nat} (h : Kept X w w') (hB : B ≤ w.heap.size) (hx : ∀ k, X k → B ≤ k) : Below B w w' :=
  ⟨h.os, h.tape, h.output, h.size, fun k hk => h.block k (by omega) fun e => by have := hx k e; omega⟩
theorem Kept.of_below {B : Nat} (h : Below B w w') (hB : w.heap.size ≤ B) (X : Nat → Prop) : Kept X w w' := ⟨h.os, h.tape, h.output, h.size, fun k hk _ => h.block k (by omega)⟩
theorem Kept.alloc (h : Kept X w w') (o : Obj) : Kept X w (w'.alloc o) :=
  h.trans ⟨rfl, rfl, rfl, by simp, fun k hk _ => Below.heap_alloc _ _ _ hk⟩
theorem Kept.drew (h : Kept X w w') : Kept X w w'.drew := ⟨h.os, h.tape, h.output, h.size, h.block⟩
theorem Kept.setCell (h : Kept X w w') {a : Addr} (ha : a.block < w.heap.size → X a.block) (u : Value) : Kept X w (w'.setCell a u) :=
  ⟨h.os, h.tape, h.output, by simpa [World.setCell] using h.size, fun k hk hx => (Below.heap_setCell _ _ _ _ (fun e => hx (by subst e; exact ha hk))).trans (h.block k hk hx)⟩
theorem Kept.grown {row : Option Nat} (h : Kept X w w') (hg : w'.grownBy w'' row) (hr : ∀ k, row = some k → k < w.heap.size → X k) : Kept X w w'' :=
  ⟨hg.os.trans h.os, hg.tape.trans h.tape, hg.output.trans h.output, Nat.le_trans h.size hg.size, fun k hk hx => (hg.block k (Nat.lt_of_lt_of_le hk h.size) (fun e => hx (hr k e.symm hk))).trans (h.block k hk hx)⟩
theorem Kept.box {g : Nat} {t : TypeId} {cs : Array Value} (h : Kept X w w') (b : Box w g t cs) (hg : ¬ X g) : Box w' g t cs := (h.block g b.lt hg).trans b
theorem Kept.cell {a : Addr} {v : Value} (h : Kept X w w') (ha : w.cell? a = some v) (hx : ¬ X a.block) : w'.cell? a = some v :=
  (World.cell?_of_block (h.block a.block (World.block_lt_of_cell? w a ha) hx)).trans ha
/-- types that are read stay, where what may turn is none of theirs -/
theorem Kept.types {Z : Nat → Prop} (h : Kept X w w') {a : Option Addr} {t : Tys} {k : Nat} (hr : RdT Z w a t k) (hz : ∀ b, Z b → b < w.heap.size ∧ ¬ X b) : RdT Z w' a t k :=
  hr.frame (fun b o hZ => World.cell?_of_block (h.block b (hz b hZ).1 (hz b hZ).2)) (fun ad hZ => World.cell?_of_block (h.block ad.block (hz _ hZ).1 (hz _ hZ).2)) fun _ h => h
end
/-- A row of numbers that is read, in blocks of Z. -/
def RdI (Z : Nat → Prop) (w : World) (a : Option Addr) (l : List Int) : Prop := ∀ (i : Nat) (x : Int), l[i]? = some x → ∃ ad, a = some ad ∧ Z ad.block ∧ w.cell? (ad.add i) = some (.int .i64 x)
section
variable {Z Z' : Nat → Prop} {w w' : World} {a : Option Addr} {l : List Int}
theorem RdI.frame (h : RdI Z w a l) (ha : ∀ ad : Addr, Z ad.block → w'.cell? ad = w.cell? ad) (hz : ∀ b, Z b → Z' b) : RdI Z' w' a l := by
  intro i x hx
  obtain ⟨ad, h1, h2, h3⟩ := h i x hx
  exact ⟨ad, h1, hz _ h2, by rw [ha _ (by rw [add_block]; exact h2)]; exact h3⟩
theorem RdI.mono (h : RdI Z w a l) (hz : ∀ b, Z b → Z' b) : RdI Z' w a l := h.frame (fun _ _ => rfl) hz
theorem RdI.below {B : Nat} (h : RdI Z w a l) (hb : Below B w w') (hz : ∀ b, Z b → b < B) : RdI Z w' a l := h.frame (fun ad hZ => hb.cell (hz _ hZ)) fun _ h => h
theorem RdI.nil (Z : Nat → Prop) (w : World) (a : Option Addr) : RdI Z w a [] := fun i x hx => by simp at hx
theorem RdI.drew (h : RdI Z w a l) : RdI Z w.drew a l := h
end
/-- A row of numbers of the call's own. -/
def OwnI (B : Nat) (e : TypeId) (w : World) (v : Value) (l : List Int) : Prop := w.ownsRow B e 1 v l.length (l.map fun x => .int .i64 x)
theorem OwnI.nil (B : Nat) (e : TypeId) (w : World) : OwnI B e w (.slice none 0 0) [] := World.ownsRow_nil _ _ _ _
theorem OwnI.slice {B : Nat} {e : TypeId} {w : World} {v : Value} {l : List Int} (h : OwnI B e w v l) : ∃ a c, v = .slice a l.length c := own_slice h
theorem OwnI.here {B : Nat} {e : TypeId} {w w' : World} {v : Value} {l : List Int} (h : OwnI B e w v l) (hb : Below w.heap.size w w') : OwnI B e w' v l := own_here h hb
theorem OwnI.reads {B : Nat} {e : TypeId} {w : World} {a : Option Addr} {n c : Nat} {l : List Int} (h : OwnI B e w (.slice a n c) l) : RdI (fun b => B ≤ b ∧ b < w.heap.size) w a l := by
  intro i x hx
  have hi : i < l.length := (List.getElem?_eq_some_iff.1 hx).1
  obtain ⟨b, d, hv⟩ := own_slice h
  injection hv with e1 e2 e3
  subst e1 e2
  obtain ⟨g, rfl, hg1, hg2, _, hc⟩ := own_at h (by omega)
  refine ⟨⟨g, 0, none⟩, rfl, ⟨hg1, hg2⟩, ?_⟩
  have hadd : ((⟨g, 0, none⟩ : Addr).add i) = ⟨g, i, none⟩ := by
    simp [Addr.add]
    try (intro e; omega)
  rw [hadd, hc _ (by omega), List.getElem?_map, hx]
  rfl
/-- A row of types of the call's own, whose parts lie wherever they lie, but not in it. -/
def OwnA (B : Nat) (e : TypeId) (w : World) (v : Value) (l : List Ty) : Prop :=
  ∃ vs, w.ownsRow B e 4 v l.length vs ∧ RowT (fun b => b < w.heap.size ∧ v.ownBlock ≠ some b) w vs l
theorem OwnA.nil (B : Nat) (e : TypeId) (w : World) : OwnA B e w (.slice none 0 0) [] := ⟨[], World.ownsRow_nil _ _ _ _, rfl⟩
theorem OwnA.slice {B : Nat} {e : TypeId} {w : World} {v : Value} {l : List Ty} (h : OwnA B e w v l) : ∃ a c, v = .slice a l.length c := by
  obtain ⟨vs, h1, _⟩ := h
  exact own_slice h1
theorem OwnA.here {B : Nat} {e : TypeId} {w w' : World} {v : Value} {l : List Ty} (h : OwnA B e w v l) (hb : Below w.heap.size w w') : OwnA B e w' v l := by
  obtain ⟨vs, h1, h2⟩ := h
  exact ⟨vs, own_here h1 hb, (h2.below hb fun b hZ => hZ.1).mono fun b hZ => ⟨Nat.lt_of_lt_of_le hZ.1 hb.size, hZ.2⟩⟩
theorem OwnA.base {B B' : Nat} {e : TypeId} {w : World} {v : Value} {l : List Ty} (h : OwnA B e w v l) (hB : B' ≤ B) : OwnA B' e w v l := by
  obtain ⟨vs, h1, h2⟩ := h
  exact ⟨vs, own_base h1 hB, h2⟩
theorem OwnA.reads {B : Nat} {e : TypeId} {w : World} {a : Option Addr} {n c : Nat} {l : List Ty} (h : OwnA B e w (.slice a n c) l) : RdT (fun b => b < w.heap.size) w a (Tys.ofL l) 0 := by
  obtain ⟨vs, h1, h2⟩ := h
  refine RdT.mk fun i x hx => ?_
  rw [Tys.toL_ofL] at hx
  have hi : i < l.length := (List.getElem?_eq_some_iff.1 hx).1
  obtain ⟨b, d, hv⟩ := own_slice h1
  injection hv with e1 e2 e3
  subst e1 e2
  obtain ⟨g, rfl, hg1, hg2, _, hc⟩ := own_at h1 (by omega)
  obtain ⟨a2, c2, g0, g1, g2, g3, g4, g5, g6⟩ := h2.get i x hx
  have hadd : ((⟨g, 0, none⟩ : Addr).add ((0 + i) * 4)) = ⟨g, i * 4, none⟩ := by
    rw [Nat.zero_add]
    simp [Addr.add]
    try (intro e; omega)
  refine ⟨⟨g, 0, none⟩, a2, c2, rfl, hg2, ?_, ?_, ?_, ?_, g4, g5, g6.mono fun b hZ => hZ.1⟩
  · rw [hadd, hc _ (by omega)]; exact g0
  · rw [hadd]; show w.cell? ⟨g, i * 4 + 1, none⟩ = _; rw [hc _ (by omega)]; exact g1
  · rw [hadd]; show w.cell? ⟨g, i * 4 + 2, none⟩ = _; rw [hc _ (by omega)]; exact g2
  · rw [hadd]; show w.cell? ⟨g, i * 4 + 3, none⟩ = _; rw [hc _ (by omega)]; exact g3
/-- one more type behind a row of the call's own: the append -/
theorem OwnA.more {B : Nat} {e : TypeId} {w w' : World} {v v' : Value} {l : List Ty} {x : Ty} {vs : List Value} {a2 : Option Addr} {c2 : Nat} {o : Obj}
    (hr : RowT (fun b => b < w.heap.size ∧ v.ownBlock ≠ some b) w vs l)
    (h2 : x.nm.size ≤ 9223372036854775807) (h3 : x.args.len * 56 ≤ 140737488355328) (h4 : RdT (fun b => b < w.heap.size ∧ v.ownBlock ≠ some b) w a2 x.args 0)
    (hown : w'.ownsRow B e 4 v' (l.length + 1) (vs ++ [.int .i64 x.kd, .int .i64 x.n, .string x.nm, .slice a2 x.args.len c2])) (hg : (w.alloc o).grownBy w' v.ownBlock) (hat : v'.ownBlock = v.ownBlock ∨ v'.ownBlock = some (w.heap.size + 1)) :
    OwnA B e w' v' (l ++ [x]) := by
  refine ⟨_, by rwa [List.length_append, List.length_singleton], ?_⟩
  have hs := RowT.snoc (c2 := c2) h2 h3 h4 hr
  have hA := hs.below ((Below.refl w.heap.size w).alloc (Nat.le_refl _) o) (fun b hZ => hZ.1)
  have hsz : (w.alloc o).heap.size = w.heap.size + 1 := by simp
  have hgs := hg.size
  refine (hA.grown hg (fun b hZ => ⟨by rw [hsz]; have := hZ.1; omega, hZ.2⟩)).mono fun b hZ => ⟨?_, ?_⟩
  · have hlt := hZ.1
    omega
  · have hlt := hZ.1
    rcases hat with q | q
    · rw [q]; exact hZ.2
    · rw [q]
      intro e
      injection e with e
      omega
end Go.Proofs.Ytbkklnihgejeoaa.Tm
