/-
  WORDS ON MEMORY: what a call may turn: blocks from base on, of some kinds or by name. No program in sight.
-/
import Derived.Test.YtbkklnihgejeoaaUnM
namespace Go.Proofs.Ytbkklnihgejeoaa.Tm
open Go.RowKit Mm
set_option linter.unusedVariables false
/-- blocks that may turn: from base on, those of D, and those that hold cells of a type of T -/
def XG (base : Nat) (T : TypeId → Prop) (D : Nat → Prop) (w : World) (b : Nat) : Prop := base ≤ b ∧ (D b ∨ ∃ t, T t ∧ TyB t w b)
def KG (base : Nat) (T : TypeId → Prop) (D : Nat → Prop) (w w' : World) : Prop := Kept (XG base T D w) w w'
section
variable {base : Nat} {T T' : TypeId → Prop} {D D' : Nat → Prop} {w w' w'' : World}
theorem KG.refl (base : Nat) (T : TypeId → Prop) (D : Nat → Prop) (w : World) : KG base T D w w := Kept.refl _ w
theorem KG.size (h : KG base T D w w') : w.heap.size ≤ w'.heap.size := Kept.size h
theorem XG.back (h : KG base T D w w') {b : Nat} (hb : b < w.heap.size) (hx : ¬ XG base T D w b) : ¬ XG base T D w' b := by
  rintro ⟨h1, h2 | ⟨t, ht, h2⟩⟩
  · exact hx ⟨h1, .inl h2⟩
  · exact hx ⟨h1, .inr ⟨t, ht, h2.same (h.block b hb hx).symm⟩⟩
theorem KG.trans (h : KG base T D w w') (k : KG base T D w' w'') : KG base T D w w'' :=
  ⟨k.os.trans h.os, k.tape.trans h.tape, k.output.trans h.output, Nat.le_trans h.size k.size, fun i hi hx => (k.block i (Nat.lt_of_lt_of_le hi h.size) (XG.back h hi hx)).trans (h.block i hi hx)⟩
theorem KG.mono (h : KG base T D w w') (hT : ∀ t, T t → T' t) (hD : ∀ b, b < w.heap.size → D b → D' b) : KG base T' D' w w' :=
  Kept.mono h fun k hk hx => ⟨hx.1, hx.2.elim (fun q => .inl (hD k hk q)) fun ⟨t, ht, q⟩ => .inr ⟨t, hT t ht, q⟩⟩
theorem KG.of_below {B : Nat} (h : Below B w w') (hB : w.heap.size ≤ B) : KG base T D w w' := Kept.of_below h hB _
theorem KG.alloc (h : KG base T D w w') (o : Obj) : KG base T D w (w'.alloc o) := Kept.alloc h o
theorem KG.drew (h : KG base T D w w') : KG base T D w w'.drew := Kept.drew h
theorem KG.box {g : Nat} {t : TypeId} {cs : Array Value} (h : KG base T D w w') (b : Box w g t cs) (hD : ¬ D g) (hT : ¬ T t) : Box w' g t cs :=
  Kept.box h b fun ⟨_, q⟩ => q.elim hD fun ⟨t', ht, cs', hc⟩ => hT (by unfold Box at b; rw [b] at hc; injection hc with hc; injection hc with _ e; rwa [e])
theorem KG.lowbox {g : Nat} {t : TypeId} {cs : Array Value} (h : KG base T D w w') (b : Box w g t cs) (hg : g < base) : Box w' g t cs :=
  Kept.box h b fun ⟨q, _⟩ => by omega
theorem KG.tyB {g : Nat} {t : TypeId} (h : KG base T D w w') (b : TyB t w g) (hD : ¬ D g) (hT : ¬ T t) : TyB t w' g := by
  obtain ⟨cs, hc⟩ := b
  exact ⟨cs, h.box (show Box w g t cs from hc) hD hT⟩
theorem KG.cell {ad : Addr} (h : KG base T D w w') (hl : ad.block < base) (hs : ad.block < w.heap.size) : w'.cell? ad = w.cell? ad := World.cell?_of_block (h.block ad.block hs fun q => by have := q.1; omega)
theorem KG.cellT {t : TypeId} {ad : Addr} (h : KG base T D w w') (hl : TyB t w ad.block) (hD : ¬ D ad.block) (hT : ¬ T t) : w'.cell? ad = w.cell? ad :=
  World.cell?_of_block (h.block ad.block hl.lt fun ⟨_, q⟩ => q.elim hD fun ⟨t', ht, cs', hc⟩ => hT (by obtain ⟨cs, hb⟩ := hl; rw [hb] at hc; injection hc with hc; injection hc with _ e; rwa [e]))
/-- types below base, or in blocks of their own kind, stay -/
theorem KG.types {tt : TypeId} {a : Option Addr} {t : Tys} {k : Nat} (h : KG base T D w w') (hr : RdT (fun b => (b < base ∧ b < w.heap.size) ∨ (base ≤ b ∧ TyB tt w b)) w a t k) (hD : ∀ b, D b → ¬ TyB tt w b) (hT : ¬ T tt) : RdT (fun b => (b < base ∧ b < w'.heap.size) ∨ (base ≤ b ∧ TyB tt w' b)) w' a t k := by
  have hc : ∀ ad : Addr, ((ad.block < base ∧ ad.block < w.heap.size) ∨ (base ≤ ad.block ∧ TyB tt w ad.block)) → w'.cell? ad = w.cell? ad := fun ad hz => hz.elim (fun q => h.cell q.1 q.2) fun q => h.cellT q.2 (fun e => hD _ e q.2) hT
  exact hr.frame (fun b o hz => hc ⟨b, o, none⟩ hz) hc fun b hz => hz.imp (fun q => ⟨q.1, Nat.lt_of_lt_of_le q.2 h.size⟩) fun q => ⟨q.1, h.tyB q.2 (fun e => hD _ e q.2) hT⟩
theorem KG.below (h : KG base T D w w') (hB : base ≤ w.heap.size) : Below base w w' := Kept.below h hB fun k q => q.1
theorem KG.own {B : Nat} {e : TypeId} {size : Nat} {v : Value} {n : Nat} {xs : List Value} (h : KG base T D w w') (o : w.ownsRow B e size v n xs) (hD : ∀ g, v.ownBlock = some g → ¬ D g) (hT : ¬ T e) : w'.ownsRow B e size v n xs := by
  refine ⟨o.1, ?_⟩
  rcases o.2 with h2 | ⟨g, cap, cur, rfl, hg, hh, r⟩
  · exact .inl h2
  · exact .inr ⟨g, cap, cur, rfl, hg, h.box (show Box w g e cur from hh) (hD g rfl) hT, r⟩
/-- a block that is written -/
theorem KG.setCell (h : KG base T D w w') {a : Addr} (hb : base ≤ a.block) (ha : a.block < w.heap.size → D a.block ∨ ∃ t, T t ∧ TyB t w a.block) (u : Value) : KG base T D w (w'.setCell a u) := Kept.setCell h (fun q => ⟨hb, ha q⟩) u
theorem KG.grown {row : Option Nat} (h : KG base T D w w') (hg : w'.grownBy w'' row) (hr : ∀ k, row = some k → k < w.heap.size → base ≤ k ∧ (D k ∨ ∃ t, T t ∧ TyB t w k)) : KG base T D w w'' := Kept.grown h hg hr
end
/-- where types of a store's may lie: below base, or in blocks of types -/
def ZB (base : Nat) (tt : TypeId) (w : World) (b : Nat) : Prop := (b < base ∧ b < w.heap.size) ∨ (base ≤ b ∧ TyB tt w b)
theorem ZB.lt {base : Nat} {tt : TypeId} {w : World} {b : Nat} (h : ZB base tt w b) : b < w.heap.size := h.elim (fun q => q.2) fun q => q.2.lt
end Go.Proofs.Ytbkklnihgejeoaa.Tm
