/-
  WORDS on what a call turns: the blocks that it may turn, all others kept; a spool's two blocks. No program in sight.
-/
import Derived.Test.YtolfldjiejeboaaMem
import Derived.Test.YtolfldjiejeboaaLone
namespace Go.Proofs.Ytolfldjiejeboaa.Sp
open Go.RowKit Go.Conc Mm Ln
set_option linter.unusedVariables false
/-- From w to w' nothing turned but, perhaps, blocks of X; no block has gone. -/
structure Kept (X : Nat → Prop) (w w' : World) : Prop where
  os : w'.os = w.os
  tape : w'.tape = w.tape
  output : w'.output = w.output
  size : w.heap.size ≤ w'.heap.size
  block : ∀ k, k < w.heap.size → ¬ X k → w'.heap[k]? = w.heap[k]?
section
variable {X Y : Nat → Prop} {w w' w'' : World}
theorem Kept.refl (X : Nat → Prop) (w : World) : Kept X w w := ⟨rfl, rfl, rfl, Nat.le_refl _, fun _ _ _ => rfl⟩
theorem Kept.trans (h : Kept X w w') (k : Kept X w' w'') : Kept X w w'' :=
  ⟨k.os.trans h.os, k.tape.trans h.tape, k.output.trans h.output, Nat.le_trans h.size k.size, fun i hi hx => (k.block i (Nat.lt_of_lt_of_le hi h.size) hx).trans (h.block i hi hx)⟩
theorem Kept.mono (h : Kept X w w') (hx : ∀ k, k < w.heap.size → X k → Y k) : Kept Y w w' := ⟨h.os, h.tape, h.output, h.size, fun i hi hy => h.block i hi fun e => hy (hx i hi e)⟩
theorem Kept.below {B : Nat} (h : Kept X w w') (hB : B ≤ w.heap.size) (hx : ∀ k, X k → B ≤ k) : Below B w w' :=
  ⟨h.os, h.tape, h.output, h.size, fun k hk => h.block k (by omega) fun e => by have := hx k e; omega⟩
theorem Kept.of_below (h : Below w.heap.size w w') (X : Nat → Prop) : Kept X w w' := ⟨h.os, h.tape, h.output, h.size, fun k hk _ => h.block k hk⟩
theorem Kept.alloc (h : Kept X w w') (o : Obj) : Kept X w (w'.alloc o) :=
  h.trans ⟨rfl, rfl, rfl, by simp, fun k hk _ => Below.heap_alloc _ _ _ hk⟩
theorem Kept.drew (h : Kept X w w') : Kept X w w'.drew := ⟨h.os, h.tape, h.output, h.size, h.block⟩
theorem Kept.setCell (h : Kept X w w') {a : Addr} (ha : a.block < w.heap.size → X a.block) (u : Value) : Kept X w (w'.setCell a u) :=
  ⟨h.os, h.tape, h.output, by simpa [World.setCell] using h.size, fun k hk hx => (Below.heap_setCell _ _ _ _ (fun e => hx (by subst e; exact ha hk))).trans (h.block k hk hx)⟩
theorem heap_setChan_other (w : World) (c k cap : Nat) (buf : Array Value) (cl : Bool) (s r : Nat) (tm : Bool) (h : c ≠ k) : (w.setChan c cap buf cl s r tm).heap[k]? = w.heap[k]? := by
  simp [World.setChan, Array.getElem?_setIfInBounds_ne h]
theorem Kept.setChan (h : Kept X w w') {c : Nat} (hc : c < w.heap.size → X c) (cap : Nat) (buf : Array Value) (cl : Bool) (s r : Nat) (tm : Bool) : Kept X w (w'.setChan c cap buf cl s r tm) :=
  ⟨h.os, h.tape, h.output, by rw [size_setChan]; exact h.size, fun k hk hx => (heap_setChan_other _ _ _ _ _ _ _ _ _ (fun e => hx (by subst e; exact hc hk))).trans (h.block k hk hx)⟩
theorem Kept.grown {row : Option Nat} (h : Kept X w w') (hg : w'.grownBy w'' row) (hr : ∀ k, row = some k → k < w.heap.size → X k) : Kept X w w'' :=
  ⟨hg.os.trans h.os, hg.tape.trans h.tape, hg.output.trans h.output, Nat.le_trans h.size hg.size, fun k hk hx => (hg.block k (Nat.lt_of_lt_of_le hk h.size) (fun e => hx (hr k e.symm hk))).trans (h.block k hk hx)⟩
theorem Kept.box {g : Nat} {t : TypeId} {cs : Array Value} (h : Kept X w w') (b : Box w g t cs) (hg : ¬ X g) : Box w' g t cs := (h.block g b.lt hg).trans b
theorem Kept.own {B : Nat} {e : TypeId} {size : Nat} {v : Value} {n : Nat} {xs : List Value} (h : Kept X w w') (o : w.ownsRow B e size v n xs) (hl : ∀ g, v.ownBlock = some g → ¬ X g) : w'.ownsRow B e size v n xs := by
  refine ⟨o.1, ?_⟩
  rcases o.2 with h2 | ⟨g, cap, cur, rfl, hg, hh, r⟩
  · exact .inl h2
  · exact .inr ⟨g, cap, cur, rfl, hg, (h.block g (lt_of_block hh) (hl g rfl)).trans hh, r⟩
theorem Kept.cell {a : Addr} {v : Value} (h : Kept X w w') (ha : w.cell? a = some v) (hx : ¬ X a.block) : w'.cell? a = some v :=
  (World.cell?_of_block (h.block a.block (World.block_lt_of_cell? w a ha) hx)).trans ha
end
/-- A spool lies at block p, its channel at block c. -/
structure Spool (w : World) (T : TypeId) (p c room : Nat) (buf : List Value) (shut : Bool) : Prop where
  box : Box w p T #[.chan (some c), .bool shut, .pointer (some ⟨p, 0, none⟩)]
  chan : ∃ s r, w.heap[c]? = some (.chan room buf.toArray shut s r false)
section
variable {X : Nat → Prop} {w w' : World} {T : TypeId} {p c p' c' room room' : Nat} {buf buf' : List Value} {shut shut' : Bool}
theorem Spool.ltp (h : Spool w T p c room buf shut) : p < w.heap.size := h.box.lt
theorem Spool.ltc (h : Spool w T p c room buf shut) : c < w.heap.size := by
  obtain ⟨s, r, hc⟩ := h.chan
  exact lt_of_block hc
theorem Spool.apart (h : Spool w T p c room buf shut) (h' : Spool w T p' c' room' buf' shut') : p ≠ c' := by
  rintro rfl
  obtain ⟨s, r, hc⟩ := h'.chan
  have hb := h.box
  unfold Box at hb
  rw [hb] at hc
  simp at hc
theorem Spool.kept (h : Spool w T p c room buf shut) (k : Kept X w w') (hp : ¬ X p) (hc : ¬ X c) : Spool w' T p c room buf shut :=
  ⟨k.box h.box hp, by obtain ⟨s, r, e⟩ := h.chan; exact ⟨s, r, (k.block c (lt_of_block e) hc).trans e⟩⟩
theorem Spool.drew (h : Spool w T p c room buf shut) : Spool w.drew T p c room buf shut := ⟨h.box, h.chan⟩
/-- Whatever was asked of the channel: its block is this now. -/
theorem Spool.turn (h : Spool w T p c room buf shut) (buf' : List Value) (s r : Nat) : Spool (w.setChan c room buf'.toArray shut s r false) T p c room buf' shut :=
  ⟨(heap_setChan_other w c p _ _ _ _ _ _ (fun e => h.apart h e.symm)).trans h.box, s, r, heap_setChan _ _ _ _ _ _ _ _ h.ltc⟩
theorem Spool.own {B : Nat} {e : TypeId} {size : Nat} {v : Value} {n : Nat} {xs : List Value} (h : Spool w T p c room buf shut) (o : w.ownsRow B e size v n xs) (hne : e ≠ T) : ∀ g, v.ownBlock = some g → ¬ (g = c ∨ g = p) := by
  intro g hg hx
  rcases o.2 with ⟨rfl, _⟩ | ⟨g', cap, cur, rfl, _, hh, _⟩
  · simp [Value.ownBlock] at hg
  · obtain rfl : g' = g := by simpa [Value.ownBlock] using hg
    rcases hx with rfl | rfl
    · obtain ⟨s, r, e⟩ := h.chan
      rw [e] at hh
      simp at hh
    · exact hne (Box.same hh h.box)
end
end Go.Proofs.Ytolfldjiejeboaa.Sp
