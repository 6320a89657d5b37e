/-
  CONTRACTS of layer parse: types are read.
-/
import Derived.Test.YtdajihpfedbihaaGreatGC
import Derived.Laws.OwnMore
import Derived.Maps.AppendAt
namespace Go.Proofs.YtdajihpfedbihaaGreat.Pa
open Go.RowKit Mm Tm Pm
set_option linter.unusedVariables false
set_option linter.unusedSimpArgs false
abbrev TTy : TypeId := 152
abbrev tyV (x : Tm.Ty) (a : Option Addr) (c : Nat) : Value := .agg #[.int .i64 x.kd, .int .i64 x.n, .string x.nm, .slice a x.args.len c]
/-- a type that was read: its own row lies in blocks from B on -/
def TyOk (B : Nat) (w : World) (x : Tm.Ty) (a : Option Addr) : Prop := RdT (fun b => B ≤ b ∧ b < w.heap.size ∧ TyB TTy w b) w a x.args 0 ∧ x.nm.size ≤ 9223372036854775807 ∧ x.args.len * 56 ≤ 140737488355328
def TyPost (N pb : Nat) (fv : Value) (r : Tm.Ty × Pp) (w : World) (e : Ending) (w' : World) : Prop := ∃ a c, e = .returned (tyV r.1 a c) ∧ TyOk w.heap.size w' r.1 a ∧ PS N w' pb r.2 fv ∧ KP pb w w'
def TysPost (N pb : Nat) (fv : Value) (r : List Tm.Ty × Pp) (w : World) (e : Ending) (w' : World) : Prop := ∃ a c, e = .returned (.slice a r.1.length c) ∧ OwnT w.heap.size TTy w' (.slice a r.1.length c) r.1 ∧ PS N w' pb r.2 fv ∧ KP pb w w' ∧ r.1.length ≤ 100000000
theorem TyOk.nil (B : Nat) (w : World) (k n : Int) (nm : ByteArray) (h : nm.size ≤ 9223372036854775807) : TyOk B w ⟨k, n, nm, .nil⟩ none := ⟨trivial, h, by simp [Tys.len]⟩
/-- what is turned holds no row of types that was read -/
theorem TyOk.frame {B : Nat} {w w' : World} {x : Tm.Ty} {a : Option Addr} {X : Nat → Prop} (h : TyOk B w x a) (hk : Kept X w w') (hX : ∀ b, X b → B ≤ b → ¬ TyB TTy w b) : TyOk B w' x a := by
  obtain ⟨h1, h2⟩ := h
  have hb : ∀ b, B ≤ b ∧ b < w.heap.size ∧ TyB TTy w b → w'.heap[b]? = w.heap[b]? := fun b q => hk.block b q.2.1 fun e => hX b e q.1 q.2.2
  exact ⟨h1.frame (fun b o hz => World.cell?_of_block (hb b hz)) (fun ad hz => World.cell?_of_block (hb _ hz)) fun b hz => ⟨hz.1, Nat.lt_of_lt_of_le hz.2.1 hk.size, hz.2.2.same (hb b hz)⟩, h2⟩
theorem TyOk.base {B B' : Nat} {w : World} {x : Tm.Ty} {a : Option Addr} (h : TyOk B w x a) (hB : B' ≤ B) : TyOk B' w x a := ⟨h.1.mono fun b hz => ⟨Nat.le_trans hB hz.1, hz.2⟩, h.2⟩
theorem toB_size (l : List UInt8) : (toB l).size = l.length := by show l.toArray.size = _; simp
end Go.Proofs.YtdajihpfedbihaaGreat.Pa
/-
  CONTRACTS of layer parse: rows of types are read.
-/
namespace Go.Proofs.YtdajihpfedbihaaGreat.Pa
open Go.RowKit Mm Tm Pm
set_option linter.unusedVariables false
set_option linter.unusedSimpArgs false
theorem news_new (w : World) (cs : Array Value) (t : TypeId) : ∀ j u, cs.toList[j]? = some u → (w.alloc (.cells cs t)).cell? ((⟨w.heap.size, 0, none⟩ : Addr).add j) = some u := by
  intro j u hj
  have e : ((⟨w.heap.size, 0, none⟩ : Addr).add j) = ⟨w.heap.size, j, none⟩ := by
    simp [Addr.add]
    try (intro e; omega)
  rw [e, (Box.new w cs t).cell j]
  simpa using hj
/-- what is turned behind, in blocks that are new, turns nothing of old -/
theorem kept_new {X Y : Nat → Prop} {w w' w'' : World} (h : Kept X w w') (k : Kept Y w' w'') (hY : ∀ b, Y b → b < w.heap.size → X b) : Kept X w w'' :=
  ⟨k.os.trans h.os, k.tape.trans h.tape, k.output.trans h.output, Nat.le_trans h.size k.size, fun i hi hx => (k.block i (Nat.lt_of_lt_of_le hi h.size) (fun q => hx (hY i q hi))).trans (h.block i hi hx)⟩
structure AtsL (N pb : Nat) (fv : Value) (r : List Tm.Ty × Pp) (w : World) (n d : Nat) (v : Value) (wr : World) (l1 l2 : List Tm.Ty) (pk : Pp) : Prop where
  run : atypes d pk = some (l2, r.2)
  eq : r.1 = l1 ++ l2
  own : OwnT w.heap.size TTy wr v l1
  ps : PS N wr pb pk fv
  kp : KP pb w wr
  le : d ≤ n
  len : l1.length + pk.rest.length ≤ 100000000
theorem AtsL.succ {N pb : Nat} {fv : Value} {r : List Tm.Ty × Pp} {w : World} {n d : Nat} {v : Value} {wr : World} {l1 l2 : List Tm.Ty} {pk : Pp} (h : AtsL N pb fv r w n d v wr l1 l2 pk) : ∃ d0, d = d0 + 1 := by
  cases d with
  | zero => have := h.run; simp [atypes] at this
  | succ d => exact ⟨d, rfl⟩
end Go.Proofs.YtdajihpfedbihaaGreat.Pa
/-
  CONTRACTS of layer parse: a type is read, whole.
-/
namespace Go.Proofs.YtdajihpfedbihaaGreat.Pa
open Go.RowKit Mm Tm Pm
set_option linter.unusedVariables false
set_option linter.unusedSimpArgs false
theorem TyOk.ofOwn {B : Nat} {w : World} {x : Tm.Ty} {l : List Tm.Ty} {a : Option Addr} {c : Nat} (h : OwnT B TTy w (.slice a l.length c) l) (hn : x.nm.size ≤ 9223372036854775807) (hl : l.length ≤ 100000000) : TyOk B w { x with args := Tys.ofL l } a :=
  ⟨h.reads.mono fun b hz => ⟨hz.1, hz.2.lt, hz.2⟩, hn, by show (Tys.ofL l).len * 56 ≤ _; rw [Tys.len_ofL]; omega⟩
end Go.Proofs.YtdajihpfedbihaaGreat.Pa
/-
  CONTRACTS of layer parse: types are read, however deep.
-/
namespace Go.Proofs.YtdajihpfedbihaaGreat.Pa
open Go.RowKit Mm Tm Pm
set_option linter.unusedVariables false
set_option linter.unusedSimpArgs false
/-- the contracts of the readers of types, with so much fuel -/
structure TyC (N pb : Nat) (fv : Value) (d : Nat) : Prop where
  typ : ∀ p r w, typ d p = some r → PS N w pb p fv → Calls Tryz.prog 156 #[.pointer (some ⟨pb, 0, none⟩)] w (TyPost N pb fv r w)
  btype : ∀ p r w, btype d p = some r → PS N w pb p fv → Calls Tryz.prog 162 #[.pointer (some ⟨pb, 0, none⟩)] w (TyPost N pb fv r w)
  atypes : ∀ p r w, atypes d p = some r → PS N w pb p fv → Calls Tryz.prog 114 #[.pointer (some ⟨pb, 0, none⟩)] w (TysPost N pb fv r w)
  atype : ∀ p r w, atype d p = some r → PS N w pb p fv → Calls Tryz.prog 137 #[.pointer (some ⟨pb, 0, none⟩)] w (TyPost N pb fv r w)
end Go.Proofs.YtdajihpfedbihaaGreat.Pa
