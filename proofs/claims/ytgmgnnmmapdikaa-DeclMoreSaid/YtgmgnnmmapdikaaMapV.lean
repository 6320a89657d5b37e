/-
  WORDS ON MAPS keyed by texts, whatever their elements are: a block that reads as a function; looked up, stored into. No program in sight.
-/
import Derived.Test.YtgmgnnmmapdikaaMem
import Derived.Maps.Own
import Derived.Maps.OwnOps
import Derived.Maps.OwnSet
import Derived.Maps.Views
namespace Go.Proofs.Ytgmgnnmmapdikaa.Mv
open Go.RowKit Mm Go.Maps Go.ChangeMaps
set_option linter.unusedVariables false
abbrev FM := List UInt8 → Option Value
/-- an element is read as itself -/
def rawR (v : Value) : Option (DataW Value × List MemPlace) := some (.held v, [])
def updF (F : FM) (s : List UInt8) (v : Value) : FM := fun x => if x = s then some v else F x
/-- Block b is a map, of at most n entries, that reads as F. -/
def MapIs (w : World) (P : Program) (k : TypeId) (b n : Nat) (F : FM) : Prop :=
  ∃ D : DataW Value, w.ownsMap P k rawR b n D ∧ ∀ s z, D.atKey (.string s) z = ((F s).elim z .held)
section
variable {w : World} {P : Program} {k : TypeId} {b n : Nat} {F : FM}
theorem MapIs.made (w : World) (P : Program) (k : TypeId) : MapIs (w.alloc (.map #[] 0)) P k w.heap.size 0 (fun _ => none) :=
  ⟨_, World.ownsMap_made _ _ _ _, fun s z => by simp [DataW.atKey]⟩
theorem MapIs.mono (h : MapIs w P k b n F) {n' : Nat} (hn : n ≤ n') : MapIs w P k b n' F := by
  obtain ⟨D, h1, h2⟩ := h
  exact ⟨D, h1.mono hn, h2⟩
theorem MapIs.congr (h : MapIs w P k b n F) {F' : FM} (hF : ∀ s, F s = F' s) : MapIs w P k b n F' := by
  obtain ⟨D, h1, h2⟩ := h
  exact ⟨D, h1, fun s z => by rw [h2, hF]⟩
theorem MapIs.lt (h : MapIs w P k b n F) : b < w.heap.size := by
  obtain ⟨D, h1, h2⟩ := h
  exact h1.lt
theorem MapIs.below (h : MapIs w P k b n F) {B : Nat} {w' : World} (hb : Below B w w') (hlt : b < B) : MapIs w' P k b n F := by
  obtain ⟨D, ⟨es, clock, k1, k2, k3, k4⟩, h2⟩ := h
  exact ⟨D, ⟨es, clock, (hb.block b hlt).trans k1, k2, k3, k4⟩, h2⟩
theorem MapIs.kept (h : MapIs w P k b n F) {w' : World} {row : Option Nat} (hg : w.grownBy w' row) (hne : some b ≠ row) : MapIs w' P k b n F := by
  obtain ⟨D, h1, h2⟩ := h
  exact ⟨D, h1.kept hg hne, h2⟩
theorem MapIs.alloc (h : MapIs w P k b n F) (o : Obj) : MapIs (w.alloc o) P k b n F := by
  obtain ⟨D, h1, h2⟩ := h
  exact ⟨D, h1.alloc o, h2⟩
theorem MapIs.drew (h : MapIs w P k b n F) : MapIs w.drew P k b n F := h
theorem MapIs.drewN (h : MapIs w P k b n F) (j : Nat) : MapIs (w.drewN j) P k b n F := h
theorem MapIs.setCell (h : MapIs w P k b n F) {a : Addr} (ha : b ≠ a.block) (u : Value) : MapIs (w.setCell a u) P k b n F := by
  obtain ⟨D, h1, h2⟩ := h
  exact ⟨D, h1.setCell ha u, h2⟩
theorem has_is {D : DataW Value} {s : List UInt8} (h : ∀ z, D.atKey (.string s) z = ((F s).elim z .held)) : Maps.has D (.string s) = (F s).isSome := by
  cases hF : F s with
  | none => exact has_false_of_atKey fun z => by rw [h, hF]; rfl
  | some v => exact has_true_of_atKey (y := .held v) fun z => by rw [h, hF]; rfl
theorem raw_inv {v : Value} {d : DataW Value} {ps : List MemPlace} {z : Value} {s : List UInt8} (hv : rawR v = some (d, ps)) (hd : d = ((F s).elim (.held z) .held)) : v = (F s).getD z := by
  unfold rawR at hv
  injection hv with hv
  injection hv with h1 h2
  rw [hd] at h1
  cases hF : F s with
  | none => rw [hF] at h1; injection h1
  | some u => rw [hF] at h1; injection h1
/-- m[s] -/
theorem MapIs.look {t e : TypeId} (h : MapIs w P k b n F) (K : Keyed P k) (ht : P.underlying t = some (.map k e)) {z : Value} (hz : (zeroValue e).run P w = .ok z w) {key : Value} {s : List UInt8} (hkey : keyOf P k key = some (.string s)) :
    (Instr.lookup t (.map (some b)) key false).run P w = .ok ((F s).getD z) w := by
  obtain ⟨D, h1, h2⟩ := h
  obtain ⟨v, ps, hrun, hv⟩ := h1.lookup K ht hz (show rawR z = some (.held z, []) from rfl) hkey
  rw [hrun, raw_inv hv (h2 s _)]
/-- v, ok := m[s] -/
theorem MapIs.look_ok {t e : TypeId} (h : MapIs w P k b n F) (K : Keyed P k) (ht : P.underlying t = some (.map k e)) {z : Value} (hz : (zeroValue e).run P w = .ok z w) {key : Value} {s : List UInt8} (hkey : keyOf P k key = some (.string s)) :
    (Instr.lookup t (.map (some b)) key true).run P w = .ok (.tuple #[(F s).getD z, .bool (F s).isSome]) w := by
  obtain ⟨D, h1, h2⟩ := h
  obtain ⟨v, ps, hrun, hv⟩ := h1.look_ok K ht hz (show rawR z = some (.held z, []) from rfl) hkey
  rw [hrun, raw_inv hv (h2 s _), has_is (h2 s)]
/-- len(m): some number -/
theorem MapIs.len {t e : TypeId} (h : MapIs w P k b n F) (ht : P.underlying t = some (.map k e)) : ∃ m : Nat, m ≤ n ∧ ∀ ty, (Builtin.len_ #[t] ty #[.map (some b)]).run P w = .ok (.int .i64 m) w := by
  obtain ⟨D, h1, h2⟩ := h
  exact ⟨_, h1.size_le, fun ty => h1.len ht ty⟩
end
theorem put_is {D : DataW Value} {F : FM} (hD : IsMap D) (h : ∀ s z, D.atKey (.string s) z = ((F s).elim z .held)) (s : List UInt8) (v : Value) : ∀ x z, (D.put (.string s) (.held v)).atKey (.string x) z = ((updF F s v x).elim z .held) := by
  intro x z
  unfold updF
  by_cases e : x = s
  · subst e
    rw [if_pos rfl, atKey_put_same hD (by simp [WideAt.IsKeyLit])]
    rfl
  · rw [if_neg e, atKey_put_other (fun q => e (by injection q)), h]
/-- .. and how many entries it has -/
def MapC (w : World) (P : Program) (k : TypeId) (b n : Nat) (F : FM) (m : Nat) : Prop :=
  ∃ D : DataW Value, w.ownsMap P k rawR b n D ∧ (∀ s z, D.atKey (.string s) z = ((F s).elim z .held)) ∧ Maps.size D = m
theorem MapC.is {w : World} {P : Program} {k : TypeId} {b n : Nat} {F : FM} {m : Nat} (h : MapC w P k b n F m) : MapIs w P k b n F := by
  obtain ⟨D, h1, h2, _⟩ := h
  exact ⟨D, h1, h2⟩
theorem MapC.made (w : World) (P : Program) (k : TypeId) : MapC (w.alloc (.map #[] 0)) P k w.heap.size 0 (fun _ => none) 0 :=
  ⟨_, World.ownsMap_made _ _ _ _, fun s z => by simp [DataW.atKey], rfl⟩
theorem MapC.len {w : World} {P : Program} {k : TypeId} {b n : Nat} {F : FM} {m : Nat} {t e : TypeId} (h : MapC w P k b n F m) (ht : P.underlying t = some (.map k e)) (ty : TypeId) : (Builtin.len_ #[t] ty #[.map (some b)]).run P w = .ok (.int .i64 m) w := by
  obtain ⟨D, h1, h2, h3⟩ := h
  rw [← h3]
  exact h1.len ht ty
section
variable {P : Program} (w : World) {ops : Array Oper} {rest : List Oper} {o : Oper} {a : Act} {Q : Exit → Act → World → Prop}
/-- m[s] = v at the operation -/
theorem wpList_put (hg : o.guard = none) (m x v : Operand) (t : TypeId) (hop : o.op = Op.mapUpdate t m x v)
    (k e : TypeId) (K : Keyed P k) (ht : P.underlying t = some (.map k e)) (b n : Nat) (F : FM)
    (hm : a.eval m = .map (some b)) (hown : MapIs w P k b n F) (hn : n < maxLen) (key val : Value) (s : List UInt8) (hx : a.eval x = key) (hv : a.eval v = val) (hkey : keyOf P k key = some (.string s))
    (hK : ∀ w', MapIs w' P k b (n + 1) (updF F s val) → w.grownBy w' (some b) → wpList P ops Q rest (a.put o.dst undef) w') :
    wpList P ops Q (o :: rest) a w := by
  obtain ⟨D, h1, h2⟩ := hown
  exact wpList_mapUpdate_own w hg m x v t hop k e K ht rawR b n D hm h1 hn key val (.string s) hx hv hkey (.held val) [] rfl fun w' k1 k2 => hK w' ⟨_, k1, put_is h1.isMap h2 s val⟩ k2
/-- m[s] at the operation -/
theorem wpList_look (hg : o.guard = none) (m x : Operand) (t : TypeId) (hop : o.op = Op.lookup t m x false)
    (k e : TypeId) (K : Keyed P k) (ht : P.underlying t = some (.map k e)) {z : Value} (hz : (zeroValue e).run P w = .ok z w) (b n : Nat) (F : FM)
    (hm : a.eval m = .map (some b)) (hown : MapIs w P k b n F) (key : Value) (s : List UInt8) (hx : a.eval x = key) (hkey : keyOf P k key = some (.string s))
    (hK : wpList P ops Q rest (a.put o.dst ((F s).getD z)) w) :
    wpList P ops Q (o :: rest) a w := by
  refine wpList_plain hg fun K' hK' => ?_
  have hrun := hown.look K ht hz hkey
  unfold Oper.wp
  simp [execOp, hop, hm, hx, hrun, Result.andThen]
  exact hK' _ _ hK
/-- v, ok := m[s] at the operation -/
theorem wpList_look_ok (hg : o.guard = none) (m x : Operand) (t : TypeId) (hop : o.op = Op.lookup t m x true)
    (k e : TypeId) (K : Keyed P k) (ht : P.underlying t = some (.map k e)) {z : Value} (hz : (zeroValue e).run P w = .ok z w) (b n : Nat) (F : FM)
    (hm : a.eval m = .map (some b)) (hown : MapIs w P k b n F) (key : Value) (s : List UInt8) (hx : a.eval x = key) (hkey : keyOf P k key = some (.string s))
    (hK : wpList P ops Q rest (a.put o.dst (.tuple #[(F s).getD z, .bool (F s).isSome])) w) :
    wpList P ops Q (o :: rest) a w := by
  refine wpList_plain hg fun K' hK' => ?_
  have hrun := hown.look_ok K ht hz hkey
  unfold Oper.wp
  simp [execOp, hop, hm, hx, hrun, Result.andThen]
  exact hK' _ _ hK
/-- a literal's entry at the operation -/
theorem wpList_ins (hg : o.guard = none) (m x v : Operand) (t : TypeId) (hop : o.op = Op.insert t m x v)
    (k e : TypeId) (K : Keyed P k) (ht : P.underlying t = some (.map k e)) (b n : Nat) (F : FM)
    (hm : a.eval m = .map (some b)) (hown : MapIs w P k b n F) (hn : n < maxLen) (key val : Value) (s : List UInt8) (hx : a.eval x = key) (hv : a.eval v = val) (hkey : keyOf P k key = some (.string s))
    (hK : ∀ w', MapIs w' P k b (n + 1) (updF F s val) → w.grownBy w' (some b) → wpList P ops Q rest (a.put o.dst undef) w') :
    wpList P ops Q (o :: rest) a w := by
  obtain ⟨D, h1, h2⟩ := hown
  refine wpList_plain hg fun K' hK' => ?_
  obtain ⟨w', hrun, r1, r2⟩ := h1.update K ht hn hkey (show rawR val = some (.held val, []) from rfl)
  unfold Oper.wp
  simp [execOp, hop, hm, hx, hv, hrun, Result.andThen]
  exact hK' _ _ (hK w' ⟨_, r1, put_is h1.isMap h2 s val⟩ r2)
/-- m[s] = v at the operation, the entries counted -/
theorem wpList_putc (hg : o.guard = none) (m x v : Operand) (t : TypeId) (hop : o.op = Op.mapUpdate t m x v)
    (k e : TypeId) (K : Keyed P k) (ht : P.underlying t = some (.map k e)) (b n : Nat) (F : FM) (c : Nat)
    (hm : a.eval m = .map (some b)) (hown : MapC w P k b n F c) (hn : n < maxLen) (key val : Value) (s : List UInt8) (hx : a.eval x = key) (hv : a.eval v = val) (hkey : keyOf P k key = some (.string s))
    (hK : ∀ w' c', MapC w' P k b (n + 1) (updF F s val) c' → (F s = none → c' = c + 1) → w.grownBy w' (some b) → wpList P ops Q rest (a.put o.dst undef) w') :
    wpList P ops Q (o :: rest) a w := by
  obtain ⟨D, h1, h2, h3⟩ := hown
  refine wpList_mapUpdate_own w hg m x v t hop k e K ht rawR b n D hm h1 hn key val (.string s) hx hv hkey (.held val) [] rfl fun w' k1 k2 => hK w' _ ⟨_, k1, put_is h1.isMap h2 s val, rfl⟩ (fun hF => ?_) k2
  rw [size_put (h1.tidy K), has_is (h2 s), h3, hF]
  rfl
end
end Go.Proofs.Ytgmgnnmmapdikaa.Mv
