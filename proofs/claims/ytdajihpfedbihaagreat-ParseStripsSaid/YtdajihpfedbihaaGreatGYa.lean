/-
  WORDS ON MEMORY: what came in, and its copy without places: each kind by the list of its fields. No program in sight.
-/
import Derived.Test.YtdajihpfedbihaaGreatGA
import Derived.Test.YtdajihpfedbihaaGreatChecked
import Derived.WalkKit
import Derived.ProofKit
import Derived.Lib.Hide
import Derived.Maps.AppendAt
import Derived.Handy
import Derived.Shelf.Abstract
import Derived.WalkSpells
import Derived.WalkLawsBesides
import Derived.Outline
import Derived.Deep.QuietTactic
import Derived.BigQuiet
import Derived.Deep.RegionHeld3
import Derived.Deep.RegionWith
import Derived.RegionTactic
import Derived.BigRegion
import Derived.IntWalk
import Derived.Deep.LoopGhost
namespace Go.Proofs.YtdajihpfedbihaaGreat.St
open Go.RowKit Mm Tm
set_option linter.unusedVariables false
/-- the kinds: types, patterns, expressions, bodies, clauses, bindings, alternatives, constructors, data types, how operators bind -/
inductive Kd where
  | ty | pt | ex | rh | cl | bd | al | cn | dt | fx
/-- the kinds of fields -/
inductive Fd where
  | int | pos | str | strs
  | row (κ : Kd)
def schema : Kd → List Fd
  | .ty => [.int, .int, .str, .row .ty]
  | .pt => [.int, .str, .int, .row .pt, .pos, .pos]
  | .ex => [.int, .str, .int, .strs, .row .ex, .row .al, .row .bd, .pos, .pos]
  | .rh => [.row .ex, .int, .str, .int, .strs, .row .ex, .row .al, .row .bd, .pos, .pos]
  | .cl => [.row .pt, .row .rh]
  | .bd => [.str, .row .cl, .pos, .pos]
  | .al => [.int, .str, .int, .row .pt, .pos, .pos, .row .rh]
  | .cn => [.str, .row .ty, .pos, .pos]
  | .dt => [.str, .strs, .row .cn, .pos, .pos]
  | .fx => [.str, .int, .int, .pos, .pos]
def wide (κ : Kd) : Nat := (schema κ).length
def bytes : Kd → Nat
  | .ty => 56 | .pt => 72 | .ex => 144 | .rh => 168 | .cl => 48 | .bd => 56 | .al => 96 | .cn => 56 | .dt => 80 | .fx => 48
/-- a row of n elements of k cells each, these ones, in blocks of Z -/
def RowG (Z : Nat → Prop) (w : World) (a : Option Addr) (n k : Nat) (C : Nat → List Value) : Prop :=
  ∀ i, i < n → ∃ ad, a = some ad ∧ Z ad.block ∧ (C i).length = k ∧ (∀ u, (C i)[0]? = some u → w.cell? (ad.add (i * k)) = some u) ∧ ∀ j u, j ≠ 0 → (C i)[j]? = some u → w.cell? ⟨(ad.add (i * k)).block, (ad.add (i * k)).off + j, none⟩ = some u
section
variable {Z Z' : Nat → Prop} {w w' : World} {a : Option Addr} {n k : Nat} {C : Nat → List Value}
theorem RowG.frame (h : RowG Z w a n k C) (hb : ∀ b, Z b → w'.heap[b]? = w.heap[b]?) (hz : ∀ b, Z b → Z' b) : RowG Z' w' a n k C := fun i hi => by
  obtain ⟨ad, h1, h2, h3, h4, h5⟩ := h i hi
  have e : (ad.add (i * k)).block = ad.block := add_block _ _
  exact ⟨ad, h1, hz _ h2, h3, fun u hu => (World.cell?_of_block (hb _ (by rw [e]; exact h2))).trans (h4 u hu), fun j u hj hu => (World.cell?_of_block (hb _ (by show Z (ad.add (i * k)).block; rw [e]; exact h2))).trans (h5 j u hj hu)⟩
theorem RowG.nil (Z : Nat → Prop) (w : World) (a : Option Addr) (k : Nat) (C : Nat → List Value) : RowG Z w a 0 k C := fun i hi => absurd hi (Nat.not_lt_zero i)
end
/-- fields that are read: what R says of the elements of rows -/
inductive FF (R : Kd → List Value → Prop) (Z : Nat → Prop) (w : World) : List Fd → List Value → Prop
  | nil : FF R Z w [] []
  | int {x : Int} {l : List Fd} {cs : List Value} : FF R Z w l cs → FF R Z w (.int :: l) (.int .i64 x :: cs)
  | pos {x : Int} {l : List Fd} {cs : List Value} : FF R Z w l cs → FF R Z w (.pos :: l) (.int .i64 x :: cs)
  | str {s : ByteArray} {l : List Fd} {cs : List Value} : s.size ≤ 9223372036854775807 → FF R Z w l cs → FF R Z w (.str :: l) (.string s :: cs)
  | strs {a : Option Addr} {n c : Nat} {S : Nat → ByteArray} {l : List Fd} {cs : List Value} : n * 16 ≤ 140737488355328 → n ≤ c → RowG Z w a n 1 (fun i => [.string (S i)]) → (∀ i, i < n → (S i).size ≤ 9223372036854775807) → FF R Z w l cs → FF R Z w (.strs :: l) (.slice a n c :: cs)
  | row {κ : Kd} {a : Option Addr} {n c : Nat} {C : Nat → List Value} {l : List Fd} {cs : List Value} : n * bytes κ ≤ 140737488355328 → n ≤ c → RowG Z w a n (wide κ) C → (∀ i, i < n → R κ (C i)) → FF R Z w l cs → FF R Z w (.row κ :: l) (.slice a n c :: cs)
/-- what was read, so deep -/
def G (Z : Nat → Prop) (w : World) : Nat → Kd → List Value → Prop
  | 0, _, _ => False
  | d + 1, κ, cs => FF (G Z w d) Z w (schema κ) cs
/-- fields, and the same without places -/
inductive MF (R : Kd → List Value → List Value → Prop) (Z : Nat → Prop) (w : World) : List Fd → List Value → List Value → Prop
  | nil : MF R Z w [] [] []
  | int {x : Int} {l : List Fd} {cs ds : List Value} : MF R Z w l cs ds → MF R Z w (.int :: l) (.int .i64 x :: cs) (.int .i64 x :: ds)
  | pos {x : Int} {l : List Fd} {cs ds : List Value} : MF R Z w l cs ds → MF R Z w (.pos :: l) (.int .i64 x :: cs) (.int .i64 0 :: ds)
  | str {s : ByteArray} {l : List Fd} {cs ds : List Value} : s.size ≤ 9223372036854775807 → MF R Z w l cs ds → MF R Z w (.str :: l) (.string s :: cs) (.string s :: ds)
  | strs {a b : Option Addr} {n c e : Nat} {S : Nat → ByteArray} {l : List Fd} {cs ds : List Value} : n * 16 ≤ 140737488355328 → RowG Z w a n 1 (fun i => [.string (S i)]) → RowG Z w b n 1 (fun i => [.string (S i)]) → MF R Z w l cs ds → MF R Z w (.strs :: l) (.slice a n c :: cs) (.slice b n e :: ds)
  | row {κ : Kd} {a b : Option Addr} {n c e : Nat} {C D : Nat → List Value} {l : List Fd} {cs ds : List Value} : n * bytes κ ≤ 140737488355328 → RowG Z w a n (wide κ) C → RowG Z w b n (wide κ) D → (∀ i, i < n → R κ (C i) (D i)) → MF R Z w l cs ds → MF R Z w (.row κ :: l) (.slice a n c :: cs) (.slice b n e :: ds)
/-- one is the other without places, so deep -/
def M (Z : Nat → Prop) (w : World) : Nat → Kd → List Value → List Value → Prop
  | 0, _, _, _ => False
  | d + 1, κ, cs, ds => MF (M Z w d) Z w (schema κ) cs ds
section
variable {Z Z' : Nat → Prop} {w w' : World}
theorem FF.frame {R R' : Kd → List Value → Prop} (hb : ∀ b, Z b → w'.heap[b]? = w.heap[b]?) (hz : ∀ b, Z b → Z' b) (hR : ∀ κ cs, R κ cs → R' κ cs) {l : List Fd} {cs : List Value} (h : FF R Z w l cs) : FF R' Z' w' l cs := by
  induction h with
  | nil => exact .nil
  | int _ ih => exact .int ih
  | pos _ ih => exact .pos ih
  | str h1 _ ih => exact .str h1 ih
  | strs h1 h2 h3 h4 _ ih => exact .strs h1 h2 (h3.frame hb hz) h4 ih
  | row h1 h2 h3 h4 _ ih => exact .row h1 h2 (h3.frame hb hz) (fun i hi => hR _ _ (h4 i hi)) ih
theorem G.frame (hb : ∀ b, Z b → w'.heap[b]? = w.heap[b]?) (hz : ∀ b, Z b → Z' b) : ∀ {d : Nat} {κ : Kd} {cs : List Value}, G Z w d κ cs → G Z' w' d κ cs
  | 0, _, _, h => h
  | d + 1, κ, cs, h => FF.frame hb hz (fun κ cs => G.frame hb hz) h
theorem MF.frame {R R' : Kd → List Value → List Value → Prop} (hb : ∀ b, Z b → w'.heap[b]? = w.heap[b]?) (hz : ∀ b, Z b → Z' b) (hR : ∀ κ cs ds, R κ cs ds → R' κ cs ds) {l : List Fd} {cs ds : List Value} (h : MF R Z w l cs ds) : MF R' Z' w' l cs ds := by
  induction h with
  | nil => exact .nil
  | int _ ih => exact .int ih
  | pos _ ih => exact .pos ih
  | str h1 _ ih => exact .str h1 ih
  | strs h1 h2 h3 _ ih => exact .strs h1 (h2.frame hb hz) (h3.frame hb hz) ih
  | row h1 h2 h3 h4 _ ih => exact .row h1 (h2.frame hb hz) (h3.frame hb hz) (fun i hi => hR _ _ _ (h4 i hi)) ih
theorem M.frame (hb : ∀ b, Z b → w'.heap[b]? = w.heap[b]?) (hz : ∀ b, Z b → Z' b) : ∀ {d : Nat} {κ : Kd} {cs ds : List Value}, M Z w d κ cs ds → M Z' w' d κ cs ds
  | 0, _, _, _, h => h
  | d + 1, κ, cs, ds, h => MF.frame hb hz (fun κ cs ds => M.frame hb hz) h
theorem FF.mono {R R' : Kd → List Value → Prop} (hR : ∀ κ cs, R κ cs → R' κ cs) {l : List Fd} {cs : List Value} (h : FF R Z w l cs) : FF R' Z w l cs := h.frame (fun _ _ => rfl) (fun _ h => h) hR
theorem MF.mono {R R' : Kd → List Value → List Value → Prop} (hR : ∀ κ cs ds, R κ cs ds → R' κ cs ds) {l : List Fd} {cs ds : List Value} (h : MF R Z w l cs ds) : MF R' Z w l cs ds := h.frame (fun _ _ => rfl) (fun _ h => h) hR
theorem G.up : ∀ {d : Nat} {κ : Kd} {cs : List Value}, G Z w d κ cs → G Z w (d + 1) κ cs
  | 0, _, _, h => absurd h id
  | d + 1, κ, cs, h => FF.mono (fun κ cs h => G.up h) h
theorem G.ff {d : Nat} {κ : Kd} {cs : List Value} (h : G Z w d κ cs) : ∃ d', d = d' + 1 ∧ FF (G Z w d') Z w (schema κ) cs := by
  cases d with
  | zero => exact absurd h id
  | succ d => exact ⟨d, rfl, h⟩
theorem M.mf {d : Nat} {κ : Kd} {cs ds : List Value} (h : M Z w d κ cs ds) : ∃ d', d = d' + 1 ∧ MF (M Z w d') Z w (schema κ) cs ds := by
  cases d with
  | zero => exact absurd h id
  | succ d => exact ⟨d, rfl, h⟩
theorem G.upto {d d' : Nat} {κ : Kd} {cs : List Value} (h : G Z w d κ cs) (hd : d ≤ d') : G Z w d' κ cs := by
  induction hd with
  | refl => exact h
  | step _ ih => exact ih.up
theorem M.up : ∀ {d : Nat} {κ : Kd} {cs ds : List Value}, M Z w d κ cs ds → M Z w (d + 1) κ cs ds
  | 0, _, _, _, h => absurd h id
  | d + 1, κ, cs, ds, h => MF.mono (fun κ cs ds h => M.up h) h
theorem FF.len {R : Kd → List Value → Prop} {l : List Fd} {cs : List Value} (h : FF R Z w l cs) : cs.length = l.length := by
  induction h with
  | nil => rfl
  | int _ ih => simp [ih]
  | pos _ ih => simp [ih]
  | str _ _ ih => simp [ih]
  | strs _ _ _ _ _ ih => simp [ih]
  | row _ _ _ _ _ ih => simp [ih]
theorem MF.len {R : Kd → List Value → List Value → Prop} {l : List Fd} {cs ds : List Value} (h : MF R Z w l cs ds) : ds.length = l.length := by
  induction h with
  | nil => rfl
  | int _ ih => simp [ih]
  | pos _ ih => simp [ih]
  | str _ _ ih => simp [ih]
  | strs _ _ _ _ ih => simp [ih]
  | row _ _ _ _ _ ih => simp [ih]
theorem FF.one {R : Kd → List Value → Prop} {l : List Fd} {cs : List Value} (h : FF R Z w l cs) : ∀ u ∈ cs, u.oneCell' = true := by
  induction h with
  | nil => intro u hu; cases hu
  | int _ ih => intro u hu; rcases List.mem_cons.1 hu with rfl | q; · rfl
                exact ih u q
  | pos _ ih => intro u hu; rcases List.mem_cons.1 hu with rfl | q; · rfl
                exact ih u q
  | str _ _ ih => intro u hu; rcases List.mem_cons.1 hu with rfl | q; · rfl
                  exact ih u q
  | strs _ _ _ _ _ ih => intro u hu; rcases List.mem_cons.1 hu with rfl | q; · rfl
                         exact ih u q
  | row _ _ _ _ _ ih => intro u hu; rcases List.mem_cons.1 hu with rfl | q; · rfl
                        exact ih u q
theorem MF.one {R : Kd → List Value → List Value → Prop} {l : List Fd} {cs ds : List Value} (h : MF R Z w l cs ds) : ∀ u ∈ ds, u.oneCell' = true := by
  induction h with
  | nil => intro u hu; cases hu
  | int _ ih => intro u hu; rcases List.mem_cons.1 hu with rfl | q; · rfl
                exact ih u q
  | pos _ ih => intro u hu; rcases List.mem_cons.1 hu with rfl | q; · rfl
                exact ih u q
  | str _ _ ih => intro u hu; rcases List.mem_cons.1 hu with rfl | q; · rfl
                  exact ih u q
  | strs _ _ _ _ ih => intro u hu; rcases List.mem_cons.1 hu with rfl | q; · rfl
                       exact ih u q
  | row _ _ _ _ _ ih => intro u hu; rcases List.mem_cons.1 hu with rfl | q; · rfl
                        exact ih u q
end
/-- element i of cells in a row -/
def elC (vs : List Value) (k i : Nat) : List Value := (vs.drop (i * k)).take k
theorem elC_old {vs new : List Value} {k n i : Nat} (h : vs.length = n * k) (hi : i < n) : elC (vs ++ new) k i = elC vs k i := by
  unfold elC
  have hle : i * k + k ≤ n * k := by rw [← Nat.succ_mul]; exact Nat.mul_le_mul_right k hi
  rw [List.drop_append_of_le_length (by omega), List.take_append_of_le_length (by rw [List.length_drop]; omega)]
theorem elC_new {vs new : List Value} {k n : Nat} (h : vs.length = n * k) (hn : new.length = k) : elC (vs ++ new) k n = new := by
  unfold elC
  rw [← h, List.drop_left, ← hn, List.take_length]
/-- where what a call copies lies: what was there, ahead of S, and what is new, from N on -/
def Zs (S N : Nat) (w : World) (b : Nat) : Prop := (b < S ∨ N ≤ b) ∧ b < w.heap.size
/-- what a call ends with that copies -/
def CpPost (κ : Kd) (d S : Nat) (cs : List Value) (w : World) (r : Ending) (w' : World) : Prop := ∃ ds : List Value, r = .returned (.agg ds.toArray) ∧ M (Zs S w.heap.size w') w' d κ cs ds ∧ Below w.heap.size w w'
/-- what a call ends with that copies a row -/
def CpRow (κ : Kd) (d S n : Nat) (C : Nat → List Value) (w : World) (r : Ending) (w' : World) : Prop :=
  ∃ b e D, r = .returned (.slice b n e) ∧ RowG (Zs S w.heap.size w') w' b n (wide κ) D ∧ (∀ i, i < n → M (Zs S w.heap.size w') w' d κ (C i) (D i)) ∧ Below w.heap.size w w'
/-- a row of the call's own, of the copies of elements: the row lies from N on, what it is made of in other blocks -/
structure OwnM (d : Nat) (κ : Kd) (TE : TypeId) (S N : Nat) (w : World) (sv : Value) (n : Nat) (C : Nat → List Value) (vs : List Value) : Prop where
  own : w.ownsRow N TE (wide κ) sv n vs
  el : ∀ i, i < n → M (fun b => Zs S N w b ∧ sv.ownBlock ≠ some b) w d κ (C i) (elC vs (wide κ) i)
section
variable {d : Nat} {κ : Kd} {TE : TypeId} {S N n : Nat} {w w' : World} {sv : Value} {C : Nat → List Value} {vs : List Value}
theorem OwnM.nil (w : World) : OwnM d κ TE S N w (.slice none 0 0) 0 C [] := ⟨World.ownsRow_nil _ _ _ _, fun i hi => absurd hi (Nat.not_lt_zero i)⟩
theorem OwnM.below (h : OwnM d κ TE S N w sv n C vs) (hb : Below w.heap.size w w') : OwnM d κ TE S N w' sv n C vs :=
  ⟨own_here h.own hb, fun i hi => (h.el i hi).frame (fun b hz => hb.block b hz.1.2) fun b hz => ⟨⟨hz.1.1, Nat.lt_of_lt_of_le hz.1.2 hb.size⟩, hz.2⟩⟩
theorem OwnM.slice (h : OwnM d κ TE S N w sv n C vs) : ∃ a c, sv = .slice a n c := own_slice h.own
/-- one more: the row grows behind a box -/
theorem OwnM.more (h : OwnM d κ TE S N w sv n C vs) {new : List Value} {w7 : World} {v7 : Value} {o : Obj} (hr : M (fun b => Zs S N w b ∧ sv.ownBlock ≠ some b) w d κ (C n) new) (hn : new.length = wide κ)
    (hown : w7.ownsRow N TE (wide κ) v7 (n + 1) (vs ++ new)) (hg : (w.alloc o).grownBy w7 sv.ownBlock) (hat : v7.ownBlock = sv.ownBlock ∨ v7.ownBlock = some (w.alloc o).heap.size) : OwnM d κ TE S N w7 v7 (n + 1) C (vs ++ new) := by
  have hsz : (w.alloc o).heap.size = w.heap.size + 1 := by simp
  have fr : ∀ {cs ds : List Value}, M (fun b => Zs S N w b ∧ sv.ownBlock ≠ some b) w d κ cs ds → M (fun b => Zs S N w7 b ∧ v7.ownBlock ≠ some b) w7 d κ cs ds := by
    intro cs ds hM
    refine hM.frame (fun b hz => ?_) fun b hz => ?_
    · have hl := hz.1.2
      rw [hg.block b (by omega) (fun e => hz.2 e.symm), Below.heap_alloc w o b hl]
    · have hs7 := hg.size
      have hl := hz.1.2
      refine ⟨⟨hz.1.1, by omega⟩, ?_⟩
      rcases hat with q | q
      · rw [q]; exact hz.2
      · rw [q, hsz]; intro e; injection e with e; omega
  refine ⟨hown, fun i hi => ?_⟩
  by_cases h0 : i < n
  · rw [elC_old h.own.1 h0]
    exact fr (h.el i h0)
  · obtain rfl : i = n := by omega
    rw [elC_new h.own.1 hn]
    exact fr hr
theorem OwnM.row {a : Option Addr} {c : Nat} (h : OwnM d κ TE S N w (.slice a n c) n C vs) : RowG (Zs S N w) w a n (wide κ) (elC vs (wide κ)) := fun i hi => by
  obtain ⟨g, rfl, h1, h2, h3, h4⟩ := own_at h.own (by omega)
  have hle : i * wide κ + wide κ ≤ n * wide κ := by rw [← Nat.succ_mul]; exact Nat.mul_le_mul_right _ hi
  have hl : vs.length = n * wide κ := h.own.1
  have hg : ∀ j u, (elC vs (wide κ) i)[j]? = some u → w.cell? ⟨g, i * wide κ + j, none⟩ = some u := fun j u hu => by
    have hj : j < wide κ := by
      have := (List.getElem?_eq_some_iff.1 hu).1
      unfold elC at this
      rw [List.length_take] at this
      omega
    rw [h4 _ (by omega)]
    unfold elC at hu
    rw [List.getElem?_take_of_lt hj, List.getElem?_drop] at hu
    exact hu
  have hadd : ((⟨g, 0, none⟩ : Addr).add (i * wide κ)) = ⟨g, i * wide κ, none⟩ := by
    simp [Addr.add]
    try (intro e; omega)
  refine ⟨⟨g, 0, none⟩, rfl, ⟨.inr h1, h2⟩, ?_, fun u hu => ?_, fun j u _ hu => ?_⟩
  · unfold elC
    rw [List.length_take, List.length_drop]
    omega
  · rw [hadd]; exact hg 0 u hu
  · rw [hadd]; exact hg j u hu
theorem OwnM.all (h : OwnM d κ TE S N w sv n C vs) (i : Nat) (hi : i < n) : M (Zs S N w) w d κ (C i) (elC vs (wide κ) i) := (h.el i hi).frame (fun _ _ => rfl) fun b hz => hz.1
end
/-- a row that is read -/
def RowF (R : Kd → List Value → Prop) (Z : Nat → Prop) (w : World) (κ : Kd) (a : Option Addr) (n : Nat) (C : Nat → List Value) : Prop := n * bytes κ ≤ 140737488355328 ∧ RowG Z w a n (wide κ) C ∧ ∀ i, i < n → R κ (C i)
def StrF (Z : Nat → Prop) (w : World) (a : Option Addr) (n c : Nat) (S : Nat → ByteArray) : Prop := n * 16 ≤ 140737488355328 ∧ n ≤ c ∧ RowG Z w a n 1 (fun i => [.string (S i)]) ∧ ∀ i, i < n → (S i).size ≤ 9223372036854775807
/-- a row, and its copy -/
def RowT2 (R : Kd → List Value → List Value → Prop) (Z : Nat → Prop) (w : World) (κ : Kd) (a b : Option Addr) (n : Nat) (C D : Nat → List Value) : Prop := n * bytes κ ≤ 140737488355328 ∧ RowG Z w a n (wide κ) C ∧ RowG Z w b n (wide κ) D ∧ ∀ i, i < n → R κ (C i) (D i)
def StrT2 (Z : Nat → Prop) (w : World) (a b : Option Addr) (n : Nat) (S : Nat → ByteArray) : Prop := n * 16 ≤ 140737488355328 ∧ RowG Z w a n 1 (fun i => [.string (S i)]) ∧ RowG Z w b n 1 (fun i => [.string (S i)])
section
variable {R : Kd → List Value → Prop} {R2 : Kd → List Value → List Value → Prop} {Z : Nat → Prop} {w : World} {l : List Fd} {cs ds : List Value}
theorem inv_ty (h : FF R Z w (schema .ty) cs) : ∃ (x0 : Int) (x1 : Int) (s2 : ByteArray) (a3 : Option Addr) (n3 : Nat) (c3 : Nat) (C3 : Nat → List Value), cs = [.int .i64 x0, .int .i64 x1, .string s2, .slice a3 n3 c3] ∧ s2.size ≤ 9223372036854775807 ∧ RowF R Z w .ty a3 n3 C3 := by
  revert h
  show FF R Z w [.int, .int, .str, .row .ty] cs → _
  intro h
  cases h with | int h =>
  cases h with | int h =>
  cases h with | str q2 h =>
  cases h with | row q3 p3 r3 t3 h =>
  cases h
  exact ⟨_, _, _, _, _, _, _, rfl, q2, ⟨q3, r3, t3⟩⟩
theorem inw_ty (h : MF R2 Z w (schema .ty) cs ds) : ∃ (x0 : Int) (x1 : Int) (s2 : ByteArray) (a3 : Option Addr) (n3 : Nat) (c3 : Nat) (b3 : Option Addr) (e3 : Nat) (C3 : Nat → List Value) (D3 : Nat → List Value), cs = [.int .i64 x0, .int .i64 x1, .string s2, .slice a3 n3 c3] ∧ ds = [.int .i64 x0, .int .i64 x1, .string s2, .slice b3 n3 e3] ∧ s2.size ≤ 9223372036854775807 ∧ RowT2 R2 Z w .ty a3 b3 n3 C3 D3 := by
  revert h
  show MF R2 Z w [.int, .int, .str, .row .ty] cs ds → _
  intro h
  cases h with | int h =>
  cases h with | int h =>
  cases h with | str q2 h =>
  cases h with | row q3 p3 r3 t3 h =>
  cases h
  exact ⟨_, _, _, _, _, _, _, _, _, _, rfl, rfl, q2, ⟨q3, p3, r3, t3⟩⟩
theorem inv_pt (h : FF R Z w (schema .pt) cs) : ∃ (x0 : Int) (s1 : ByteArray) (x2 : Int) (a3 : Option Addr) (n3 : Nat) (c3 : Nat) (C3 : Nat → List Value) (x4 : Int) (x5 : Int), cs = [.int .i64 x0, .string s1, .int .i64 x2, .slice a3 n3 c3, .int .i64 x4, .int .i64 x5] ∧ s1.size ≤ 9223372036854775807 ∧ RowF R Z w .pt a3 n3 C3 := by
  revert h
  show FF R Z w [.int, .str, .int, .row .pt, .pos, .pos] cs → _
  intro h
  cases h with | int h =>
  cases h with | str q1 h =>
  cases h with | int h =>
  cases h with | row q3 p3 r3 t3 h =>
  cases h with | pos h =>
  cases h with | pos h =>
  cases h
  exact ⟨_, _, _, _, _, _, _, _, _, rfl, q1, ⟨q3, r3, t3⟩⟩
theorem inw_pt (h : MF R2 Z w (schema .pt) cs ds) : ∃ (x0 : Int) (s1 : ByteArray) (x2 : Int) (a3 : Option Addr) (n3 : Nat) (c3 : Nat) (b3 : Option Addr) (e3 : Nat) (C3 : Nat → List Value) (D3 : Nat → List Value) (x4 : Int) (x5 : Int), cs = [.int .i64 x0, .string s1, .int .i64 x2, .slice a3 n3 c3, .int .i64 x4, .int .i64 x5] ∧ ds = [.int .i64 x0, .string s1, .int .i64 x2, .slice b3 n3 e3, .int .i64 0, .int .i64 0] ∧ s1.size ≤ 9223372036854775807 ∧ RowT2 R2 Z w .pt a3 b3 n3 C3 D3 := by
  revert h
  show MF R2 Z w [.int, .str, .int, .row .pt, .pos, .pos] cs ds → _
  intro h
  cases h with | int h =>
  cases h with | str q1 h =>
  cases h with | int h =>
  cases h with | row q3 p3 r3 t3 h =>
  cases h with | pos h =>
  cases h with | pos h =>
  cases h
  exact ⟨_, _, _, _, _, _, _, _, _, _, _, _, rfl, rfl, q1, ⟨q3, p3, r3, t3⟩⟩
theorem inv_ex (h : FF R Z w (schema .ex) cs) : ∃ (x0 : Int) (s1 : ByteArray) (x2 : Int) (a3 : Option Addr) (n3 : Nat) (c3 : Nat) (S3 : Nat → ByteArray) (a4 : Option Addr) (n4 : Nat) (c4 : Nat) (C4 : Nat → List Value) (a5 : Option Addr) (n5 : Nat) (c5 : Nat) (C5 : Nat → List Value) (a6 : Option Addr) (n6 : Nat) (c6 : Nat) (C6 : Nat → List Value) (x7 : Int) (x8 : Int), cs = [.int .i64 x0, .string s1, .int .i64 x2, .slice a3 n3 c3, .slice a4 n4 c4, .slice a5 n5 c5, .slice a6 n6 c6, .int .i64 x7, .int .i64 x8] ∧ s1.size ≤ 9223372036854775807 ∧ StrF Z w a3 n3 c3 S3 ∧ RowF R Z w .ex a4 n4 C4 ∧ RowF R Z w .al a5 n5 C5 ∧ RowF R Z w .bd a6 n6 C6 := by
  revert h
  show FF R Z w [.int, .str, .int, .strs, .row .ex, .row .al, .row .bd, .pos, .pos] cs → _
  intro h
  cases h with | int h =>
  cases h with | str q1 h =>
  cases h with | int h =>
  cases h with | strs q3 p3 r3 t3 h =>
  cases h with | row q4 p4 r4 t4 h =>
  cases h with | row q5 p5 r5 t5 h =>
  cases h with | row q6 p6 r6 t6 h =>
  cases h with | pos h =>
  cases h with | pos h =>
  cases h
  exact ⟨_, _, _, _, _, _, _, _, _, _, _, _, _, _, _, _, _, _, _, _, _, rfl, q1, ⟨q3, p3, r3, t3⟩, ⟨q4, r4, t4⟩, ⟨q5, r5, t5⟩, ⟨q6, r6, t6⟩⟩
theorem inw_ex (h : MF R2 Z w (schema .ex) cs ds) : ∃ (x0 : Int) (s1 : ByteArray) (x2 : Int) (a3 : Option Addr) (n3 : Nat) (c3 : Nat) (b3 : Option Addr) (e3 : Nat) (S3 : Nat → ByteArray) (a4 : Option Addr) (n4 : Nat) (c4 : Nat) (b4 : Option Addr) (e4 : Nat) (C4 : Nat → List Value) (D4 : Nat → List Value) (a5 : Option Addr) (n5 : Nat) (c5 : Nat) (b5 : Option Addr) (e5 : Nat) (C5 : Nat → List Value) (D5 : Nat → List Value) (a6 : Option Addr) (n6 : Nat) (c6 : Nat) (b6 : Option Addr) (e6 : Nat) (C6 : Nat → List Value) (D6 : Nat → List Value) (x7 : Int) (x8 : Int), cs = [.int .i64 x0, .string s1, .int .i64 x2, .slice a3 n3 c3, .slice a4 n4 c4, .slice a5 n5 c5, .slice a6 n6 c6, .int .i64 x7, .int .i64 x8] ∧ ds = [.int .i64 x0, .string s1, .int .i64 x2, .slice b3 n3 e3, .slice b4 n4 e4, .slice b5 n5 e5, .slice b6 n6 e6, .int .i64 0, .int .i64 0] ∧ s1.size ≤ 9223372036854775807 ∧ StrT2 Z w a3 b3 n3 S3 ∧ RowT2 R2 Z w .ex a4 b4 n4 C4 D4 ∧ RowT2 R2 Z w .al a5 b5 n5 C5 D5 ∧ RowT2 R2 Z w .bd a6 b6 n6 C6 D6 := by
  revert h
  show MF R2 Z w [.int, .str, .int, .strs, .row .ex, .row .al, .row .bd, .pos, .pos] cs ds → _
  intro h
  cases h with | int h =>
  cases h with | str q1 h =>
  cases h with | int h =>
  cases h with | strs q3 p3 r3 h =>
  cases h with | row q4 p4 r4 t4 h =>
  cases h with | row q5 p5 r5 t5 h =>
  cases h with | row q6 p6 r6 t6 h =>
  cases h with | pos h =>
  cases h with | pos h =>
  cases h
  exact ⟨_, _, _, _, _, _, _, _, _, _, _, _, _, _, _, _, _, _, _, _, _, _, _, _, _, _, _, _, _, _, _, _, rfl, rfl, q1, ⟨q3, p3, r3⟩, ⟨q4, p4, r4, t4⟩, ⟨q5, p5, r5, t5⟩, ⟨q6, p6, r6, t6⟩⟩
theorem inv_rh (h : FF R Z w (schema .rh) cs) : ∃ (a0 : Option Addr) (n0 : Nat) (c0 : Nat) (C0 : Nat → List Value) (x1 : Int) (s2 : ByteArray) (x3 : Int) (a4 : Option Addr) (n4 : Nat) (c4 : Nat) (S4 : Nat → ByteArray) (a5 : Option Addr) (n5 : Nat) (c5 : Nat) (C5 : Nat → List Value) (a6 : Option Addr) (n6 : Nat) (c6 : Nat) (C6 : Nat → List Value) (a7 : Option Addr) (n7 : Nat) (c7 : Nat) (C7 : Nat → List Value) (x8 : Int) (x9 : Int), cs = [.slice a0 n0 c0, .int .i64 x1, .string s2, .int .i64 x3, .slice a4 n4 c4, .slice a5 n5 c5, .slice a6 n6 c6, .slice a7 n7 c7, .int .i64 x8, .int .i64 x9] ∧ RowF R Z w .ex a0 n0 C0 ∧ s2.size ≤ 9223372036854775807 ∧ StrF Z w a4 n4 c4 S4 ∧ RowF R Z w .ex a5 n5 C5 ∧ RowF R Z w .al a6 n6 C6 ∧ RowF R Z w .bd a7 n7 C7 := by
  revert h
  show FF R Z w [.row .ex, .int, .str, .int, .strs, .row .ex, .row .al, .row .bd, .pos, .pos] cs → _
  intro h
  cases h with | row q0 p0 r0 t0 h =>
  cases h with | int h =>
  cases h with | str q2 h =>
  cases h with | int h =>
  cases h with | strs q4 p4 r4 t4 h =>
  cases h with | row q5 p5 r5 t5 h =>
  cases h with | row q6 p6 r6 t6 h =>
  cases h with | row q7 p7 r7 t7 h =>
  cases h with | pos h =>
  cases h with | pos h =>
  cases h
  exact ⟨_, _, _, _, _, _, _, _, _, _, _, _, _, _, _, _, _, _, _, _, _, _, _, _, _, rfl, ⟨q0, r0, t0⟩, q2, ⟨q4, p4, r4, t4⟩, ⟨q5, r5, t5⟩, ⟨q6, r6, t6⟩, ⟨q7, r7, t7⟩⟩
theorem inw_rh (h : MF R2 Z w (schema .rh) cs ds) : ∃ (a0 : Option Addr) (n0 : Nat) (c0 : Nat) (b0 : Option Addr) (e0 : Nat) (C0 : Nat → List Value) (D0 : Nat → List Value) (x1 : Int) (s2 : ByteArray) (x3 : Int) (a4 : Option Addr) (n4 : Nat) (c4 : Nat) (b4 : Option Addr) (e4 : Nat) (S4 : Nat → ByteArray) (a5 : Option Addr) (n5 : Nat) (c5 : Nat) (b5 : Option Addr) (e5 : Nat) (C5 : Nat → List Value) (D5 : Nat → List Value) (a6 : Option Addr) (n6 : Nat) (c6 : Nat) (b6 : Option Addr) (e6 : Nat) (C6 : Nat → List Value) (D6 : Nat → List Value) (a7 : Option Addr) (n7 : Nat) (c7 : Nat) (b7 : Option Addr) (e7 : Nat) (C7 : Nat → List Value) (D7 : Nat → List Value) (x8 : Int) (x9 : Int), cs = [.slice a0 n0 c0, .int .i64 x1, .string s2, .int .i64 x3, .slice a4 n4 c4, .slice a5 n5 c5, .slice a6 n6 c6, .slice a7 n7 c7, .int .i64 x8, .int .i64 x9] ∧ ds = [.slice b0 n0 e0, .int .i64 x1, .string s2, .int .i64 x3, .slice b4 n4 e4, .slice b5 n5 e5, .slice b6 n6 e6, .slice b7 n7 e7, .int .i64 0, .int .i64 0] ∧ RowT2 R2 Z w .ex a0 b0 n0 C0 D0 ∧ s2.size ≤ 9223372036854775807 ∧ StrT2 Z w a4 b4 n4 S4 ∧ RowT2 R2 Z w .ex a5 b5 n5 C5 D5 ∧ RowT2 R2 Z w .al a6 b6 n6 C6 D6 ∧ RowT2 R2 Z w .bd a7 b7 n7 C7 D7 := by
  revert h
  show MF R2 Z w [.row .ex, .int, .str, .int, .strs, .row .ex, .row .al, .row .bd, .pos, .pos] cs ds → _
  intro h
  cases h with | row q0 p0 r0 t0 h =>
  cases h with | int h =>
  cases h with | str q2 h =>
  cases h with | int h =>
  cases h with | strs q4 p4 r4 h =>
  cases h with | row q5 p5 r5 t5 h =>
  cases h with | row q6 p6 r6 t6 h =>
  cases h with | row q7 p7 r7 t7 h =>
  cases h with | pos h =>
  cases h with | pos h =>
  cases h
  exact ⟨_, _, _, _, _, _, _, _, _, _, _, _, _, _, _, _, _, _, _, _, _, _, _, _, _, _, _, _, _, _, _, _, _, _, _, _, _, _, _, rfl, rfl, ⟨q0, p0, r0, t0⟩, q2, ⟨q4, p4, r4⟩, ⟨q5, p5, r5, t5⟩, ⟨q6, p6, r6, t6⟩, ⟨q7, p7, r7, t7⟩⟩
theorem inv_cl (h : FF R Z w (schema .cl) cs) : ∃ (a0 : Option Addr) (n0 : Nat) (c0 : Nat) (C0 : Nat → List Value) (a1 : Option Addr) (n1 : Nat) (c1 : Nat) (C1 : Nat → List Value), cs = [.slice a0 n0 c0, .slice a1 n1 c1] ∧ RowF R Z w .pt a0 n0 C0 ∧ RowF R Z w .rh a1 n1 C1 := by
  revert h
  show FF R Z w [.row .pt, .row .rh] cs → _
  intro h
  cases h with | row q0 p0 r0 t0 h =>
  cases h with | row q1 p1 r1 t1 h =>
  cases h
  exact ⟨_, _, _, _, _, _, _, _, rfl, ⟨q0, r0, t0⟩, ⟨q1, r1, t1⟩⟩
theorem inw_cl (h : MF R2 Z w (schema .cl) cs ds) : ∃ (a0 : Option Addr) (n0 : Nat) (c0 : Nat) (b0 : Option Addr) (e0 : Nat) (C0 : Nat → List Value) (D0 : Nat → List Value) (a1 : Option Addr) (n1 : Nat) (c1 : Nat) (b1 : Option Addr) (e1 : Nat) (C1 : Nat → List Value) (D1 : Nat → List Value), cs = [.slice a0 n0 c0, .slice a1 n1 c1] ∧ ds = [.slice b0 n0 e0, .slice b1 n1 e1] ∧ RowT2 R2 Z w .pt a0 b0 n0 C0 D0 ∧ RowT2 R2 Z w .rh a1 b1 n1 C1 D1 := by
  revert h
  show MF R2 Z w [.row .pt, .row .rh] cs ds → _
  intro h
  cases h with | row q0 p0 r0 t0 h =>
  cases h with | row q1 p1 r1 t1 h =>
  cases h
  exact ⟨_, _, _, _, _, _, _, _, _, _, _, _, _, _, rfl, rfl, ⟨q0, p0, r0, t0⟩, ⟨q1, p1, r1, t1⟩⟩
theorem inv_bd (h : FF R Z w (schema .bd) cs) : ∃ (s0 : ByteArray) (a1 : Option Addr) (n1 : Nat) (c1 : Nat) (C1 : Nat → List Value) (x2 : Int) (x3 : Int), cs = [.string s0, .slice a1 n1 c1, .int .i64 x2, .int .i64 x3] ∧ s0.size ≤ 9223372036854775807 ∧ RowF R Z w .cl a1 n1 C1 := by
  revert h
  show FF R Z w [.str, .row .cl, .pos, .pos] cs → _
  intro h
  cases h with | str q0 h =>
  cases h with | row q1 p1 r1 t1 h =>
  cases h with | pos h =>
  cases h with | pos h =>
  cases h
  exact ⟨_, _, _, _, _, _, _, rfl, q0, ⟨q1, r1, t1⟩⟩
theorem inw_bd (h : MF R2 Z w (schema .bd) cs ds) : ∃ (s0 : ByteArray) (a1 : Option Addr) (n1 : Nat) (c1 : Nat) (b1 : Option Addr) (e1 : Nat) (C1 : Nat → List Value) (D1 : Nat → List Value) (x2 : Int) (x3 : Int), cs = [.string s0, .slice a1 n1 c1, .int .i64 x2, .int .i64 x3] ∧ ds = [.string s0, .slice b1 n1 e1, .int .i64 0, .int .i64 0] ∧ s0.size ≤ 9223372036854775807 ∧ RowT2 R2 Z w .cl a1 b1 n1 C1 D1 := by
  revert h
  show MF R2 Z w [.str, .row .cl, .pos, .pos] cs ds → _
  intro h
  cases h with | str q0 h =>
  cases h with | row q1 p1 r1 t1 h =>
  cases h with | pos h =>
  cases h with | pos h =>
  cases h
  exact ⟨_, _, _, _, _, _, _, _, _, _, rfl, rfl, q0, ⟨q1, p1, r1, t1⟩⟩
theorem inv_al (h : FF R Z w (schema .al) cs) : ∃ (x0 : Int) (s1 : ByteArray) (x2 : Int) (a3 : Option Addr) (n3 : Nat) (c3 : Nat) (C3 : Nat → List Value) (x4 : Int) (x5 : Int) (a6 : Option Addr) (n6 : Nat) (c6 : Nat) (C6 : Nat → List Value), cs = [.int .i64 x0, .string s1, .int .i64 x2, .slice a3 n3 c3, .int .i64 x4, .int .i64 x5, .slice a6 n6 c6] ∧ s1.size ≤ 9223372036854775807 ∧ RowF R Z w .pt a3 n3 C3 ∧ RowF R Z w .rh a6 n6 C6 := by
  revert h
  show FF R Z w [.int, .str, .int, .row .pt, .pos, .pos, .row .rh] cs → _
  intro h
  cases h with | int h =>
  cases h with | str q1 h =>
  cases h with | int h =>
  cases h with | row q3 p3 r3 t3 h =>
  cases h with | pos h =>
  cases h with | pos h =>
  cases h with | row q6 p6 r6 t6 h =>
  cases h
  exact ⟨_, _, _, _, _, _, _, _, _, _, _, _, _, rfl, q1, ⟨q3, r3, t3⟩, ⟨q6, r6, t6⟩⟩
theorem inw_al (h : MF R2 Z w (schema .al) cs ds) : ∃ (x0 : Int) (s1 : ByteArray) (x2 : Int) (a3 : Option Addr) (n3 : Nat) (c3 : Nat) (b3 : Option Addr) (e3 : Nat) (C3 : Nat → List Value) (D3 : Nat → List Value) (x4 : Int) (x5 : Int) (a6 : Option Addr) (n6 : Nat) (c6 : Nat) (b6 : Option Addr) (e6 : Nat) (C6 : Nat → List Value) (D6 : Nat → List Value), cs = [.int .i64 x0, .string s1, .int .i64 x2, .slice a3 n3 c3, .int .i64 x4, .int .i64 x5, .slice a6 n6 c6] ∧ ds = [.int .i64 x0, .string s1, .int .i64 x2, .slice b3 n3 e3, .int .i64 0, .int .i64 0, .slice b6 n6 e6] ∧ s1.size ≤ 9223372036854775807 ∧ RowT2 R2 Z w .pt a3 b3 n3 C3 D3 ∧ RowT2 R2 Z w .rh a6 b6 n6 C6 D6 := by
  revert h
  show MF R2 Z w [.int, .str, .int, .row .pt, .pos, .pos, .row .rh] cs ds → _
  intro h
  cases h with | int h =>
  cases h with | str q1 h =>
  cases h with | int h =>
  cases h with | row q3 p3 r3 t3 h =>
  cases h with | pos h =>
  cases h with | pos h =>
  cases h with | row q6 p6 r6 t6 h =>
  cases h
  exact ⟨_, _, _, _, _, _, _, _, _, _, _, _, _, _, _, _, _, _, _, rfl, rfl, q1, ⟨q3, p3, r3, t3⟩, ⟨q6, p6, r6, t6⟩⟩
theorem inv_cn (h : FF R Z w (schema .cn) cs) : ∃ (s0 : ByteArray) (a1 : Option Addr) (n1 : Nat) (c1 : Nat) (C1 : Nat → List Value) (x2 : Int) (x3 : Int), cs = [.string s0, .slice a1 n1 c1, .int .i64 x2, .int .i64 x3] ∧ s0.size ≤ 9223372036854775807 ∧ RowF R Z w .ty a1 n1 C1 := by
  revert h
  show FF R Z w [.str, .row .ty, .pos, .pos] cs → _
  intro h
  cases h with | str q0 h =>
  cases h with | row q1 p1 r1 t1 h =>
  cases h with | pos h =>
  cases h with | pos h =>
  cases h
  exact ⟨_, _, _, _, _, _, _, rfl, q0, ⟨q1, r1, t1⟩⟩
theorem inw_cn (h : MF R2 Z w (schema .cn) cs ds) : ∃ (s0 : ByteArray) (a1 : Option Addr) (n1 : Nat) (c1 : Nat) (b1 : Option Addr) (e1 : Nat) (C1 : Nat → List Value) (D1 : Nat → List Value) (x2 : Int) (x3 : Int), cs = [.string s0, .slice a1 n1 c1, .int .i64 x2, .int .i64 x3] ∧ ds = [.string s0, .slice b1 n1 e1, .int .i64 0, .int .i64 0] ∧ s0.size ≤ 9223372036854775807 ∧ RowT2 R2 Z w .ty a1 b1 n1 C1 D1 := by
  revert h
  show MF R2 Z w [.str, .row .ty, .pos, .pos] cs ds → _
  intro h
  cases h with | str q0 h =>
  cases h with | row q1 p1 r1 t1 h =>
  cases h with | pos h =>
  cases h with | pos h =>
  cases h
  exact ⟨_, _, _, _, _, _, _, _, _, _, rfl, rfl, q0, ⟨q1, p1, r1, t1⟩⟩
theorem inv_dt (h : FF R Z w (schema .dt) cs) : ∃ (s0 : ByteArray) (a1 : Option Addr) (n1 : Nat) (c1 : Nat) (S1 : Nat → ByteArray) (a2 : Option Addr) (n2 : Nat) (c2 : Nat) (C2 : Nat → List Value) (x3 : Int) (x4 : Int), cs = [.string s0, .slice a1 n1 c1, .slice a2 n2 c2, .int .i64 x3, .int .i64 x4] ∧ s0.size ≤ 9223372036854775807 ∧ StrF Z w a1 n1 c1 S1 ∧ RowF R Z w .cn a2 n2 C2 := by
  revert h
  show FF R Z w [.str, .strs, .row .cn, .pos, .pos] cs → _
  intro h
  cases h with | str q0 h =>
  cases h with | strs q1 p1 r1 t1 h =>
  cases h with | row q2 p2 r2 t2 h =>
  cases h with | pos h =>
  cases h with | pos h =>
  cases h
  exact ⟨_, _, _, _, _, _, _, _, _, _, _, rfl, q0, ⟨q1, p1, r1, t1⟩, ⟨q2, r2, t2⟩⟩
theorem inw_dt (h : MF R2 Z w (schema .dt) cs ds) : ∃ (s0 : ByteArray) (a1 : Option Addr) (n1 : Nat) (c1 : Nat) (b1 : Option Addr) (e1 : Nat) (S1 : Nat → ByteArray) (a2 : Option Addr) (n2 : Nat) (c2 : Nat) (b2 : Option Addr) (e2 : Nat) (C2 : Nat → List Value) (D2 : Nat → List Value) (x3 : Int) (x4 : Int), cs = [.string s0, .slice a1 n1 c1, .slice a2 n2 c2, .int .i64 x3, .int .i64 x4] ∧ ds = [.string s0, .slice b1 n1 e1, .slice b2 n2 e2, .int .i64 0, .int .i64 0] ∧ s0.size ≤ 9223372036854775807 ∧ StrT2 Z w a1 b1 n1 S1 ∧ RowT2 R2 Z w .cn a2 b2 n2 C2 D2 := by
  revert h
  show MF R2 Z w [.str, .strs, .row .cn, .pos, .pos] cs ds → _
  intro h
  cases h with | str q0 h =>
  cases h with | strs q1 p1 r1 h =>
  cases h with | row q2 p2 r2 t2 h =>
  cases h with | pos h =>
  cases h with | pos h =>
  cases h
  exact ⟨_, _, _, _, _, _, _, _, _, _, _, _, _, _, _, _, rfl, rfl, q0, ⟨q1, p1, r1⟩, ⟨q2, p2, r2, t2⟩⟩
theorem inv_fx (h : FF R Z w (schema .fx) cs) : ∃ (s0 : ByteArray) (x1 : Int) (x2 : Int) (x3 : Int) (x4 : Int), cs = [.string s0, .int .i64 x1, .int .i64 x2, .int .i64 x3, .int .i64 x4] ∧ s0.size ≤ 9223372036854775807 := by
  revert h
  show FF R Z w [.str, .int, .int, .pos, .pos] cs → _
  intro h
  cases h with | str q0 h =>
  cases h with | int h =>
  cases h with | int h =>
  cases h with | pos h =>
  cases h with | pos h =>
  cases h
  exact ⟨_, _, _, _, _, rfl, q0⟩
theorem inw_fx (h : MF R2 Z w (schema .fx) cs ds) : ∃ (s0 : ByteArray) (x1 : Int) (x2 : Int) (x3 : Int) (x4 : Int), cs = [.string s0, .int .i64 x1, .int .i64 x2, .int .i64 x3, .int .i64 x4] ∧ ds = [.string s0, .int .i64 x1, .int .i64 x2, .int .i64 0, .int .i64 0] ∧ s0.size ≤ 9223372036854775807 := by
  revert h
  show MF R2 Z w [.str, .int, .int, .pos, .pos] cs ds → _
  intro h
  cases h with | str q0 h =>
  cases h with | int h =>
  cases h with | int h =>
  cases h with | pos h =>
  cases h with | pos h =>
  cases h
  exact ⟨_, _, _, _, _, rfl, rfl, q0⟩
theorem inv_pg (h : FF R Z w [.row .dt, .row .fx, .row .bd] cs) : ∃ (a0 : Option Addr) (n0 : Nat) (c0 : Nat) (C0 : Nat → List Value) (a1 : Option Addr) (n1 : Nat) (c1 : Nat) (C1 : Nat → List Value) (a2 : Option Addr) (n2 : Nat) (c2 : Nat) (C2 : Nat → List Value), cs = [.slice a0 n0 c0, .slice a1 n1 c1, .slice a2 n2 c2] ∧ RowF R Z w .dt a0 n0 C0 ∧ RowF R Z w .fx a1 n1 C1 ∧ RowF R Z w .bd a2 n2 C2 := by
  revert h
  show FF R Z w [.row .dt, .row .fx, .row .bd] cs → _
  intro h
  cases h with | row q0 p0 r0 t0 h =>
  cases h with | row q1 p1 r1 t1 h =>
  cases h with | row q2 p2 r2 t2 h =>
  cases h
  exact ⟨_, _, _, _, _, _, _, _, _, _, _, _, rfl, ⟨q0, r0, t0⟩, ⟨q1, r1, t1⟩, ⟨q2, r2, t2⟩⟩
theorem inw_pg (h : MF R2 Z w [.row .dt, .row .fx, .row .bd] cs ds) : ∃ (a0 : Option Addr) (n0 : Nat) (c0 : Nat) (b0 : Option Addr) (e0 : Nat) (C0 : Nat → List Value) (D0 : Nat → List Value) (a1 : Option Addr) (n1 : Nat) (c1 : Nat) (b1 : Option Addr) (e1 : Nat) (C1 : Nat → List Value) (D1 : Nat → List Value) (a2 : Option Addr) (n2 : Nat) (c2 : Nat) (b2 : Option Addr) (e2 : Nat) (C2 : Nat → List Value) (D2 : Nat → List Value), cs = [.slice a0 n0 c0, .slice a1 n1 c1, .slice a2 n2 c2] ∧ ds = [.slice b0 n0 e0, .slice b1 n1 e1, .slice b2 n2 e2] ∧ RowT2 R2 Z w .dt a0 b0 n0 C0 D0 ∧ RowT2 R2 Z w .fx a1 b1 n1 C1 D1 ∧ RowT2 R2 Z w .bd a2 b2 n2 C2 D2 := by
  revert h
  show MF R2 Z w [.row .dt, .row .fx, .row .bd] cs ds → _
  intro h
  cases h with | row q0 p0 r0 t0 h =>
  cases h with | row q1 p1 r1 t1 h =>
  cases h with | row q2 p2 r2 t2 h =>
  cases h
  exact ⟨_, _, _, _, _, _, _, _, _, _, _, _, _, _, _, _, _, _, _, _, _, rfl, rfl, ⟨q0, p0, r0, t0⟩, ⟨q1, p1, r1, t1⟩, ⟨q2, p2, r2, t2⟩⟩
end
end Go.Proofs.YtdajihpfedbihaaGreat.St
/-
  WORDS on layer parse: a function that copies without places.
-/
namespace Go.Proofs.YtdajihpfedbihaaGreat.St
open Go.RowKit Mm Tm
set_option linter.unusedVariables false
/-- a function that copies what is read, so deep -/
def Cps (kf : Nat) (κ : Kd) (d : Nat) : Prop := ∀ (S : Nat) (w : World) (cs : List Value), S ≤ w.heap.size → G (· < S) w d κ cs → Calls Tryz.prog kf #[.agg cs.toArray] w (CpPost κ d S cs w)
theorem news_new (w : World) (cs : Array Value) (t : TypeId) : ∀ j u, cs.toList[j]? = some u → (w.alloc (.cells cs t)).cell? ((⟨w.heap.size, 0, none⟩ : Addr).add j) = some u := by
  intro j u hj
  have e : ((⟨w.heap.size, 0, none⟩ : Addr).add j) = ⟨w.heap.size, j, none⟩ := by
    simp [Addr.add]
    try (intro e; omega)
  rw [e, (Box.new w cs t).cell j]
  simpa using hj
end Go.Proofs.YtdajihpfedbihaaGreat.St
/-
  WORDS on layer parse: copies beside the call's own boxes. CONTRACT: a row of texts is copied (slices.Clone). Written by gen_stwords.py.
-/
namespace Go.Proofs.YtdajihpfedbihaaGreat.St
open Go.RowKit Mm Tm
set_option linter.unusedVariables false
set_option linter.unusedSimpArgs false
/-- a copied row, where S and N part what was there, and what is new -/
structure CR (κ : Kd) (d S N n : Nat) (C : Nat → List Value) (b : Option Addr) (D : Nat → List Value) (w : World) : Prop where
  row : RowG (Zs S N w) w b n (wide κ) D
  el : ∀ i, i < n → M (Zs S N w) w d κ (C i) (D i)
def SR (S N n : Nat) (F : Nat → ByteArray) (b : Option Addr) (w : World) : Prop := RowG (Zs S N w) w b n 1 (fun i => [.string (F i)])
section
variable {κ : Kd} {d S N n : Nat} {C D : Nat → List Value} {F : Nat → ByteArray} {a b : Option Addr} {w w' : World} {X : Nat → Prop}
theorem Zs.kept {x : Nat} (h : Zs S N w x) (hk : Kept X w w') : Zs S N w' x := ⟨h.1, Nat.lt_of_lt_of_le h.2 hk.size⟩
theorem CR.kept (h : CR κ d S N n C b D w) (hk : Kept X w w') (hX : ∀ x, X x → S ≤ x ∧ x < N) : CR κ d S N n C b D w' :=
  have hb : ∀ x, Zs S N w x → w'.heap[x]? = w.heap[x]? := fun x hz => hk.block x hz.2 fun e => by have := hX x e; have := hz.1; omega
  ⟨h.row.frame hb fun x hz => hz.kept hk, fun i hi => (h.el i hi).frame hb fun x hz => hz.kept hk⟩
theorem CR.base {N' : Nat} (h : CR κ d S N' n C b D w) (hN : N ≤ N') : CR κ d S N n C b D w :=
  ⟨h.row.frame (fun _ _ => rfl) fun x hx => ⟨hx.1.imp id fun q => Nat.le_trans hN q, hx.2⟩, fun i hi => (h.el i hi).frame (fun _ _ => rfl) fun x hx => ⟨hx.1.imp id fun q => Nat.le_trans hN q, hx.2⟩⟩
theorem SR.base {N' : Nat} (h : SR S N' n F b w) (hN : N ≤ N') : SR S N n F b w := RowG.frame h (fun _ _ => rfl) fun x hx => ⟨hx.1.imp id fun q => Nat.le_trans hN q, hx.2⟩
theorem CR.below (h : CR κ d S N n C b D w) (hb : Below w.heap.size w w') : CR κ d S N n C b D w' := h.kept (X := fun _ => False) (Kept.of_below hb (Nat.le_refl _) _) fun _ e => e.elim
theorem SR.kept (h : SR S N n F b w) (hk : Kept X w w') (hX : ∀ x, X x → S ≤ x ∧ x < N) : SR S N n F b w' :=
  RowG.frame h (fun x hz => hk.block x hz.2 fun e => by have := hX x e; have := hz.1; omega) fun x hz => hz.kept hk
theorem SR.below (h : SR S N n F b w) (hb : Below w.heap.size w w') : SR S N n F b w' := h.kept (X := fun _ => False) (Kept.of_below hb (Nat.le_refl _) _) fun _ e => e.elim
/-- what came in stays -/
theorem RowF.kept (h : RowF (G (· < S) w d) (· < S) w κ a n C) (hk : Kept X w w') (hS : S ≤ w.heap.size) (hX : ∀ x, X x → S ≤ x) : RowF (G (· < S) w' d) (· < S) w' κ a n C :=
  have hb : ∀ x, x < S → w'.heap[x]? = w.heap[x]? := fun x hz => hk.block x (Nat.lt_of_lt_of_le hz hS) fun e => by have := hX x e; omega
  ⟨h.1, h.2.1.frame hb fun _ h => h, fun i hi => (h.2.2 i hi).frame hb fun _ h => h⟩
theorem StrF.kept {c : Nat} (h : StrF (· < S) w a n c F) (hk : Kept X w w') (hS : S ≤ w.heap.size) (hX : ∀ x, X x → S ≤ x) : StrF (· < S) w' a n c F :=
  ⟨h.1, h.2.1, h.2.2.1.frame (fun x hz => hk.block x (Nat.lt_of_lt_of_le hz hS) fun e => by have := hX x e; omega) fun _ h => h, h.2.2.2⟩
/-- the row, and its copy, at the end -/
theorem RowF.end_ (h : RowF (G (· < S) w d) (· < S) w κ a n C) (g : CR κ d S N n C b D w) (hS : S ≤ w.heap.size) {N0 c e : Nat} (hN : N0 ≤ N) {l : List Fd} {cs ds : List Value} (hm : MF (M (Zs S N0 w) w d) (Zs S N0 w) w l cs ds) : MF (M (Zs S N0 w) w d) (Zs S N0 w) w (.row κ :: l) (.slice a n c :: cs) (.slice b n e :: ds) :=
  .row h.1 (h.2.1.frame (fun _ _ => rfl) fun x hx => ⟨.inl hx, Nat.lt_of_lt_of_le hx hS⟩) (g.row.frame (fun _ _ => rfl) fun x hx => ⟨hx.1.imp id fun q => Nat.le_trans hN q, hx.2⟩) (fun i hi => (g.el i hi).frame (fun _ _ => rfl) fun x hx => ⟨hx.1.imp id fun q => Nat.le_trans hN q, hx.2⟩) hm
theorem StrF.end_ {c0 : Nat} (h : StrF (· < S) w a n c0 F) (g : SR S N n F b w) (hS : S ≤ w.heap.size) {N0 c e : Nat} (hN : N0 ≤ N) {R : Kd → List Value → List Value → Prop} {l : List Fd} {cs ds : List Value} (hm : MF R (Zs S N0 w) w l cs ds) : MF R (Zs S N0 w) w (.strs :: l) (.slice a n c :: cs) (.slice b n e :: ds) :=
  .strs h.1 (h.2.2.1.frame (fun _ _ => rfl) fun x hx => ⟨.inl hx, Nat.lt_of_lt_of_le hx hS⟩) (RowG.frame g (fun _ _ => rfl) fun x hx => ⟨hx.1.imp id fun q => Nat.le_trans hN q, hx.2⟩) hm
theorem G.kept {cs : List Value} (h : G (· < S) w d κ cs) (hk : Kept X w w') (hS : S ≤ w.heap.size) (hX : ∀ x, X x → S ≤ x) : G (· < S) w' d κ cs :=
  h.frame (fun x hz => hk.block x (Nat.lt_of_lt_of_le hz hS) fun e => by have := hX x e; omega) fun _ h => h
theorem M.kept {cs ds : List Value} (h : M (Zs S N w) w d κ cs ds) (hk : Kept X w w') (hX : ∀ x, X x → S ≤ x ∧ x < N) : M (Zs S N w') w' d κ cs ds :=
  h.frame (fun x hz => hk.block x hz.2 fun e => by have := hX x e; have := hz.1; omega) fun x hz => hz.kept hk
theorem M.base {N' : Nat} {cs ds : List Value} (h : M (Zs S N' w) w d κ cs ds) (hN : N ≤ N') : M (Zs S N w) w d κ cs ds := h.frame (fun _ _ => rfl) fun x hx => ⟨hx.1.imp id fun q => Nat.le_trans hN q, hx.2⟩
theorem M.below' {cs ds : List Value} (h : M (Zs S N w) w d κ cs ds) (hb : Below w.heap.size w w') : M (Zs S N w') w' d κ cs ds := h.kept (X := fun _ => False) (Kept.of_below hb (Nat.le_refl _) _) fun _ e => e.elim
theorem MF.append {R : Kd → List Value → List Value → Prop} {Z : Nat → Prop} {l m : List Fd} {cs ds es fs : List Value} (h : MF R Z w l cs ds) (g : MF R Z w m es fs) : MF R Z w (l ++ m) (cs ++ es) (ds ++ fs) := by
  induction h with
  | nil => exact g
  | int _ ih => exact .int ih
  | pos _ ih => exact .pos ih
  | str h1 _ ih => exact .str h1 ih
  | strs h1 h2 h3 _ ih => exact .strs h1 h2 h3 ih
  | row h1 h2 h3 h4 _ ih => exact .row h1 h2 h3 h4 ih
theorem split_al {R : Kd → List Value → Prop} {Z : Nat → Prop} {cs : List Value} (h : FF R Z w (schema .al) cs) : ∃ (ps : List Value) (a : Option Addr) (n c : Nat) (C : Nat → List Value), cs = ps ++ [.slice a n c] ∧ FF R Z w (schema .pt) ps ∧ RowF R Z w .rh a n C := by
  revert h
  show FF R Z w [.int, .str, .int, .row .pt, .pos, .pos, .row .rh] cs → _
  intro h
  cases h with | int h =>
  cases h with | str q h =>
  cases h with | int h =>
  cases h with | row q1 q2 q3 q4 h =>
  cases h with | pos h =>
  cases h with | pos h =>
  cases h with | row r1 r2 r3 r4 h =>
  cases h
  exact ⟨[_, _, _, _, _, _], _, _, _, _, rfl, .int (.str q (.int (.row q1 q2 q3 q4 (.pos (.pos .nil))))), r1, r3, r4⟩
theorem split_rh {R : Kd → List Value → Prop} {Z : Nat → Prop} {cs : List Value} (h : FF R Z w (schema .rh) cs) : ∃ (a : Option Addr) (n c : Nat) (C : Nat → List Value) (us : List Value), cs = .slice a n c :: us ∧ RowF R Z w .ex a n C ∧ FF R Z w (schema .ex) us := by
  revert h
  show FF R Z w (.row .ex :: schema .ex) cs → _
  intro h
  cases h with | row r1 r2 r3 r4 h =>
  exact ⟨_, _, _, _, _, rfl, ⟨r1, r3, r4⟩, h⟩
theorem kept_of_wrote {g : Nat} {V : World} (h : Kept X w w') (hw : Wrote w' V g) (hx : g < w.heap.size → X g) : Kept X w V :=
  have b : Below (min g w'.heap.size) w' V := hw.below (Below.refl (min g w'.heap.size) w') (Nat.min_le_left _ _)
  ⟨b.os.trans h.os, b.tape.trans h.tape, b.output.trans h.output, by rw [hw.size]; exact h.size, fun k hk hx' => (hw.block k fun e => hx' (e ▸ hx (e ▸ hk))).trans (h.block k hk hx')⟩
end
theorem bc2 {w : World} {g : Nat} {t : TypeId} {a0 a1 : Value} (h : Box w g t #[a0, a1]) : w.cell? ⟨g, 0, none⟩ = some a0 ∧ w.cell? ⟨g, 1, none⟩ = some a1 :=
  ⟨h.cell 0, h.cell 1⟩
theorem bf2 {w : World} {g : Nat} {t : TypeId} {a0 a1 : Value} (h : Box w g t #[a0, a1]) : w.frozen? ⟨g, 0, none⟩ = false ∧ w.frozen? ⟨g, 1, none⟩ = false :=
  ⟨h.free 0, h.free 1⟩
theorem bw2 {w : World} {g : Nat} {t : TypeId} {a0 a1 : Value} (h : Box w g t #[a0, a1]) (v0 v1 : Value) : ∃ W, ((w.setCell ⟨g, 0, none⟩ v0).setCell ⟨g, 1, none⟩ v1) = W ∧ Box W g t #[v0, v1] ∧ Wrote w W g := by
  have h0 : Box _ g t #[v0, a1] := h.put 0 v0
  have h1 : Box _ g t #[v0, v1] := h0.put 1 v1
  exact ⟨_, rfl, h1, (((Wrote.refl w g).set 0 v0).set 1 v1)⟩
theorem bc3 {w : World} {g : Nat} {t : TypeId} {a0 a1 a2 : Value} (h : Box w g t #[a0, a1, a2]) : w.cell? ⟨g, 0, none⟩ = some a0 ∧ w.cell? ⟨g, 1, none⟩ = some a1 ∧ w.cell? ⟨g, 2, none⟩ = some a2 :=
  ⟨h.cell 0, h.cell 1, h.cell 2⟩
theorem bf3 {w : World} {g : Nat} {t : TypeId} {a0 a1 a2 : Value} (h : Box w g t #[a0, a1, a2]) : w.frozen? ⟨g, 0, none⟩ = false ∧ w.frozen? ⟨g, 1, none⟩ = false ∧ w.frozen? ⟨g, 2, none⟩ = false :=
  ⟨h.free 0, h.free 1, h.free 2⟩
theorem bw3 {w : World} {g : Nat} {t : TypeId} {a0 a1 a2 : Value} (h : Box w g t #[a0, a1, a2]) (v0 v1 v2 : Value) : ∃ W, (((w.setCell ⟨g, 0, none⟩ v0).setCell ⟨g, 1, none⟩ v1).setCell ⟨g, 2, none⟩ v2) = W ∧ Box W g t #[v0, v1, v2] ∧ Wrote w W g := by
  have h0 : Box _ g t #[v0, a1, a2] := h.put 0 v0
  have h1 : Box _ g t #[v0, v1, a2] := h0.put 1 v1
  have h2 : Box _ g t #[v0, v1, v2] := h1.put 2 v2
  exact ⟨_, rfl, h2, ((((Wrote.refl w g).set 0 v0).set 1 v1).set 2 v2)⟩
theorem bc4 {w : World} {g : Nat} {t : TypeId} {a0 a1 a2 a3 : Value} (h : Box w g t #[a0, a1, a2, a3]) : w.cell? ⟨g, 0, none⟩ = some a0 ∧ w.cell? ⟨g, 1, none⟩ = some a1 ∧ w.cell? ⟨g, 2, none⟩ = some a2 ∧ w.cell? ⟨g, 3, none⟩ = some a3 :=
  ⟨h.cell 0, h.cell 1, h.cell 2, h.cell 3⟩
theorem bf4 {w : World} {g : Nat} {t : TypeId} {a0 a1 a2 a3 : Value} (h : Box w g t #[a0, a1, a2, a3]) : w.frozen? ⟨g, 0, none⟩ = false ∧ w.frozen? ⟨g, 1, none⟩ = false ∧ w.frozen? ⟨g, 2, none⟩ = false ∧ w.frozen? ⟨g, 3, none⟩ = false :=
  ⟨h.free 0, h.free 1, h.free 2, h.free 3⟩
theorem bw4 {w : World} {g : Nat} {t : TypeId} {a0 a1 a2 a3 : Value} (h : Box w g t #[a0, a1, a2, a3]) (v0 v1 v2 v3 : Value) : ∃ W, ((((w.setCell ⟨g, 0, none⟩ v0).setCell ⟨g, 1, none⟩ v1).setCell ⟨g, 2, none⟩ v2).setCell ⟨g, 3, none⟩ v3) = W ∧ Box W g t #[v0, v1, v2, v3] ∧ Wrote w W g := by
  have h0 : Box _ g t #[v0, a1, a2, a3] := h.put 0 v0
  have h1 : Box _ g t #[v0, v1, a2, a3] := h0.put 1 v1
  have h2 : Box _ g t #[v0, v1, v2, a3] := h1.put 2 v2
  have h3 : Box _ g t #[v0, v1, v2, v3] := h2.put 3 v3
  exact ⟨_, rfl, h3, (((((Wrote.refl w g).set 0 v0).set 1 v1).set 2 v2).set 3 v3)⟩
theorem bc5 {w : World} {g : Nat} {t : TypeId} {a0 a1 a2 a3 a4 : Value} (h : Box w g t #[a0, a1, a2, a3, a4]) : w.cell? ⟨g, 0, none⟩ = some a0 ∧ w.cell? ⟨g, 1, none⟩ = some a1 ∧ w.cell? ⟨g, 2, none⟩ = some a2 ∧ w.cell? ⟨g, 3, none⟩ = some a3 ∧ w.cell? ⟨g, 4, none⟩ = some a4 :=
  ⟨h.cell 0, h.cell 1, h.cell 2, h.cell 3, h.cell 4⟩
theorem bf5 {w : World} {g : Nat} {t : TypeId} {a0 a1 a2 a3 a4 : Value} (h : Box w g t #[a0, a1, a2, a3, a4]) : w.frozen? ⟨g, 0, none⟩ = false ∧ w.frozen? ⟨g, 1, none⟩ = false ∧ w.frozen? ⟨g, 2, none⟩ = false ∧ w.frozen? ⟨g, 3, none⟩ = false ∧ w.frozen? ⟨g, 4, none⟩ = false :=
  ⟨h.free 0, h.free 1, h.free 2, h.free 3, h.free 4⟩
theorem bw5 {w : World} {g : Nat} {t : TypeId} {a0 a1 a2 a3 a4 : Value} (h : Box w g t #[a0, a1, a2, a3, a4]) (v0 v1 v2 v3 v4 : Value) : ∃ W, (((((w.setCell ⟨g, 0, none⟩ v0).setCell ⟨g, 1, none⟩ v1).setCell ⟨g, 2, none⟩ v2).setCell ⟨g, 3, none⟩ v3).setCell ⟨g, 4, none⟩ v4) = W ∧ Box W g t #[v0, v1, v2, v3, v4] ∧ Wrote w W g := by
  have h0 : Box _ g t #[v0, a1, a2, a3, a4] := h.put 0 v0
  have h1 : Box _ g t #[v0, v1, a2, a3, a4] := h0.put 1 v1
  have h2 : Box _ g t #[v0, v1, v2, a3, a4] := h1.put 2 v2
  have h3 : Box _ g t #[v0, v1, v2, v3, a4] := h2.put 3 v3
  have h4 : Box _ g t #[v0, v1, v2, v3, v4] := h3.put 4 v4
  exact ⟨_, rfl, h4, ((((((Wrote.refl w g).set 0 v0).set 1 v1).set 2 v2).set 3 v3).set 4 v4)⟩
theorem bc6 {w : World} {g : Nat} {t : TypeId} {a0 a1 a2 a3 a4 a5 : Value} (h : Box w g t #[a0, a1, a2, a3, a4, a5]) : w.cell? ⟨g, 0, none⟩ = some a0 ∧ w.cell? ⟨g, 1, none⟩ = some a1 ∧ w.cell? ⟨g, 2, none⟩ = some a2 ∧ w.cell? ⟨g, 3, none⟩ = some a3 ∧ w.cell? ⟨g, 4, none⟩ = some a4 ∧ w.cell? ⟨g, 5, none⟩ = some a5 :=
  ⟨h.cell 0, h.cell 1, h.cell 2, h.cell 3, h.cell 4, h.cell 5⟩
theorem bf6 {w : World} {g : Nat} {t : TypeId} {a0 a1 a2 a3 a4 a5 : Value} (h : Box w g t #[a0, a1, a2, a3, a4, a5]) : w.frozen? ⟨g, 0, none⟩ = false ∧ w.frozen? ⟨g, 1, none⟩ = false ∧ w.frozen? ⟨g, 2, none⟩ = false ∧ w.frozen? ⟨g, 3, none⟩ = false ∧ w.frozen? ⟨g, 4, none⟩ = false ∧ w.frozen? ⟨g, 5, none⟩ = false :=
  ⟨h.free 0, h.free 1, h.free 2, h.free 3, h.free 4, h.free 5⟩
theorem bw6 {w : World} {g : Nat} {t : TypeId} {a0 a1 a2 a3 a4 a5 : Value} (h : Box w g t #[a0, a1, a2, a3, a4, a5]) (v0 v1 v2 v3 v4 v5 : Value) : ∃ W, ((((((w.setCell ⟨g, 0, none⟩ v0).setCell ⟨g, 1, none⟩ v1).setCell ⟨g, 2, none⟩ v2).setCell ⟨g, 3, none⟩ v3).setCell ⟨g, 4, none⟩ v4).setCell ⟨g, 5, none⟩ v5) = W ∧ Box W g t #[v0, v1, v2, v3, v4, v5] ∧ Wrote w W g := by
  have h0 : Box _ g t #[v0, a1, a2, a3, a4, a5] := h.put 0 v0
  have h1 : Box _ g t #[v0, v1, a2, a3, a4, a5] := h0.put 1 v1
  have h2 : Box _ g t #[v0, v1, v2, a3, a4, a5] := h1.put 2 v2
  have h3 : Box _ g t #[v0, v1, v2, v3, a4, a5] := h2.put 3 v3
  have h4 : Box _ g t #[v0, v1, v2, v3, v4, a5] := h3.put 4 v4
  have h5 : Box _ g t #[v0, v1, v2, v3, v4, v5] := h4.put 5 v5
  exact ⟨_, rfl, h5, (((((((Wrote.refl w g).set 0 v0).set 1 v1).set 2 v2).set 3 v3).set 4 v4).set 5 v5)⟩
theorem bc7 {w : World} {g : Nat} {t : TypeId} {a0 a1 a2 a3 a4 a5 a6 : Value} (h : Box w g t #[a0, a1, a2, a3, a4, a5, a6]) : w.cell? ⟨g, 0, none⟩ = some a0 ∧ w.cell? ⟨g, 1, none⟩ = some a1 ∧ w.cell? ⟨g, 2, none⟩ = some a2 ∧ w.cell? ⟨g, 3, none⟩ = some a3 ∧ w.cell? ⟨g, 4, none⟩ = some a4 ∧ w.cell? ⟨g, 5, none⟩ = some a5 ∧ w.cell? ⟨g, 6, none⟩ = some a6 :=
  ⟨h.cell 0, h.cell 1, h.cell 2, h.cell 3, h.cell 4, h.cell 5, h.cell 6⟩
theorem bf7 {w : World} {g : Nat} {t : TypeId} {a0 a1 a2 a3 a4 a5 a6 : Value} (h : Box w g t #[a0, a1, a2, a3, a4, a5, a6]) : w.frozen? ⟨g, 0, none⟩ = false ∧ w.frozen? ⟨g, 1, none⟩ = false ∧ w.frozen? ⟨g, 2, none⟩ = false ∧ w.frozen? ⟨g, 3, none⟩ = false ∧ w.frozen? ⟨g, 4, none⟩ = false ∧ w.frozen? ⟨g, 5, none⟩ = false ∧ w.frozen? ⟨g, 6, none⟩ = false :=
  ⟨h.free 0, h.free 1, h.free 2, h.free 3, h.free 4, h.free 5, h.free 6⟩
theorem bw7 {w : World} {g : Nat} {t : TypeId} {a0 a1 a2 a3 a4 a5 a6 : Value} (h : Box w g t #[a0, a1, a2, a3, a4, a5, a6]) (v0 v1 v2 v3 v4 v5 v6 : Value) : ∃ W, (((((((w.setCell ⟨g, 0, none⟩ v0).setCell ⟨g, 1, none⟩ v1).setCell ⟨g, 2, none⟩ v2).setCell ⟨g, 3, none⟩ v3).setCell ⟨g, 4, none⟩ v4).setCell ⟨g, 5, none⟩ v5).setCell ⟨g, 6, none⟩ v6) = W ∧ Box W g t #[v0, v1, v2, v3, v4, v5, v6] ∧ Wrote w W g := by
  have h0 : Box _ g t #[v0, a1, a2, a3, a4, a5, a6] := h.put 0 v0
  have h1 : Box _ g t #[v0, v1, a2, a3, a4, a5, a6] := h0.put 1 v1
  have h2 : Box _ g t #[v0, v1, v2, a3, a4, a5, a6] := h1.put 2 v2
  have h3 : Box _ g t #[v0, v1, v2, v3, a4, a5, a6] := h2.put 3 v3
  have h4 : Box _ g t #[v0, v1, v2, v3, v4, a5, a6] := h3.put 4 v4
  have h5 : Box _ g t #[v0, v1, v2, v3, v4, v5, a6] := h4.put 5 v5
  have h6 : Box _ g t #[v0, v1, v2, v3, v4, v5, v6] := h5.put 6 v6
  exact ⟨_, rfl, h6, ((((((((Wrote.refl w g).set 0 v0).set 1 v1).set 2 v2).set 3 v3).set 4 v4).set 5 v5).set 6 v6)⟩
theorem bc9 {w : World} {g : Nat} {t : TypeId} {a0 a1 a2 a3 a4 a5 a6 a7 a8 : Value} (h : Box w g t #[a0, a1, a2, a3, a4, a5, a6, a7, a8]) : w.cell? ⟨g, 0, none⟩ = some a0 ∧ w.cell? ⟨g, 1, none⟩ = some a1 ∧ w.cell? ⟨g, 2, none⟩ = some a2 ∧ w.cell? ⟨g, 3, none⟩ = some a3 ∧ w.cell? ⟨g, 4, none⟩ = some a4 ∧ w.cell? ⟨g, 5, none⟩ = some a5 ∧ w.cell? ⟨g, 6, none⟩ = some a6 ∧ w.cell? ⟨g, 7, none⟩ = some a7 ∧ w.cell? ⟨g, 8, none⟩ = some a8 :=
  ⟨h.cell 0, h.cell 1, h.cell 2, h.cell 3, h.cell 4, h.cell 5, h.cell 6, h.cell 7, h.cell 8⟩
theorem bf9 {w : World} {g : Nat} {t : TypeId} {a0 a1 a2 a3 a4 a5 a6 a7 a8 : Value} (h : Box w g t #[a0, a1, a2, a3, a4, a5, a6, a7, a8]) : w.frozen? ⟨g, 0, none⟩ = false ∧ w.frozen? ⟨g, 1, none⟩ = false ∧ w.frozen? ⟨g, 2, none⟩ = false ∧ w.frozen? ⟨g, 3, none⟩ = false ∧ w.frozen? ⟨g, 4, none⟩ = false ∧ w.frozen? ⟨g, 5, none⟩ = false ∧ w.frozen? ⟨g, 6, none⟩ = false ∧ w.frozen? ⟨g, 7, none⟩ = false ∧ w.frozen? ⟨g, 8, none⟩ = false :=
  ⟨h.free 0, h.free 1, h.free 2, h.free 3, h.free 4, h.free 5, h.free 6, h.free 7, h.free 8⟩
theorem bw9 {w : World} {g : Nat} {t : TypeId} {a0 a1 a2 a3 a4 a5 a6 a7 a8 : Value} (h : Box w g t #[a0, a1, a2, a3, a4, a5, a6, a7, a8]) (v0 v1 v2 v3 v4 v5 v6 v7 v8 : Value) : ∃ W, (((((((((w.setCell ⟨g, 0, none⟩ v0).setCell ⟨g, 1, none⟩ v1).setCell ⟨g, 2, none⟩ v2).setCell ⟨g, 3, none⟩ v3).setCell ⟨g, 4, none⟩ v4).setCell ⟨g, 5, none⟩ v5).setCell ⟨g, 6, none⟩ v6).setCell ⟨g, 7, none⟩ v7).setCell ⟨g, 8, none⟩ v8) = W ∧ Box W g t #[v0, v1, v2, v3, v4, v5, v6, v7, v8] ∧ Wrote w W g := by
  have h0 : Box _ g t #[v0, a1, a2, a3, a4, a5, a6, a7, a8] := h.put 0 v0
  have h1 : Box _ g t #[v0, v1, a2, a3, a4, a5, a6, a7, a8] := h0.put 1 v1
  have h2 : Box _ g t #[v0, v1, v2, a3, a4, a5, a6, a7, a8] := h1.put 2 v2
  have h3 : Box _ g t #[v0, v1, v2, v3, a4, a5, a6, a7, a8] := h2.put 3 v3
  have h4 : Box _ g t #[v0, v1, v2, v3, v4, a5, a6, a7, a8] := h3.put 4 v4
  have h5 : Box _ g t #[v0, v1, v2, v3, v4, v5, a6, a7, a8] := h4.put 5 v5
  have h6 : Box _ g t #[v0, v1, v2, v3, v4, v5, v6, a7, a8] := h5.put 6 v6
  have h7 : Box _ g t #[v0, v1, v2, v3, v4, v5, v6, v7, a8] := h6.put 7 v7
  have h8 : Box _ g t #[v0, v1, v2, v3, v4, v5, v6, v7, v8] := h7.put 8 v8
  exact ⟨_, rfl, h8, ((((((((((Wrote.refl w g).set 0 v0).set 1 v1).set 2 v2).set 3 v3).set 4 v4).set 5 v5).set 6 v6).set 7 v7).set 8 v8)⟩
theorem bc10 {w : World} {g : Nat} {t : TypeId} {a0 a1 a2 a3 a4 a5 a6 a7 a8 a9 : Value} (h : Box w g t #[a0, a1, a2, a3, a4, a5, a6, a7, a8, a9]) : w.cell? ⟨g, 0, none⟩ = some a0 ∧ w.cell? ⟨g, 1, none⟩ = some a1 ∧ w.cell? ⟨g, 2, none⟩ = some a2 ∧ w.cell? ⟨g, 3, none⟩ = some a3 ∧ w.cell? ⟨g, 4, none⟩ = some a4 ∧ w.cell? ⟨g, 5, none⟩ = some a5 ∧ w.cell? ⟨g, 6, none⟩ = some a6 ∧ w.cell? ⟨g, 7, none⟩ = some a7 ∧ w.cell? ⟨g, 8, none⟩ = some a8 ∧ w.cell? ⟨g, 9, none⟩ = some a9 :=
  ⟨h.cell 0, h.cell 1, h.cell 2, h.cell 3, h.cell 4, h.cell 5, h.cell 6, h.cell 7, h.cell 8, h.cell 9⟩
theorem bf10 {w : World} {g : Nat} {t : TypeId} {a0 a1 a2 a3 a4 a5 a6 a7 a8 a9 : Value} (h : Box w g t #[a0, a1, a2, a3, a4, a5, a6, a7, a8, a9]) : w.frozen? ⟨g, 0, none⟩ = false ∧ w.frozen? ⟨g, 1, none⟩ = false ∧ w.frozen? ⟨g, 2, none⟩ = false ∧ w.frozen? ⟨g, 3, none⟩ = false ∧ w.frozen? ⟨g, 4, none⟩ = false ∧ w.frozen? ⟨g, 5, none⟩ = false ∧ w.frozen? ⟨g, 6, none⟩ = false ∧ w.frozen? ⟨g, 7, none⟩ = false ∧ w.frozen? ⟨g, 8, none⟩ = false ∧ w.frozen? ⟨g, 9, none⟩ = false :=
  ⟨h.free 0, h.free 1, h.free 2, h.free 3, h.free 4, h.free 5, h.free 6, h.free 7, h.free 8, h.free 9⟩
theorem bw10 {w : World} {g : Nat} {t : TypeId} {a0 a1 a2 a3 a4 a5 a6 a7 a8 a9 : Value} (h : Box w g t #[a0, a1, a2, a3, a4, a5, a6, a7, a8, a9]) (v0 v1 v2 v3 v4 v5 v6 v7 v8 v9 : Value) : ∃ W, ((((((((((w.setCell ⟨g, 0, none⟩ v0).setCell ⟨g, 1, none⟩ v1).setCell ⟨g, 2, none⟩ v2).setCell ⟨g, 3, none⟩ v3).setCell ⟨g, 4, none⟩ v4).setCell ⟨g, 5, none⟩ v5).setCell ⟨g, 6, none⟩ v6).setCell ⟨g, 7, none⟩ v7).setCell ⟨g, 8, none⟩ v8).setCell ⟨g, 9, none⟩ v9) = W ∧ Box W g t #[v0, v1, v2, v3, v4, v5, v6, v7, v8, v9] ∧ Wrote w W g := by
  have h0 : Box _ g t #[v0, a1, a2, a3, a4, a5, a6, a7, a8, a9] := h.put 0 v0
  have h1 : Box _ g t #[v0, v1, a2, a3, a4, a5, a6, a7, a8, a9] := h0.put 1 v1
  have h2 : Box _ g t #[v0, v1, v2, a3, a4, a5, a6, a7, a8, a9] := h1.put 2 v2
  have h3 : Box _ g t #[v0, v1, v2, v3, a4, a5, a6, a7, a8, a9] := h2.put 3 v3
  have h4 : Box _ g t #[v0, v1, v2, v3, v4, a5, a6, a7, a8, a9] := h3.put 4 v4
  have h5 : Box _ g t #[v0, v1, v2, v3, v4, v5, a6, a7, a8, a9] := h4.put 5 v5
  have h6 : Box _ g t #[v0, v1, v2, v3, v4, v5, v6, a7, a8, a9] := h5.put 6 v6
  have h7 : Box _ g t #[v0, v1, v2, v3, v4, v5, v6, v7, a8, a9] := h6.put 7 v7
  have h8 : Box _ g t #[v0, v1, v2, v3, v4, v5, v6, v7, v8, a9] := h7.put 8 v8
  have h9 : Box _ g t #[v0, v1, v2, v3, v4, v5, v6, v7, v8, v9] := h8.put 9 v9
  exact ⟨_, rfl, h9, (((((((((((Wrote.refl w g).set 0 v0).set 1 v1).set 2 v2).set 3 v3).set 4 v4).set 5 v5).set 6 v6).set 7 v7).set 8 v8).set 9 v9)⟩
theorem info_str : (Tryz.prog.info? 9).map (fun i => (i.zero, i.size, i.bytes)) = some (some (.string ByteArray.empty), 1, 16) := by kernel_rfl
/-- the cells of a row of texts -/
theorem strs_cells {Z : Nat → Prop} {w : World} {ad : Addr} {n : Nat} {F : Nat → ByteArray} (h : RowG Z w (some ad) n 1 (fun i => [.string (F i)])) : ∀ j u, ((List.range n).map fun i => Value.string (F i))[j]? = some u → w.cell? (ad.add j) = some u := by
  intro j u hj
  rw [List.getElem?_map] at hj
  by_cases hjn : j < n
  · rw [List.getElem?_range hjn] at hj
    obtain ⟨ad', e, _, _, g0, _⟩ := h j hjn
    injection e with e
    subst e
    have := g0 _ rfl
    rw [Nat.mul_one] at this
    rw [this, ← hj]
    rfl
  · rw [List.getElem?_eq_none (by simpa using hjn)] at hj
    cases hj
theorem row_strs {S N n c : Nat} {F : Nat → ByteArray} {a : Option Addr} {w : World} (h : w.ownsRow N 9 1 (.slice a n c) n ((List.range n).map fun i => Value.string (F i))) : SR S N n F a w := fun i hi => by
  obtain ⟨g, rfl, h1, h2, h3, h4⟩ := own_at h (by omega)
  have hadd : ((⟨g, 0, none⟩ : Addr).add (i * 1)) = ⟨g, i * 1, none⟩ := by
    simp [Addr.add]
    try (intro e; omega)
  refine ⟨⟨g, 0, none⟩, rfl, ⟨.inr h1, h2⟩, rfl, fun u hu => ?_, fun j u hj hu => ?_⟩
  · rw [hadd, h4 _ (by omega), Nat.mul_one, List.getElem?_map, List.getElem?_range hi]
    exact hu
  · match j, hj with
    | j + 1, _ => simp at hu
def ClPost (S n : Nat) (F : Nat → ByteArray) (w : World) (r : Ending) (w' : World) : Prop := ∃ b e, r = .returned (.slice b n e) ∧ SR S w.heap.size n F b w' ∧ Below w.heap.size w w'
set_option maxRecDepth 100000 in
set_option maxHeartbeats 4000000 in
theorem clone_strs {S n c : Nat} {a : Option Addr} {F : Nat → ByteArray} (w : World) (hS : S ≤ w.heap.size) (h : StrF (· < S) w a n c F) : Calls Tryz.prog 28 #[.slice a n c] w (ClPost S n F w) := by
  obtain ⟨i0, hi, hz0, hz1, hz2'⟩ := info_parts info_str
  cases a with
  | none =>
    obtain rfl : n = 0 := by
      cases n with
      | zero => rfl
      | succ n => obtain ⟨ad, e, _⟩ := h.2.2.1 0 (Nat.succ_pos n); cases e
    go_enter Tryz.func28, Tryz.ntmps28
    have E1 : ∀ w, (binOp .eql 27 (.slice none 0 c) (.slice none 0 0)).run Tryz.prog w = .ok (.bool true) w := fun w => Lib.run_eql_slice_nil w _ _ none 0 c 0 0 Tryz.underlying27
    go_wp2
    refine bodyPost_ret (v := .slice none 0 0) (by simp [results, Tryz.results28, go_sem]) rfl ?_
    exact ⟨none, 0, rfl, RowG.nil _ _ _ _ _, Below.refl _ _⟩
  | some ad =>
    have E1 : ∀ w, (binOp .eql 27 (.slice (some ad) n c) (.slice none 0 0)).run Tryz.prog w = .ok (.bool false) w := fun w => Lib.run_eql_slice_nil w _ _ (some ad) n c 0 0 Tryz.underlying27
    have hn : n * 16 ≤ 140737488355328 := h.1
    have hb0 := (Below.refl w.heap.size w).alloc (Nat.le_refl _) (.cells #[] 9)
    have HV2 := Lib.hid (strs_cells (h.2.2.1.frame (w' := w.alloc (.cells #[] 9)) (Z' := (· < S)) (fun x hx => hb0.block x (Nat.lt_of_lt_of_le hx hS)) fun _ h => h))
    have HLV := Lib.hid (show ((List.range n).map fun i => Value.string (F i)).length = n * 1 by simp)
    have HV3 := Lib.hid (show ∀ u ∈ (List.range n).map fun i => Value.string (F i), u.oneCell' = true from fun u hu => by
      obtain ⟨i, _, rfl⟩ := List.mem_map.1 hu
      rfl)
    obtain ⟨vs, hvs⟩ : ∃ vs, ((List.range n).map fun i => Value.string (F i)) = vs := ⟨_, rfl⟩
    rw [hvs] at HV2 HLV HV3
    have HVS := Lib.hid hvs
    clear h hb0 hvs
    go_enter Tryz.func28, Tryz.ntmps28
    have ho : (w.alloc (.cells #[] 9)).ownsRow w.heap.size 9 1 (.slice (some ⟨w.heap.size, 0, none⟩) 0 0) 0 [] :=
      ⟨rfl, .inr ⟨w.heap.size, 0, #[], rfl, Nat.le_refl _, heap_alloc_new w _, Nat.le_refl _, Nat.zero_le _, rfl, rfl⟩⟩
    have HO := Lib.hid ho
    clear ho
    go_wp2_with (at_builtin; refine wpList_append_own _ rfl _ _ 27 rfl w.heap.size 9 i0 _ 1 16 Tryz.underlying27 hi hz0 hz1 hz2' rfl (by decide) _ _ _ rfl HO.out ad n c vs rfl HLV.out HV2.out HV3.out ?c3 ?c4 ?c5 ?_)
    case c3 => unfold maxLen; omega
    case c4 => omega
    case c5 => simp
    intro v' w5 hown hgrow _
    have HO5 := Lib.hid hown
    have HB5 := Lib.hid (show Below w.heap.size w w5 from ((Below.refl w.heap.size w).alloc (Nat.le_refl _) (.cells #[] 9)).grown hgrow (by simp) (fun g hg => by
      have : w.heap.size = g := by simpa [Value.ownBlock] using hg
      omega))
    clear hown hgrow
    go_wp2
    refine bodyPost_ret (v := v') (by simp [results, Tryz.results28, go_sem]) rfl ?_
    have ho5 := HO5.out
    obtain ⟨b, e, rfl⟩ := own_slice ho5
    rw [← HVS.out] at ho5
    exact ⟨b, e, rfl, row_strs ho5, HB5.out⟩
end Go.Proofs.YtdajihpfedbihaaGreat.St
