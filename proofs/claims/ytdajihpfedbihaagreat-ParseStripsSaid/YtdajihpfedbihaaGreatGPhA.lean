/-
  WORDS on layer parse: rows of bindings while they are made: the last one's clauses are the call's own.
-/
import Derived.Test.YtdajihpfedbihaaGreatGO

namespace Go.Proofs.YtdajihpfedbihaaGreat.Pa
open Go.RowKit Mm Tm Pm
set_option linter.unusedVariables false
set_option linter.unusedSimpArgs false
abbrev TBd : TypeId := 51
abbrev TCc : TypeId := 100
theorem own_rowz {Q : Nat → Prop} {w : World} {B k n : Nat} {TE : TypeId} {sv : Value} {vs : List Value} (h : w.ownsRow B TE k sv n vs) (hQ : ∀ b, sv.ownBlock = some b → B ≤ b → Q b) : RowZ Q w sv n k (elC vs k) := by
  obtain ⟨a, c, rfl⟩ := own_slice h
  by_cases h0 : n = 0
  · exact ⟨a, c, by rw [h0], by omega, fun i hi => by omega⟩
  · obtain ⟨g, rfl, h1, h2, h3, h4⟩ := own_at h (by omega)
    refine ⟨_, c, rfl, h3, fun i hi => ⟨g, rfl, hQ g rfl h1, h2, fun j u hu => ?_⟩⟩
    have hj : j < k := by
      have := (List.getElem?_eq_some_iff.1 hu).1
      unfold elC at this
      rw [List.length_take] at this
      omega
    have hle : i * k + k ≤ n * k := by rw [← Nat.succ_mul]; exact Nat.mul_le_mul_right k hi
    rw [h4 _ (by omega)]
    unfold elC at hu
    rw [List.getElem?_take_of_lt hj, List.getElem?_drop] at hu
    exact hu
theorem own_box {w : World} {B k n : Nat} {TE : TypeId} {sv : Value} {vs : List Value} {g : Nat} (h : w.ownsRow B TE k sv n vs) (hg : sv.ownBlock = some g) : ∃ cur, Box w g TE cur := by
  rcases h.2 with ⟨rfl, _⟩ | ⟨g', cap, cur, rfl, _, hh, _⟩
  · simp [Value.ownBlock] at hg
  · obtain rfl : g' = g := by simpa [Value.ownBlock] using hg
    exact ⟨cur, hh⟩
theorem own_apart {w : World} {B k n B' k' n' : Nat} {TE TE' : TypeId} {sv sv' : Value} {vs vs' : List Value} (h : w.ownsRow B TE k sv n vs) (h' : w.ownsRow B' TE' k' sv' n' vs') (hne : TE ≠ TE') : ∀ b, sv'.ownBlock = some b → sv.ownBlock ≠ some b := by
  intro b hb e
  obtain ⟨cur, hx⟩ := own_box h' hb
  exact own_ne h hx hne e.symm
theorem own_kept {X : Nat → Prop} {w w' : World} {B k n : Nat} {TE : TypeId} {sv : Value} {vs : List Value} (h : w.ownsRow B TE k sv n vs) (hk : Kept X w w') (hX : ∀ b, sv.ownBlock = some b → ¬ X b) : w'.ownsRow B TE k sv n vs := by
  refine ⟨h.1, ?_⟩
  rcases h.2 with q | ⟨g, cap, cur, rfl, hg, hh, r⟩
  · exact .inl q
  · exact .inr ⟨g, cap, cur, rfl, hg, (hk.block g (lt_of_block hh) (hX g rfl)).trans hh, r⟩
theorem own_grown {w w' : World} {B k n : Nat} {TE : TypeId} {sv : Value} {vs : List Value} {o : Obj} {row : Option Nat} (h : w.ownsRow B TE k sv n vs) (hg : (w.alloc o).grownBy w' row) (hr : ∀ b, sv.ownBlock = some b → row ≠ some b) : w'.ownsRow B TE k sv n vs := by
  refine ⟨h.1, ?_⟩
  rcases h.2 with q | ⟨g, cap, cur, rfl, hb, hh, r⟩
  · exact .inl q
  · refine .inr ⟨g, cap, cur, rfl, hb, ?_, r⟩
    have hl := lt_of_block hh
    rw [hg.block g (by simp; omega) (fun e => hr g rfl e.symm), Below.heap_alloc w o g hl]
    exact hh
/-- bindings, the last one's clauses the call's own -/
structure BdL (B0 : Nat) (Q : Nat → Prop) (w : World) (sv : Value) (init : List ExB) (nm : Name) (cs : List ExC) (ln col : Int) (vs : List Value) (sc : Value) (us : List Value) : Prop where
  own : w.ownsRow B0 TBd 4 sv (init.length + 1) (vs ++ [.string (toB nm), sc, .int .i64 ln, .int .i64 col])
  len : vs.length = init.length * 4
  el : ∀ i t, init[i]? = some t → EV (fun b => Q b ∧ sv.ownBlock ≠ some b ∧ sc.ownBlock ≠ some b) w (.bd t) (elC vs 4 i)
  cls : OwnE EIt.cl TCc 2 B0 (fun b => Q b ∧ sv.ownBlock ≠ some b) w sc cs us
section
variable {B0 : Nat} {Q : Nat → Prop} {w w' : World} {sv : Value} {init : List ExB} {nm : Name} {cs : List ExC} {ln col : Int} {vs : List Value} {sc : Value} {us : List Value}
theorem BdL.ne (h : BdL B0 Q w sv init nm cs ln col vs sc us) : ∀ b, sc.ownBlock = some b → sv.ownBlock ≠ some b := own_apart h.own h.cls.own (by decide)
theorem BdL.whole (h : BdL B0 Q w sv init nm cs ln col vs sc us) (hB : ∀ b, B0 ≤ b → Q b) : OwnE EIt.bd TBd 4 B0 Q w sv (init ++ [.mk nm cs ln col]) (vs ++ [.string (toB nm), sc, .int .i64 ln, .int .i64 col]) := by
  refine ⟨by rw [List.length_append, List.length_singleton]; exact h.own, fun i t ht => ?_⟩
  by_cases hi : i < init.length
  · rw [List.getElem?_append_left hi] at ht
    rw [elC_old h.len hi]
    exact (h.el i t ht).mono fun b hz _ => ⟨hz.1, hz.2.1⟩
  · have hil : i = init.length := by
      have := (List.getElem?_eq_some_iff.1 ht).1
      rw [List.length_append, List.length_singleton] at this
      omega
    subst hil
    simp at ht
    subst ht
    rw [elC_new h.len rfl]
    exact .bd (own_rowz h.cls.own fun b e hb => ⟨hB b hb, h.ne b e⟩) fun i c hc => h.cls.ev hc
theorem BdL.kept (h : BdL B0 Q w sv init nm cs ln col vs sc us) {X : Nat → Prop} (hk : Kept X w w') (hX : ∀ b, X b → b < w.heap.size → ¬ B0 ≤ b ∧ ¬ Q b) : BdL B0 Q w' sv init nm cs ln col vs sc us :=
  ⟨own_kept h.own hk fun b e x => (hX b x (h.own.lt b e).2).1 (h.own.lt b e).1, h.len, fun i t ht => (h.el i t ht).kept hk fun b hz hx hl => (hX b hx hl).2 hz.1, h.cls.kept hk fun b hx hl => ⟨(hX b hx hl).1, fun q => (hX b hx hl).2 q.1⟩⟩
theorem BdL.drew (h : BdL B0 Q w sv init nm cs ln col vs sc us) : BdL B0 Q w.drew sv init nm cs ln col vs sc us := h.kept (X := fun _ => False) ((Kept.refl _ w).drew) fun b q => q.elim
theorem BdL.slot {g cap : Nat} (h : BdL B0 Q w (.slice (some ⟨g, 0, none⟩) (init.length + 1) cap) init nm cs ln col vs sc us) : w.cell? ⟨g, init.length * 4, none⟩ = some (.string (toB nm)) ∧ w.cell? ⟨g, init.length * 4 + 1, none⟩ = some sc ∧ w.frozen? ⟨g, init.length * 4 + 1, none⟩ = false := by
  refine ⟨?_, ?_, h.own.frozenAt _⟩
  · rw [h.own.cellAt (init.length * 4) (by omega), List.getElem?_append_right (by rw [h.len]; omega), h.len, Nat.sub_self]
    rfl
  · rw [h.own.cellAt (init.length * 4 + 1) (by omega), List.getElem?_append_right (by rw [h.len]; omega), h.len, show init.length * 4 + 1 - init.length * 4 = 1 by omega]
    rfl
theorem BdL.slot7 {g cap : Nat} {o : Obj} {w7 : World} (h : BdL B0 Q w (.slice (some ⟨g, 0, none⟩) (init.length + 1) cap) init nm cs ln col vs sc us) (hg : (w.alloc o).grownBy w7 sc.ownBlock) : w7.cell? ⟨g, init.length * 4 + 1, none⟩ = some sc ∧ w7.frozen? ⟨g, init.length * 4 + 1, none⟩ = false := by
  have hown7 := own_grown (o := o) h.own hg (fun b e q => h.ne b q e)
  refine ⟨?_, hown7.frozenAt _⟩
  rw [hown7.cellAt (init.length * 4 + 1) (by omega), List.getElem?_append_right (by rw [h.len]; omega), h.len, show init.length * 4 + 1 - init.length * 4 = 1 by omega]
  rfl
/-- a binding more, without clauses -/
theorem BdL.open_ {acc : List ExB} {w7 : World} {v7 : Value} {o : Obj} (h : OwnE EIt.bd TBd 4 B0 Q w sv acc vs)
    (hown : w7.ownsRow B0 TBd 4 v7 (acc.length + 1) (vs ++ [.string (toB nm), .slice none 0 0, .int .i64 ln, .int .i64 col])) (hg : (w.alloc o).grownBy w7 sv.ownBlock) (hat : v7.ownBlock = sv.ownBlock ∨ v7.ownBlock = some (w.alloc o).heap.size) :
    BdL B0 Q w7 v7 acc nm [] ln col vs (.slice none 0 0) [] := by
  have hsz : (w.alloc o).heap.size = w.heap.size + 1 := by simp
  refine ⟨hown, h.own.1, fun i t ht => ?_, OwnE.nil _ _ _⟩
  refine (h.el i t ht).frame (by have := hg.size; omega) (fun b hz hl => ?_) fun b hz hl => ?_
  · rw [hg.block b (by omega) (fun e => hz.2 e.symm), Below.heap_alloc w o b hl]
  · refine ⟨hz.1, ?_, by simp [Value.ownBlock]⟩
    rcases hat with q | q
    · rw [q]; exact hz.2
    · rw [q, hsz]; intro e; injection e with e; omega
/-- a clause more -/
theorem BdL.add {g cap : Nat} {c : ExC} {new : List Value} {w7 : World} {v7 : Value} {o : Obj} (h : BdL B0 Q w (.slice (some ⟨g, 0, none⟩) (init.length + 1) cap) init nm cs ln col vs sc us) (hn : new.length = 2)
    (hr : EV (fun b => (Q b ∧ (some g : Option Nat) ≠ some b) ∧ sc.ownBlock ≠ some b) w (.cl c) new)
    (hown : w7.ownsRow B0 TCc 2 v7 (cs.length + 1) (us ++ new)) (hg : (w.alloc o).grownBy w7 sc.ownBlock) (hat : v7.ownBlock = sc.ownBlock ∨ v7.ownBlock = some (w.alloc o).heap.size) :
    BdL B0 Q (w7.setCell ⟨g, init.length * 4 + 1, none⟩ v7) (.slice (some ⟨g, 0, none⟩) (init.length + 1) cap) init nm (cs ++ [c]) ln col vs v7 (us ++ new) := by
  have hsz : (w.alloc o).heap.size = w.heap.size + 1 := by simp
  have hgl : g < w.heap.size := (h.own.lt g rfl).2
  have hcls := OwnE.more (t := c) h.cls hn hr hown hg hat
  have hgn : sc.ownBlock ≠ some g := fun e => h.ne g e rfl
  have hown7 := own_grown (o := o) h.own hg (fun b e q => h.ne b q e)
  have hs := (hown7.stored (init.length * 4 + 1) v7).1
  have hk : Kept (fun b => b = g) w7 (w7.setCell ⟨g, init.length * 4 + 1, none⟩ v7) := (Kept.refl (fun b => b = g) w7).setCell (a := ⟨g, init.length * 4 + 1, none⟩) (fun _ => rfl) v7
  have hset : (vs ++ [Value.string (toB nm), sc, .int .i64 ln, .int .i64 col]).set (init.length * 4 + 1) v7 = vs ++ [.string (toB nm), v7, .int .i64 ln, .int .i64 col] := by
    rw [List.set_append_right _ _ (by rw [h.len]; omega), h.len, show init.length * 4 + 1 - init.length * 4 = 1 by omega]
    rfl
  rw [hset] at hs
  have hz7 : v7.ownBlock ≠ some g := by
    rcases hat with q | q
    · rw [q]; exact hgn
    · rw [q, hsz]; intro e; injection e with e; omega
  refine ⟨hs, h.len, fun i t ht => ?_, own_kept hcls.own hk fun b e x => hz7 (by rw [e, show b = g from x]), fun i t ht => (hcls.el i t ht).kept hk fun b hz hx _ => hz.1.2 (by rw [show b = g from hx]; rfl)⟩
  · refine (h.el i t ht).frame (by have := hg.size; rw [World.size_setCell]; omega) (fun b hz hl => ?_) fun b hz hl => ⟨hz.1, hz.2.1, ?_⟩
    · rw [hk.block b (by have := hg.size; omega) (fun e => hz.2.1 (by subst e; rfl)), hg.block b (by omega) (fun e => hz.2.2 e.symm), Below.heap_alloc w o b hl]
    · rcases hat with q | q
      · rw [q]; exact hz.2.2
      · rw [q, hsz]; intro e; injection e with e; omega
theorem below_drewN {B : Nat} {a w : World} (h : Below B a w) (n : Nat) : Below B a (w.drewN n) := ⟨h.os, h.tape, h.output, h.size, h.block⟩
/-- a clause that was made lies apart from the rows that it goes into -/
theorem cl_new {pb B E : Nat} {w wr W2 w5 : World} {g5 cap : Nat} {ps : List Pm.Pt} {el : List ExR} {ac ar : Option Addr} {cc cr : Nat} {Cr : Nat → List Value} (hL : BdL w.heap.size (Zn B E w.heap.size) W2 (.slice (some ⟨g5, 0, none⟩) (init.length + 1) cap) init nm cs ln col vs sc us)
    (hp1 : RdP (fun b => (B ≤ b ∧ b < E) ∧ b < wr.heap.size) wr ac (Pts.ofL ps) 0) (hp2 : ps.length ≤ 100000000) (hr : RowZ (Zn B E W2.heap.size) w5 (.slice ar el.length cr) el.length 10 Cr) (he : ∀ i t, el[i]? = some t → EV (Zn B E W2.heap.size) w5 (.rhs t) (Cr i))
    (hLW : E ≤ wr.heap.size) (hEW : E ≤ w.heap.size) (hk2 : Kept (fun b => w.heap.size ≤ b) wr W2) (hk5 : KP pb W2 w5) (hs : w.heap.size ≤ W2.heap.size) (hpb : pb < B) :
    EV (fun b => (Zn B E w.heap.size b ∧ (some g5 : Option Nat) ≠ some b) ∧ sc.ownBlock ≠ some b) w5 (.cl (.mk ps el)) [.slice ac ps.length cc, .slice ar el.length cr] := by
  have h1 := hL.own.lt g5 rfl
  have hz : ∀ b, Zn B E W2.heap.size b → b < w5.heap.size → (Zn B E w.heap.size b ∧ (some g5 : Option Nat) ≠ some b) ∧ sc.ownBlock ≠ some b := fun b hz _ => by
    refine ⟨⟨⟨hz.1, hz.2.imp id fun q => Nat.le_trans hs q⟩, fun e => ?_⟩, fun e => ?_⟩
    · injection e with e
      rcases hz.2 with z | z <;> omega
    · have h2 := hL.cls.own.lt b e
      rcases hz.2 with z | z <;> omega
  refine .cl (rdP_frame hp1 (Nat.le_trans hk2.size hk5.size) (fun b q hl => ?_) fun b q _ => ⟨⟨⟨q.1, .inl q.2⟩, fun e => ?_⟩, fun e => ?_⟩) hp2 (hr.frame (Nat.le_refl _) (fun _ _ _ => rfl) hz) fun i t ht => (he i t ht).mono hz
  · have hq1 := q.1
    have hq2 := q.2
    rw [hk5.block b (Nat.lt_of_lt_of_le hl hk2.size) (fun e => by have e : b = pb := e; omega), hk2.block b hl (fun e => by have e : w.heap.size ≤ b := e; omega)]
  · injection e with e
    have := q.2
    omega
  · have h2 := hL.cls.own.lt b e
    have := q.2
    omega
end
end Go.Proofs.YtdajihpfedbihaaGreat.Pa
