/-
  CONTRACTS of layer layout: the sheet; a mark is made, a frame is put.
-/
import Derived.Test.YtidmclaaggoahaaLayC
import Derived.Test.YtidmclaaggoahaaMem
import Derived.Deep.AppendLies
import Derived.Deep.RegionLaw
import Derived.OwnWalk
namespace Go.Proofs.Ytidmclaaggoahaa.Ly
open Go.RowKit Pl Ar Mm
set_option linter.unusedVariables false
set_option linter.unusedSimpArgs false
/-- a token, made or not -/
structure TokM where
  kind : Int
  text : ByteArray
  num : Int
  line : Int
  col : Int
  made : Bool
def tmCells (t : TokM) : List Value := [.int .i64 t.kind, .string t.text, .int .i64 t.num, .int .i64 t.line, .int .i64 t.col, .bool t.made]
def tmsCells (l : List TokM) : List Value := l.flatMap tmCells
abbrev TT : TypeId := 35
abbrev TF : TypeId := 76
abbrev TS : TypeId := 46
theorem Ttok : (Try.prog.info? 35).map (fun i => (i.zero, i.size, i.bytes)) = some (some (.agg #[.int .i64 0, .string ByteArray.empty, .int .i64 0, .int .i64 0, .int .i64 0, .bool false]), 6, 56) := by kernel_rfl
abbrev OwnsM (w : World) (B : Nat) (v : Value) (l : List TokM) : Prop := w.ownsRow B TT 6 v l.length (tmsCells l)
theorem tms_push (l : List TokM) (t : TokM) : tmsCells (l ++ [t]) = tmsCells l ++ tmCells t := by unfold tmsCells; rw [List.flatMap_append]; simp
/-- From w to w' the blocks of Z are kept; no block has gone. -/
structure Holds (Z : Nat → Prop) (w w' : World) : Prop where
  os : w'.os = w.os
  tape : w'.tape = w.tape
  output : w'.output = w.output
  size : w.heap.size ≤ w'.heap.size
  block : ∀ k, Z k → w'.heap[k]? = w.heap[k]?
section
variable {Z : Nat → Prop} {w w' w'' : World}
theorem Holds.refl (Z : Nat → Prop) (w : World) : Holds Z w w := ⟨rfl, rfl, rfl, Nat.le_refl _, fun _ _ => rfl⟩
theorem Holds.trans (h : Holds Z w w') (k : Holds Z w' w'') : Holds Z w w'' := ⟨k.os.trans h.os, k.tape.trans h.tape, k.output.trans h.output, Nat.le_trans h.size k.size, fun i hi => (k.block i hi).trans (h.block i hi)⟩
theorem Holds.drew (h : Holds Z w w') : Holds Z w w'.drew := ⟨h.os, h.tape, h.output, h.size, h.block⟩
theorem Holds.drewN (h : Holds Z w w') (n : Nat) : Holds Z w (w'.drewN n) := ⟨h.os, h.tape, h.output, h.size, h.block⟩
theorem Holds.alloc (h : Holds Z w w') (hz : ∀ k, Z k → k < w'.heap.size) (o : Obj) : Holds Z w (w'.alloc o) := ⟨h.os, h.tape, h.output, by simp; exact Nat.le_succ_of_le h.size, fun k hk => (Below.heap_alloc _ _ _ (hz k hk)).trans (h.block k hk)⟩
theorem Holds.setCell (h : Holds Z w w') {a : Addr} (ha : ¬ Z a.block) (u : Value) : Holds Z w (w'.setCell a u) := ⟨h.os, h.tape, h.output, by simpa [World.setCell] using h.size, fun k hk => (Below.heap_setCell _ _ _ _ (fun e => ha (e ▸ hk))).trans (h.block k hk)⟩
theorem Holds.grown (h : Holds Z w w') {row : Option Nat} (hg : w'.grownBy w'' row) (hz : ∀ k, Z k → k < w'.heap.size) (hr : ∀ k, row = some k → ¬ Z k) : Holds Z w w'' :=
  ⟨hg.os.trans h.os, hg.tape.trans h.tape, hg.output.trans h.output, Nat.le_trans h.size hg.size, fun k hk => (hg.block k (hz k hk) (fun e => hr k e.symm hk)).trans (h.block k hk)⟩
theorem Holds.box (h : Holds Z w w') {g : Nat} {t : TypeId} {cs : Array Value} (b : Box w g t cs) (hg : Z g) : Box w' g t cs := (h.block g hg).trans b
end
/-- The sheet lies at block p; neither it nor its rows lie in Z. -/
structure Sheet (Z : Nat → Prop) (w : World) (p : Nat) (T : List TokM) (F : List Fr) (due : Bool) (ln col : Int) (vt vf : Value) : Prop where
  box : Box w p TS #[vt, vf, .bool due, .int .i64 ln, .int .i64 col]
  toks : OwnsM w 0 vt T
  frames : OwnsF w 0 vf F
  zp : ¬ Z p
  zt : ∀ k, vt.ownBlock = some k → ¬ Z k
  zf : ∀ k, vf.ownBlock = some k → ¬ Z k
  zl : ∀ k, Z k → k < w.heap.size
section
variable {Z : Nat → Prop} {w w' : World} {p : Nat} {T : List TokM} {F : List Fr} {due : Bool} {ln col : Int} {vt vf : Value}
theorem Sheet.cells (h : Sheet Z w p T F due ln col vt vf) : (w.cell? ⟨p, 0, none⟩ = some vt ∧ w.cell? ⟨p, 1, none⟩ = some vf ∧ w.cell? ⟨p, 2, none⟩ = some (.bool due) ∧ w.cell? ⟨p, 3, none⟩ = some (.int .i64 ln) ∧ w.cell? ⟨p, 4, none⟩ = some (.int .i64 col)) ∧
    (w.frozen? ⟨p, 0, none⟩ = false ∧ w.frozen? ⟨p, 1, none⟩ = false ∧ w.frozen? ⟨p, 2, none⟩ = false ∧ w.frozen? ⟨p, 3, none⟩ = false ∧ w.frozen? ⟨p, 4, none⟩ = false) ∧ p < w.heap.size :=
  ⟨⟨h.box.cell 0, h.box.cell 1, h.box.cell 2, h.box.cell 3, h.box.cell 4⟩, ⟨h.box.free 0, h.box.free 1, h.box.free 2, h.box.free 3, h.box.free 4⟩, h.box.lt⟩
theorem Sheet.here (h : Sheet Z w p T F due ln col vt vf) (k : Below w.heap.size w w') : Sheet Z w' p T F due ln col vt vf :=
  ⟨h.box.below k h.box.lt, own_here h.toks k, own_here h.frames k, h.zp, h.zt, h.zf, fun i hi => Nat.lt_of_lt_of_le (h.zl i hi) k.size⟩
theorem Sheet.drew (h : Sheet Z w p T F due ln col vt vf) : Sheet Z w.drew p T F due ln col vt vf := ⟨h.box, h.toks, h.frames, h.zp, h.zt, h.zf, h.zl⟩
theorem Sheet.set {j : Nat} {u : Value} {w2 : World} (h : Sheet Z w p T F due ln col vt vf) : Sheet Z w p T F due ln col vt vf := h
end
theorem frames_kept {w w2 : World} {o : Obj} {v vf : Value} {T : List TokM} {F : List Fr} (ht : OwnsM w 0 v T) (hf : OwnsF w 0 vf F) (hg : (w.alloc o).grownBy w2 v.ownBlock) : OwnsF w2 0 vf F :=
  (hf.alloc o).kept hg (by
    cases hv : vf.ownBlock with
    | none => exact .inl rfl
    | some k =>
      refine .inr fun e => ?_
      rcases hf.2 with ⟨rfl, _⟩ | ⟨g', c', cur, rfl, _, hh, _⟩
      · simp [Value.ownBlock] at hv
      · obtain rfl : g' = k := by simpa [Value.ownBlock] using hv
        rcases ht.2 with ⟨rfl, _⟩ | ⟨g2, c2, cur2, rfl, _, hh2, _⟩
        · simp [Value.ownBlock] at e
        · obtain rfl : g2 = g' := by simpa [Value.ownBlock] using e.symm
          exact absurd (Box.same hh hh2) (by decide))
theorem toks_kept {w w2 : World} {o : Obj} {v vt : Value} {T : List TokM} {F : List Fr} (ht : OwnsM w 0 vt T) (hf : OwnsF w 0 v F) (hg : (w.alloc o).grownBy w2 v.ownBlock) : OwnsM w2 0 vt T :=
  (ht.alloc o).kept hg (by
    cases hv : vt.ownBlock with
    | none => exact .inl rfl
    | some k =>
      refine .inr fun e => ?_
      rcases ht.2 with ⟨rfl, _⟩ | ⟨g', c', cur, rfl, _, hh, _⟩
      · simp [Value.ownBlock] at hv
      · obtain rfl : g' = k := by simpa [Value.ownBlock] using hv
        rcases hf.2 with ⟨rfl, _⟩ | ⟨g2, c2, cur2, rfl, _, hh2, _⟩
        · simp [Value.ownBlock] at e
        · obtain rfl : g2 = g' := by simpa [Value.ownBlock] using e.symm
          exact absurd (Box.same hh hh2) (by decide))
theorem news6 (Y : World) (v0 v1 v2 v3 v4 v5 : Value) (t : TypeId) : ∀ (j : Nat) u, [v0, v1, v2, v3, v4, v5][j]? = some u → (Y.alloc (.cells #[v0, v1, v2, v3, v4, v5] t)).cell? ((⟨Y.heap.size, 0, none⟩ : Addr).add j) = some u := by
  intro j u hj
  have e : ((⟨Y.heap.size, 0, none⟩ : Addr).add j) = ⟨Y.heap.size, j, none⟩ := by
    simp [Addr.add]
    try (intro e; exact e.symm)
  rw [e, World.cell?_alloc_at _ _ _ _ rfl]
  simpa using hj
/-- What a call ends with that leaves the sheet so. -/
def SheetPost (Z : Nat → Prop) (p : Nat) (T : List TokM) (F : List Fr) (due : Bool) (ln col : Int) (w : World) (e : Ending) (w' : World) : Prop :=
  e = .returned (.tuple #[]) ∧ (∃ vt vf, Sheet Z w' p T F due ln col vt vf) ∧ Holds Z w w'
theorem drewG {w w2 : World} {o : Obj} {r : Option Nat} (h : (w.alloc o).drew.grownBy w2 r) : (w.alloc o).grownBy w2 r := ⟨h.os, h.tape, h.output, h.size, h.block⟩
theorem toldEnd {Z : Nat → Prop} {p : Nat} {T : List TokM} {F : List Fr} {due : Bool} {ln col : Int} {v vf : Value} {t : TokM} {w w2 : World} {o : Obj} {g cap : Nat} (h : Sheet Z w p T F due ln col v vf)
    (hown : w2.ownsRow 0 TT 6 (.slice (some ⟨g, 0, none⟩) (T.length + 1) cap) (T.length + 1) (tmsCells T ++ tmCells t)) (hg : (w.alloc o).grownBy w2 v.ownBlock) (hw : v.ownBlock = some g ∨ w.heap.size ≤ g) :
    Sheet Z (w2.setCell ⟨p, 0, none⟩ (.slice (some ⟨g, 0, none⟩) (T.length + 1) cap)) p (T ++ [t]) F due ln col (.slice (some ⟨g, 0, none⟩) (T.length + 1) cap) vf ∧ Holds Z w (w2.setCell ⟨p, 0, none⟩ (.slice (some ⟨g, 0, none⟩) (T.length + 1) cap)) := by
  have bx : Box w2 p TS #[v, vf, .bool due, .int .i64 ln, .int .i64 col] := (h.box.alloc o).grown hg (own_ne h.toks h.box (by decide))
  have hz1 : ∀ k, Z k → k < (w.alloc o).heap.size := fun k hk => by have := h.zl k hk; simp; omega
  have hb : Holds Z w w2 := ((Holds.refl Z w).alloc h.zl o).grown hg hz1 h.zt
  have hf := frames_kept h.toks h.frames hg
  refine ⟨⟨bx.put 0 _, ?_, own_far hf bx (by decide) 0 _, h.zp, fun k hk => ?_, h.zf, fun k hk => ?_⟩, hb.setCell h.zp _⟩
  · have e : OwnsM w2 0 (.slice (some ⟨g, 0, none⟩) (T.length + 1) cap) (T ++ [t]) := by
      unfold OwnsM
      rw [tms_push, List.length_append]
      exact hown
    exact own_far e bx (by decide) 0 (.slice (some ⟨g, 0, none⟩) (T.length + 1) cap)
  · obtain rfl : g = k := by simpa [Value.ownBlock] using hk
    rcases hw with e | e
    · exact h.zt _ e
    · exact fun hz => by have := h.zl _ hz; omega
  · have := h.zl k hk
    have := hb.size
    simp
    omega
set_option maxHeartbeats 4000000 in
theorem mark_any {Z : Nat → Prop} {p : Nat} {T : List TokM} {F : List Fr} {due : Bool} {ln col : Int} {vt vf : Value} (text : ByteArray) (w : World) (h : Sheet Z w p T F due ln col vt vf) (hn : T.length ≤ 1000000000) :
    Calls Try.prog 41 #[.pointer (some ⟨p, 0, none⟩), .string text] w (SheetPost Z p (T ++ [⟨5, text, 0, ln, col, true⟩]) F due ln col w) := by
  obtain ⟨i0, hi, hz0, hz1, hz2'⟩ := info_parts Ttok
  obtain ⟨⟨x0, x1, x2, x3, x4⟩, ⟨f0, f1, f2, f3, f4⟩, zx⟩ := h.cells
  have HS := Lib.hid h
  obtain ⟨a, c, rfl⟩ := own_slice h.toks
  clear h
  go_enter Try.func41, Try.ntmps41
  go_region_law (refine step_append_lies _ ?_ (.tmp 8) (.tmp 15) 22 ?_ 0 35 i0 _ 6 56 Try.underlying22 hi hz0 hz1 hz2' rfl (by decide) (.slice a T.length c) T.length (tmsCells T) ?_ (own_drew (HS.out.toks.alloc _)) ⟨w.heap.size, 0, none⟩ 1 1 [.int .i64 5, .string text, .int .i64 0, .int .i64 ln, .int .i64 col, .bool true] ?_ rfl ?_ ?_ (by decide) ?_ ?_ ?_ _ rfl ?_; exact rfl; exact rfl; exact rfl; exact rfl; exact news6 w _ _ _ _ _ _ _; (intro u hu; simp only [List.mem_cons, List.not_mem_nil, or_false] at hu; rcases hu with rfl | rfl | rfl | rfl | rfl | rfl <;> rfl); (unfold maxLen; omega); omega; (first | (simp; done) | omega); intro g cap w2 hown hgrow hg hlt; have bx := (HS.out.box.alloc (.cells #[.int .i64 5, .string text, .int .i64 0, .int .i64 ln, .int .i64 col, .bool true] TT)).drew.grown hgrow (own_ne (HS.out.toks) HS.out.box (by decide)); have y0 := bx.cell 0; have g0 := bx.free 0; have zy := bx.lt; have HX := Lib.hid bx; have HO := Lib.hid hown; have HG := Lib.hid hgrow; have HW := Lib.hid hg; clear bx hown hgrow hg)
  all_goals
    refine bodyPost_end (by simp [results, Try.results41, go_sem]; rfl) rfl ?_
    have hw2 : Value.ownBlock (.slice a T.length c) = some g ∨ w.heap.size ≤ g := HW.out.imp id (fun e => by rw [e]; simp)
    obtain ⟨q1, q2⟩ := toldEnd (t := ⟨5, text, 0, ln, col, true⟩) HS.out HO.out (drewG HG.out) hw2
    exact ⟨rfl, ⟨_, _, q1⟩, q2⟩
end Go.Proofs.Ytidmclaaggoahaa.Ly
