/-
  CONTRACTS of layer layout: a frame is put; frames are closed up to a place.
-/
import Derived.Test.YtidmclaaggoahaaLayM
import Derived.Deep.LoopGhost
namespace Go.Proofs.Ytidmclaaggoahaa.Ly
open Go.RowKit Pl Ar Mm
set_option linter.unusedVariables false
set_option linter.unusedSimpArgs false
theorem frs_push (l : List Fr) (f : Fr) : frsCells (l ++ [f]) = frsCells l ++ frCells f := by unfold frsCells; rw [List.flatMap_append]; simp
theorem putEnd {Z : Nat → Prop} {p : Nat} {T : List TokM} {F : List Fr} {due : Bool} {ln col kind c : Int} {vt v : Value} {w w2 : World} {o : Obj} {g cap : Nat} (h : Sheet Z w p T F due ln col vt v)
    (hown : w2.ownsRow 0 TF 2 (.slice (some ⟨g, 0, none⟩) (F.length + 1) cap) (F.length + 1) (frsCells F ++ [.int .i64 kind, .int .i64 c])) (hg : (w.alloc o).grownBy w2 v.ownBlock) (hw : v.ownBlock = some g ∨ w.heap.size ≤ g) :
    SheetPost Z p T (F ++ [⟨kind, c⟩]) due ln col w (.returned (.tuple #[])) (w2.setCell ⟨p, 1, none⟩ (.slice (some ⟨g, 0, none⟩) (F.length + 1) cap)) := by
  have bx : Box w2 p TS #[vt, v, .bool due, .int .i64 ln, .int .i64 col] := (h.box.alloc o).grown hg (own_ne h.frames h.box (by decide))
  have hz1 : ∀ k, Z k → k < (w.alloc o).heap.size := fun k hk => by have := h.zl k hk; simp; omega
  have hb : Holds Z w w2 := ((Holds.refl Z w).alloc h.zl o).grown hg hz1 h.zf
  have ht := toks_kept h.toks h.frames hg
  refine ⟨rfl, ⟨vt, _, bx.put 1 _, own_far ht bx (by decide) 1 _, ?_, h.zp, h.zt, fun k hk => ?_, fun k hk => ?_⟩, hb.setCell h.zp _⟩
  · have e : OwnsF w2 0 (.slice (some ⟨g, 0, none⟩) (F.length + 1) cap) (F ++ [⟨kind, c⟩]) := by
      unfold OwnsF
      rw [frs_push, List.length_append]
      exact hown
    exact own_far e bx (by decide) 1 _
  · obtain rfl : g = k := by simpa [Value.ownBlock] using hk
    rcases hw with e | e
    · exact h.zf _ e
    · exact fun hz => by have := h.zl _ hz; omega
  · have := h.zl k hk
    have := hb.size
    simp
    omega
set_option maxHeartbeats 2000000 in
theorem putS_any {Z : Nat → Prop} {p : Nat} {T : List TokM} {F : List Fr} {due : Bool} {ln col : Int} {vt vf : Value} (kind c : Int) (w : World) (h : Sheet Z w p T F due ln col vt vf) (hn : F.length ≤ 1000000000) :
    Calls Try.prog 40 #[.pointer (some ⟨p, 0, none⟩), .int .i64 kind, .int .i64 c] w (SheetPost Z p T (F ++ [⟨kind, c⟩]) due ln col w) := by
  obtain ⟨i0, hi, hz0, hz1, hz2'⟩ := info_parts Tfr
  obtain ⟨⟨x0, x1, x2, x3, x4⟩, ⟨f0, f1, f2, f3, f4⟩, zx⟩ := h.cells
  have HS := Lib.hid h
  obtain ⟨a, cc, rfl⟩ := own_slice h.frames
  clear h
  go_enter Try.func40, Try.ntmps40
  go_wp2_with (at_builtin; refine wpList_append_lies _ rfl _ _ 44 rfl 0 76 i0 _ 2 16 Try.underlying44 hi hz0 hz1 hz2' rfl (by decide) _ _ _ rfl (HS.out.frames.alloc _) ⟨w.heap.size, 0, none⟩ 1 1 [.int .i64 kind, .int .i64 c] rfl rfl ?c1 ?c2 (by decide) ?c3 ?c4 ?c5 _ rfl ?_)
  case c1 => exact news2 _ _ _ _
  case c2 =>
    intro u hu
    simp only [List.mem_cons, List.not_mem_nil, or_false] at hu
    rcases hu with rfl | rfl <;> rfl
  case c3 => unfold maxLen; omega
  case c4 => omega
  all_goals try exact Nat.zero_le _
  intro g cap w2 hown hgrow hg hlt
  have bx := (HS.out.box.alloc (.cells #[.int .i64 kind, .int .i64 c] TF)).grown hgrow (own_ne HS.out.frames HS.out.box (by decide))
  have y1 := bx.cell 1
  have g1 := bx.free 1
  have zy := bx.lt
  have HO := Lib.hid hown
  have HG := Lib.hid hgrow
  have hw2 : Value.ownBlock (.slice a F.length cc) = some g ∨ w.heap.size ≤ g := hg.imp id (fun e => by rw [e]; simp)
  have HW := Lib.hid hw2
  clear bx hown hgrow hg hw2
  go_wp2
  refine bodyPost_end (by simp [results, Try.results40, go_sem]; rfl) rfl ?_
  exact putEnd HS.out HO.out HG.out HW.out
/-- how many laid out blocks -/
def laidN (F : List Fr) : Nat := (F.filter fun f => decide (f.kind = 1)).length
theorem laidN_le (F : List Fr) : laidN F ≤ F.length := List.length_filter_le _ _
theorem laidN_step {F : List Fr} {k : Nat} (hk : k < F.length) : laidN (F.drop k) = laidN (F.drop (k + 1)) + (if frK F k = 1 then 1 else 0) := by
  have e : F.drop k = F[k] :: F.drop (k + 1) := List.drop_eq_getElem_cons hk
  have e2 : frK F k = F[k].kind := by simp [frK, List.getD_eq_getElem?_getD, hk]
  rw [e, e2]
  unfold laidN
  rw [List.filter_cons]
  by_cases h : F[k].kind = 1 <;> simp [h]
/-- the mark that ends a block -/
def endM (ln col : Int) : TokM := ⟨5, ⟨#[125]⟩, 0, ln, col, true⟩
def closedT (T : List TokM) (F : List Fr) (place : Nat) (ln col : Int) : List TokM := T ++ List.replicate (laidN (F.drop place)) (endM ln col)
theorem closedT_len (T : List TokM) (F : List Fr) (place : Nat) (ln col : Int) : (closedT T F place ln col).length ≤ T.length + F.length := by
  have h1 := laidN_le (F.drop place)
  have h2 : (F.drop place).length ≤ F.length := by simp
  simp [closedT]
  omega
theorem closedT_one {T : List TokM} {F : List Fr} {k : Nat} {ln col : Int} (hk : k < F.length) (h : frK F k = 1) : closedT T F k ln col = closedT T F (k + 1) ln col ++ [endM ln col] := by
  unfold closedT
  rw [laidN_step hk, if_pos h, List.replicate_succ', List.append_assoc]
theorem closedT_none {T : List TokM} {F : List Fr} {k : Nat} {ln col : Int} (hk : k < F.length) (h : ¬ frK F k = 1) : closedT T F k ln col = closedT T F (k + 1) ln col := by
  unfold closedT
  rw [laidN_step hk, if_neg h, Nat.add_zero]
theorem frs_take (F : List Fr) (k : Nat) : (frsCells F).take (k * 2) = frsCells (F.take k) := by
  induction F generalizing k with
  | nil => simp [frsCells]
  | cons f F ih =>
    cases k with
    | zero => simp [frsCells]
    | succ k =>
      have e : (k + 1) * 2 = (k * 2) + 2 := by omega
      have := ih k
      unfold frsCells at this ⊢
      rw [List.take_succ_cons, List.flatMap_cons, List.flatMap_cons, e, ← this]
      simp [frCells]
theorem frs_get (F : List Fr) (k : Nat) (hk : k < F.length) : (frsCells F)[k * 2]? = some (.int .i64 (frK F k)) ∧ (frsCells F)[k * 2 + 1]? = some (.int .i64 (frC F k)) := by
  induction F generalizing k with
  | nil => simp at hk
  | cons f F ih =>
    cases k with
    | zero => simp [frsCells, frCells, frK, frC]
    | succ k =>
      have e : (k + 1) * 2 = (k * 2) + 2 := by omega
      have := ih k (by simpa using hk)
      unfold frsCells at this ⊢
      rw [List.flatMap_cons, e]
      simpa [frCells, frK, frC] using this
end Go.Proofs.Ytidmclaaggoahaa.Ly
