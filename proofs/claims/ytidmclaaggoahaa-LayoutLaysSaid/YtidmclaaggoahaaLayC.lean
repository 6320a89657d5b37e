/-
  CONTRACTS of layer layout: a frame is put, a mark is made.
-/
import Derived.Test.YtidmclaaggoahaaLayB
import Derived.Test.YtidmclaaggoahaaTokens
namespace Go.Proofs.Ytidmclaaggoahaa.Ly
open Go.RowKit Pl Ar
set_option linter.unusedVariables false
set_option linter.unusedSimpArgs false
theorem Tfr : (Try.prog.info? 76).map (fun i => (i.zero, i.size, i.bytes)) = some (some (.agg #[.int .i64 0, .int .i64 0]), 2, 16) := by kernel_rfl
def frCells (f : Fr) : List Value := [.int .i64 f.kind, .int .i64 f.col]
def frsCells (l : List Fr) : List Value := l.flatMap frCells
abbrev OwnsF (w : World) (B : Nat) (v : Value) (l : List Fr) : Prop := w.ownsRow B 76 2 v l.length (frsCells l)
theorem ownsF_form {w : World} {B : Nat} {v : Value} {l : List Fr} (h : OwnsF w B v l) : ∃ a c, v = .slice a l.length c := by
  rcases h.2 with ⟨rfl, hn⟩ | ⟨g, cap, cur, rfl, _⟩
  · exact ⟨none, 0, by rw [hn]⟩
  · exact ⟨_, _, rfl⟩
theorem news2 (Y : World) (v0 v1 : Value) (t : TypeId) : ∀ (j : Nat) u, [v0, v1][j]? = some u → (Y.alloc (.cells #[v0, v1] t)).cell? ((⟨Y.heap.size, 0, none⟩ : Addr).add j) = some u := by
  intro j u hj
  have e : ((⟨Y.heap.size, 0, none⟩ : Addr).add j) = ⟨Y.heap.size, j, none⟩ := by
    simp [Addr.add]
    try (intro e; exact e.symm)
  rw [e, World.cell?_alloc_at _ _ _ _ rfl]
  simpa using hj
theorem owns_frame {B : Nat} {w : World} {v : Value} {l : List Fr} {kind col : Int} (ho : w.ownsRow B 76 2 v (l.length + 1) (frsCells l ++ [.int .i64 kind, .int .i64 col])) : OwnsF w B v (l ++ [⟨kind, col⟩]) := by
  have e : frsCells (l ++ [⟨kind, col⟩]) = frsCells l ++ [.int .i64 kind, .int .i64 col] := by
    unfold frsCells
    rw [List.flatMap_append]; rfl
  unfold OwnsF
  rw [e, List.length_append]
  exact ho
/-- What a call of put ends with: the row of frames has grown, and the sheet points to it. -/
def PutPost (p B : Nat) (v : Value) (l : List Fr) (kind col : Int) (w : World) (e : Ending) (w' : World) : Prop :=
  e = .returned (.tuple #[]) ∧ ∃ (v' : Value) (w2 : World) (o : Obj), w' = w2.setCell ⟨p, 1, none⟩ v' ∧ (w.alloc o).grownBy w2 (Value.ownBlock v) ∧ OwnsF w2 B v' (l ++ [⟨kind, col⟩])
set_option maxHeartbeats 2000000 in
theorem put_any (p B : Nat) (v : Value) (l : List Fr) (kind col : Int) (hn : l.length ≤ 1000000000) (w : World) (hp : w.cell? ⟨p, 1, none⟩ = some v) (hpz : p < w.heap.size) (hfz : w.frozen? ⟨p, 1, none⟩ = false) (hpB : p < B) (hBz : B ≤ w.heap.size) (ho : OwnsF w B v l) :
    Calls Try.prog 40 #[.pointer (some ⟨p, 0, none⟩), .int .i64 kind, .int .i64 col] w (PutPost p B v l kind col w) := by
  obtain ⟨i0, hi, hz0, hz1, hz2'⟩ := info_parts Tfr
  obtain ⟨a, c, rfl⟩ := ownsF_form ho
  have HO := Lib.hid ho
  clear ho
  go_enter Try.func40, Try.ntmps40
  go_wp2_with (at_builtin; refine wpList_append_own _ rfl _ _ 44 rfl B 76 i0 _ 2 16 Try.underlying44 hi hz0 hz1 hz2' rfl (by decide) _ _ _ rfl (HO.out.alloc _) ⟨w.heap.size, 0, none⟩ 1 1 [.int .i64 kind, .int .i64 col] rfl rfl ?c1 ?c2 ?c3 ?c4 ?c5 ?_)
  case c1 => exact news2 _ _ _ _
  case c2 =>
    intro u hu
    simp only [List.mem_cons, List.not_mem_nil, or_false] at hu
    rcases hu with rfl | rfl <;> rfl
  case c3 => unfold maxLen; omega
  case c4 => omega
  case c5 => simp; omega
  intro v' w2 hown' hgrow _
  have hne : some p ≠ Value.ownBlock (.slice a l.length c) := fun e => by
    have := (HO.out.lt p e.symm).1
    omega
  have hp2 : w2.cell? ⟨p, 1, none⟩ = some (.slice a l.length c) := hgrow.cell (by rw [World.cell?_alloc_past _ _ _ (by show p < _; omega)]; exact hp) hne
  have hf2 : w2.frozen? ⟨p, 1, none⟩ = false := by
    rw [World.frozen?_of_block (hgrow.block p (by simp; omega) hne), World.frozen?_alloc_past _ _ _ (by show p < _; omega)]
    exact hfz
  have hz2 : p < w2.heap.size := by have := hgrow.size; simp at this; omega
  have HG := Lib.hid hgrow
  obtain ⟨a2, c2, rfl⟩ := ownsF_form (owns_frame hown')
  have HO2 := Lib.hid (owns_frame hown')
  clear hown' hgrow hne
  go_wp2
  refine bodyPost_end (by simp [results, Try.results40, go_sem]; rfl) rfl ?_
  exact ⟨rfl, _, w2, _, rfl, HG.out, by have h := HO2.out; rw [List.length_append] at h; exact h⟩
end Go.Proofs.Ytidmclaaggoahaa.Ly
