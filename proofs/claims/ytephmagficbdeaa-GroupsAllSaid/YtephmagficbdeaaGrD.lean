/-
  CONTRACTS: a row's numbers collected and sorted in new memory; a row sorted where it lies. What slices.Sort does is a premise here (SortOK).
-/
import Derived.Test.YtephmagficbdeaaGrC
import Derived.Lib.SlKeysI
import Derived.Deep.DeepCutAuto
namespace Go.Proofs.Ytephmagficbdeaa.Gr
open Go.RowKit Go.Shelf Go.Sort Mm Sp
set_option linter.unusedVariables false
set_option linter.unusedSimpArgs false
/-- rising numbers -/
def sortI (l : List Int) : List Int := l.mergeSort fun x y => decide (x ≤ y)
theorem sortI_perm (l : List Int) : (sortI l).Perm l := List.mergeSort_perm _ _
theorem sortI_length (l : List Int) : (sortI l).length = l.length := (sortI_perm l).length_eq
theorem sortI_le (l : List Int) : (sortI l).Pairwise (fun x y => x ≤ y) := by
  have := List.pairwise_mergeSort (le := fun x y : Int => decide (x ≤ y)) (fun a b c h1 h2 => by simp only [decide_eq_true_eq] at *; omega) (fun a b => by simp only [Bool.or_eq_true, decide_eq_true_eq]; omega) l
  exact this.imp fun h => of_decide_eq_true h
/-- slices.Sort's two contracts -/
structure SortOK : Prop where
  some : ∀ (blk off cap : Nat) (zs : List Int) (w : World) (hH : Holds (Value.int .i64) w blk off zs.toArray) (hblk : blk < w.heap.size) (hsz : zs.length < 4611686018427387904),
    Calls Try.prog 23 #[.slice (some ⟨blk, off, none⟩) zs.length cap] w fun e w' => e = .returned (.tuple #[]) ∧ ∃ n os, w' = grow (putRow (Value.int .i64) (Sort.ahead w n) blk off (zs.mergeSort fun x y => decide (x ≤ y)).toArray) os
  none : ∀ (p : Option Addr) (cap : Nat) (w : World), Calls Try.prog 23 #[.slice p 0 cap] w fun e w' => e = .returned (.tuple #[]) ∧ w' = w
def SortPost (B : Nat) (v : Value) (l : List Int) (w : World) (e : Ending) (w' : World) : Prop := e = .returned (.tuple #[]) ∧ w'.ownsRow B TI 1 v l.length (iv (sortI l)) ∧ w.grownBy w' v.ownBlock
theorem sort_own (hS : SortOK) {B : Nat} {v : Value} {l : List Int} (w : World) (h : w.ownsRow B TI 1 v l.length (iv l)) (hl : l.length ≤ 100000) : Calls Try.prog 23 #[v] w (SortPost B v l w) := by
  rcases h.2 with ⟨rfl, h0⟩ | ⟨g, cap, cur, rfl, hg, hh, h1, h2, h3, h4⟩
  · obtain rfl : l = [] := List.eq_nil_of_length_eq_zero h0
    refine (hS.none _ _ w).mono ?_
    rintro e w' ⟨rfl, rfl⟩
    exact ⟨rfl, by rw [show sortI [] = [] by simp [sortI]]; exact h, World.grownBy.refl _ _⟩
  · refine (hS.some g 0 cap l w (holds_of_block_i hh (by simpa [iv] using h4)) (lt_of_block hh) (by omega)).mono ?_
    rintro e w' ⟨rfl, n, os, rfl⟩
    exact ⟨rfl, ownsRow_sorted_i (by simp) hg hh h1 h2 h3, grownBy_sorted_i _⟩
def SortedPost (l : List Int) (w : World) (e : Ending) (w' : World) : Prop := ∃ v, e = .returned v ∧ w'.ownsRow w.heap.size TI 1 v l.length (iv (sortI l)) ∧ Below w.heap.size w w'
def CollPost (l : List Int) (w : World) (e : Ending) (w' : World) : Prop := ∃ v, e = .returned v ∧ w'.ownsRow w.heap.size TI 1 v l.length (iv l) ∧ Below w.heap.size w w'
theorem collect_any (Bs b off cap : Nat) (zs : List Int) (hlen : zs.length ≤ 100000) (w : World) (hBs : Bs < w.heap.size)
    (hc : w.cell? ⟨Bs, 0, none⟩ = some (.slice (some ⟨b, off, none⟩) zs.length cap)) (hb : b < w.heap.size) (hcs : ∀ j, j < zs.length → w.cell? ⟨b, off + j, none⟩ = some (.int .i64 (zs[j]?.getD 0))) :
    Calls Try.prog 61 #[.func (.func 62) #[] #[.pointer (some ⟨Bs, 0, none⟩)]] w (CollPost zs w) := by
  have H : Calls Try.prog 67 #[.slice none 0 0, .func (.func 62) #[] #[.pointer (some ⟨Bs, 0, none⟩)]] w (CollPost zs w) := (callsIn_wide (n := 3)).1 (append_in Fence.wide 3 trivial trivial rfl (by omega) Bs b off cap zs hlen w hBs hc hb hcs)
  clear hc hcs
  go_enter Try.func61, Try.ntmps61
  go_wp2_with fail
  refine H.mono ?_
  rintro e w' ⟨v, rfl, ho, hb⟩
  go_wp2_with fail
  go_ret
  exact ⟨v, rfl, ho, hb⟩
theorem sorted_any (hS : SortOK) (Bs b off cap : Nat) (zs : List Int) (hlen : zs.length ≤ 100000) (w : World) (hBs : Bs < w.heap.size)
    (hc : w.cell? ⟨Bs, 0, none⟩ = some (.slice (some ⟨b, off, none⟩) zs.length cap)) (hb : b < w.heap.size) (hcs : ∀ j, j < zs.length → w.cell? ⟨b, off + j, none⟩ = some (.int .i64 (zs[j]?.getD 0))) :
    Calls Try.prog 45 #[.func (.func 62) #[] #[.pointer (some ⟨Bs, 0, none⟩)]] w (SortedPost zs w) := by
  have H := collect_any Bs b off cap zs hlen w hBs hc hb hcs
  clear hc hcs
  go_enter Try.func45, Try.ntmps45
  go_wp2_with fail
  refine H.mono ?_
  rintro e w1 ⟨v, rfl, ho, hb1⟩
  have HS := sort_own hS w1 ho hlen
  have HO := Lib.hid ho
  have HB := Lib.hid hb1
  obtain ⟨a, c, rfl⟩ := own_slice ho
  clear H ho hb1
  go_wp2_with fail
  refine HS.mono ?_
  rintro e w2 ⟨rfl, ho2, hg2⟩
  clear HS
  have HO2 := Lib.hid ho2
  have HG2 := Lib.hid hg2
  clear ho2 hg2
  go_wp2_with fail
  go_ret
  exact ⟨_, rfl, HO2.out, HB.out.grown HG2.out HB.out.size fun k hk => (HO.out.lt k hk).1⟩
end Go.Proofs.Ytephmagficbdeaa.Gr
