/-
  WORDS on memory for layer group: rows of rows of numbers that are read; the numbers as natural ones. No program in sight.
-/
import Derived.Test.YtephmagficbdeaaRowI
import Derived.Test.YtephmagficbdeaaGrMath3
namespace Go.Proofs.Ytephmagficbdeaa.Gr
open Go.RowKit Mm Sp
set_option linter.unusedVariables false
/-- A row of numbers, in blocks below B. -/
def RI (B : Nat) (w : World) (v : Value) (l : List Int) : Prop := ∃ a c, v = .slice a l.length c ∧ l.length ≤ 9223372036854775807 ∧ ReadsV w B a l.length (intV fun i => l.getD i 0)
/-- A row of rows of numbers, in blocks below B. -/
def RR (B : Nat) (w : World) (v : Value) (G : List (List Int)) : Prop :=
  ∃ a c, v = .slice a G.length c ∧ G.length ≤ 9223372036854775807 ∧ ∀ i, i < G.length → ∃ ad u, a = some ad ∧ ad.block < B ∧ w.cell? (ad.add i) = some u ∧ RI B w u (G.getD i [])
theorem RI.below {B B' : Nat} {w w' : World} {v : Value} {l : List Int} (h : RI B w v l) (hb : Below B' w w') (hle : B ≤ B') : RI B w' v l := by
  obtain ⟨a, c, h1, h2, h3⟩ := h
  exact ⟨a, c, h1, h2, h3.below hb hle⟩
theorem RI.mono {B B' : Nat} {w : World} {v : Value} {l : List Int} (h : RI B w v l) (hle : B ≤ B') : RI B' w v l := by
  obtain ⟨a, c, h1, h2, h3⟩ := h
  exact ⟨a, c, h1, h2, h3.mono hle⟩
theorem RR.below {B B' : Nat} {w w' : World} {v : Value} {G : List (List Int)} (h : RR B w v G) (hb : Below B' w w') (hle : B ≤ B') : RR B w' v G := by
  obtain ⟨a, c, h1, h2, h3⟩ := h
  refine ⟨a, c, h1, h2, fun i hi => ?_⟩
  obtain ⟨ad, u, k1, k2, k3, k4⟩ := h3 i hi
  exact ⟨ad, u, k1, k2, by rw [hb.cell (by rw [block_of_add]; omega)]; exact k3, k4.below hb hle⟩
theorem RR.mono {B B' : Nat} {w : World} {v : Value} {G : List (List Int)} (h : RR B w v G) (hle : B ≤ B') : RR B' w v G := by
  obtain ⟨a, c, h1, h2, h3⟩ := h
  refine ⟨a, c, h1, h2, fun i hi => ?_⟩
  obtain ⟨ad, u, k1, k2, k3, k4⟩ := h3 i hi
  exact ⟨ad, u, k1, by omega, k3, k4.mono hle⟩
theorem RR.drewN {B : Nat} {w : World} {v : Value} {G : List (List Int)} (h : RR B w v G) (n : Nat) : RR B (w.drewN n) v G := h
theorem RI.drewN {B : Nat} {w : World} {v : Value} {l : List Int} (h : RI B w v l) (n : Nat) : RI B (w.drewN n) v l := h
/-- natural numbers as Go's -/
def ni (l : List Nat) : List Int := l.map fun n : Nat => (n : Int)
def gi (g : List (List Nat)) : List (List Int) := g.map ni
theorem ni_length (l : List Nat) : (ni l).length = l.length := by simp [ni]
theorem gi_length (g : List (List Nat)) : (gi g).length = g.length := by simp [gi]
theorem ni_getD (l : List Nat) (i : Nat) : (ni l).getD i 0 = ((l.getD i 0 : Nat) : Int) := by
  simp only [ni, List.getD_eq_getElem?_getD, List.getElem?_map]
  cases l[i]? <;> rfl
theorem gi_getD (g : List (List Nat)) (i : Nat) : (gi g).getD i [] = ni (g.getD i []) := by
  simp only [gi, List.getD_eq_getElem?_getD, List.getElem?_map]
  cases g[i]? <;> rfl
/-! what is wrong with rows -/
def RowOK (N : Nat) (l : List Int) : Prop := ∀ n ∈ l, 0 ≤ n ∧ n < (N : Int)
instance (N : Nat) (l : List Int) : Decidable (RowOK N l) := by unfold RowOK; infer_instance
def RowsOK (N : Nat) (G : List (List Int)) : Prop := ∀ l ∈ G, RowOK N l
instance (N : Nat) (G : List (List Int)) : Decidable (RowsOK N G) := by unfold RowsOK; infer_instance
def wrongC (G : List (List Int)) : Int := if 2048 < G.length then 2 else if RowsOK G.length G then 0 else 1
theorem RowOK.take_snoc {N k : Nat} {l : List Int} (h : RowOK N (l.take k)) (hk : k < l.length) (h1 : 0 ≤ l.getD k 0) (h2 : l.getD k 0 < (N : Int)) : RowOK N (l.take (k + 1)) := by
  intro n hn
  rw [List.take_add_one, List.getElem?_eq_getElem hk] at hn
  rw [List.getD_eq_getElem?_getD, List.getElem?_eq_getElem hk] at h1 h2
  rcases List.mem_append.1 hn with e | e
  · exact h n e
  · simp only [Option.toList_some, List.mem_singleton] at e
    subst e
    exact ⟨h1, h2⟩
theorem RowsOK.take_snoc {N k : Nat} {G : List (List Int)} (h : RowsOK N (G.take k)) (hk : k < G.length) (h1 : RowOK N (G.getD k [])) : RowsOK N (G.take (k + 1)) := by
  intro n hn
  rw [List.take_add_one, List.getElem?_eq_getElem hk] at hn
  rw [List.getD_eq_getElem?_getD, List.getElem?_eq_getElem hk] at h1
  rcases List.mem_append.1 hn with e | e
  · exact h n e
  · simp only [Option.toList_some, List.mem_singleton] at e
    subst e
    exact h1
theorem wrongC_long {G : List (List Int)} (h : 2048 < G.length) : wrongC G = 2 := if_pos h
theorem wrongC_ok {G : List (List Int)} (h : ¬ 2048 < G.length) (k : RowsOK G.length G) : wrongC G = 0 := by
  unfold wrongC; rw [if_neg h, if_pos k]
theorem wrongC_bad {G : List (List Int)} (h : ¬ 2048 < G.length) {k j : Nat} (hk : k < G.length) (hj : j < (G.getD k []).length) (hb : ¬ (0 ≤ (G.getD k []).getD j 0 ∧ (G.getD k []).getD j 0 < (G.length : Int))) : wrongC G = 1 := by
  unfold wrongC
  rw [if_neg h, if_neg]
  intro hok
  have h1 : G.getD k [] ∈ G := by
    rw [List.getD_eq_getElem?_getD, List.getElem?_eq_getElem hk]; exact List.getElem_mem hk
  have h2 : (G.getD k []).getD j 0 ∈ G.getD k [] := by
    generalize G.getD k [] = L at hj ⊢
    rw [List.getD_eq_getElem?_getD, List.getElem?_eq_getElem hj]; exact List.getElem_mem hj
  exact hb (hok _ h1 _ h2)
/-- rows that may be are rows of natural numbers -/
theorem nat_rows {G : List (List Int)} (h : RowsOK G.length G) : ∃ g : List (List Nat), G = gi g ∧ ∀ x < g.length, ∀ y ∈ U g x, y < g.length := by
  refine ⟨G.map fun l => l.map Int.toNat, ?_, ?_⟩
  · unfold gi
    rw [List.map_map]
    conv => lhs; rw [← List.map_id G]
    refine List.map_congr_left fun l hl => ?_
    simp only [id, Function.comp, ni, List.map_map]
    conv => lhs; rw [← List.map_id l]
    refine List.map_congr_left fun n hn => ?_
    have := (h l hl n hn).1
    simp only [id, Function.comp]
    omega
  · intro x hx y hy
    simp only [List.length_map] at hx ⊢
    unfold U at hy
    rw [List.getD_eq_getElem?_getD, List.getElem?_map, List.getElem?_eq_getElem hx] at hy
    obtain ⟨n, hn, rfl⟩ := List.mem_map.1 hy
    have := h _ (List.getElem_mem hx) n hn
    omega
end Go.Proofs.Ytephmagficbdeaa.Gr
