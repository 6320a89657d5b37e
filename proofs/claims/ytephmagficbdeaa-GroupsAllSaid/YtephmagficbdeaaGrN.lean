/-
  CONTRACTS: rows that are the same; what must come of fixed calls.
-/
import Derived.Test.YtephmagficbdeaaGrM
import Derived.Test.YtephmagficbdeaaShelf
namespace Go.Proofs.Ytephmagficbdeaa.Gr
open Go.RowKit Go.Shelf Go.Sort Mm Sp
set_option linter.unusedVariables false
set_option linter.unusedSimpArgs false
theorem sortOK : SortOK := ⟨fun blk off cap zs w hH hblk hsz => Try.slices_Sort_int blk off cap zs w hH hblk hsz, fun p cap w => Try.slices_Sort_int_none p cap w⟩
theorem sortFOK : SortFOK := ⟨fun k enc h1 cf hO g blk off cap d w eg hcmp hH hblk hsz => Try.slices_SortFunc enc h1 cf hO g #[] blk off cap d w eg hcmp.lays hH hblk hsz, fun p cap fv w => Try.slices_SortFunc_none (α := Fin 1) p cap fv w⟩
/-- a row of numbers, read -/
def RdI (w : World) (v : Value) (l : List Int) : Prop := ∃ a c, v = .slice a l.length c ∧ l.length ≤ 9223372036854775807 ∧ ReadsV w w.heap.size a l.length (intV fun i => l.getD i 0)
theorem samei_any {v v' : Value} {l : List Int} (w : World) (h : RdI w v l) (h' : RdI w v' l) : Calls Try.prog 15 #[v, v'] w fun e w' => e = .returned (.bool true) ∧ ∃ n, w' = w.drewN n := by
  obtain ⟨a, c, rfl, hn, ha⟩ := h
  obtain ⟨b, c', rfl, _, hb⟩ := h'
  have HA := Lib.hid ha
  have HB := Lib.hid hb
  clear ha hb
  go_enter Try.func15, Try.ntmps15
  go_wp2_with fail
  go_loopg [5] l.length (fun d i wr => ∃ k n : Nat, k + d = l.length ∧ i = .int .i64 k ∧ wr = w.drewN n)
  case atStart => exact ⟨0, 0, by omega, rfl, rfl⟩
  case round =>
    obtain ⟨k, n, hk, rfl, rfl⟩ := hrel
    have HK := Lib.hid hk
    have hle : k ≤ l.length := by omega
    clear hk
    by_cases hlt : k < l.length
    · have hlt' : (k : Int) < l.length := by omega
      obtain ⟨ad, rfl, had, c0⟩ := HA.out k hlt
      obtain ⟨bd, rfl, hbd, d0⟩ := HB.out k hlt
      obtain ⟨y, hy⟩ : ∃ y, l.getD k 0 = y := ⟨_, rfl⟩
      replace c0 : (w.drewN n).cell? (ad.add k) = some (.int .i64 y) := by rw [← hy]; exact c0
      replace d0 : (w.drewN n).cell? (bd.add k) = some (.int .i64 y) := by rw [← hy]; exact d0
      obtain ⟨W, hW⟩ : ∃ W, w.drewN n = W := ⟨_, rfl⟩
      rw [hW] at c0 d0 ⊢
      have e0 : (y != y) = false := by simp
      have HW := Lib.hid hW
      clear hy hW
      go_wp2_with fail
      go_quiet (fail)
      go_wp2_with fail
      go_roundg (l.length - (k + 1))
      case measure => have := HK.out; omega
      case rel => exact ⟨k + 1, _, by have := HK.out; omega, by go_num, by rw [← HW.out, World.drewN_drewN]⟩
    · have hge : ¬ (k : Int) < l.length := by omega
      clear hlt
      go_wp2_with fail
      go_ret
      exact ⟨rfl, n, rfl⟩
theorem RRN.row {w : World} {ua : Option Addr} {g : List (List Nat)} (h : RRN w.heap.size w ua g) {i : Nat} (hi : i < g.length) : ∃ ad a2 c2, ua = some ad ∧ w.cell? (ad.add i) = some (.slice a2 (U g i).length c2) ∧ RdI w (.slice a2 (U g i).length c2) (ni (U g i)) := by
  obtain ⟨ad, a2, c2, h1, _, h3, h4, h5⟩ := h i hi
  refine ⟨ad, a2, c2, h1, h3, a2, c2, by rw [ni_length], by rw [ni_length]; exact h4, fun j hj => ?_⟩
  rw [ni_length] at hj
  obtain ⟨ad2, k1, k2, k3⟩ := h5 j hj
  refine ⟨ad2, k1, k2, k3.trans ?_⟩
  show _ = some (Value.int .i64 ((ni (U g i)).getD j 0))
  rw [ni_getD, List.getD_eq_getElem?_getD, List.getElem?_eq_getElem hj]
  rfl
theorem RdI.drewN {w : World} {v : Value} {l : List Int} (h : RdI w v l) (n : Nat) : RdI (w.drewN n) v l := h
theorem same_any {v v' : Value} {l : List (List Nat)} (w : World) (h : ReadG w v l) (h' : ReadG w v' l) : Calls Try.prog 14 #[v, v'] w fun e w' => e = .returned (.bool true) ∧ ∃ n, w' = w.drewN n := by
  obtain ⟨a, c, rfl, hn, ha⟩ := h
  obtain ⟨b, c', rfl, _, hb⟩ := h'
  have HA := Lib.hid ha
  have HB := Lib.hid hb
  clear ha hb
  go_enter Try.func14, Try.ntmps14
  go_wp2_with fail
  go_loopg [5] l.length (fun d i wr => ∃ k n : Nat, k + d = l.length ∧ i = .int .i64 k ∧ wr = w.drewN n)
  case atStart => exact ⟨0, 0, by omega, rfl, rfl⟩
  case round =>
    obtain ⟨k, n, hk, rfl, rfl⟩ := hrel
    have HK := Lib.hid hk
    have hle : k ≤ l.length := by omega
    clear hk
    by_cases hlt : k < l.length
    · have hlt' : (k : Int) < l.length := by omega
      obtain ⟨ad, a2, c2, rfl, c0, r0⟩ := HA.out.row hlt
      obtain ⟨bd, b2, d2, rfl, d0, r1⟩ := HB.out.row hlt
      replace c0 : (w.drewN n).cell? (ad.add k) = some (.slice a2 (U l k).length c2) := c0
      replace d0 : (w.drewN n).cell? (bd.add k) = some (.slice b2 (U l k).length d2) := d0
      have R0 := Lib.hid (r0.drewN n)
      have R1 := Lib.hid (r1.drewN n)
      obtain ⟨W, hW⟩ : ∃ W, w.drewN n = W := ⟨_, rfl⟩
      rw [hW] at c0 d0 R0 R1 ⊢
      have HW := Lib.hid hW
      clear hW r0 r1
      go_wp2_with fail
      go_quiet ((go_at_call 15; exact Calls.quiet_of (samei_any _ (R0.out.drewN _) (R1.out.drewN _))))
      go_wp2_with fail
      go_roundg (l.length - (k + 1))
      case measure => have := HK.out; omega
      case rel => exact ⟨k + 1, _, by have := HK.out; omega, by go_num, by rw [← HW.out, World.drewN_drewN]⟩
    · have hge : ¬ (k : Int) < l.length := by omega
      clear hlt
      go_wp2_with fail
      go_ret
      exact ⟨rfl, n, rfl⟩
/-! the fixed calls -/
def g0 : List (List Nat) := [[1], [0, 2], []]
def l0 : List (List Nat) := [[2], [0, 1]]
theorem g0_lt : ∀ x < g0.length, ∀ y ∈ U g0 x, y < g0.length := by decide
theorem star_g0 {x y : Nat} (h : Star g0 x y) : (x = 2 → y = 2) ∧ (3 ≤ x → y = x) := by
  induction h with
  | refl => exact ⟨id, fun _ => rfl⟩
  | more h e ih =>
    refine ⟨fun hx => ?_, fun hx => ?_⟩
    · rw [ih.1 hx] at e; simp [U, g0] at e
    · rw [ih.2 hx] at e
      simp [U, g0, List.getD_eq_getElem?_getD] at e
      rw [List.getElem?_eq_none (by simp; omega)] at e
      simp at e
theorem s01 : Star g0 0 1 := .one (by decide)
theorem s10 : Star g0 1 0 := .one (by decide)
theorem s12 : Star g0 1 2 := .one (by decide)
theorem mut_g0 (x y : Nat) (hx : x < 3) : Mut g0 x y ↔ (x = y ∨ (x < 2 ∧ y < 2)) := by
  constructor
  · rintro ⟨h, k⟩
    have h1 := star_g0 h
    have k1 := star_g0 k
    omega
  · rintro (rfl | ⟨h, k⟩)
    · exact Mut.refl _
    · rcases (by omega : (x = 0 ∨ x = 1) ∧ (y = 0 ∨ y = 1)) with ⟨rfl | rfl, rfl | rfl⟩
      · exact Mut.refl _
      · exact ⟨s01, s10⟩
      · exact ⟨s10, s01⟩
      · exact Mut.refl _
theorem canon_g0 : Canon g0 l0 where
  part := by
    refine ⟨fun C hC => ?_, fun x hx => ?_, fun C hC x hx => ?_, by decide⟩
    · simp only [l0, List.mem_cons, List.not_mem_nil, or_false] at hC
      rcases hC with rfl | rfl
      · refine ⟨by simp [Rising], by decide, fun x hx y => ?_⟩
        simp only [List.mem_cons, List.not_mem_nil, or_false] at hx ⊢
        rw [mut_g0 x y (by omega)]; omega
      · refine ⟨by simp [Rising], by decide, fun x hx y => ?_⟩
        simp only [List.mem_cons, List.not_mem_nil, or_false] at hx ⊢
        rw [mut_g0 x y (by omega)]; omega
    · have : x < 3 := hx
      rcases (by omega : x = 0 ∨ x = 1 ∨ x = 2) with rfl | rfl | rfl
      · exact ⟨[0, 1], by decide, by decide⟩
      · exact ⟨[0, 1], by decide, by decide⟩
      · exact ⟨[2], by decide, by decide⟩
    · simp only [l0, List.mem_cons, List.not_mem_nil, or_false] at hC
      show x < 3
      rcases hC with rfl | rfl <;> simp at hx <;> omega
  rdy := by
    intro i C hC
    match i with
    | 0 => cases hC; intro x hx u hu; simp at hx; subst hx; simp [U, g0] at hu
    | 1 =>
      cases hC
      intro x hx u hu
      simp at hx
      rcases hx with rfl | rfl
      · simp [U, g0] at hu; subst hu; exact .inl (by decide)
      · simp [U, g0] at hu
        rcases hu with rfl | rfl
        · exact .inl (by decide)
        · exact .inr ⟨[2], by simp [l0], by decide⟩
    | i + 2 => simp [l0] at hC
  least := by
    intro i C hC j D hij hD hr
    match i, j with
    | 0, 1 =>
      cases hC; cases hD
      have := hr 1 (by decide) 2 (by decide)
      simp at this
    | 0, j + 2 => simp [l0] at hD
    | 1, j + 2 => simp [l0] at hD
    | i + 2, _ => simp [l0] at hC
    | 0, 0 => omega
    | 1, 0 => omega
    | 1, 1 => omega
theorem reach_g0 {l : List Nat} (hr : Rising l) (hm : ∀ y, y ∈ l ↔ Needs g0 0 y) : l = [0, 1, 2] := by
  refine rising_ext hr (by simp [Rising] : Rising [0, 1, 2]) fun x => ?_
  rw [hm]
  have n0 : Needs g0 0 0 := ⟨1, by decide, s10⟩
  have n1 : Needs g0 0 1 := ⟨1, by decide, .refl _⟩
  have n2 : Needs g0 0 2 := ⟨1, by decide, s12⟩
  constructor
  · rintro ⟨z, hz, hs⟩
    have hlt : x < 3 := hs.closed (P := fun a => a < 3) (fun a ha b hb => g0_lt a ha b hb) (g0_lt 0 (by decide) z hz)
    simp; omega
  · intro hx
    simp only [List.mem_cons, List.not_mem_nil, or_false] at hx
    rcases hx with rfl | rfl | rfl <;> assumption
end Go.Proofs.Ytephmagficbdeaa.Gr
