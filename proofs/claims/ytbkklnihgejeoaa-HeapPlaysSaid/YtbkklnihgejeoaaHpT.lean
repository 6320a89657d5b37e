/-
  CONTRACTS of layer heap: the document's Same of a node and itself.
-/
import Derived.Test.YtbkklnihgejeoaaHpG
namespace Go.Proofs.Ytbkklnihgejeoaa.Hp
open Go.RowKit Mm Tm
set_option linter.unusedVariables false
set_option linter.unusedSimpArgs false
theorem samei_any {Z Z' : Nat → Prop} {a b : Option Addr} {c d : Nat} {l : List Int} (w : World) (h : RdI Z w a l) (h' : RdI Z' w b l) (hn : l.length ≤ 9223372036854775807) : Calls Try.prog 35 #[.slice a l.length c, .slice b l.length d] w (RetB (.bool true) w) := by
  have HA := Lib.hid h
  have HB := Lib.hid h'
  clear h h'
  go_enter Try.func35, Try.ntmps35
  go_wp2_with fail
  go_loopg [5] l.length (fun d i wr => ∃ k n : Nat, k + d = l.length ∧ i = .int .i64 k ∧ wr = w.drewN n)
  case atStart => exact ⟨0, 0, by omega, rfl, rfl⟩
  case round =>
    obtain ⟨k, n, hk, rfl, rfl⟩ := hrel
    have HK := Lib.hid hk
    have hle : k ≤ l.length := by omega
    clear hk
    by_cases hlt : k < l.length
    · have hlt' : (k : Int) < l.length := by omega
      obtain ⟨y, hy⟩ : ∃ y, l[k]? = some y := ⟨_, List.getElem?_eq_getElem hlt⟩
      obtain ⟨ad, rfl, had, c0⟩ := HA.out k y hy
      obtain ⟨bd, rfl, hbd, d0⟩ := HB.out k y hy
      replace c0 : (w.drewN n).cell? (ad.add k) = some (.int .i64 y) := c0
      replace d0 : (w.drewN n).cell? (bd.add k) = some (.int .i64 y) := d0
      obtain ⟨W, hW⟩ : ∃ W, w.drewN n = W := ⟨_, rfl⟩
      rw [hW] at c0 d0 ⊢
      have e0 : (y != y) = false := by simp
      have HW := Lib.hid hW
      clear hy hW
      go_wp2_with fail
      go_quiet (fail)
      go_wp2_with fail
      go_roundg (l.length - (k + 1))
      case measure => have := HK.out; omega
      case rel => exact ⟨k + 1, _, by have := HK.out; omega, by go_num, by rw [← HW.out, World.drewN_drewN]⟩
    · have hge : ¬ (k : Int) < l.length := by omega
      clear hlt
      go_wp2_with fail
      go_ret
      exact ⟨rfl, below_drewN (Below.refl _ _) n⟩
set_option maxRecDepth 100000 in
set_option maxHeartbeats 4000000 in
theorem same_node {Z Z' : Nat → Prop} {a b : Option Addr} {c d : Nat} {x : Nd} (w : World) (h : RdI Z w a x.l) (h' : RdI Z' w b x.l) (hZ : ∀ q, Z q → q < w.heap.size) (hZ' : ∀ q, Z' q → q < w.heap.size) (hn : x.l.length ≤ 9223372036854775807) :
    Calls Try.prog 22 #[.agg #[.int .i64 x.tag, .int .i64 x.n, .slice a x.l.length c], .agg #[.int .i64 x.tag, .int .i64 x.n, .slice b x.l.length d]] w (RetB (.bool true) w) := by
  obtain ⟨tag, n, l⟩ := x
  simp only at *
  obtain ⟨W0, hW0⟩ : ∃ W0, (w.alloc (.cells #[.int .i64 tag, .int .i64 n, .slice a l.length c] TN)).alloc (.cells #[.int .i64 tag, .int .i64 n, .slice b l.length d] TN) = W0 := ⟨_, rfl⟩
  have hB0 : Below w.heap.size w W0 := by rw [← hW0]; exact ((Below.refl w.heap.size w).alloc (Nat.le_refl _) _).alloc (by simp) _
  have hX0 : Box W0 w.heap.size TN #[.int .i64 tag, .int .i64 n, .slice a l.length c] := by rw [← hW0]; exact (Box.new w _ _).alloc _
  have hY0 : Box W0 (w.heap.size + 1) TN #[.int .i64 tag, .int .i64 n, .slice b l.length d] := by rw [← hW0]; exact Box.at_ _ _ (by simp)
  have HS := Lib.hid (samei_any (c := c) (d := d) W0 (h.below hB0 hZ) (h'.below hB0 hZ') hn)
  have HB := Lib.hid hB0
  have x0 := hX0.cell 0
  have x1 := hX0.cell 1
  have x2 := hX0.cell 2
  have y0 := hY0.cell 0
  have y1 := hY0.cell 1
  have y2 := hY0.cell 2
  have q1 : (tag == tag) = true := by simp
  have q2 : (n == n) = true := by simp
  clear hB0 hX0 hY0 h h' hZ hZ'
  go_enter Try.func22, Try.ntmps22
  go_wp2_with fail
  with_reducible refine HS.out.mono ?_
  rintro e w' ⟨rfl, hb⟩
  have HE := Lib.hid (HB.out.trans (hb.mono HB.out.size))
  clear hb hW0
  go_wp2_with fail
  go_ret
  exact ⟨rfl, HE.out⟩
theorem right_any (c : Int) (w : World) : Calls Try.prog 10 #[.int .i64 c] w (IsV (.bool (decide (1 ≤ c) && decide (c ≤ 16777216))) w) := by
  go_enter Try.func10, Try.ntmps10
  by_cases h1 : 1 ≤ c
  · by_cases h2 : c ≤ 16777216
    · rw [decide_eq_true h1, decide_eq_true h2]
      go_wp2_with fail
      go_ret
      exact ⟨rfl, rfl⟩
    · rw [decide_eq_true h1, decide_eq_false h2]
      have q : decide (c ≤ 16777216) = false := decide_eq_false h2
      go_wp2_with fail
      go_ret
      exact ⟨rfl, rfl⟩
  · rw [decide_eq_false h1]
    have q : decide (1 ≤ c) = false := decide_eq_false h1
    go_wp2_with fail
    go_ret
    exact ⟨rfl, rfl⟩
end Go.Proofs.Ytbkklnihgejeoaa.Hp
