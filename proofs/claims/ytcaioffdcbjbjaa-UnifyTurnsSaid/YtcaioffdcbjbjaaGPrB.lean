/-
  CONTRACTS: whether pairs are few, and whether both types of one may be.
-/
import Derived.Test.YtcaioffdcbjbjaaGB
import Derived.Test.YtcaioffdcbjbjaaGPrA

namespace Go.Proofs.Ytcaioffdcbjbjaa.Un
open Go.RowKit Mm Tm Ua
set_option linter.unusedVariables false
set_option linter.unusedSimpArgs false
abbrev TPr : TypeId := 31
/-- a small pair -/
def smallP (p : Pr) : Prop := p.1.args.nodes < 60 ∧ p.2.args.nodes < 60
/-- few pairs -/
def fewP (l : List Pr) : Prop := l.length ≤ 40 ∧ ∀ p ∈ l, smallP p
instance (p : Pr) : Decidable (smallP p) := inferInstanceAs (Decidable (_ ∧ _))
instance (l : List Pr) : Decidable (fewP l) := inferInstanceAs (Decidable (_ ∧ _))
/-- the cells of a pair's parts -/
theorem few_next {l : List Pr} {k : Nat} {p : Pr} (hp : l[k]? = some p) (h : ∀ q ∈ l.take k, smallP q) (hs : smallP p) : ∀ q ∈ l.take (k + 1), smallP q := by
  intro q hq
  rw [List.take_add_one, hp, List.mem_append] at hq
  rcases hq with hq | hq
  · exact h q hq
  · rw [List.mem_singleton.1 hq]; exact hs
set_option maxRecDepth 100000 in
set_option maxHeartbeats 4000000 in
theorem few_any {Z : Nat → Prop} {a : Option Addr} {n c : Nat} {l : List Pr} (w : World) (hln : l.length = n) (hn : n * 112 ≤ 140737488355328) (hr : Prs Z w a l) (hz : ∀ b, Z b → b < w.heap.size) :
    Calls Try.prog 4 #[.slice a n c] w (BoolB (decide (fewP l)) w) := by
  have HR := Lib.hid hr
  have HZ := Lib.hid hz
  have hlen : n ≤ 140737488355328 := by omega
  have HLN := Lib.hid hln
  clear hr hz hln
  go_enter Try.func4, Try.ntmps4
  by_cases hgt : n ≤ 40
  case neg =>
    have h1 : (40 : Int) < n := by omega
    have HF := Lib.hid (show decide (fewP l) = false from decide_eq_false fun q => by have := q.1; have := HLN.out; omega)
    go_wp2_with fail
    go_ret
    exact ⟨by rw [HF.out]; rfl, Below.refl _ _⟩
  have h1 : ¬ (40 : Int) < n := by omega
  go_wp2_with fail
  go_loopg [3] n (fun d v3 wr => ∃ k : Nat, k + d = n ∧ v3 = .int .i64 k ∧ (∀ q ∈ l.take k, smallP q) ∧ Below w.heap.size w wr)
  case atStart => exact ⟨0, by omega, rfl, fun q hq => by simp at hq, Below.refl _ _⟩
  case round =>
    obtain ⟨k, hkd, rfl, hs, hb⟩ := hrel
    have HK := Lib.hid hkd
    have HB := Lib.hid hb
    have HS := Lib.hid hs
    have hkle : k ≤ n := by omega
    clear hkd hb hs
    by_cases hlt : k < n
    · have hlt' : (k : Int) < n := by omega
      have hkL : k < l.length := by rw [HLN.out]; exact hlt
      have hx := (HR.out.below HB.out HZ.out) k l[k] (List.getElem?_eq_getElem hkL)
      have HMM := Lib.hid (List.getElem?_eq_getElem hkL)
      generalize l[k] = p at hx HMM
      obtain ⟨x, y⟩ := p
      obtain ⟨ad, a2, c2, a3, c3, rfl, _, z0, z1, z2, z3, z4, z5, z6, z7, nx, lx, rx, ny, ly, ry⟩ := hx
      have HSX := Lib.hid (rsize_any x.args.nodes x (Nat.le_refl _) a2 c2 60 wr (by decide) rx (fun b q => Nat.lt_of_lt_of_le (HZ.out b q) HB.out.size) lx)
      have HRY := Lib.hid (And.intro ry ly)
      unfold tyV at HSX
      clear rx ry
      by_cases hsx : x.args.nodes < 60
      case neg =>
        rw [show min (x.args.nodes + 1) (60 + 1) = 61 by omega] at HSX
        have HF := Lib.hid (show decide (fewP l) = false from decide_eq_false fun q => hsx (q.2 _ (List.mem_of_getElem? HMM.out)).1)
        go_wp2_with fail
        refine HSX.out.mono ?_
        rintro e w3 ⟨rfl, hb3⟩
        have HB3 := Lib.hid (HB.out.trans (hb3.mono HB.out.size))
        clear hb3
        go_wp2_with fail
        go_ret
        exact ⟨by rw [HF.out]; rfl, HB3.out⟩
      rw [show min (x.args.nodes + 1) (60 + 1) = x.args.nodes + 1 by omega] at HSX
      have hsx' : ¬ (60 : Int) < ((x.args.nodes + 1 : Nat) : Int) := by omega
      go_wp2_with fail
      refine HSX.out.mono ?_
      rintro e w3 ⟨rfl, hb3⟩
      have HB3 := Lib.hid (HB.out.trans (hb3.mono HB.out.size))
      have HX3 := Lib.hid (HR.out.below HB3.out HZ.out _ _ HMM.out)
      clear hb3 z0 z1 z2 z3 z4 z5 z6 z7
      obtain ⟨ad', b2, d2, b3, d3, hae, _, z0, z1, z2, z3, z4, z5, z6, z7, _, _, _, _, _, ry⟩ := HX3.out
      obtain rfl : ad = ad' := Option.some.inj hae
      have HSY := Lib.hid (rsize_any y.args.nodes y (Nat.le_refl _) b3 d3 60 w3 (by decide) ry (fun b q => Nat.lt_of_lt_of_le (HZ.out b q) HB3.out.size) ly)
      unfold tyV at HSY
      clear ry
      by_cases hsy : y.args.nodes < 60
      case neg =>
        rw [show min (y.args.nodes + 1) (60 + 1) = 61 by omega] at HSY
        have HF := Lib.hid (show decide (fewP l) = false from decide_eq_false fun q => hsy (q.2 _ (List.mem_of_getElem? HMM.out)).2)
        go_wp2_with fail
        refine HSY.out.mono ?_
        rintro e w4 ⟨rfl, hb4⟩
        have HB4 := Lib.hid (HB3.out.trans (hb4.mono HB3.out.size))
        clear hb4
        go_wp2_with fail
        go_ret
        exact ⟨by rw [HF.out]; rfl, HB4.out⟩
      rw [show min (y.args.nodes + 1) (60 + 1) = y.args.nodes + 1 by omega] at HSY
      have hsy' : ¬ (60 : Int) < ((y.args.nodes + 1 : Nat) : Int) := by omega
      go_wp2_with fail
      refine HSY.out.mono ?_
      rintro e w4 ⟨rfl, hb4⟩
      have HB4 := Lib.hid (HB3.out.trans (hb4.mono HB3.out.size))
      clear hb4
      go_wp2_with fail
      go_roundg (n - (k + 1))
      case measure => have := HK.out; omega
      case rel => exact ⟨k + 1, by have := HK.out; omega, by go_num, few_next HMM.out HS.out ⟨hsx, hsy⟩, HB4.out⟩
    · have hge : ¬ (k : Int) < n := by omega
      have HF := Lib.hid (show decide (fewP l) = true from decide_eq_true ⟨by have := HLN.out; omega, fun p hp => HS.out p (by rw [List.take_of_length_le (by have := HLN.out; omega)]; exact hp)⟩)
      go_wp2_with fail
      go_ret
      exact ⟨by rw [HF.out]; rfl, HB.out⟩
end Go.Proofs.Ytcaioffdcbjbjaa.Un
