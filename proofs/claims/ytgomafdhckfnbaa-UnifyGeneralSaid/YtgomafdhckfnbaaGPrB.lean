/-
  CONTRACTS: whether pairs are few, and whether both types of one may be.
-/
import Derived.Test.YtgomafdhckfnbaaGB
import Derived.Test.YtgomafdhckfnbaaGPrA

namespace Go.Proofs.Ytgomafdhckfnbaa.Un
open Go.RowKit Mm Tm Ua
set_option linter.unusedVariables false
set_option linter.unusedSimpArgs false
abbrev TPr : TypeId := 34
/-- a small pair -/
def smallP (p : Pr) : Prop := p.1.args.nodes < 60 ∧ p.2.args.nodes < 60
/-- few pairs -/
def fewP (l : List Pr) : Prop := l.length ≤ 40 ∧ ∀ p ∈ l, smallP p
instance (p : Pr) : Decidable (smallP p) := inferInstanceAs (Decidable (_ ∧ _))
instance (l : List Pr) : Decidable (fewP l) := inferInstanceAs (Decidable (_ ∧ _))
/-- the cells of a pair's parts -/
theorem few_next {l : List Pr} {k : Nat} {p : Pr} (hp : l[k]? = some p) (h : ∀ q ∈ l.take k, smallP q) (hs : smallP p) : ∀ q ∈ l.take (k + 1), smallP q := by
  intro q hq
  rw [List.take_add_one, hp, List.mem_append] at hq
  rcases hq with hq | hq
  · exact h q hq
  · rw [List.mem_singleton.1 hq]; exact hs
set_option maxRecDepth 100000 in
set_option maxHeartbeats 4000000 in
theorem few_any {Z : Nat → Prop} {a : Option Addr} {n c : Nat} {l : List Pr} (w : World) (hln : l.length = n) (hn : n * 112 ≤ 140737488355328) (hr : Prs Z w a l) (hz : ∀ b, Z b → b < w.heap.size) :
    Calls Try.prog 13 #[.slice a n c] w (BoolB (decide (fewP l)) w) := by
  have HR := Lib.hid hr
  have HZ := Lib.hid hz
  have hlen : n ≤ 140737488355328 := by omega
  have HLN := Lib.hid hln
  clear hr hz hln
  go_enter Try.func13, Try.ntmps13
  by_cases hgt : n ≤ 40
  case neg =>
    have h1 : (40 : Int) < n := by omega
    have HF := Lib.hid (show decide (fewP l) = false from decide_eq_false fun q => by have := q.1; have := HLN.out; omega)
    go_wp2_with fail
    go_ret
    exact ⟨by rw [HF.out]; rfl, Below.refl _ _⟩
  have h1 : ¬ (40 : Int) < n := by omega
  go_wp2_with fail
  go_loopg [3] n (fun d v3 wr => ∃ k : Nat, k + d = n ∧ v3 = .int .i64 k ∧ (∀ q ∈ l.take k, smallP q) ∧ Below w.heap.size w wr)
  case atStart => exact ⟨0, by omega, rfl, fun q hq => by simp at hq, Below.refl _ _⟩
  case round =>
    obtain ⟨k, hkd, rfl, hs, hb⟩ := hrel
    have HK := Lib.hid hkd
    have HB := Lib.hid hb
    have HS := Lib.hid hs
    have hkle : k ≤ n := by omega
    clear hkd hb hs
    by_cases hlt : k < n
    · have hlt' : (k : Int) < n := by omega
      have hkL : k < l.length := by rw [HLN.out]; exact hlt
      have hx := (HR.out.below HB.out HZ.out) k l[k] (List.getElem?_eq_getElem hkL)
      have HMM := Lib.hid (List.getElem?_eq_getElem hkL)
      generalize l[k] = p at hx HMM
      obtain ⟨x, y⟩ := p
      obtain ⟨ad, a2, c2, a3, c3, rfl, _, z0, z1, z2, z3, z4, z5, z6, z7, nx, lx, rx, ny, ly, ry⟩ := hx
      have HSX := Lib.hid (rsize_any x.args.nodes x (Nat.le_refl _) a2 c2 60 wr (by decide) rx (fun b q => Nat.lt_of_lt_of_le (HZ.out b q) HB.out.size) lx)
      have HRY := Lib.hid (And.intro ry ly)
      unfold tyV at HSX
      clear rx ry
      by_cases hsx : x.args.nodes < 60
      case neg =>
        rw [show min (x.args.nodes + 1) (60 + 1) = 61 by omega] at HSX
        have HF := Lib.hid (show decide (fewP l) = false from decide_eq_false fun q => hsx (q.2 _ (List.mem_of_getElem? HMM.out)).1)
        go_wp2_with fail
        refine HSX.out.mono ?_
        rintro e w3 ⟨rfl, hb3⟩
        have HB3 := Lib.hid (HB.out.trans (hb3.mono HB.out.size))
        clear hb3
        go_wp2_with fail
        go_ret
        exact ⟨by rw [HF.out]; rfl, HB3.out⟩
      rw [show min (x.args.nodes + 1) (60 + 1) = x.args.nodes + 1 by omega] at HSX
      have hsx' : ¬ (60 : Int) < ((x.args.nodes + 1 : Nat) : Int) := by omega
      go_wp2_with fail
      refine HSX.out.mono ?_
      rintro e w3 ⟨rfl, hb3⟩
      have HB3 := Lib.hid (HB.out.trans (hb3.mono HB.out.size))
      have HX3 := Lib.hid (HR.out.below HB3.out HZ.out _ _ HMM.out)
      clear hb3 z0 z1 z2 z3 z4 z5 z6 z7
      obtain ⟨ad', b2, d2, b3, d3, hae, _, z0, z1, z2, z3, z4, z5, z6, z7, _, _, _, _, _, ry⟩ := HX3.out
      obtain rfl : ad = ad' := Option.some.inj hae
      have HSY := Lib.hid (rsize_any y.args.nodes y (Nat.le_refl _) b3 d3 60 w3 (by decide) ry (fun b q => Nat.lt_of_lt_of_le (HZ.out b q) HB3.out.size) ly)
      unfold tyV at HSY
      clear ry
      by_cases hsy : y.args.nodes < 60
      case neg =>
        rw [show min (y.args.nodes + 1) (60 + 1) = 61 by omega] at HSY
        have HF := Lib.hid (show decide (fewP l) = false from decide_eq_false fun q => hsy (q.2 _ (List.mem_of_getElem? HMM.out)).2)
        go_wp2_with fail
        refine HSY.out.mono ?_
        rintro e w4 ⟨rfl, hb4⟩
        have HB4 := Lib.hid (HB3.out.trans (hb4.mono HB3.out.size))
        clear hb4
        go_wp2_with fail
        go_ret
        exact ⟨by rw [HF.out]; rfl, HB4.out⟩
      rw [show min (y.args.nodes + 1) (60 + 1) = y.args.nodes + 1 by omega] at HSY
      have hsy' : ¬ (60 : Int) < ((y.args.nodes + 1 : Nat) : Int) := by omega
      go_wp2_with fail
      refine HSY.out.mono ?_
      rintro e w4 ⟨rfl, hb4⟩
      have HB4 := Lib.hid (HB3.out.trans (hb4.mono HB3.out.size))
      clear hb4
      go_wp2_with fail
      go_roundg (n - (k + 1))
      case measure => have := HK.out; omega
      case rel => exact ⟨k + 1, by have := HK.out; omega, by go_num, few_next HMM.out HS.out ⟨hsx, hsy⟩, HB4.out⟩
    · have hge : ¬ (k : Int) < n := by omega
      have HF := Lib.hid (show decide (fewP l) = true from decide_eq_true ⟨by have := HLN.out; omega, fun p hp => HS.out p (by rw [List.take_of_length_le (by have := HLN.out; omega)]; exact hp)⟩)
      go_wp2_with fail
      go_ret
      exact ⟨by rw [HF.out]; rfl, HB.out⟩
set_option maxRecDepth 100000 in
set_option maxHeartbeats 4000000 in
/-- both types of a pair may be -/
theorem pright_any {Z : Nat → Prop} {x y : Ty} {a b : Option Addr} {c e : Nat} (w : World) (hx : RdT Z w a x.args 0) (hy : RdT Z w b y.args 0) (lx : x.args.len * 56 ≤ 140737488355328) (ly : y.args.len * 56 ≤ 140737488355328) (hz : ∀ b, Z b → b < w.heap.size) :
    Calls Try.prog 16 #[.agg #[.int .i64 x.kd, .int .i64 x.n, .string x.nm, .slice a x.args.len c, .int .i64 y.kd, .int .i64 y.n, .string y.nm, .slice b y.args.len e]] w (BoolB (okTy x && okTy y) w) := by
  obtain ⟨W0, hW0⟩ : ∃ W0, w.alloc (.cells #[.int .i64 x.kd, .int .i64 x.n, .string x.nm, .slice a x.args.len c, .int .i64 y.kd, .int .i64 y.n, .string y.nm, .slice b y.args.len e] TPr) = W0 := ⟨_, rfl⟩
  have hB0 : Below w.heap.size w W0 := by rw [← hW0]; exact (Below.refl w.heap.size w).alloc (Nat.le_refl _) _
  have hX0 : Box W0 w.heap.size TPr #[.int .i64 x.kd, .int .i64 x.n, .string x.nm, .slice a x.args.len c, .int .i64 y.kd, .int .i64 y.n, .string y.nm, .slice b y.args.len e] := by rw [← hW0]; exact Box.new w _ _
  have HRX := Lib.hid (rright_any x.args.nodes x (Nat.le_refl _) a c W0 (hx.below hB0 hz) (fun b q => Nat.lt_of_lt_of_le (hz b q) hB0.size) lx)
  unfold tyV at HRX
  have x0 := hX0.cell 0
  have x1 := hX0.cell 1
  have x2 := hX0.cell 2
  have x3 := hX0.cell 3
  have HX0 := Lib.hid hX0
  have HB0 := Lib.hid hB0
  have HY := Lib.hid hy
  have HZ := Lib.hid hz
  clear hX0 hB0 hx hy hz
  go_enter Try.func16, Try.ntmps16
  cases hox : okTy x with
  | false =>
    rw [hox] at HRX
    clear hox
    go_wp2_with fail
    refine HRX.out.mono ?_
    rintro e W1 ⟨rfl, hb1⟩
    have HB1 := Lib.hid (HB0.out.trans (hb1.mono HB0.out.size))
    clear hb1 hW0
    go_wp2_with fail
    go_ret
    exact ⟨rfl, HB1.out⟩
  | true =>
    rw [hox] at HRX
    clear hox
    go_wp2_with fail
    refine HRX.out.mono ?_
    rintro e W1 ⟨rfl, hb1⟩
    have HB1 := Lib.hid (HB0.out.trans (hb1.mono HB0.out.size))
    have hX1 := HX0.out.below hb1 HX0.out.lt
    have HRY := Lib.hid (rright_any y.args.nodes y (Nat.le_refl _) b e W1 (HY.out.below HB1.out HZ.out) (fun b q => Nat.lt_of_lt_of_le (HZ.out b q) HB1.out.size) ly)
    unfold tyV at HRY
    clear hb1 hW0 x0 x1 x2 x3
    have x4 := hX1.cell 4
    have x5 := hX1.cell 5
    have x6 := hX1.cell 6
    have x7 := hX1.cell 7
    clear hX1
    go_wp2_with fail
    refine HRY.out.mono ?_
    rintro e W2 ⟨rfl, hb2⟩
    have HB2 := Lib.hid (HB1.out.trans (hb2.mono HB1.out.size))
    clear hb2
    go_wp2_with fail
    go_ret
    exact ⟨rfl, HB2.out⟩
end Go.Proofs.Ytgomafdhckfnbaa.Un
