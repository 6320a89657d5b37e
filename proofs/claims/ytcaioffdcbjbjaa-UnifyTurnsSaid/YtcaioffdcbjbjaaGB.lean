/-
  CONTRACTS of layer unify: the document's Right.
-/
import Derived.Test.YtcaioffdcbjbjaaGA
import Derived.Test.YtcaioffdcbjbjaaChecked
import Derived.Handy
import Derived.Lib.Hide
import Derived.WalkSpells
import Derived.WalkLawsBesides
import Derived.Outline
import Derived.Deep.QuietTactic
import Derived.BigQuiet
import Derived.Deep.RegionHeld3
import Derived.Deep.RegionWith
import Derived.RegionTactic
import Derived.BigRegion
import Derived.IntWalk
import Derived.StillTailTactics
import Derived.Maps.AppendAt
import Derived.Deep.LoopGhost
import Derived.StringKeys
import Derived.Carry
namespace Go.Proofs.Ytcaioffdcbjbjaa.Un
open Go.RowKit Mm Tm
set_option linter.unusedVariables false
set_option linter.unusedSimpArgs false
abbrev TT : TypeId := 29
abbrev noN : ByteArray := ⟨#[]⟩
def headV (n : Int) (nm : ByteArray) (len : Nat) : Bool := decide (0 ≤ n) && (decide (n ≤ 1073741824) && (decide (nm = noN) && decide (len = 0)))
def headC (kd n : Int) (nm : ByteArray) (len : Nat) : Bool := decide (n = 0) && ((decide (kd = 2) && decide (nm ≠ noN)) || (decide (kd = 3) && (decide (nm = noN) && decide (len = 2))))
theorem nonempty {nm : ByteArray} (h : nm ≠ noN) : nm.toList.isEmpty = false := by
  rw [ByteArray.toList_eq]
  cases hd : nm.data.toList with
  | nil => exact absurd (WideShapes.bytes_inj (a := nm) (b := noN) (by rw [hd])) h
  | cons _ _ => rfl
/-- types that may be -/
def okT : Tys → Bool
  | .nil => true
  | .cons kd n nm args rest => (if kd = 1 then headV n nm args.len else (headC kd n nm args.len && okT args)) && okT rest
def okTy (x : Ty) : Bool := if x.kd = 1 then headV x.n x.nm x.args.len else (headC x.kd x.n x.nm x.args.len && okT x.args)
theorem okT_all : ∀ t : Tys, okT t = t.toL.all okTy
  | .nil => rfl
  | .cons kd n nm args rest => by
    rw [okT, Tys.toL, List.all_cons, okT_all rest]
    rfl
def tyV (x : Ty) (a : Option Addr) (c : Nat) : Value := .agg #[.int .i64 x.kd, .int .i64 x.n, .string x.nm, .slice a x.args.len c]
def BoolB (v : Bool) (w : World) (e : Ending) (w' : World) : Prop := e = .returned (.bool v) ∧ Below w.heap.size w w'
end Go.Proofs.Ytcaioffdcbjbjaa.Un
/-
  CONTRACTS of layer unify: Right.
-/
namespace Go.Proofs.Ytcaioffdcbjbjaa.Un
open Go.RowKit Mm Tm
set_option linter.unusedVariables false
set_option linter.unusedSimpArgs false
/-- a row of types: each may be -/
def AllR (Z : Nat → Prop) (t : Tys) (w : World) : Prop := ∀ a c w', RdT Z w' a t 0 → w.heap.size ≤ w'.heap.size → Calls Try.prog 22 #[.slice a t.len c] w' (BoolB (okT t) w')
set_option maxRecDepth 100000 in
set_option maxHeartbeats 4000000 in
theorem right_of {Z : Nat → Prop} {x : Ty} {a : Option Addr} {c : Nat} (w : World) (hr : RdT Z w a x.args 0) (hz : ∀ b, Z b → b < w.heap.size) (hC : AllR Z x.args w) :
    Calls Try.prog 15 #[.agg #[.int .i64 x.kd, .int .i64 x.n, .string x.nm, .slice a x.args.len c]] w (BoolB (okTy x) w) := by
  have HB0 := Lib.hid ((Below.refl w.heap.size w).alloc (Nat.le_refl _) (.cells #[.int .i64 x.kd, .int .i64 x.n, .string x.nm, .slice a x.args.len c] TT))
  have HCC := Lib.hid (hC a c (w.alloc (.cells #[.int .i64 x.kd, .int .i64 x.n, .string x.nm, .slice a x.args.len c] TT)) (hr.below HB0.out hz) HB0.out.size)
  have HOK := Lib.hid (show okTy x = if x.kd = 1 then headV x.n x.nm x.args.len else (headC x.kd x.n x.nm x.args.len && okT x.args) from rfl)
  clear hr hz hC
  obtain ⟨kd, n, nm, args⟩ := x
  simp only at *
  go_enter Try.func15, Try.ntmps15
  by_cases hk : kd = 1
  · subst hk
    by_cases h1 : 0 ≤ n
    case neg =>
      have q1 := h1
      have HE := Lib.hid (show okTy ⟨1, n, nm, args⟩ = false by rw [HOK.out, if_pos rfl]; unfold headV; rw [decide_eq_false q1]; rfl)
      go_wp2_with fail
      go_ret
      exact ⟨by rw [HE.out]; rfl, HB0.out⟩
    by_cases h2 : n ≤ 1073741824
    case neg =>
      have q2 := h2
      have HE := Lib.hid (show okTy ⟨1, n, nm, args⟩ = false by rw [HOK.out, if_pos rfl]; unfold headV; rw [decide_eq_false q2, Bool.false_and, Bool.and_false])
      go_wp2_with fail
      go_ret
      exact ⟨by rw [HE.out]; rfl, HB0.out⟩
    by_cases h3 : nm = noN
    · subst h3
      by_cases h4 : args.len = 0
      · have HE := Lib.hid (show okTy ⟨1, n, noN, args⟩ = true by rw [HOK.out, if_pos rfl]; unfold headV; rw [decide_eq_true h1, decide_eq_true h2, h4]; rfl)
        have HB1 := Lib.hid (by have := HB0.out; rw [h4] at this; exact this)
        go_wp2_with fail
        go_ret
        exact ⟨by rw [HE.out]; rfl, HB1.out⟩
      · have q4 : ((args.len : Int) == 0) = false := by simpa using h4
        have HE := Lib.hid (show okTy ⟨1, n, noN, args⟩ = false by rw [HOK.out, if_pos rfl]; unfold headV; rw [decide_eq_false h4, Bool.and_false, Bool.and_false, Bool.and_false])
        go_wp2_with fail
        go_ret
        exact ⟨by rw [HE.out]; rfl, HB0.out⟩
    · have q3 := nonempty h3
      have HE := Lib.hid (show okTy ⟨1, n, nm, args⟩ = false by rw [HOK.out, if_pos rfl]; unfold headV; rw [decide_eq_false h3, Bool.false_and, Bool.and_false, Bool.and_false])
      go_wp2_with fail
      go_ret
      exact ⟨by rw [HE.out]; rfl, HB0.out⟩
  · have qk : (kd == 1) = false := by simpa using hk
    by_cases h2 : kd = 2
    · subst h2
      by_cases h3 : nm = noN
      · subst h3
        have HE := Lib.hid (show okTy ⟨2, n, noN, args⟩ = false by rw [HOK.out, if_neg hk]; unfold headC; simp)
        go_wp2_with fail
        go_ret
        exact ⟨by rw [HE.out]; rfl, HB0.out⟩
      · have q3 := nonempty h3
        have HN := Lib.hid h3
        clear h3
        by_cases hn : n = 0
        · subst hn
          have HE := Lib.hid (show okTy ⟨2, 0, nm, args⟩ = okT args by rw [HOK.out, if_neg hk]; unfold headC; rw [decide_eq_true HN.out]; simp)
          go_wp2_with fail
          refine HCC.out.mono ?_
          rintro e w3 ⟨rfl, hb3⟩
          have HB3 := Lib.hid (HB0.out.trans (hb3.mono HB0.out.size))
          clear hb3
          go_wp2_with fail
          go_ret
          exact ⟨by rw [HE.out]; rfl, HB3.out⟩
        · have qn : (n == 0) = false := by simpa using hn
          have HE := Lib.hid (show okTy ⟨2, n, nm, args⟩ = false by rw [HOK.out, if_neg hk]; unfold headC; rw [decide_eq_false hn, Bool.false_and, Bool.false_and])
          go_wp2_with fail
          go_ret
          exact ⟨by rw [HE.out]; rfl, HB0.out⟩
    · have q2 : (kd == 2) = false := by simpa using h2
      by_cases h3 : kd = 3
      · subst h3
        by_cases h4 : nm = noN
        · subst h4
          by_cases hn : n = 0
          · subst hn
            by_cases h5 : args.len = 2
            · have q5 : ((args.len : Int) == 2) = true := by simp [h5]
              have HE := Lib.hid (show okTy ⟨3, 0, noN, args⟩ = okT args by rw [HOK.out, if_neg hk]; unfold headC; rw [decide_eq_true h5]; rfl)
              clear h5
              go_wp2_with fail
              refine HCC.out.mono ?_
              rintro e w3 ⟨rfl, hb3⟩
              have HB3 := Lib.hid (HB0.out.trans (hb3.mono HB0.out.size))
              clear hb3
              go_wp2_with fail
              go_ret
              exact ⟨by rw [HE.out]; rfl, HB3.out⟩
            · have q5 : ((args.len : Int) == 2) = false := by simpa using (show ¬ (args.len : Int) = 2 by omega)
              have HE := Lib.hid (show okTy ⟨3, 0, noN, args⟩ = false by rw [HOK.out, if_neg hk]; unfold headC; rw [decide_eq_false h5]; rfl)
              go_wp2_with fail
              go_ret
              exact ⟨by rw [HE.out]; rfl, HB0.out⟩
          · have qn : (n == 0) = false := by simpa using hn
            have HE := Lib.hid (show okTy ⟨3, n, noN, args⟩ = false by rw [HOK.out, if_neg hk]; unfold headC; rw [decide_eq_false hn, Bool.false_and, Bool.false_and])
            go_wp2_with fail
            go_ret
            exact ⟨by rw [HE.out]; rfl, HB0.out⟩
        · have q3 := nonempty h4
          have HE := Lib.hid (show okTy ⟨3, n, nm, args⟩ = false by rw [HOK.out, if_neg hk]; unfold headC; rw [decide_eq_false h4]; simp)
          go_wp2_with fail
          go_ret
          exact ⟨by rw [HE.out]; rfl, HB0.out⟩
      · have q3 : (kd == 3) = false := by simpa using h3
        have HE := Lib.hid (show okTy ⟨kd, n, nm, args⟩ = false by rw [HOK.out, if_neg hk]; unfold headC; rw [decide_eq_false h2, decide_eq_false h3]; simp)
        go_wp2_with fail
        go_ret
        exact ⟨by rw [HE.out]; rfl, HB0.out⟩
end Go.Proofs.Ytcaioffdcbjbjaa.Un
/-
  CONTRACTS of layer unify: Right, allRight, whole.
-/
namespace Go.Proofs.Ytcaioffdcbjbjaa.Un
open Go.RowKit Mm Tm
set_option linter.unusedVariables false
set_option linter.unusedSimpArgs false
set_option maxRecDepth 100000 in
set_option maxHeartbeats 4000000 in
theorem allr_of {Z : Nat → Prop} {t : Tys} {a : Option Addr} {c : Nat} (w : World) (hr : RdT Z w a t 0) (hz : ∀ b, Z b → b < w.heap.size) (hl : t.len * 56 ≤ 140737488355328)
    (hC : ∀ y ∈ t.toL, ∀ a2 c2 w', RdT Z w' a2 y.args 0 → w.heap.size ≤ w'.heap.size → y.args.len * 56 ≤ 140737488355328 → Calls Try.prog 15 #[tyV y a2 c2] w' (BoolB (okTy y) w')) :
    Calls Try.prog 22 #[.slice a t.len c] w (BoolB (okT t) w) := by
  have HR := Lib.hid hr
  have HZ := Lib.hid hz
  have HC := Lib.hid hC
  have HTL := Lib.hid (Tys.toL_len t)
  have HOK := Lib.hid (okT_all t)
  have hlen : t.len ≤ 140737488355328 := by omega
  clear hr hz hC
  go_enter Try.func22, Try.ntmps22
  go_wp2_with fail
  go_loopg [7] t.len (fun d v wr => ∃ k : Nat, k + d = t.len ∧ v = .int .i64 k ∧ Below w.heap.size w wr ∧ (t.toL.take k).all okTy = true)
  case atStart => exact ⟨0, by omega, rfl, Below.refl _ _, by simp⟩
  case round =>
    obtain ⟨k, hkd, rfl, hb, hall⟩ := hrel
    have HK := Lib.hid hkd
    have HB := Lib.hid hb
    have HALL := Lib.hid hall
    have hkle : k ≤ t.len := by omega
    clear hkd hb hall
    by_cases hlt : k < t.len
    · have hlt' : (k : Int) < t.len := by omega
      have hkL : k < t.toL.length := by rw [HTL.out]; exact hlt
      have hx := (HR.out.below HB.out HZ.out).at_ k t.toL[k] (List.getElem?_eq_getElem hkL)
      have HMM := Lib.hid (List.getElem_mem hkL)
      have HTK := Lib.hid (show t.toL.take (k + 1) = t.toL.take k ++ [t.toL[k]] by rw [List.take_add_one, List.getElem?_eq_getElem hkL]; rfl)
      generalize t.toL[k] = y at hx HMM HTK
      rw [Nat.zero_add] at hx
      obtain ⟨ad, a2, c2, rfl, _, z0, z1, z2, z3, _, ha, hrd⟩ := hx
      have HBa := Lib.hid ((Below.refl wr.heap.size wr).alloc (Nat.le_refl _) (.cells #[.int .i64 y.kd, .int .i64 y.n, .string y.nm, .slice a2 y.args.len c2] TT))
      have HBw := Lib.hid (HB.out.trans (HBa.out.mono HB.out.size))
      have HX := Lib.hid (Box.new wr #[.int .i64 y.kd, .int .i64 y.n, .string y.nm, .slice a2 y.args.len c2] TT)
      have HCC := Lib.hid (HC.out y HMM.out a2 c2 _ (hrd.below HBa.out fun b hb => Nat.lt_of_lt_of_le (HZ.out b hb) HB.out.size) HBw.out.size ha)
      unfold tyV at HCC
      clear hrd
      cases hy : okTy y with
      | false =>
        rw [hy] at HCC
        have HE := Lib.hid (show okT t = false by rw [HOK.out]; exact List.all_eq_false.2 ⟨y, HMM.out, by rw [hy]; decide⟩)
        clear hy
        go_wp2_with fail
        refine HCC.out.mono ?_
        rintro e w3 ⟨rfl, hb3⟩
        have HB3 := Lib.hid (HBw.out.trans (hb3.mono HBw.out.size))
        clear hb3
        go_wp2_with fail
        go_ret
        exact ⟨by rw [HE.out]; rfl, HB3.out⟩
      | true =>
        rw [hy] at HCC
        have HA2 := Lib.hid (show (t.toL.take (k + 1)).all okTy = true by rw [HTK.out, List.all_append, HALL.out]; simp [hy])
        clear hy
        go_wp2_with fail
        refine HCC.out.mono ?_
        rintro e w3 ⟨rfl, hb3⟩
        have HB3 := Lib.hid (HBw.out.trans (hb3.mono HBw.out.size))
        clear hb3
        go_wp2_with fail
        go_roundg (t.len - (k + 1))
        case measure => have := HK.out; omega
        case rel => exact ⟨k + 1, by have := HK.out; omega, by go_num, HB3.out, HA2.out⟩
    · have hge : ¬ (k : Int) < t.len := by omega
      have HE := Lib.hid (show okT t = true by
        have h := HALL.out
        rw [List.take_of_length_le (by rw [HTL.out]; omega)] at h
        rw [HOK.out, h])
      go_wp2_with fail
      go_ret
      exact ⟨by rw [HE.out]; rfl, HB.out⟩
theorem right_any {Z : Nat → Prop} : ∀ (q : Nat) (x : Ty), x.args.nodes ≤ q → ∀ (a : Option Addr) (c : Nat) (w : World), RdT Z w a x.args 0 → (∀ b, Z b → b < w.heap.size) → x.args.len * 56 ≤ 140737488355328 →
    Calls Try.prog 15 #[tyV x a c] w (BoolB (okTy x) w) := by
  intro q
  induction q with
  | zero =>
    intro x hx a c w h hz hl
    refine right_of w h hz fun a2 c2 w' hr hle => allr_of w' hr (fun b hb => Nat.lt_of_lt_of_le (hz b hb) hle) hl fun y hy => ?_
    obtain ⟨i, hi⟩ := List.getElem?_of_mem hy
    have := Tys.nodes_get x.args i y hi
    omega
  | succ q ih =>
    intro x hx a c w h hz hl
    refine right_of w h hz fun a2 c2 w' hr hle => allr_of w' hr (fun b hb => Nat.lt_of_lt_of_le (hz b hb) hle) hl fun y hy a3 c3 w2 hr2 hle2 hl2 => ?_
    obtain ⟨i, hi⟩ := List.getElem?_of_mem hy
    have := Tys.nodes_get x.args i y hi
    exact ih y (by omega) a3 c3 w2 hr2 (fun b hb => Nat.lt_of_lt_of_le (hz b hb) (Nat.le_trans hle hle2)) hl2
end Go.Proofs.Ytcaioffdcbjbjaa.Un
/-
  CONTRACTS of layer unify: the document's Same.
-/
namespace Go.Proofs.Ytcaioffdcbjbjaa.Un
open Go.RowKit Mm Tm
set_option linter.unusedVariables false
set_option linter.unusedSimpArgs false
/-- a comparison that is true where two types are one -/
def SameB (x y : Ty) (w : World) (e : Ending) (w' : World) : Prop := ∃ v : Bool, e = .returned (.bool v) ∧ (v = true ↔ x = y) ∧ Below w.heap.size w w'
theorem ty_ext {x y : Ty} (h1 : x.kd = y.kd) (h2 : x.n = y.n) (h3 : x.nm = y.nm) (h4 : x.args.toL = y.args.toL) : x = y := by
  obtain ⟨k, n, m, a⟩ := x
  obtain ⟨k', n', m', a'⟩ := y
  simp only at h1 h2 h3 h4
  subst h1 h2 h3
  rw [← Tys.ofL_toL a, ← Tys.ofL_toL a', h4]
set_option maxRecDepth 100000 in
set_option maxHeartbeats 4000000 in
theorem rsame_of {Z Z' : Nat → Prop} {x y : Ty} {a b : Option Addr} {c d : Nat} (w : World) (hr : RdT Z w a x.args 0) (hr' : RdT Z' w b y.args 0) (hz : ∀ b, Z b → b < w.heap.size) (hz' : ∀ b, Z' b → b < w.heap.size) (hl : x.args.len * 56 ≤ 140737488355328)
    (hC : ∀ p ∈ x.args.toL, ∀ q ∈ y.args.toL, ∀ a2 c2 b2 d2 w', RdT Z w' a2 p.args 0 → RdT Z' w' b2 q.args 0 → w.heap.size ≤ w'.heap.size → p.args.len * 56 ≤ 140737488355328 → Calls Try.prog 9 #[tyV p a2 c2, tyV q b2 d2] w' (SameB p q w')) :
    Calls Try.prog 9 #[.agg #[.int .i64 x.kd, .int .i64 x.n, .string x.nm, .slice a x.args.len c], .agg #[.int .i64 y.kd, .int .i64 y.n, .string y.nm, .slice b y.args.len d]] w (SameB x y w) := by
  have HR := Lib.hid hr
  have HR' := Lib.hid hr'
  have HZ := Lib.hid hz
  have HZ' := Lib.hid hz'
  have HC := Lib.hid hC
  have HB0 := Lib.hid (((Below.refl w.heap.size w).alloc (Nat.le_refl _) (.cells #[.int .i64 x.kd, .int .i64 x.n, .string x.nm, .slice a x.args.len c] TT)).alloc (by simp) (.cells #[.int .i64 y.kd, .int .i64 y.n, .string y.nm, .slice b y.args.len d] TT))
  have HTL := Lib.hid (Tys.toL_len x.args)
  have HTL' := Lib.hid (Tys.toL_len y.args)
  have HEX := Lib.hid (show x = y → x.kd = y.kd ∧ x.n = y.n ∧ x.nm = y.nm ∧ x.args.len = y.args.len ∧ x.args.toL = y.args.toL from fun h => by subst h; exact ⟨rfl, rfl, rfl, rfl, rfl⟩)
  have HTE := Lib.hid (ty_ext (x := x) (y := y))
  clear hr hr' hz hz' hC
  go_enter Try.func9, Try.ntmps9
  by_cases h1 : x.kd = y.kd
  case neg =>
    have q1 : (x.kd != y.kd) = true := by simpa using h1
    have H1 := Lib.hid h1
    clear h1
    go_wp2_with fail
    go_ret
    exact ⟨false, rfl, ⟨fun h => absurd h (by decide), fun h => absurd (HEX.out h).1 H1.out⟩, HB0.out⟩
  have q1 : (x.kd != y.kd) = false := by simpa using h1
  have H1 := Lib.hid h1
  clear h1
  by_cases h2 : x.n = y.n
  case neg =>
    have q2 : (x.n != y.n) = true := by simpa using h2
    have H2 := Lib.hid h2
    clear h2
    go_wp2_with fail
    go_ret
    exact ⟨false, rfl, ⟨fun h => absurd h (by decide), fun h => absurd (HEX.out h).2.1 H2.out⟩, HB0.out⟩
  have q2 : (x.n != y.n) = false := by simpa using h2
  have H2 := Lib.hid h2
  clear h2
  by_cases h3 : x.nm = y.nm
  case neg =>
    have q3 : (x.nm.toList == y.nm.toList) = false := by
      simp only [beq_eq_false_iff_ne, ne_eq, ByteArray.toList_eq]
      exact fun e => h3 (WideShapes.bytes_inj e)
    have H3 := Lib.hid h3
    clear h3
    go_wp2_with fail
    go_ret
    exact ⟨false, rfl, ⟨fun h => absurd h (by decide), fun h => absurd (HEX.out h).2.2.1 H3.out⟩, HB0.out⟩
  have q3 : (x.nm.toList == y.nm.toList) = true := by rw [h3]; exact beq_self_eq_true _
  have H3 := Lib.hid h3
  clear h3
  by_cases h4 : x.args.len = y.args.len
  case neg =>
    have q4 : ((x.args.len : Int) != (y.args.len : Int)) = true := by simpa using (show ¬ (x.args.len : Int) = y.args.len by omega)
    have H4 := Lib.hid h4
    clear h4
    go_wp2_with fail
    go_ret
    exact ⟨false, rfl, ⟨fun h => absurd h (by decide), fun h => absurd (HEX.out h).2.2.2.1 H4.out⟩, HB0.out⟩
  have q4 : ((x.args.len : Int) != (y.args.len : Int)) = false := by simp [h4]
  have H4 := Lib.hid h4
  clear h4
  have HX0 := Lib.hid ((Box.new w #[.int .i64 x.kd, .int .i64 x.n, .string x.nm, .slice a x.args.len c] TT).alloc (.cells #[.int .i64 y.kd, .int .i64 y.n, .string y.nm, .slice b y.args.len d] TT))
  have HY0 := Lib.hid (Box.at_ (w := w.alloc (.cells #[.int .i64 x.kd, .int .i64 x.n, .string x.nm, .slice a x.args.len c] TT)) (k := w.heap.size + 1) #[.int .i64 y.kd, .int .i64 y.n, .string y.nm, .slice b y.args.len d] TT (by simp))
  have hlen : x.args.len ≤ 140737488355328 := by omega
  go_wp2_with fail
  go_loopg [5] x.args.len (fun d2 v wr => ∃ k : Nat, k + d2 = x.args.len ∧ v = .int .i64 k ∧ Below (w.heap.size + 2) ((w.alloc (.cells #[.int .i64 x.kd, .int .i64 x.n, .string x.nm, .slice a x.args.len c] TT)).alloc (.cells #[.int .i64 y.kd, .int .i64 y.n, .string y.nm, .slice b y.args.len d] TT)) wr ∧ x.args.toL.take k = y.args.toL.take k)
  case atStart => exact ⟨0, by omega, rfl, Below.refl _ _, rfl⟩
  case round =>
    obtain ⟨k, hkd, rfl, hb, hall⟩ := hrel
    have HK := Lib.hid hkd
    have HB := Lib.hid hb
    have HALL := Lib.hid hall
    have hkle : k ≤ x.args.len := by omega
    have HBW := Lib.hid (HB0.out.trans (hb.mono (by omega)))
    have hX := HX0.out.below hb (by omega)
    have hY := HY0.out.below hb (by omega)
    obtain ⟨x0, x1, x2, x3, _⟩ := hX.cells4
    obtain ⟨y0, y1, y2, y3, _⟩ := hY.cells4
    clear hkd hb hall hX hY
    by_cases hlt : k < x.args.len
    · have hlt' : (k : Int) < x.args.len := by omega
      have hlt2 : (k : Int) < y.args.len := by have := H4.out; omega
      have hkL : k < x.args.toL.length := by rw [HTL.out]; exact hlt
      have hkM : k < y.args.toL.length := by rw [HTL'.out]; have := H4.out; omega
      have hx := (HR.out.below HBW.out HZ.out).at_ k x.args.toL[k] (List.getElem?_eq_getElem hkL)
      have hy := (HR'.out.below HBW.out HZ'.out).at_ k y.args.toL[k] (List.getElem?_eq_getElem hkM)
      have HM1 := Lib.hid (List.getElem_mem hkL)
      have HM2 := Lib.hid (List.getElem_mem hkM)
      have HT1 := Lib.hid (show x.args.toL.take (k + 1) = x.args.toL.take k ++ [x.args.toL[k]] by rw [List.take_add_one, List.getElem?_eq_getElem hkL]; rfl)
      have HT2 := Lib.hid (show y.args.toL.take (k + 1) = y.args.toL.take k ++ [y.args.toL[k]] by rw [List.take_add_one, List.getElem?_eq_getElem hkM]; rfl)
      have HNE := Lib.hid (show x = y → x.args.toL[k] = y.args.toL[k] from fun h => by subst h; rfl)
      generalize x.args.toL[k] = p at hx HM1 HT1 HNE
      generalize y.args.toL[k] = q at hy HM2 HT2 HNE
      rw [Nat.zero_add] at hx hy
      obtain ⟨ad, a2, c2, rfl, hza, z0, z1, z2, z3, _, ha, hrd⟩ := hx
      obtain ⟨bd, b2, d2, rfl, hzb, u0, u1, u2, u3, _, _, hrd'⟩ := hy
      have za : (ad.add (k * 4)).block < wr.heap.size := by rw [add_block]; exact Nat.lt_of_lt_of_le (HZ.out _ hza) HBW.out.size
      have zb : (bd.add (k * 4)).block < wr.heap.size := by rw [add_block]; exact Nat.lt_of_lt_of_le (HZ'.out _ hzb) HBW.out.size
      have hzs : w.heap.size + 2 ≤ wr.heap.size := by have := HB.out.size; simp at this; omega
      have HZS := Lib.hid hzs
      have zc : w.heap.size < wr.heap.size := by omega
      have zd : w.heap.size + 1 < wr.heap.size := by omega
      have HCC := Lib.hid (HC.out p HM1.out q HM2.out a2 c2 b2 d2 wr.drew hrd.drew hrd'.drew HBW.out.size ha)
      unfold tyV at HCC
      clear hrd hrd' hzs
      go_wp2_with fail
      go_region_held3 (fun w' => w'.cell? ⟨w.heap.size, 3, none⟩ = some (.slice (some ad) x.args.len c) ∧ w'.cell? ⟨w.heap.size + 1, 3, none⟩ = some (.slice (some bd) y.args.len d) ∧
          (w'.cell? (ad.add (k * 4)) = some (.int .i64 p.kd) ∧ w'.cell? ⟨(ad.add (k * 4)).block, (ad.add (k * 4)).off + 1, none⟩ = some (.int .i64 p.n) ∧ w'.cell? ⟨(ad.add (k * 4)).block, (ad.add (k * 4)).off + 2, none⟩ = some (.string p.nm) ∧ w'.cell? ⟨(ad.add (k * 4)).block, (ad.add (k * 4)).off + 3, none⟩ = some (.slice a2 p.args.len c2)) ∧
          (w'.cell? (bd.add (k * 4)) = some (.int .i64 q.kd) ∧ w'.cell? ⟨(bd.add (k * 4)).block, (bd.add (k * 4)).off + 1, none⟩ = some (.int .i64 q.n) ∧ w'.cell? ⟨(bd.add (k * 4)).block, (bd.add (k * 4)).off + 2, none⟩ = some (.string q.nm) ∧ w'.cell? ⟨(bd.add (k * 4)).block, (bd.add (k * 4)).off + 3, none⟩ = some (.slice b2 q.args.len d2)))
        (first
          | exact ⟨x3, y3, ⟨z0, z1, z2, z3⟩, ⟨u0, u1, u2, u3⟩⟩
          | exact ⟨k0, k1, ⟨k2, k3, k4, k5⟩, ⟨k6, k7, k8, k9⟩⟩
          | go_keep)
        (first
          | (go_at_call 9; refine HCC.out.mono ?_; rintro e w3 ⟨v, rfl, hv, hb3⟩; replace hb3 : Below wr.heap.size wr w3 := ⟨hb3.os, hb3.tape, hb3.output, hb3.size, hb3.block⟩; have k0 := (hb3.cell (p := ⟨w.heap.size, 3, none⟩) zc).trans x3; have k1 := (hb3.cell (p := ⟨w.heap.size + 1, 3, none⟩) zd).trans y3; have k2 := (hb3.cell za).trans z0; have k3 := (hb3.cell (p := ⟨_, _, none⟩) za).trans z1; have k4 := (hb3.cell (p := ⟨_, _, none⟩) za).trans z2; have k5 := (hb3.cell (p := ⟨_, _, none⟩) za).trans z3; have k6 := (hb3.cell zb).trans u0; have k7 := (hb3.cell (p := ⟨_, _, none⟩) zb).trans u1; have k8 := (hb3.cell (p := ⟨_, _, none⟩) zb).trans u2; have k9 := (hb3.cell (p := ⟨_, _, none⟩) zb).trans u3))
      have HV := Lib.hid hv
      have HB3 := Lib.hid (HB.out.trans (hb3.mono (by simpa using HZS.out)))
      have HB3w := Lib.hid (HBW.out.trans (hb3.mono HBW.out.size))
      clear hv hb3 k0 k1 k2 k3 k4 k5 k6 k7 k8 k9 za zb zc zd
      cases v with
      | false =>
        have HF := Lib.hid (show ¬ x = y from fun h => by have := HV.out.2 (HNE.out h); cases this)
        go_wp2_with fail
        go_ret
        exact ⟨false, rfl, ⟨fun h => absurd h (by decide), fun h => absurd h HF.out⟩, HB3w.out⟩
      | true =>
        have HA2 := Lib.hid (show x.args.toL.take (k + 1) = y.args.toL.take (k + 1) by rw [HT1.out, HT2.out, HALL.out, HV.out.1 rfl])
        go_wp2_with fail
        go_roundg (x.args.len - (k + 1))
        case measure => have := HK.out; omega
        case rel => exact ⟨k + 1, by have := HK.out; omega, by go_num, HB3.out, HA2.out⟩
    · have hge : ¬ (k : Int) < x.args.len := by omega
      have HE := Lib.hid (show x = y from HTE.out H1.out H2.out H3.out (by
        have h := HALL.out
        rw [List.take_of_length_le (by rw [HTL.out]; omega), List.take_of_length_le (by rw [HTL'.out]; have := H4.out; omega)] at h
        exact h))
      go_wp2_with fail
      go_ret
      exact ⟨true, rfl, ⟨fun _ => HE.out, fun _ => rfl⟩, HBW.out⟩
theorem rsame_any {Z Z' : Nat → Prop} : ∀ (n : Nat) (x y : Ty), x.args.nodes ≤ n → ∀ (a b : Option Addr) (c d : Nat) (w : World), RdT Z w a x.args 0 → RdT Z' w b y.args 0 → (∀ b, Z b → b < w.heap.size) → (∀ b, Z' b → b < w.heap.size) → x.args.len * 56 ≤ 140737488355328 →
    Calls Try.prog 9 #[tyV x a c, tyV y b d] w (SameB x y w) := by
  intro n
  induction n with
  | zero =>
    intro x y hx a b c d w h h' hz hz' hl
    refine rsame_of w h h' hz hz' hl fun p hp => ?_
    obtain ⟨i, hi⟩ := List.getElem?_of_mem hp
    have := Tys.nodes_get x.args i p hi
    omega
  | succ n ih =>
    intro x y hx a b c d w h h' hz hz' hl
    refine rsame_of w h h' hz hz' hl fun p hp q hq a2 c2 b2 d2 w' hr hr' hle hl2 => ?_
    obtain ⟨i, hi⟩ := List.getElem?_of_mem hp
    have := Tys.nodes_get x.args i p hi
    exact ih p q (by omega) a2 b2 c2 d2 w' hr hr' (fun b hb => Nat.lt_of_lt_of_le (hz b hb) hle) (fun b hb => Nat.lt_of_lt_of_le (hz' b hb) hle) hl2
end Go.Proofs.Ytcaioffdcbjbjaa.Un
/-
  CONTRACTS of layer unify: the document's Size: a type's size, or the bound and one.
-/
namespace Go.Proofs.Ytcaioffdcbjbjaa.Un
open Go.RowKit Mm Tm
set_option linter.unusedVariables false
set_option linter.unusedSimpArgs false
/-- the sizes of types, all together -/
def sizes (l : List Ty) : Nat := (l.map fun y => y.args.nodes + 1).sum
theorem sizes_all : ∀ t : Tys, sizes t.toL = t.nodes
  | .nil => rfl
  | .cons k n m a r => by
    have h := sizes_all r
    unfold sizes at h ⊢
    rw [Tys.toL, List.map_cons, List.sum_cons, h, Tys.nodes]
    show a.nodes + 1 + r.nodes = _
    omega
theorem sizes_snoc (l : List Ty) (y : Ty) : sizes (l ++ [y]) = sizes l + (y.args.nodes + 1) := by
  unfold sizes
  rw [List.map_append, List.sum_append]
  simp
theorem sizes_take (l : List Ty) (k : Nat) : sizes (l.take k) ≤ sizes l := by
  have h : sizes l = sizes (l.take k) + sizes (l.drop k) := by
    conv => lhs; rw [← List.take_append_drop k l]
    unfold sizes
    rw [List.map_append, List.sum_append]
  omega
def NatB (n : Nat) (w : World) (e : Ending) (w' : World) : Prop := e = .returned (.int .i64 n) ∧ Below w.heap.size w w'
set_option maxRecDepth 100000 in
set_option maxHeartbeats 4000000 in
theorem rsize_of {Z : Nat → Prop} {x : Ty} {a : Option Addr} {c : Nat} {m : Nat} (hm : m ≤ 1000000) (w : World) (hr : RdT Z w a x.args 0) (hz : ∀ b, Z b → b < w.heap.size) (hl : x.args.len * 56 ≤ 140737488355328)
    (hC : ∀ y ∈ x.args.toL, ∀ a2 c2 m' w', m' ≤ 1000000 → RdT Z w' a2 y.args 0 → w.heap.size ≤ w'.heap.size → y.args.len * 56 ≤ 140737488355328 → Calls Try.prog 10 #[tyV y a2 c2, .int .i64 (m' : Nat)] w' (NatB (min (y.args.nodes + 1) (m' + 1)) w')) :
    Calls Try.prog 10 #[.agg #[.int .i64 x.kd, .int .i64 x.n, .string x.nm, .slice a x.args.len c], .int .i64 (m : Nat)] w (NatB (min (x.args.nodes + 1) (m + 1)) w) := by
  have HR := Lib.hid hr
  have HZ := Lib.hid hz
  have HC := Lib.hid hC
  have HB0 := Lib.hid ((Below.refl w.heap.size w).alloc (Nat.le_refl _) (.cells #[.int .i64 x.kd, .int .i64 x.n, .string x.nm, .slice a x.args.len c] TT))
  have HX0 := Lib.hid (Box.new w #[.int .i64 x.kd, .int .i64 x.n, .string x.nm, .slice a x.args.len c] TT)
  have HTL := Lib.hid (Tys.toL_len x.args)
  have HSA := Lib.hid (sizes_all x.args)
  have HST := Lib.hid (sizes_take x.args.toL)
  have hlen : x.args.len ≤ 140737488355328 := by omega
  clear hr hz hC
  go_enter Try.func10, Try.ntmps10
  go_wp2_with fail
  go_loopg [5, 6] x.args.len (fun d v5 v6 wr => ∃ k n : Nat, k + d = x.args.len ∧ v6 = .int .i64 k ∧ v5 = .int .i64 (n : Nat) ∧ n = min (1 + sizes (x.args.toL.take k)) (m + 1) ∧ Below (w.heap.size + 1) (w.alloc (.cells #[.int .i64 x.kd, .int .i64 x.n, .string x.nm, .slice a x.args.len c] TT)) wr)
  case atStart => exact ⟨0, 1, by omega, rfl, rfl, by rw [List.take_zero]; show 1 = min (1 + 0) (m + 1); omega, Below.refl _ _⟩
  case round =>
    obtain ⟨k, n, hkd, rfl, rfl, hn, hb⟩ := hrel
    have HK := Lib.hid hkd
    have HB := Lib.hid hb
    have HN := Lib.hid hn
    have hkle : k ≤ x.args.len := by omega
    have hnm : n ≤ m + 1 := by rw [hn]; exact Nat.min_le_right _ _
    have HBW := Lib.hid (HB0.out.trans (hb.mono (Nat.le_succ _)))
    have hX := HX0.out.below hb (Nat.lt_succ_self _)
    obtain ⟨y0, y1, y2, y3, _⟩ := hX.cells4
    clear hkd hb hn hX
    by_cases hlt : k < x.args.len
    · have hlt' : (k : Int) < x.args.len := by omega
      by_cases hle : n ≤ m
      · have hle' : (n : Int) ≤ m := by omega
        have hkL : k < x.args.toL.length := by rw [HTL.out]; exact hlt
        have hx := (HR.out.below HBW.out HZ.out).at_ k x.args.toL[k] (List.getElem?_eq_getElem hkL)
        have HMM := Lib.hid (List.getElem_mem hkL)
        have HTK := Lib.hid (show sizes (x.args.toL.take (k + 1)) = sizes (x.args.toL.take k) + (x.args.toL[k].args.nodes + 1) by rw [List.take_add_one, List.getElem?_eq_getElem hkL]; exact sizes_snoc _ _)
        generalize x.args.toL[k] = y at hx HMM HTK
        rw [Nat.zero_add] at hx
        obtain ⟨ad, a2, c2, rfl, _, z0, z1, z2, z3, _, ha, hrd⟩ := hx
        have HCC := Lib.hid (HC.out y HMM.out a2 c2 (m - n) wr (by omega) hrd HBW.out.size ha)
        unfold tyV at HCC
        rw [show ((m - n : Nat) : Int) = (m : Int) - (n : Int) by omega] at HCC
        have hw1 : IntKind.i64.wrap ((m : Int) - (n : Int)) = (m : Int) - (n : Int) := (IntWalk.i64_left _).trans (IntWalk.wrap64_in _ (by omega))
        obtain ⟨s, hs⟩ : ∃ s, min (y.args.nodes + 1) (m - n + 1) = s := ⟨_, rfl⟩
        have HS := Lib.hid hs
        have hsm : s ≤ m - n + 1 := by rw [← hs]; exact Nat.min_le_right _ _
        rw [hs] at HCC
        clear hrd hs
        go_wp2_with fail
        refine HCC.out.mono ?_
        rintro e w3 ⟨rfl, hb3⟩
        have HB3 := Lib.hid (HB.out.trans (hb3.mono (Nat.le_trans (by simp) HB.out.size)))
        clear hb3
        go_wp2_with fail
        go_roundg (x.args.len - (k + 1))
        case measure => have := HK.out; omega
        case rel => exact ⟨k + 1, n + s, by have := HK.out; omega, by go_num, by go_num, by have h1 := HN.out; have h2 := HTK.out; have h3 := HS.out; omega, HB3.out⟩
      · have hle' : ¬ (n : Int) ≤ m := by omega
        have hgt : (m : Int) < n := by omega
        have HE := Lib.hid (show min x.args.nodes m + 1 = m + 1 by have h1 := HN.out; have h2 := HST.out k; have h3 := HSA.out; omega)
        go_wp2_with fail
        go_ret
        exact ⟨by rw [HE.out]; rfl, HBW.out⟩
    · have hge : ¬ (k : Int) < x.args.len := by omega
      have HSK := Lib.hid (show sizes (x.args.toL.take k) = x.args.nodes by rw [List.take_of_length_le (by rw [HTL.out]; omega)]; exact HSA.out)
      by_cases hle : n ≤ m
      · have hle' : ¬ (m : Int) < n := by omega
        have HE := Lib.hid (show min x.args.nodes m + 1 = n by have h1 := HN.out; have h2 := HSK.out; omega)
        go_wp2_with fail
        go_ret
        exact ⟨by rw [HE.out]; rfl, HBW.out⟩
      · have hgt : (m : Int) < n := by omega
        have HE := Lib.hid (show min x.args.nodes m + 1 = m + 1 by have h1 := HN.out; have h2 := HSK.out; omega)
        go_wp2_with fail
        go_ret
        exact ⟨by rw [HE.out]; rfl, HBW.out⟩
theorem rsize_any {Z : Nat → Prop} : ∀ (q : Nat) (x : Ty), x.args.nodes ≤ q → ∀ (a : Option Addr) (c m : Nat) (w : World), m ≤ 1000000 → RdT Z w a x.args 0 → (∀ b, Z b → b < w.heap.size) → x.args.len * 56 ≤ 140737488355328 →
    Calls Try.prog 10 #[tyV x a c, .int .i64 (m : Nat)] w (NatB (min (x.args.nodes + 1) (m + 1)) w) := by
  intro q
  induction q with
  | zero =>
    intro x hx a c m w hm h hz hl
    refine rsize_of hm w h hz hl fun y hy => ?_
    obtain ⟨i, hi⟩ := List.getElem?_of_mem hy
    have := Tys.nodes_get x.args i y hi
    omega
  | succ q ih =>
    intro x hx a c m w hm h hz hl
    refine rsize_of hm w h hz hl fun y hy a2 c2 m' w' hm' hr hle hl2 => ?_
    obtain ⟨i, hi⟩ := List.getElem?_of_mem hy
    have := Tys.nodes_get x.args i y hi
    exact ih y (by omega) a2 c2 m' w' hm' hr (fun b hb => Nat.lt_of_lt_of_le (hz b hb) hle) hl2
end Go.Proofs.Ytcaioffdcbjbjaa.Un
/-
  CONTRACTS of layer unify: what is known of variables; a variable; the end of a way.
-/
namespace Go.Proofs.Ytcaioffdcbjbjaa.Un
open Go.RowKit Mm Tm Mk Go.Maps Go.ChangeMaps Go.MapKept Go.WideMaps
set_option linter.unusedVariables false
set_option linter.unusedSimpArgs false
abbrev TI : TypeId := 3
abbrev TF : TypeId := 63
abbrev TSide : TypeId := 65
abbrev TSt : TypeId := 44
abbrev TMK : TypeId := 42
theorem keyI : Keyed Try.prog TI := int_keyed Try.underlying3
/-- numbers that no reckoning of the store's takes out of 64 bits -/
def InI (n : Int) : Prop := -4611686018427387904 ≤ n ∧ n ≤ 4611686018427387904
theorem key_int {n : Int} (h : InI n) : keyOf Try.prog TI (.int .i64 n) = some (.int .i64 n) := by
  refine keyOf_int_mk Try.underlying3 ?_
  obtain ⟨h1, h2⟩ := h
  have hm : IntKind.i64.min = -9223372036854775808 := by decide
  have hx : IntKind.i64.max = 9223372036854775807 := by decide
  simp [Lit.wf, IntKind.wrap, hm]
  omega
theorem lit_int (n : Int) : WideAt.IsKeyLit (.int .i64 n) := by simp [WideAt.IsKeyLit]
/-- what is known of a variable, and where its type's parts lie -/
structure Fact where
  kd : Int
  n : Int
  nm : ByteArray
  args : Tys
  a : Option Addr
  c : Nat
  least : Int
  depth : Int
  held : Bool
abbrev KS := Int → Option Fact
def Fact.ty (f : Fact) : Ty := ⟨f.kd, f.n, f.nm, f.args⟩
abbrev factV (f : Fact) : Value := .agg #[.int .i64 f.kd, .int .i64 f.n, .string f.nm, .slice f.a f.args.len f.c, .int .i64 f.least, .int .i64 f.depth, .bool f.held]
def noFact (n : Int) : Fact := ⟨0, 0, noN, .nil, none, 0, n, 0, false⟩
def storeF (K : KS) : FK := fun l => match l with
  | .int .i64 n => (K n).map factV
  | _ => none
theorem storeF_int (K : KS) (n : Int) : storeF K (.int .i64 n) = (K n).map factV := rfl
abbrev zeroFactV : Value := .agg #[.int .i64 0, .int .i64 0, .string ⟨#[]⟩, .slice none 0 0, .int .i64 0, .int .i64 0, .bool false]
theorem zeroFact (w : World) : (zeroValue TF).run Try.prog w = .ok zeroFactV w := by kernel_rfl
/-- Block m holds what is known: K, of c variables; all its types are read in blocks of Z. -/
structure Known (Z : Nat → Prop) (w : World) (m : Nat) (K : KS) (c : Nat) : Prop where
  map : MapK w Try.prog TI m (storeF K) c
  rd : ∀ n f, K n = some f → RdT Z w f.a f.args 0 ∧ f.args.len * 56 ≤ 140737488355328 ∧ f.nm.size ≤ 9223372036854775807
/-- Where a way of d steps from a variable ends, and what is known there. -/
inductive EndN (K : KS) : Nat → Int → Int → Fact → Prop where
  | none {n : Int} : InI n → K n = none → EndN K 0 n n (noFact n)
  | stop {n : Int} {f : Fact} : InI n → K n = some f → f.kd ≠ 1 → EndN K 0 n n f
  | step {d : Nat} {n r : Int} {f g : Fact} : InI n → K n = some f → f.kd = 1 → EndN K d f.n r g → EndN K (d + 1) n r g
def ValB (v : Value) (w : World) (e : Ending) (w' : World) : Prop := e = .returned v ∧ Below w.heap.size w w'
theorem variable_any (n : Int) (w : World) : Calls Try.prog 21 #[.int .i64 n] w (ValB (.agg #[.int .i64 1, .int .i64 n, .string noN, .slice none 0 0]) w) := by
  have HB0 := Lib.hid ((Below.refl w.heap.size w).alloc (Nat.le_refl _) (.cells #[.int .i64 1, .int .i64 n, .string noN, .slice none 0 0] TT))
  have HX := Box.new w #[.int .i64 1, .int .i64 n, .string noN, .slice none 0 0] TT
  obtain ⟨q0, q1, q2, q3, _⟩ := HX.cells4
  have Q0 := Lib.hid q0
  have Q1 := Lib.hid q1
  have Q2 := Lib.hid q2
  have Q3 := Lib.hid q3
  clear HX q0 q1 q2 q3
  go_enter Try.func21, Try.ntmps21
  go_wp2_with fail
  refine bodyPost_ret (v := .agg #[.int .i64 1, .int .i64 n, .string noN, .slice none 0 0]) (by simp [results, Try.results21, go_sem, Q0.out, Q1.out, Q2.out, Q3.out]) rfl ?_
  exact ⟨rfl, HB0.out⟩
abbrev zeroC : Array Value := #[.int .i64 0, .int .i64 0, .string ⟨#[]⟩, .slice none 0 0, .int .i64 0, .int .i64 0, .bool false]
/-- the cells of a fact's box -/
abbrev factC (f : Fact) : Array Value := #[.int .i64 f.kd, .int .i64 f.n, .string f.nm, .slice f.a f.args.len f.c, .int .i64 f.least, .int .i64 f.depth, .bool f.held]
set_option maxRecDepth 100000 in
set_option maxHeartbeats 4000000 in
theorem end_any {Z : Nat → Prop} {s m c : Nat} {K : KS} {d : Nat} {n r : Int} {g : Fact} {nx : Value} (w : World) (hs : Box w s TSt #[.map (some m), nx]) (hk : MapK w Try.prog TI m (storeF K) c) (he : EndN K d n r g) :
    Calls Try.prog 33 #[.pointer (some ⟨s, 0, none⟩), .int .i64 n] w (ValB (.tuple #[.int .i64 r, factV g]) w) := by
  have HS := Lib.hid hs
  have HM := Lib.hid hk
  have HSL := Lib.hid hs.lt
  have HE := Lib.hid he
  have HB0 := Lib.hid ((Below.refl w.heap.size w).alloc (Nat.le_refl _) (.cells zeroC TF))
  have HX0 := Lib.hid (Box.new w zeroC TF)
  clear hs hk he
  go_enter Try.func33, Try.ntmps33
  go_wp2_with fail
  go_loopg [1] d (fun d v wr => ∃ n : Int, v = .int .i64 n ∧ EndN K d n r g ∧ Below (w.heap.size + 1) (w.alloc (.cells zeroC TF)) wr)
  case atStart => exact ⟨n, rfl, HE.out, Below.refl _ _⟩
  case round =>
    obtain ⟨n, rfl, hen, hb⟩ := hrel
    have HB := Lib.hid hb
    have HBW := Lib.hid (HB0.out.trans (hb.mono (Nat.le_succ _)))
    have hX := HX0.out.below hb (Nat.lt_succ_self _)
    have hS := HS.out.below HBW.out HSL.out
    obtain ⟨s0, s1, _⟩ := hS.cells2
    have HMM := Lib.hid (HM.out.below HBW.out HM.out.lt)
    have hW3 : w.heap.size < wr.heap.size := by have := HB.out.size; simp at this; omega
    cases hen with
    | none hi hn =>
      have HI := Lib.hid (key_int hi)
      have HN := Lib.hid (show storeF K (.int .i64 r) = none by rw [storeF_int, hn]; rfl)
      obtain ⟨W, hW, hbx, hwr⟩ := hX.write7 (.int .i64 0) (.int .i64 0) (.string noN) (.slice none 0 0) (.int .i64 r) (.int .i64 0) (.bool false)
      obtain ⟨q0, q1, q2, q3, q4, q5, q6⟩ := hbx.cells7
      obtain ⟨e0, e1, e2, e3, e4, e5, e6⟩ := hX.cells7
      obtain ⟨f0, f1, f2, f3, f4, f5, f6⟩ := hX.free7
      have HW := Lib.hid hwr
      have HQ := Lib.hid (⟨q0, q1, q2, q3, q4, q5, q6⟩ : _ ∧ _ ∧ _ ∧ _ ∧ _ ∧ _ ∧ _)
      have hz4 : w.heap.size < W.heap.size := by rw [hwr.size]; exact hW3
      have HBA := Lib.hid ((hwr.below HBW.out (Nat.le_refl _)).alloc (by omega) (.cells zeroC TF))
      clear hi hn hb hX hS hbx hwr q0 q1 q2 q3 q4 q5 q6
      go_wp2_with (at_lookup; refine wpList_look_okK _ rfl _ _ TMK rfl TI TF keyI Try.underlying42 (zeroFact _) m _ _ rfl HMM.out _ _ (lit_int _) rfl HI.out ?_; rw [HN.out, Option.getD_none, Option.isSome_none])
      obtain ⟨q0, q1, q2, q3, q4, q5, q6⟩ := HQ.out
      refine bodyPost_ret (v := .tuple #[.int .i64 r, .agg #[.int .i64 0, .int .i64 0, .string ⟨#[]⟩, .slice none 0 0, .int .i64 r, .int .i64 0, .bool false]]) (by simp [results, Try.results33, go_sem, hz4, q0, q1, q2, q3, q4, q5, q6]) rfl ?_
      exact ⟨rfl, HBA.out⟩
    | stop hi hn hk =>
      have HI := Lib.hid (key_int hi)
      have HN := Lib.hid (show storeF K (.int .i64 r) = some (factV g) by rw [storeF_int, hn]; rfl)
      have hkn : (g.kd != 1) = true := by simpa using hk
      obtain ⟨W, hW, hbx, hwr⟩ := hX.write7 (.int .i64 g.kd) (.int .i64 g.n) (.string g.nm) (.slice g.a g.args.len g.c) (.int .i64 g.least) (.int .i64 g.depth) (.bool g.held)
      obtain ⟨q0, q1, q2, q3, q4, q5, q6⟩ := hbx.cells7
      obtain ⟨e0, e1, e2, e3, e4, e5, e6⟩ := hX.cells7
      obtain ⟨f0, f1, f2, f3, f4, f5, f6⟩ := hX.free7
      have HW := Lib.hid hwr
      have HQ := Lib.hid (⟨q0, q1, q2, q3, q4, q5, q6⟩ : _ ∧ _ ∧ _ ∧ _ ∧ _ ∧ _ ∧ _)
      have hz4 : w.heap.size < W.heap.size := by rw [hwr.size]; exact hW3
      have HBA := Lib.hid ((hwr.below HBW.out (Nat.le_refl _)).alloc (by omega) (.cells (factC g) TF))
      clear hi hn hb hX hS hbx hwr q0 q1 q2 q3 q4 q5 q6 hk
      go_wp2_with (at_lookup; refine wpList_look_okK _ rfl _ _ TMK rfl TI TF keyI Try.underlying42 (zeroFact _) m _ _ rfl HMM.out _ _ (lit_int _) rfl HI.out ?_; rw [HN.out, Option.getD_some, Option.isSome_some])
      go_region
      go_wp2_with fail
      obtain ⟨q0, q1, q2, q3, q4, q5, q6⟩ := HQ.out
      refine bodyPost_ret (v := .tuple #[.int .i64 r, factV g]) (by simp [results, Try.results33, go_sem, hz4, q0, q1, q2, q3, q4, q5, q6]) rfl ?_
      exact ⟨rfl, HBA.out.drew⟩
    | @step d' _ _ f _ hi hn hk hen =>
      have HI := Lib.hid (key_int hi)
      have HN := Lib.hid (show storeF K (.int .i64 n) = some (factV f) by rw [storeF_int, hn]; rfl)
      have hkn : (f.kd != 1) = false := by simp [hk]
      have HEN := Lib.hid hen
      have HBA := Lib.hid (HB.out.alloc (B := w.heap.size + 1) (by omega) (.cells (factC f) TF))
      clear hi hn hb hX hS hk hen
      go_wp2_with (at_lookup; refine wpList_look_okK _ rfl _ _ TMK rfl TI TF keyI Try.underlying42 (zeroFact _) m _ _ rfl HMM.out _ _ (lit_int _) rfl HI.out ?_; rw [HN.out, Option.getD_some, Option.isSome_some])
      go_roundg d'
      case measure => omega
      case rel => exact ⟨f.n, rfl, HEN.out, HBA.out⟩
end Go.Proofs.Ytcaioffdcbjbjaa.Un
/-
  CONTRACTS of layer unify: a type as it is taken; a new store; a fresh variable.
-/
namespace Go.Proofs.Ytcaioffdcbjbjaa.Un
open Go.RowKit Mm Tm Mk Go.Maps Go.ChangeMaps Go.MapKept Go.WideMaps
set_option linter.unusedVariables false
set_option linter.unusedSimpArgs false
/-- a type as it is taken -/
structure Side where
  f : Fact
  isVar : Bool
  n : Int
abbrev sideV (s : Side) : Value := .agg #[.int .i64 s.f.kd, .int .i64 s.f.n, .string s.f.nm, .slice s.f.a s.f.args.len s.f.c, .int .i64 s.f.least, .int .i64 s.f.depth, .bool s.f.held, .bool s.isVar, .int .i64 s.n]
abbrev zeroS : Array Value := #[.int .i64 0, .int .i64 0, .string ⟨#[]⟩, .slice none 0 0, .int .i64 0, .int .i64 0, .bool false, .bool false, .int .i64 0]
def tyFact (x : Ty) (a : Option Addr) (c : Nat) : Fact := ⟨x.kd, x.n, x.nm, x.args, a, c, 0, 0, false⟩
inductive TakenBy (K : KS) (x : Ty) (a : Option Addr) (c : Nat) : Side → Prop where
  | typ : x.kd ≠ 1 → TakenBy K x a c ⟨tyFact x a c, false, 0⟩
  | var {d : Nat} {r : Int} {g : Fact} : x.kd = 1 → EndN K d x.n r g → TakenBy K x a c ⟨g, true, r⟩
theorem isOpen_any (s : Side) (w : World) : Calls Try.prog 28 #[sideV s] w (ValB (.bool (s.f.kd == 0)) w) := by
  have HB0 := Lib.hid ((Below.refl w.heap.size w).alloc (Nat.le_refl _) (.cells #[.int .i64 s.f.kd, .int .i64 s.f.n, .string s.f.nm, .slice s.f.a s.f.args.len s.f.c, .int .i64 s.f.least, .int .i64 s.f.depth, .bool s.f.held, .bool s.isVar, .int .i64 s.n] TSide))
  go_enter Try.func28, Try.ntmps28
  go_wp2_with fail
  go_ret
  exact ⟨rfl, HB0.out⟩
theorem new_any (w : World) : Calls Try.prog 6 #[] w fun e w' => ∃ s m, e = .returned (.pointer (some ⟨s, 0, none⟩)) ∧ w.heap.size ≤ s ∧ w.heap.size ≤ m ∧ Box w' s TSt #[.map (some m), .int .i64 0] ∧ MapK w' Try.prog TI m (fun _ => none) 0 ∧ Below w.heap.size w w' := by
  have hmm := @run_makeMap Try.prog
  have HB1 := Lib.hid (((Below.refl w.heap.size w).alloc (Nat.le_refl _) (.map #[] 0)).alloc (by simp) (.cells #[.map (some w.heap.size), .int .i64 0] TSt))
  have HM := Lib.hid ((MapK.made w Try.prog TI).alloc (.cells #[.map (some w.heap.size), .int .i64 0] TSt))
  have HX := Lib.hid (Box.at_ (w := w.alloc (.map #[] 0)) (k := w.heap.size + 1) #[.map (some w.heap.size), .int .i64 0] TSt (by simp))
  go_enter Try.func6, Try.ntmps6
  go_wp2_with fail
  go_ret
  exact ⟨w.heap.size + 1, w.heap.size, by simp, by omega, Nat.le_refl _, HX.out, HM.out, HB1.out⟩
set_option maxRecDepth 100000 in
set_option maxHeartbeats 4000000 in
theorem taken_any {s m cn : Nat} {K : KS} {nx : Value} {x : Ty} {a : Option Addr} {c : Nat} {y : Side} (w : World) (hs : Box w s TSt #[.map (some m), nx]) (hk : MapK w Try.prog TI m (storeF K) cn) (ht : TakenBy K x a c y) :
    Calls Try.prog 26 #[.pointer (some ⟨s, 0, none⟩), .agg #[.int .i64 x.kd, .int .i64 x.n, .string x.nm, .slice a x.args.len c]] w (ValB (sideV y) w) := by
  have HB1 := Lib.hid (((Below.refl w.heap.size w).alloc (Nat.le_refl _) (.cells #[.int .i64 x.kd, .int .i64 x.n, .string x.nm, .slice a x.args.len c] TT)).alloc (by simp) (.cells zeroS TSide))
  have HX := Lib.hid (Box.at_ (w := w.alloc (.cells #[.int .i64 x.kd, .int .i64 x.n, .string x.nm, .slice a x.args.len c] TT)) (k := w.heap.size + 1) zeroS TSide (by simp))
  have HS := Lib.hid (hs.below HB1.out hs.lt)
  have HK := Lib.hid (hk.below HB1.out hk.lt)
  clear hs hk
  go_enter Try.func26, Try.ntmps26
  cases ht with
  | typ hk =>
    have hkn : (x.kd != 1) = true := by simpa using hk
    clear hk
    go_wp2_with fail
    obtain ⟨q0, q1, q2, q3, q4, q5, q6, q7, q8⟩ := (Box.at_ (w := w.alloc (.cells #[.int .i64 x.kd, .int .i64 x.n, .string x.nm, .slice a x.args.len c] TT)) (k := w.heap.size + 1) #[.int .i64 x.kd, .int .i64 x.n, .string x.nm, .slice a x.args.len c, .int .i64 0, .int .i64 0, .bool false, .bool false, .int .i64 0] TSide (by simp)).cells9
    refine bodyPost_ret (v := .agg #[.int .i64 x.kd, .int .i64 x.n, .string x.nm, .slice a x.args.len c, .int .i64 0, .int .i64 0, .bool false, .bool false, .int .i64 0]) (by simp [results, Try.results26, go_sem, q0, q1, q2, q3, q4, q5, q6, q7, q8]) rfl ?_
    exact ⟨rfl, ((Below.refl w.heap.size w).alloc (Nat.le_refl _) _).alloc (by simp) _⟩
  | @var d r g hk he =>
    have hkn : (x.kd != 1) = false := by simp [hk]
    have HE := Lib.hid (end_any (Z := fun _ => True) _ HS.out HK.out he)
    clear hk he
    go_wp2_with fail
    refine HE.out.mono ?_
    rintro e w3 ⟨rfl, hb3⟩
    have HBW := Lib.hid (HB1.out.trans (hb3.mono HB1.out.size))
    have hX := HX.out.below hb3 (by simp)
    have hW3 : w.heap.size + 1 < w3.heap.size := by have := hb3.size; simp at this; omega
    obtain ⟨W, hW, hbx, hwr⟩ := hX.write9 (.int .i64 g.kd) (.int .i64 g.n) (.string g.nm) (.slice g.a g.args.len g.c) (.int .i64 g.least) (.int .i64 g.depth) (.bool g.held) (.bool true) (.int .i64 r)
    obtain ⟨q0, q1, q2, q3, q4, q5, q6, q7, q8⟩ := hbx.cells9
    obtain ⟨e0, e1, e2, e3, e4, e5, e6, e7, e8⟩ := hX.cells9
    obtain ⟨f0, f1, f2, f3, f4, f5, f6, f7, f8⟩ := hX.free9
    have HQ := Lib.hid (⟨q0, q1, q2, q3, q4, q5, q6, q7, q8⟩ : _ ∧ _ ∧ _ ∧ _ ∧ _ ∧ _ ∧ _ ∧ _ ∧ _)
    have hz4 : w.heap.size + 1 < W.heap.size := by rw [hwr.size]; exact hW3
    have HBA := Lib.hid ((hwr.below HBW.out (by omega)).alloc (by omega) (.cells (factC g) TF))
    clear hb3 hX hbx hwr q0 q1 q2 q3 q4 q5 q6 q7 q8
    go_wp2_with fail
    obtain ⟨q0, q1, q2, q3, q4, q5, q6, q7, q8⟩ := HQ.out
    refine bodyPost_ret (v := .agg #[.int .i64 g.kd, .int .i64 g.n, .string g.nm, .slice g.a g.args.len g.c, .int .i64 g.least, .int .i64 g.depth, .bool g.held, .bool true, .int .i64 r]) (by simp [results, Try.results26, go_sem, hz4, q0, q1, q2, q3, q4, q5, q6, q7, q8]) rfl ?_
    exact ⟨rfl, HBA.out⟩
end Go.Proofs.Ytcaioffdcbjbjaa.Un
/-
  CONTRACTS of layer unify: the store in memory; the variables that it is given.
-/
namespace Go.Proofs.Ytcaioffdcbjbjaa.Un
open Go.RowKit Mm Tm Mk Go.Maps Go.ChangeMaps Go.MapKept Go.WideMaps
set_option linter.unusedVariables false
set_option linter.unusedSimpArgs false
abbrev TPSt : TypeId := 25
/-- variables as types -/
def ofVars : List Int → Tys
  | [] => .nil
  | x :: l => .cons 1 x noN .nil (ofVars l)
theorem ofVars_len : ∀ l : List Int, (ofVars l).len = l.length
  | [] => rfl
  | x :: l => by rw [ofVars, Tys.len, ofVars_len l, List.length_cons]
/-- what a fact in memory says -/
def ErF (g : Fact) : PF → Prop
  | .link r => g.kd = 1 ∧ g.n = r
  | .opn l d h => g.kd = 0 ∧ g.args = .nil ∧ g.least = l ∧ g.depth = d ∧ g.held = h
  | .typ kd nm xs => g.kd = kd ∧ kd ≠ 0 ∧ kd ≠ 1 ∧ g.nm = nm ∧ g.args = ofVars xs
/-- A fact's parts are read in blocks of Z. -/
def FactR (Z : Nat → Prop) (w : World) (f : Fact) : Prop := RdT Z w f.a f.args 0 ∧ f.args.len * 56 ≤ 140737488355328 ∧ f.nm.size ≤ 9223372036854775807
def ErO (Z : Nat → Prop) (w : World) : Option Fact → Option PF → Prop
  | none, none => True
  | some g, some f => ErF g f ∧ FactR Z w g
  | _, _ => False
/-- blocks of types of the calls' own, from base on, but for those of Y, which are being written -/
def ZT (base : Nat) (Y : Nat → Prop) (w : World) (b : Nat) : Prop := base ≤ b ∧ TyB TT w b ∧ ¬ Y b
/-- What is known lies in map m: K, of c variables; the types lie in blocks of Z. -/
def KnI (Z : Nat → Prop) (w : World) (m : Nat) (K : PS) (c : Nat) : Prop := ∃ KS, MapK w Try.prog TI m (storeF KS) c ∧ ∀ n, ErO Z w (KS n) (K n)
theorem FactR.frame {Z Z' : Nat → Prop} {w w' : World} {f : Fact} (h : FactR Z w f) (ha : ∀ ad : Addr, Z ad.block → w'.cell? ad = w.cell? ad) (hz : ∀ b, Z b → Z' b) : FactR Z' w' f := ⟨h.1.frame (fun b o hZ => ha ⟨b, o, none⟩ hZ) ha hz, h.2⟩
theorem ErO.frame {Z Z' : Nat → Prop} {w w' : World} {g : Option Fact} {f : Option PF} (h : ErO Z w g f) (ha : ∀ ad : Addr, Z ad.block → w'.cell? ad = w.cell? ad) (hz : ∀ b, Z b → Z' b) : ErO Z' w' g f := by
  cases g <;> cases f
  · trivial
  · exact h
  · exact h
  · exact ⟨h.1, h.2.frame ha hz⟩
theorem KnI.frame {Z Z' : Nat → Prop} {w w' : World} {m : Nat} {K : PS} {c : Nat} (h : KnI Z w m K c) (hm : w'.heap[m]? = w.heap[m]?) (ha : ∀ ad : Addr, Z ad.block → w'.cell? ad = w.cell? ad) (hz : ∀ b, Z b → Z' b) : KnI Z' w' m K c := by
  obtain ⟨KS, h1, h2⟩ := h
  exact ⟨KS, h1.same hm, fun n => (h2 n).frame ha hz⟩
theorem KnI.lt {Z : Nat → Prop} {w : World} {m : Nat} {K : PS} {c : Nat} (h : KnI Z w m K c) : m < w.heap.size := by
  obtain ⟨KS, h1, _⟩ := h
  exact h1.lt
theorem KnI.ne {Z : Nat → Prop} {w : World} {m : Nat} {K : PS} {c g : Nat} {t : TypeId} {cs : Array Value} (h : KnI Z w m K c) (hx : Box w g t cs) : m ≠ g := by
  obtain ⟨KS, h1, _⟩ := h
  exact h1.ne hx
theorem ZT.lt {base : Nat} {Y : Nat → Prop} {w : World} {b : Nat} (h : ZT base Y w b) : b < w.heap.size := h.2.1.lt
/-- what is known stays through a call that turns none of its blocks -/
theorem KnI.kept {base : Nat} {Y : Nat → Prop} {X : Nat → Prop} {w w' : World} {m : Nat} {K : PS} {c : Nat} (h : KnI (ZT base Y w) w m K c) (hk : Kept X w w') (hm : ¬ X m) (hx : ∀ b, X b → ¬ TyB TT w b) : KnI (ZT base Y w') w' m K c :=
  h.frame (hk.block m h.lt hm) (fun ad hZ => World.cell?_of_block (hk.block _ hZ.lt fun e => hx _ e hZ.2.1)) fun b hZ => ⟨hZ.1, hZ.2.1.same (hk.block b hZ.lt fun e => hx b e hZ.2.1), hZ.2.2⟩
theorem KnI.below {base : Nat} {Y : Nat → Prop} {w w' : World} {m : Nat} {K : PS} {c : Nat} (h : KnI (ZT base Y w) w m K c) (hb : Below w.heap.size w w') : KnI (ZT base Y w') w' m K c :=
  h.kept (X := fun _ => False) (Kept.of_below hb (Nat.le_refl _) _) (fun e => e) (fun b e => e.elim)
/-- the variables that a store is given -/
def givenL : Int → Tys → Int
  | nx, .nil => nx
  | nx, .cons kd n nm args rest => givenL (givenL (if kd = 1 then max nx (wr (n + 1)) else nx) args) rest
def given1 (nx : Int) (x : Ty) : Int := givenL (if x.kd = 1 then max nx (wr (x.n + 1)) else nx) x.args
theorem givenL_eq : ∀ (t : Tys) (nx : Int), givenL nx t = t.toL.foldl given1 nx
  | .nil, nx => rfl
  | .cons kd n nm args rest, nx => by
    rw [givenL, Tys.toL, List.foldl_cons, givenL_eq rest]
    rfl
abbrev doV (pb : Nat) : Value := .func (.func 24) #[] #[.pointer (some ⟨pb, 0, none⟩)]
/-- nothing turned but the store's block, which has another number that is fresh -/
def GivenPost (s m : Nat) (nx : Int) (w : World) (e : Ending) (w' : World) : Prop := e = .returned (.tuple #[]) ∧ Box w' s TSt #[.map (some m), .int .i64 nx] ∧ Kept (· = s) w w'
set_option maxRecDepth 100000 in
set_option maxHeartbeats 4000000 in
theorem given1_any {pb s m : Nat} {nx n : Int} (w : World) (hp : Box w pb TPSt #[.pointer (some ⟨s, 0, none⟩)]) (hs : Box w s TSt #[.map (some m), .int .i64 nx]) :
    Calls Try.prog 24 #[.int .i64 n, .pointer (some ⟨pb, 0, none⟩)] w (GivenPost s m (max nx (wr (n + 1))) w) := by
  have p0 := hp.cell 0
  have hp0 : w.cell? ⟨pb, 0, none⟩ = some (.pointer (some ⟨s, 0, none⟩)) := p0
  obtain ⟨s0, s1, f0, f1⟩ := hs.cells2
  have HS := Lib.hid hs
  have HK := Lib.hid fun v => ((Kept.refl (· = s) w).setCell (a := ⟨s, 1, none⟩) (fun _ => rfl) (.int .i64 v)).drew
  clear hp hs p0
  go_enter Try.func24, Try.ntmps24
  by_cases hq : nx < wrap64 (n + 1)
  · have e : max nx (wr (n + 1)) = wrap64 (n + 1) := by show max nx (wrap64 (n + 1)) = _; omega
    rw [e]
    clear e
    go_region
    go_wp2_with fail
    go_end0
    exact ⟨rfl, HS.out.put 1 (.int .i64 (wrap64 (n + 1))), HK.out _⟩
  · have e : max nx (wr (n + 1)) = nx := by show max nx (wrap64 (n + 1)) = _; omega
    rw [e]
    clear e
    go_region
    go_wp2_with fail
    go_end0
    exact ⟨rfl, HS.out.put 1 (.int .i64 nx), HK.out _⟩
/-- a type's variables are given -/
def EachG (base s m pb : Nat) (t : Tys) : Prop := True
set_option maxRecDepth 100000 in
set_option maxHeartbeats 4000000 in
theorem eachg_of {Z : Nat → Prop} {pb s m : Nat} {nx : Int} {x : Ty} {a : Option Addr} {c : Nat} (w : World) (hp : Box w pb TPSt #[.pointer (some ⟨s, 0, none⟩)]) (hs : Box w s TSt #[.map (some m), .int .i64 nx]) (hr : RdT Z w a x.args 0) (hz : ∀ b, Z b → b < w.heap.size ∧ b ≠ s) (hl : x.args.len * 56 ≤ 140737488355328)
    (hC : ∀ y ∈ x.args.toL, ∀ a2 c2 w' nx', Box w' pb TPSt #[.pointer (some ⟨s, 0, none⟩)] → Box w' s TSt #[.map (some m), .int .i64 nx'] → RdT Z w' a2 y.args 0 → w.heap.size ≤ w'.heap.size → y.args.len * 56 ≤ 140737488355328 → Calls Try.prog 23 #[tyV y a2 c2, doV pb] w' (GivenPost s m (given1 nx' y) w')) :
    Calls Try.prog 23 #[.agg #[.int .i64 x.kd, .int .i64 x.n, .string x.nm, .slice a x.args.len c], doV pb] w (GivenPost s m (given1 nx x) w) := by
  have hps : pb ≠ s := by
    rintro rfl
    have := hp.same hs
    exact absurd this (by decide)
  have HP := Lib.hid hp
  have HS := Lib.hid hs
  have HR := Lib.hid hr
  have HZ := Lib.hid hz
  have HC := Lib.hid hC
  have HPS := Lib.hid hps
  have HTL := Lib.hid (Tys.toL_len x.args)
  have hlen : x.args.len ≤ 140737488355328 := by omega
  obtain ⟨nx0, hnx0⟩ : ∃ nx0, (if x.kd = 1 then max nx (wr (x.n + 1)) else nx) = nx0 := ⟨_, rfl⟩
  have HG : Hid (given1 nx x = x.args.toL.foldl given1 nx0) := Lib.hid (by show givenL (if x.kd = 1 then max nx (wr (x.n + 1)) else nx) x.args = _; rw [hnx0, givenL_eq])
  obtain ⟨W0, hW0⟩ : ∃ W0, w.alloc (.cells #[.int .i64 x.kd, .int .i64 x.n, .string x.nm, .slice a x.args.len c] TT) = W0 := ⟨_, rfl⟩
  have hX := Box.at_ (w := w) (k := w.heap.size) #[.int .i64 x.kd, .int .i64 x.n, .string x.nm, .slice a x.args.len c] TT rfl
  have hK0 := (Kept.refl (· = s) w).alloc (.cells #[.int .i64 x.kd, .int .i64 x.n, .string x.nm, .slice a x.args.len c] TT)
  have hz0 : W0.heap.size = w.heap.size + 1 := by rw [← hW0]; simp
  rw [hW0] at hX hK0
  have HX := Lib.hid hX
  have HB0 := Lib.hid (show Below w.heap.size w W0 by rw [← hW0]; exact (Below.refl w.heap.size w).alloc (Nat.le_refl _) _)
  have HK0 := Lib.hid hK0
  have HNX := Lib.hid hnx0
  clear hp hs hr hz hC hps hX hK0 hnx0
  go_enter Try.func23, Try.ntmps23
  obtain ⟨x0, x1, x2, x3, _⟩ := HX.out.cells4
  have HP0 := Lib.hid (HB0.out.block pb HP.out.lt |>.trans HP.out : Box W0 pb TPSt #[.pointer (some ⟨s, 0, none⟩)])
  have HS0 := Lib.hid (HB0.out.block s HS.out.lt |>.trans HS.out : Box W0 s TSt #[.map (some m), .int .i64 nx])
  have HXS := Lib.hid (show w.heap.size ≠ s by have := HS.out.lt; omega)
  by_cases hk : x.kd = 1
  · have HG1 := Lib.hid (given1_any (n := x.n) W0 HP0.out HS0.out)
    have HN1 := Lib.hid (show max nx (wr (x.n + 1)) = nx0 by rw [← HNX.out, if_pos hk])
    rw [HN1.out] at HG1
    have qk : (x.kd == 1) = true := by simpa using hk
    clear hk
    go_wp2_with fail
    refine HG1.out.mono ?_
    rintro e wm ⟨rfl, hsm, hkm⟩
    have HSM := Lib.hid hsm
    have HKM := Lib.hid hkm
    have hX := hkm.box HX.out HXS.out
    obtain ⟨x0, x1, x2, x3, _⟩ := hX.cells4
    clear hsm hkm hX
    go_wp2_with fail
    go_loopg [5, 16] x.args.len (fun d v5 v wr => ∃ k : Nat, k + d = x.args.len ∧ v = .int .i64 k ∧ Box wr s TSt #[.map (some m), .int .i64 ((x.args.toL.take k).foldl given1 nx0)] ∧ Kept (· = s) W0 wr)
    case atStart => exact ⟨0, by omega, rfl, by rw [List.take_zero]; exact HSM.out, HKM.out⟩
    case round =>
      obtain ⟨k, hkd, rfl, hsr, hkr⟩ := hrel
      have HK := Lib.hid hkd
      have HSR := Lib.hid hsr
      have HKR := Lib.hid hkr
      have hkle : k ≤ x.args.len := by omega
      have hX := hkr.box HX.out HXS.out
      obtain ⟨y0, y1, y2, y3, _⟩ := hX.cells4
      have hz2 := hkr.size
      clear hkd hsr hkr hX
      by_cases hlt : k < x.args.len
      · have hlt' : (k : Int) < x.args.len := by omega
        have hkL : k < x.args.toL.length := by rw [HTL.out]; exact hlt
        have hx := (HKR.out.types (HR.out.below HB0.out fun b hb => (HZ.out b hb).1) (fun b hb => ⟨by have := (HZ.out b hb).1; omega, (HZ.out b hb).2⟩)).at_ k x.args.toL[k] (List.getElem?_eq_getElem hkL)
        have HMM := Lib.hid (List.getElem_mem hkL)
        have HTK := Lib.hid (show (x.args.toL.take (k + 1)).foldl given1 nx0 = given1 ((x.args.toL.take k).foldl given1 nx0) x.args.toL[k] by rw [List.take_add_one, List.getElem?_eq_getElem hkL, List.foldl_append]; rfl)
        generalize x.args.toL[k] = y at hx HMM HTK
        rw [Nat.zero_add] at hx
        obtain ⟨ad, a2, c2, rfl, _, z0, z1, z2, z3, _, ha, hrd⟩ := hx
        obtain ⟨W1, hW1⟩ : ∃ W1, wr.alloc (.cells #[.int .i64 y.kd, .int .i64 y.n, .string y.nm, .slice a2 y.args.len c2] TT) = W1 := ⟨_, rfl⟩
        have HB1 := Lib.hid (show Below wr.heap.size wr W1 by rw [← hW1]; exact (Below.refl wr.heap.size wr).alloc (Nat.le_refl _) _)
        have hX1 := Box.at_ (w := wr) (k := wr.heap.size) #[.int .i64 y.kd, .int .i64 y.n, .string y.nm, .slice a2 y.args.len c2] TT rfl
        rw [hW1] at hX1
        obtain ⟨u0, u1, u2, u3, _⟩ := hX1.cells4
        have hz3 : W1.heap.size = wr.heap.size + 1 := by rw [← hW1]; simp
        have HCC := Lib.hid (HC.out y HMM.out a2 c2 W1 _ (Box.below (HKR.out.box HP0.out HPS.out) HB1.out (HKR.out.box HP0.out HPS.out).lt) (HSR.out.below HB1.out HSR.out.lt) (hrd.below HB1.out fun b hb => by have := (HZ.out b hb).1; omega) (by omega) ha)
        unfold tyV at HCC
        clear hrd hX1
        go_wp2_with fail
        refine HCC.out.mono ?_
        rintro e w3 ⟨rfl, hs3, hk3⟩
        have HS3 := Lib.hid hs3
        have HK3 := Lib.hid ((HKR.out.trans (Kept.of_below HB1.out (Nat.le_refl _) _)).trans hk3)
        clear hs3 hk3
        go_wp2_with fail
        go_roundg (x.args.len - (k + 1))
        case measure => have := HK.out; omega
        case rel => exact ⟨k + 1, by have := HK.out; omega, by go_num, by rw [HTK.out]; exact HS3.out, HK3.out⟩
      · have hge : ¬ (k : Int) < x.args.len := by omega
        have HE := Lib.hid (show (x.args.toL.take k).foldl given1 nx0 = given1 nx x by rw [HG.out, List.take_of_length_le (by rw [HTL.out]; omega)])
        go_wp2_with fail
        go_end0
        exact ⟨rfl, by rw [← HE.out]; exact HSR.out, HK0.out.trans HKR.out⟩
  · have HN1 := Lib.hid (show nx = nx0 by rw [← HNX.out, if_neg hk])
    have qk : (x.kd == 1) = false := by simpa using hk
    have HSM := Lib.hid (show Box W0 s TSt #[.map (some m), .int .i64 nx0] by rw [← HN1.out]; exact HS0.out)
    have HKM := Lib.hid (Kept.refl (· = s) W0)
    clear hk
    go_wp2_with fail
    go_loopg [5, 16] x.args.len (fun d v5 v wr => ∃ k : Nat, k + d = x.args.len ∧ v = .int .i64 k ∧ Box wr s TSt #[.map (some m), .int .i64 ((x.args.toL.take k).foldl given1 nx0)] ∧ Kept (· = s) W0 wr)
    case atStart => exact ⟨0, by omega, rfl, by rw [List.take_zero]; exact HSM.out, HKM.out⟩
    case round =>
      obtain ⟨k, hkd, rfl, hsr, hkr⟩ := hrel
      have HK := Lib.hid hkd
      have HSR := Lib.hid hsr
      have HKR := Lib.hid hkr
      have hkle : k ≤ x.args.len := by omega
      have hX := hkr.box HX.out HXS.out
      obtain ⟨y0, y1, y2, y3, _⟩ := hX.cells4
      have hz2 := hkr.size
      clear hkd hsr hkr hX
      by_cases hlt : k < x.args.len
      · have hlt' : (k : Int) < x.args.len := by omega
        have hkL : k < x.args.toL.length := by rw [HTL.out]; exact hlt
        have hx := (HKR.out.types (HR.out.below HB0.out fun b hb => (HZ.out b hb).1) (fun b hb => ⟨by have := (HZ.out b hb).1; omega, (HZ.out b hb).2⟩)).at_ k x.args.toL[k] (List.getElem?_eq_getElem hkL)
        have HMM := Lib.hid (List.getElem_mem hkL)
        have HTK := Lib.hid (show (x.args.toL.take (k + 1)).foldl given1 nx0 = given1 ((x.args.toL.take k).foldl given1 nx0) x.args.toL[k] by rw [List.take_add_one, List.getElem?_eq_getElem hkL, List.foldl_append]; rfl)
        generalize x.args.toL[k] = y at hx HMM HTK
        rw [Nat.zero_add] at hx
        obtain ⟨ad, a2, c2, rfl, _, z0, z1, z2, z3, _, ha, hrd⟩ := hx
        obtain ⟨W1, hW1⟩ : ∃ W1, wr.alloc (.cells #[.int .i64 y.kd, .int .i64 y.n, .string y.nm, .slice a2 y.args.len c2] TT) = W1 := ⟨_, rfl⟩
        have HB1 := Lib.hid (show Below wr.heap.size wr W1 by rw [← hW1]; exact (Below.refl wr.heap.size wr).alloc (Nat.le_refl _) _)
        have hX1 := Box.at_ (w := wr) (k := wr.heap.size) #[.int .i64 y.kd, .int .i64 y.n, .string y.nm, .slice a2 y.args.len c2] TT rfl
        rw [hW1] at hX1
        obtain ⟨u0, u1, u2, u3, _⟩ := hX1.cells4
        have hz3 : W1.heap.size = wr.heap.size + 1 := by rw [← hW1]; simp
        have HCC := Lib.hid (HC.out y HMM.out a2 c2 W1 _ (Box.below (HKR.out.box HP0.out HPS.out) HB1.out (HKR.out.box HP0.out HPS.out).lt) (HSR.out.below HB1.out HSR.out.lt) (hrd.below HB1.out fun b hb => by have := (HZ.out b hb).1; omega) (by omega) ha)
        unfold tyV at HCC
        clear hrd hX1
        go_wp2_with fail
        refine HCC.out.mono ?_
        rintro e w3 ⟨rfl, hs3, hk3⟩
        have HS3 := Lib.hid hs3
        have HK3 := Lib.hid ((HKR.out.trans (Kept.of_below HB1.out (Nat.le_refl _) _)).trans hk3)
        clear hs3 hk3
        go_wp2_with fail
        go_roundg (x.args.len - (k + 1))
        case measure => have := HK.out; omega
        case rel => exact ⟨k + 1, by have := HK.out; omega, by go_num, by rw [HTK.out]; exact HS3.out, HK3.out⟩
      · have hge : ¬ (k : Int) < x.args.len := by omega
        have HE := Lib.hid (show (x.args.toL.take k).foldl given1 nx0 = given1 nx x by rw [HG.out, List.take_of_length_le (by rw [HTL.out]; omega)])
        go_wp2_with fail
        go_end0
        exact ⟨rfl, by rw [← HE.out]; exact HSR.out, HK0.out.trans HKR.out⟩
theorem eachg_any {Z : Nat → Prop} {pb s m : Nat} : ∀ (q : Nat) (x : Ty), x.args.nodes ≤ q → ∀ (a : Option Addr) (c : Nat) (nx : Int) (w : World), Box w pb TPSt #[.pointer (some ⟨s, 0, none⟩)] → Box w s TSt #[.map (some m), .int .i64 nx] → RdT Z w a x.args 0 → (∀ b, Z b → b < w.heap.size ∧ b ≠ s) → x.args.len * 56 ≤ 140737488355328 →
    Calls Try.prog 23 #[tyV x a c, doV pb] w (GivenPost s m (given1 nx x) w) := by
  intro q
  induction q with
  | zero =>
    intro x hx a c nx w hp hs h hz hl
    refine eachg_of w hp hs h hz hl fun y hy => ?_
    obtain ⟨i, hi⟩ := List.getElem?_of_mem hy
    have := Tys.nodes_get x.args i y hi
    omega
  | succ q ih =>
    intro x hx a c nx w hp hs h hz hl
    refine eachg_of w hp hs h hz hl fun y hy a2 c2 w' nx' hp' hs' hr hle hl2 => ?_
    obtain ⟨i, hi⟩ := List.getElem?_of_mem hy
    have := Tys.nodes_get x.args i y hi
    exact ih y (by omega) a2 c2 nx' w' hp' hs' hr (fun b hb => ⟨Nat.lt_of_lt_of_le (hz b hb).1 hle, (hz b hb).2⟩) hl2
theorem map_some (m : Nat) (w : World) : (binOp BinOp.eql TMK (.map (some m)) (.map none)).run Try.prog w = .ok (.bool false) w := run_eql_map_nil w _ _ _ (some m) Try.underlying42
set_option maxRecDepth 100000 in
set_option maxHeartbeats 4000000 in
theorem given_any {Z : Nat → Prop} {s m : Nat} {nx : Int} {x : Ty} {a : Option Addr} {c : Nat} (w : World) (hs : Box w s TSt #[.map (some m), .int .i64 nx]) (hr : RdT Z w a x.args 0) (hz : ∀ b, Z b → b < w.heap.size ∧ b ≠ s) (hl : x.args.len * 56 ≤ 140737488355328) :
    Calls Try.prog 16 #[.pointer (some ⟨s, 0, none⟩), .agg #[.int .i64 x.kd, .int .i64 x.n, .string x.nm, .slice a x.args.len c]] w (GivenPost s m (given1 nx x) w) := by
  obtain ⟨W0, hW0⟩ : ∃ W0, (w.alloc (.cells #[.pointer (some ⟨s, 0, none⟩)] TPSt)).alloc (.cells #[.int .i64 x.kd, .int .i64 x.n, .string x.nm, .slice a x.args.len c] TT) = W0 := ⟨_, rfl⟩
  have hB0 : Below w.heap.size w W0 := by rw [← hW0]; exact ((Below.refl w.heap.size w).alloc (Nat.le_refl _) _).alloc (by simp) _
  have hP0 : Box W0 w.heap.size TPSt #[.pointer (some ⟨s, 0, none⟩)] := by rw [← hW0]; exact (Box.new w _ _).alloc _
  have hS0 := hs.below hB0 hs.lt
  have HG := Lib.hid (eachg_any (m := m) x.args.nodes x (Nat.le_refl _) a c nx W0 hP0 hS0 (hr.below hB0 fun b hb => (hz b hb).1) (fun b hb => ⟨Nat.lt_of_lt_of_le (hz b hb).1 hB0.size, (hz b hb).2⟩) hl)
  have HB0 := Lib.hid hB0
  unfold tyV doV at HG
  have hmn := map_some m W0
  have p0 := hP0.cell 0
  have hp0 : W0.cell? ⟨w.heap.size, 0, none⟩ = some (.pointer (some ⟨s, 0, none⟩)) := p0
  have hX := Box.at_ (w := w.alloc (.cells #[.pointer (some ⟨s, 0, none⟩)] TPSt)) (k := w.heap.size + 1) #[.int .i64 x.kd, .int .i64 x.n, .string x.nm, .slice a x.args.len c] TT (by simp)
  rw [hW0] at hX
  obtain ⟨x0, x1, x2, x3, _⟩ := hX.cells4
  obtain ⟨s0, s1, _⟩ := hS0.cells2
  clear hs hr hz hB0 hP0 hS0 p0 hX
  go_enter Try.func16, Try.ntmps16
  go_wp2_with fail
  refine HG.out.mono ?_
  rintro e w3 ⟨rfl, hs3, hk3⟩
  have HS3 := Lib.hid hs3
  have HK3 := Lib.hid ((Kept.of_below HB0.out (Nat.le_refl _) _).trans hk3)
  clear hs3 hk3
  go_wp2_with fail
  go_end0
  exact ⟨rfl, HS3.out, HK3.out⟩
end Go.Proofs.Ytcaioffdcbjbjaa.Un
