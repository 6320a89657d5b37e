/-
  CONTRACT of layer unify: the document's variables of a type, behind some.
-/
import Derived.Test.YtgomafdhckfnbaaGA
import Derived.Test.YtgomafdhckfnbaaGB
import Derived.Test.YtgomafdhckfnbaaGC
import Derived.Test.YtgomafdhckfnbaaGD
import Derived.Deep.AppendLies
namespace Go.Proofs.Ytgomafdhckfnbaa.Un
open Go.RowKit Mm Tm Rn
set_option linter.unusedVariables false
set_option linter.unusedSimpArgs false
theorem Tint : (Try.prog.info? 3).map (fun i => (i.zero, i.size, i.bytes)) = some (some (.int .i64 0), 1, 8) := by kernel_rfl
/-- a row of numbers that is told -/
def RowB (l : List Int) (w : World) (e : Ending) (w' : World) : Prop := ∃ a c, e = .returned (.slice a l.length c) ∧ RdI (fun b => b < w'.heap.size) w' a l ∧ Below w.heap.size w w'
theorem rdI_here {w w' : World} {a : Option Addr} {l : List Int} (h : RdI (fun b => b < w.heap.size) w a l) (hb : Below w.heap.size w w') : RdI (fun b => b < w'.heap.size) w' a l :=
  (h.below hb fun _ h => h).mono fun b hz => Nat.lt_of_lt_of_le hz hb.size
theorem ownI_rds {B : Nat} {e : TypeId} {w : World} {a : Option Addr} {n c : Nat} {l : List Int} (h : OwnI B e w (.slice a n c) l) : RdI (fun b => b < w.heap.size) w a l := (OwnI.reads h).mono fun b hz => hz.2
set_option maxRecDepth 100000 in
set_option maxHeartbeats 4000000 in
theorem rvars_var {x : Ty} {a b : Option Addr} {c cb : Nat} {l : List Int} (w : World) (hk : x.kd = 1) (hl : RdI (fun k => k < w.heap.size) w b l) (hn : l.length ≤ 1000000) :
    Calls Try.prog 20 #[.agg #[.int .i64 x.kd, .int .i64 x.n, .string x.nm, .slice a x.args.len c], .slice b l.length cb] w (RowB (addV l x.n) w) := by
  obtain ⟨i0, hi, hz0, hz1, hz2'⟩ := info_parts Tint
  obtain ⟨kd, xn, nm, args⟩ := x
  simp only at hk ⊢
  subst hk
  obtain ⟨W0, hW0⟩ : ∃ W0, w.alloc (.cells #[.int .i64 1, .int .i64 xn, .string nm, .slice a args.len c] TT) = W0 := ⟨_, rfl⟩
  have hB0 : Below w.heap.size w W0 := by rw [← hW0]; exact (Below.refl w.heap.size w).alloc (Nat.le_refl _) _
  have hX0 : Box W0 w.heap.size TT #[.int .i64 1, .int .i64 xn, .string nm, .slice a args.len c] := by rw [← hW0]; exact Box.new w _ _
  have hz0' : w.heap.size < W0.heap.size := hX0.lt
  have HR := Lib.hid (rdI_here hl hB0)
  have HB0 := Lib.hid hB0
  have HX0 := Lib.hid hX0
  obtain ⟨x0, x1, x2, x3, _⟩ := hX0.cells4
  clear hl hB0 hX0
  go_enter Try.func20, Try.ntmps20
  go_wp2_with fail
  clear hW0
  go_loopg [5] l.length (fun d v wr => Below W0.heap.size W0 wr ∧ ∃ k : Nat, k + d = l.length ∧ v = .int .i64 k ∧ ∀ j : Nat, j < k → l[j]? ≠ some xn)
  case atStart => exact ⟨Below.refl _ _, 0, by omega, rfl, fun j h => absurd h (Nat.not_lt_zero _)⟩
  case round =>
    obtain ⟨hb0, k, hkd, rfl, hno⟩ := hrel
    have HB := Lib.hid hb0
    have hX := HX0.out.below hb0 hz0'
    obtain ⟨x0, x1, x2, x3, _⟩ := hX.cells4
    have HK := Lib.hid hkd
    have HNO := Lib.hid hno
    have hkle : k ≤ l.length := by omega
    clear hkd hno hb0 hX
    by_cases hlt : k < l.length
    · have hlt' : (k : Int) < l.length := by omega
      obtain ⟨y, hy⟩ : ∃ y, l[k]? = some y := ⟨_, List.getElem?_eq_getElem hlt⟩
      obtain ⟨ad, rfl, _, y0⟩ := (HR.out.below HB.out fun _ h => h) k y hy
      have HY := Lib.hid hy
      clear hy
      by_cases hq : y = xn
      · have hqb : (y == xn) = true := by simpa using hq
        have HE := Lib.hid (show addV l xn = l by unfold addV; rw [if_pos (by rw [← hq]; exact List.mem_of_getElem? HY.out)])
        clear hq
        go_wp2_with fail
        go_region
        go_wp2_with fail
        refine bodyPost_ret (v := .slice (some ad) l.length cb) (by simp [results, Try.results20, go_sem]) rfl ?_
        rw [HE.out]
        exact ⟨_, _, rfl, rdI_here HR.out HB.out.drew, HB0.out.trans (HB.out.drew.mono HB0.out.size)⟩
      · have hqb : (y == xn) = false := by simpa using hq
        have HQ := Lib.hid hq
        clear hq
        go_wp2_with fail
        go_region
        go_wp2_with fail
        go_roundg (l.length - (k + 1))
        case measure => have := HK.out; omega
        case rel =>
          refine ⟨HB.out.drew, k + 1, by have := HK.out; omega, by go_num, fun j hj => ?_⟩
          by_cases e : j = k
          · subst e
            rw [HY.out]
            intro h
            injection h with h
            exact HQ.out h
          · exact HNO.out j (by omega)
    · have hge : ¬ (k : Int) < l.length := by omega
      have HE := Lib.hid (show addV l xn = l ++ [xn] by
        unfold addV
        rw [if_neg]
        intro hm
        obtain ⟨j, hj⟩ := List.getElem?_of_mem hm
        exact HNO.out j (by have := (List.getElem?_eq_some_iff.1 hj).1; omega) hj)
      go_wp2_with fail
      go_loopg [6, 7] l.length (fun d v6 v wr => ∃ k : Nat, k + d = l.length ∧ v = .int .i64 k ∧ OwnI W0.heap.size TI wr v6 (l.take k) ∧ Below W0.heap.size W0 wr)
      case atStart => exact ⟨0, by omega, rfl, OwnI.nil _ _ _, HB.out⟩
      case round =>
        obtain ⟨k, hkd, rfl, how, hb0⟩ := hrel
        have HK := Lib.hid hkd
        have hsz := hb0.size
        have HB := Lib.hid hb0
        have hX := HX0.out.below hb0 hz0'
        obtain ⟨x0, x1, x2, x3, _⟩ := hX.cells4
        have HOW := Lib.hid how
        obtain ⟨a6, c6, rfl⟩ := how.slice
        have hTL : (l.take k).length = k := by rw [List.length_take]; omega
        have HTL := Lib.hid hTL
        rw [hTL] at HOW ⊢
        have HO := Lib.hid (show wr.ownsRow W0.heap.size TI 1 (.slice a6 k c6) k ((l.take k).map fun y => .int .i64 y) by have := HOW.out; unfold OwnI at this; rwa [hTL] at this)
        have hkle : k ≤ l.length := by omega
        clear hkd hb0 how hX hTL
        by_cases hlt : k < l.length
        · have hlt' : (k : Int) < l.length := by omega
          obtain ⟨y, hy⟩ : ∃ y, l[k]? = some y := ⟨_, List.getElem?_eq_getElem hlt⟩
          obtain ⟨ad, rfl, _, y0⟩ := (HR.out.below HB.out fun _ h => h) k y hy
          have HTK := Lib.hid (show l.take (k + 1) = l.take k ++ [y] by rw [List.take_add_one, hy]; rfl)
          clear hy
          go_wp2_with (at_builtin; refine wpList_append_own _ rfl _ _ 37 rfl W0.heap.size TI i0 _ 1 8 Try.underlying37 hi hz0 hz1 hz2' rfl (by decide) _ _ _ rfl (HO.out.alloc _) ⟨wr.heap.size, 0, none⟩ 1 1 [.int .i64 y] rfl rfl (Go.cell_one_new _ _ _) (fun u hu => by simp only [List.mem_singleton] at hu; rw [hu]; rfl) (by unfold maxLen; omega) (by omega) (by simp; omega) ?_)
          intro v7 w7 hown hgrow _
          have HO7 := Lib.hid (show OwnI W0.heap.size TI w7 v7 (l.take (k + 1)) by
            unfold OwnI
            rw [HTK.out, List.length_append, HTL.out, List.map_append, List.map_take]
            exact hown)
          have HB7 := Lib.hid ((HB.out.alloc hsz (.cells #[.int .i64 y] TI)).grown hgrow (by simp; omega) (fun q hq => (HO.out.lt q hq).1))
          obtain ⟨a7, c7, rfl⟩ := own_slice hown
          clear hown hgrow
          go_wp2_with fail
          go_roundg (l.length - (k + 1))
          case measure => have := HK.out; omega
          case rel => exact ⟨k + 1, by have := HK.out; omega, by go_num, HO7.out, HB7.out⟩
        · have hge : ¬ (k : Int) < l.length := by omega
          have HTK := Lib.hid (show l.take k = l by rw [List.take_of_length_le (by omega)])
          go_wp2_with (at_builtin; refine wpList_append_own _ rfl _ _ 37 rfl W0.heap.size TI i0 _ 1 8 Try.underlying37 hi hz0 hz1 hz2' rfl (by decide) _ _ _ rfl (HO.out.alloc _) ⟨wr.heap.size, 0, none⟩ 1 1 [.int .i64 xn] rfl rfl (Go.cell_one_new _ _ _) (fun u hu => by simp only [List.mem_singleton] at hu; rw [hu]; rfl) (by unfold maxLen; omega) (by omega) (by simp; omega) ?_)
          intro v7 w7 hown hgrow _
          have HO7 := Lib.hid (show OwnI W0.heap.size TI w7 v7 (l ++ [xn]) by
            unfold OwnI
            rw [← List.map_take, HTK.out] at hown
            rw [List.length_append, List.map_append]
            have : k = l.length := by omega
            rw [← this]
            exact hown)
          have HB7 := Lib.hid ((HB.out.alloc hsz (.cells #[.int .i64 xn] TI)).grown hgrow (by simp; omega) (fun q hq => (HO.out.lt q hq).1))
          obtain ⟨a7, c7, rfl⟩ := own_slice hown
          have HKE := Lib.hid (show k + 1 = (l ++ [xn]).length by rw [List.length_append]; simp; omega)
          clear hown hgrow
          go_wp2_with fail
          refine bodyPost_ret (v := .slice a7 (k + 1) c7) (by simp [results, Try.results20, go_sem]) rfl ?_
          rw [HE.out]
          refine ⟨a7, c7, by rw [HKE.out], ownI_rds HO7.out, HB0.out.trans (HB7.out.mono HB0.out.size)⟩
end Go.Proofs.Ytgomafdhckfnbaa.Un
/-
  CONTRACT of layer unify: the document's variables of any type that may be.
-/
namespace Go.Proofs.Ytgomafdhckfnbaa.Un
open Go.RowKit Mm Tm Rn
set_option linter.unusedVariables false
set_option linter.unusedSimpArgs false
/-- how many variables stand in types -/
theorem occ_nodes : ∀ t : Tys, (occT t).length ≤ t.nodes
  | .nil => Nat.le_refl _
  | .cons kd n nm args rest => by
    have h1 := occ_nodes args
    have h2 := occ_nodes rest
    rw [occT, Tys.nodes, List.length_append]
    split
    · simp only [List.length_cons, List.length_nil]; omega
    · omega
theorem fold_len (o l : List Int) : (o.foldl addV l).length ≤ l.length + o.length := len_fold o l
theorem fold_flat (L : List Ty) (k : Nat) (y : Ty) (h : L[k]? = some y) (l : List Int) : ((L.take (k + 1)).flatMap occ).foldl addV l = (occ y).foldl addV (((L.take k).flatMap occ).foldl addV l) := by
  rw [List.take_add_one, h, ← List.foldl_append, List.flatMap_append]
  simp
def RVarsC (x : Ty) : Prop := ∀ (a : Option Addr) (c : Nat) (l : List Int) (b : Option Addr) (cb : Nat) (w : World), RdT (fun k => k < w.heap.size) w a x.args 0 → x.args.len * 56 ≤ 140737488355328 → RdI (fun k => k < w.heap.size) w b l → l.length + x.args.nodes + 1 ≤ 1000000 →
  Calls Try.prog 20 #[tyV x a c, .slice b l.length cb] w (RowB ((occ x).foldl addV l) w)
theorem rdT_here {w w' : World} {a : Option Addr} {t : Tys} {k : Nat} (h : RdT (fun b => b < w.heap.size) w a t k) (hb : Below w.heap.size w w') : RdT (fun b => b < w'.heap.size) w' a t k :=
  (h.below hb fun _ h => h).mono fun b hz => Nat.lt_of_lt_of_le hz hb.size
set_option maxRecDepth 100000 in
set_option maxHeartbeats 4000000 in
theorem rvars_of {x : Ty} {a b : Option Addr} {c cb : Nat} {l : List Int} (w : World) (hk : x.kd ≠ 1) (hr : RdT (fun k => k < w.heap.size) w a x.args 0) (hlx : x.args.len * 56 ≤ 140737488355328) (hl : RdI (fun k => k < w.heap.size) w b l) (hn : l.length + x.args.nodes + 1 ≤ 1000000)
    (hC : ∀ y ∈ x.args.toL, RVarsC y) :
    Calls Try.prog 20 #[.agg #[.int .i64 x.kd, .int .i64 x.n, .string x.nm, .slice a x.args.len c], .slice b l.length cb] w (RowB ((occ x).foldl addV l) w) := by
  obtain ⟨W0, hW0⟩ : ∃ W0, w.alloc (.cells #[.int .i64 x.kd, .int .i64 x.n, .string x.nm, .slice a x.args.len c] TT) = W0 := ⟨_, rfl⟩
  have hB0 : Below w.heap.size w W0 := by rw [← hW0]; exact (Below.refl w.heap.size w).alloc (Nat.le_refl _) _
  have hX0 : Box W0 w.heap.size TT #[.int .i64 x.kd, .int .i64 x.n, .string x.nm, .slice a x.args.len c] := by rw [← hW0]; exact Box.new w _ _
  have hz0' : w.heap.size < W0.heap.size := hX0.lt
  have HR := Lib.hid (rdI_here hl hB0)
  have HT := Lib.hid (rdT_here hr hB0)
  have HB0 := Lib.hid hB0
  have HX0 := Lib.hid hX0
  have HC := Lib.hid hC
  have HN := Lib.hid hn
  have HOC := Lib.hid (show occ x = x.args.toL.flatMap occ by rw [← occT_all]; unfold occ; rw [if_neg hk])
  have HTL := Lib.hid (Tys.toL_len x.args)
  have HSZ := Lib.hid (sizes_all x.args)
  have hlen : x.args.len ≤ 140737488355328 := by omega
  have qk : (x.kd == 1) = false := by simpa using hk
  obtain ⟨x0, x1, x2, x3, _⟩ := hX0.cells4
  clear hl hB0 hX0 hr hC hk hn
  go_enter Try.func20, Try.ntmps20
  go_wp2_with fail
  clear hW0
  obtain ⟨l0, hl0⟩ : ∃ l0 : List Int, l0 = l := ⟨_, rfl⟩
  go_loopg [1, 8] x.args.len (fun d v1 v wr => ∃ (k : Nat) (b1 : Option Addr) (c1 : Nat) (l1 : List Int), k + d = x.args.len ∧ v = .int .i64 k ∧ v1 = .slice b1 l1.length c1 ∧ RdI (fun q => q < wr.heap.size) wr b1 l1 ∧ ((x.args.toL.take k).flatMap occ).foldl addV l = l1 ∧ Below W0.heap.size W0 wr)
  case atStart => exact ⟨0, b, cb, l, by omega, rfl, rfl, HR.out, by rw [List.take_zero]; rfl, Below.refl _ _⟩
  case round =>
    obtain ⟨k, b1, c1, l1, hkd, rfl, rfl, hrd, hfo, hb0⟩ := hrel
    have HK := Lib.hid hkd
    have HB := Lib.hid hb0
    have HRD := Lib.hid hrd
    have HFO := Lib.hid hfo
    have hkle : k ≤ x.args.len := by omega
    have hX := HX0.out.below hb0 hz0'
    obtain ⟨x0, x1, x2, x3, _⟩ := hX.cells4
    clear hkd hb0 hrd hfo hX
    by_cases hlt : k < x.args.len
    · have hlt' : (k : Int) < x.args.len := by omega
      obtain ⟨y, hy⟩ : ∃ y, x.args.toL[k]? = some y := ⟨_, List.getElem?_eq_getElem (by rw [Tys.toL_len]; exact hlt)⟩
      have hx := (HT.out.below HB.out fun _ h => h).at_ k y hy
      rw [Nat.zero_add] at hx
      obtain ⟨ad, a2, c2, rfl, _, z0, z1, z2, z3, _, ha, hrd⟩ := hx
      have hle : l1.length ≤ l.length + sizes (x.args.toL.take k) := by
        rw [← HFO.out]
        refine Nat.le_trans (fold_len _ _) (Nat.add_le_add_left ?_ _)
        rw [← Tys.toL_ofL (x.args.toL.take k), ← occT_all, sizes_all]
        exact occ_nodes _
      have hsz2 : sizes (x.args.toL.take (k + 1)) = sizes (x.args.toL.take k) + (y.args.nodes + 1) := by rw [List.take_add_one, hy]; exact sizes_snoc _ _
      have hst := sizes_take x.args.toL (k + 1)
      have HF2 := Lib.hid (fold_flat x.args.toL k y hy l)
      rw [HFO.out] at HF2
      have HCC := Lib.hid (HC.out y (List.mem_of_getElem? hy) a2 c2 l1 b1 c1 wr (hrd.mono fun q hq => Nat.lt_of_lt_of_le hq HB.out.size) ha HRD.out (by have := HN.out; have := HSZ.out; omega))
      unfold tyV at HCC
      clear hrd hy hle hsz2 hst
      go_wp2_with fail
      refine HCC.out.mono ?_
      rintro e w3 ⟨b3, c3, rfl, hrd3, hb3⟩
      have HRD3 := Lib.hid hrd3
      have HB3 := Lib.hid (HB.out.trans (hb3.mono HB.out.size))
      clear hrd3 hb3
      go_wp2_with fail
      go_roundg (x.args.len - (k + 1))
      case measure => have := HK.out; omega
      case rel => exact ⟨k + 1, b3, c3, _, by have := HK.out; omega, by go_num, rfl, HRD3.out, HF2.out, HB3.out⟩
    · have hge : ¬ (k : Int) < x.args.len := by omega
      have HE := Lib.hid (show (occ x).foldl addV l = l1 by
        have h := HFO.out
        rw [List.take_of_length_le (by rw [HTL.out]; omega)] at h
        rw [HOC.out, h])
      go_wp2_with fail
      refine bodyPost_ret (v := .slice b1 l1.length c1) (by simp [results, Try.results20, go_sem]) rfl ?_
      rw [HE.out]
      exact ⟨b1, c1, rfl, HRD.out, HB0.out.trans (HB.out.mono HB0.out.size)⟩
theorem rvars_any : ∀ (q : Nat) (x : Ty), x.args.nodes ≤ q → RVarsC x := by
  intro q
  induction q with
  | zero =>
    intro x hx a c l b cb w h hl hi hn
    by_cases hk : x.kd = 1
    · have := rvars_var (x := x) (a := a) (c := c) (cb := cb) w hk hi (by omega)
      unfold occ
      rw [if_pos hk]
      exact this
    · refine rvars_of w hk h hl hi hn fun y hy => ?_
      obtain ⟨i, hi⟩ := List.getElem?_of_mem hy
      have := Tys.nodes_get x.args i y hi
      omega
  | succ q ih =>
    intro x hx a c l b cb w h hl hi hn
    by_cases hk : x.kd = 1
    · have := rvars_var (x := x) (a := a) (c := c) (cb := cb) w hk hi (by omega)
      unfold occ
      rw [if_pos hk]
      exact this
    · refine rvars_of w hk h hl hi hn fun y hy => ?_
      obtain ⟨i, hi⟩ := List.getElem?_of_mem hy
      have := Tys.nodes_get x.args i y hi
      exact ih y (by omega)
end Go.Proofs.Ytgomafdhckfnbaa.Un
/-
  CONTRACT of layer unify: the document's Subst: a variable.
-/
namespace Go.Proofs.Ytgomafdhckfnbaa.Un
open Go.RowKit Mm Tm Rn
set_option linter.unusedVariables false
set_option linter.unusedSimpArgs false
/-- what variables become: the first of a row that it is, if there is a type at that place -/
def subF (l : List Int) (W : List Ty) (n : Int) : Option Ty := (idx n l).bind fun i => W[i]?
/-- where a type's parts may lie that Subst tells: in what came in, or in new memory -/
def ZS (base B : Nat) (w : World) (b : Nat) : Prop := b < base ∨ (B ≤ b ∧ b < w.heap.size)
def SubPost (base : Nat) (y : Ty) (w : World) (e : Ending) (w' : World) : Prop :=
  ∃ a c, e = .returned (.agg #[.int .i64 y.kd, .int .i64 y.n, .string y.nm, .slice a y.args.len c]) ∧ RdT (ZS base w.heap.size w') w' a y.args 0 ∧ y.args.len * 56 ≤ 140737488355328 ∧ y.nm.size ≤ 9223372036854775807 ∧ Below w.heap.size w w'
abbrev zeroTy : Array Value := #[.int .i64 0, .int .i64 0, .string ⟨#[]⟩, .slice none 0 0]
/-- the end: a type is put in the result's box -/
theorem sub_end {base rb : Nat} {y : Ty} {a : Option Addr} {c : Nat} {w wr W6 : World} {tmps : Array Value} (hbw : Below w.heap.size w wr) (hrb : Box wr rb TT zeroTy) (hrbw : w.heap.size ≤ rb) (hbase : base ≤ w.heap.size)
    (hrd : RdT (fun b => ZS base w.heap.size wr b ∧ b ≠ rb) wr a y.args 0) (hl : y.args.len * 56 ≤ 140737488355328) (hn : y.nm.size ≤ 9223372036854775807)
    (hW6 : ((((wr.setCell ⟨rb, 0, none⟩ (.int .i64 y.kd)).setCell ⟨rb, 1, none⟩ (.int .i64 y.n)).setCell ⟨rb, 2, none⟩ (.string y.nm)).setCell ⟨rb, 3, none⟩ (.slice a y.args.len c)) = W6) :
    (W6.cell? ⟨rb, 0, none⟩ = some (.int .i64 y.kd) ∧ W6.cell? ⟨rb, 1, none⟩ = some (.int .i64 y.n) ∧ W6.cell? ⟨rb, 2, none⟩ = some (.string y.nm) ∧ W6.cell? ⟨rb, 3, none⟩ = some (.slice a y.args.len c)) ∧
      SubPost base y w (.returned (.agg #[.int .i64 y.kd, .int .i64 y.n, .string y.nm, .slice a y.args.len c])) W6 := by
  obtain ⟨W, hW, hbx, hwr⟩ := hrb.write4 (.int .i64 y.kd) (.int .i64 y.n) (.string y.nm) (.slice a y.args.len c)
  rw [hW] at hW6
  subst hW6
  obtain ⟨q0, q1, q2, q3, _⟩ := hbx.cells4
  refine ⟨⟨q0, q1, q2, q3⟩, a, c, rfl, ?_, hl, hn, hwr.below hbw hrbw⟩
  refine hrd.frame (fun b o hz => hwr.cell ⟨b, o, none⟩ hz.2) (fun ad hz => hwr.cell ad hz.2) fun b hz => hz.1.imp id fun q => ⟨q.1, by rw [hwr.size]; exact q.2⟩
set_option maxRecDepth 100000 in
set_option maxHeartbeats 4000000 in
theorem rsubst_var {base : Nat} {x : Ty} {a b p : Option Addr} {c cb cp : Nat} {l : List Int} {W : List Ty} (w : World) (hk : x.kd = 1) (hbase : base ≤ w.heap.size) (hr : RdT (fun k => k < base) w a x.args 0) (hlx : x.args.len * 56 ≤ 140737488355328) (hnx : x.nm.size ≤ 9223372036854775807)
    (hl : RdI (fun k => k < base) w b l) (hn : l.length ≤ 1000000) (hp : RdT (fun k => k < base) w p (Tys.ofL W) 0) (hW : W.length ≤ 1000000) :
    Calls Try.prog 17 #[.agg #[.int .i64 x.kd, .int .i64 x.n, .string x.nm, .slice a x.args.len c], .slice b l.length cb, .slice p W.length cp] w (SubPost base (sub1 (subF l W) x) w) := by
  obtain ⟨kd, xn, nm, args⟩ := x
  simp only at hk hr hlx hnx ⊢
  subst hk
  obtain ⟨W0, hW0⟩ : ∃ W0, (w.alloc (.cells #[.int .i64 1, .int .i64 xn, .string nm, .slice a args.len c] TT)).alloc (.cells zeroTy TT) = W0 := ⟨_, rfl⟩
  have hB0 : Below w.heap.size w W0 := by rw [← hW0]; exact ((Below.refl w.heap.size w).alloc (Nat.le_refl _) _).alloc (by simp) _
  have hX0 : Box W0 w.heap.size TT #[.int .i64 1, .int .i64 xn, .string nm, .slice a args.len c] := by rw [← hW0]; exact (Box.new w _ _).alloc _
  have hR0 : Box W0 (w.heap.size + 1) TT zeroTy := by rw [← hW0]; exact Box.at_ _ _ (by simp)
  have hz0' : w.heap.size + 1 < W0.heap.size := hR0.lt
  have hlow : ∀ q, q < base → q < w.heap.size := fun q h => by omega
  have HI := Lib.hid (hl.below hB0 hlow)
  have HT := Lib.hid (hr.below hB0 hlow)
  have HP := Lib.hid (hp.below hB0 hlow)
  have HB0 := Lib.hid hB0
  have HX0 := Lib.hid hX0
  have HR0 := Lib.hid hR0
  have HL := Lib.hid (And.intro hbase (And.intro hlx hnx))
  obtain ⟨x0, x1, x2, x3, _⟩ := hX0.cells4
  have HES := Lib.hid (show sub1 (subF l W) ⟨1, xn, nm, args⟩ = (subF l W xn).getD ⟨1, xn, nm, args⟩ by unfold sub1; rw [if_pos rfl])
  clear hl hB0 hX0 hR0 hr hp hlx hnx hbase
  go_enter Try.func17, Try.ntmps17
  go_wp2_with fail
  clear hW0
  have HLOW := Lib.hid hlow
  clear hlow
  go_loopg [7] l.length (fun d v wr => Below W0.heap.size W0 wr ∧ ∃ k : Nat, k + d = l.length ∧ v = .int .i64 k ∧ ∀ j : Nat, j < k → l[j]? ≠ some xn)
  case atStart => exact ⟨Below.refl _ _, 0, by omega, rfl, fun j h => absurd h (Nat.not_lt_zero _)⟩
  case round =>
    obtain ⟨hb0, k, hkd, rfl, hno⟩ := hrel
    have HB := Lib.hid hb0
    have hX := HX0.out.below hb0 (by omega)
    obtain ⟨x0, x1, x2, x3, _⟩ := hX.cells4
    have HK := Lib.hid hkd
    have HNO := Lib.hid hno
    have hkle : k ≤ l.length := by omega
    have HRB := Lib.hid (HR0.out.below (hb0.drew) hz0')
    have HRB2 := Lib.hid (HR0.out.below hb0 hz0')
    have HBW := Lib.hid (HB0.out.trans (hb0.mono HB0.out.size))
    clear hkd hno hb0 hX
    by_cases hlt : k < l.length
    · have hlt' : (k : Int) < l.length := by omega
      obtain ⟨y, hy⟩ : ∃ y, l[k]? = some y := ⟨_, List.getElem?_eq_getElem hlt⟩
      obtain ⟨ad, rfl, hadl, y0⟩ := (HI.out.below HB.out fun q h => Nat.lt_trans (HLOW.out q h) (Nat.lt_of_succ_lt hz0')) k y hy
      have HY := Lib.hid hy
      clear hy
      by_cases hq : y = xn
      · have hqb : (y == xn) = true := by simpa using hq
        have HIX := Lib.hid (show idx xn l = some k from idx_of (by rw [HY.out, hq]) HNO.out)
        clear hq
        by_cases hw : k < W.length
        · have hw' : (k : Int) < W.length := by omega
          obtain ⟨z, hz⟩ : ∃ z, W[k]? = some z := ⟨_, List.getElem?_eq_getElem hw⟩
          have HE := Lib.hid (show sub1 (subF l W) ⟨1, xn, nm, args⟩ = z by rw [HES.out]; unfold subF; rw [HIX.out, Option.bind_some, hz]; rfl)
          have HZ := Lib.hid hz
          clear hz
          go_wp2_with fail
          go_region
          obtain ⟨wd, hwd⟩ : ∃ wd, wr.drew = wd := ⟨_, rfl⟩
          rw [hwd]
          have HBd := Lib.hid (show Below W0.heap.size W0 wd by rw [← hwd]; exact HB.out.drew)
          have hRd := HR0.out.below HBd.out hz0'
          have hx := ((HP.out.below HBd.out fun q h => Nat.lt_trans (HLOW.out q h) (Nat.lt_of_succ_lt hz0')).at_ k z (by rw [Tys.toL_ofL]; exact HZ.out))
          rw [Nat.zero_add] at hx
          obtain ⟨zd, a2, c2, rfl, _, z0, z1, z2, z3, hzn, ha, hrd⟩ := hx
          obtain ⟨W6, hW6⟩ : ∃ W6, ((((wd.setCell ⟨w.heap.size + 1, 0, none⟩ (.int .i64 z.kd)).setCell ⟨w.heap.size + 1, 1, none⟩ (.int .i64 z.n)).setCell ⟨w.heap.size + 1, 2, none⟩ (.string z.nm)).setCell ⟨w.heap.size + 1, 3, none⟩ (.slice a2 z.args.len c2)) = W6 := ⟨_, rfl⟩
          have hEND := sub_end (base := base) (tmps := #[]) (HB0.out.trans (HBd.out.mono HB0.out.size)) hRd (Nat.le_succ _) HL.out.1 (hrd.mono fun q h => ⟨.inl h, by have := HLOW.out q h; omega⟩) ha hzn hW6
          have HEND := Lib.hid hEND
          obtain ⟨s0, s1, s2, s3, sf0, sf1, sf2, sf3⟩ := hRd.cells4
          clear hrd hEND hwd hRd x0 x1 x2 x3 y0
          go_wp2_with fail
          obtain ⟨⟨q0, q1, q2, q3⟩, hP⟩ := HEND.out
          refine bodyPost_ret (v := .agg #[.int .i64 z.kd, .int .i64 z.n, .string z.nm, .slice a2 z.args.len c2]) (by simp [results, Try.results17, go_sem, q0, q1, q2, q3]) rfl ?_
          rw [HE.out]
          exact hP
        · have hw' : ¬ (k : Int) < W.length := by omega
          have HE := Lib.hid (show sub1 (subF l W) ⟨1, xn, nm, args⟩ = ⟨1, xn, nm, args⟩ by rw [HES.out]; unfold subF; rw [HIX.out, Option.bind_some, List.getElem?_eq_none (by omega)]; rfl)
          go_wp2_with fail
          go_region
          obtain ⟨wd, hwd⟩ : ∃ wd, wr.drew = wd := ⟨_, rfl⟩
          rw [hwd]
          have HBd := Lib.hid (show Below W0.heap.size W0 wd by rw [← hwd]; exact HB.out.drew)
          have hRd := HR0.out.below HBd.out hz0'
          obtain ⟨W6, hW6⟩ : ∃ W6, ((((wd.setCell ⟨w.heap.size + 1, 0, none⟩ (.int .i64 1)).setCell ⟨w.heap.size + 1, 1, none⟩ (.int .i64 xn)).setCell ⟨w.heap.size + 1, 2, none⟩ (.string nm)).setCell ⟨w.heap.size + 1, 3, none⟩ (.slice a args.len c)) = W6 := ⟨_, rfl⟩
          have hEND := sub_end (y := ⟨1, xn, nm, args⟩) (base := base) (tmps := #[]) (HB0.out.trans (HBd.out.mono HB0.out.size)) hRd (Nat.le_succ _) HL.out.1 ((HT.out.below HBd.out fun q h => Nat.lt_trans (HLOW.out q h) (Nat.lt_of_succ_lt hz0')).mono fun q h => ⟨.inl h, by have := HLOW.out q h; omega⟩) HL.out.2.1 HL.out.2.2 hW6
          have HEND := Lib.hid hEND
          have hXd := HX0.out.below HBd.out (by omega)
          clear x0 x1 x2 x3 y0
          obtain ⟨x0, x1, x2, x3, _⟩ := hXd.cells4
          obtain ⟨s0, s1, s2, s3, sf0, sf1, sf2, sf3⟩ := hRd.cells4
          clear hEND hwd hRd hXd
          go_wp2_with fail
          obtain ⟨⟨q0, q1, q2, q3⟩, hP⟩ := HEND.out
          refine bodyPost_ret (v := .agg #[.int .i64 1, .int .i64 xn, .string nm, .slice a args.len c]) (by simp [results, Try.results17, go_sem, q0, q1, q2, q3]) rfl ?_
          rw [HE.out]
          exact hP
      · have hqb : (y == xn) = false := by simpa using hq
        have HQ := Lib.hid hq
        clear hq
        go_wp2_with fail
        go_region
        go_wp2_with fail
        go_roundg (l.length - (k + 1))
        case measure => have := HK.out; omega
        case rel =>
          refine ⟨HB.out.drew, k + 1, by have := HK.out; omega, by go_num, fun j hj => ?_⟩
          by_cases e : j = k
          · subst e
            rw [HY.out]
            intro h
            injection h with h
            exact HQ.out h
          · exact HNO.out j (by omega)
    · have hge : ¬ (k : Int) < l.length := by omega
      have HE := Lib.hid (show sub1 (subF l W) ⟨1, xn, nm, args⟩ = ⟨1, xn, nm, args⟩ by
        rw [HES.out]
        unfold subF
        rw [idx_no (fun hm => by
          obtain ⟨j, hj⟩ := List.getElem?_of_mem hm
          exact HNO.out j (by have := (List.getElem?_eq_some_iff.1 hj).1; omega) hj)]
        rfl)
      obtain ⟨W6, hW6⟩ : ∃ W6, ((((wr.setCell ⟨w.heap.size + 1, 0, none⟩ (.int .i64 1)).setCell ⟨w.heap.size + 1, 1, none⟩ (.int .i64 xn)).setCell ⟨w.heap.size + 1, 2, none⟩ (.string nm)).setCell ⟨w.heap.size + 1, 3, none⟩ (.slice a args.len c)) = W6 := ⟨_, rfl⟩
      have hEND := sub_end (y := ⟨1, xn, nm, args⟩) (base := base) (tmps := #[]) HBW.out HRB2.out (Nat.le_succ _) HL.out.1 ((HT.out.below HB.out fun q h => Nat.lt_trans (HLOW.out q h) (Nat.lt_of_succ_lt hz0')).mono fun q h => ⟨.inl h, by have := HLOW.out q h; omega⟩) HL.out.2.1 HL.out.2.2 hW6
      have HEND := Lib.hid hEND
      obtain ⟨s0, s1, s2, s3, sf0, sf1, sf2, sf3⟩ := HRB2.out.cells4
      clear hEND
      go_wp2_with fail
      obtain ⟨⟨q0, q1, q2, q3⟩, hP⟩ := HEND.out
      refine bodyPost_ret (v := .agg #[.int .i64 1, .int .i64 xn, .string nm, .slice a args.len c]) (by simp [results, Try.results17, go_sem, q0, q1, q2, q3]) rfl ?_
      rw [HE.out]
      exact hP
end Go.Proofs.Ytgomafdhckfnbaa.Un
/-
  CONTRACT of layer unify: the document's Subst.
-/
namespace Go.Proofs.Ytgomafdhckfnbaa.Un
open Go.RowKit Mm Tm Rn
set_option linter.unusedVariables false
set_option linter.unusedSimpArgs false
/-- a row of types of the call's own; their parts lie in what came in, or in new memory, but not in it -/
def OwnS (base B : Nat) (w : World) (v : Value) (l : List Ty) : Prop := ∃ vs, w.ownsRow B TT 4 v l.length vs ∧ RowT (fun b => ZS base B w b ∧ v.ownBlock ≠ some b) w vs l
theorem OwnS.nil (base B : Nat) (w : World) : OwnS base B w (.slice none 0 0) [] := ⟨[], World.ownsRow_nil _ _ _ _, rfl⟩
theorem OwnS.here {base B : Nat} {w w' : World} {v : Value} {l : List Ty} (h : OwnS base B w v l) (hb : Below w.heap.size w w') (hB : base ≤ w.heap.size) : OwnS base B w' v l := by
  obtain ⟨vs, h1, h2⟩ := h
  exact ⟨vs, own_here h1 hb, (h2.below hb fun b hz => hz.1.elim (fun q => Nat.lt_of_lt_of_le q hB) fun q => q.2).mono fun b hz => ⟨hz.1.imp id fun q => ⟨q.1, Nat.lt_of_lt_of_le q.2 hb.size⟩, hz.2⟩⟩
theorem OwnS.reads {base B : Nat} {w : World} {v : Value} {l : List Ty} (h : OwnS base B w v l) : ∃ a c, v = .slice a l.length c ∧ RdT (ZS base B w) w a (Tys.ofL l) 0 := by
  obtain ⟨vs, h1, h2⟩ := h
  obtain ⟨b, d, hv⟩ := own_slice h1
  refine ⟨b, d, hv, RdT.mk fun i x hx => ?_⟩
  rw [Tys.toL_ofL] at hx
  have hi : i < l.length := (List.getElem?_eq_some_iff.1 hx).1
  have h1' := h1
  rw [hv] at h1'
  obtain ⟨g, rfl, hg1, hg2, _, hc⟩ := own_at h1' (by omega)
  obtain ⟨a2, c2, g0, g1, g2, g3, g4, g5, g6⟩ := h2.get i x hx
  have hadd : ((⟨g, 0, none⟩ : Addr).add ((0 + i) * 4)) = ⟨g, i * 4, none⟩ := by
    rw [Nat.zero_add]
    simp [Addr.add]
    try (intro e; omega)
  refine ⟨⟨g, 0, none⟩, a2, c2, rfl, .inr ⟨hg1, hg2⟩, ?_, ?_, ?_, ?_, g4, g5, g6.mono fun b hZ => hZ.1⟩
  · rw [hadd, hc _ (by omega)]; exact g0
  · rw [hadd]; show w.cell? ⟨g, i * 4 + 1, none⟩ = _; rw [hc _ (by omega)]; exact g1
  · rw [hadd]; show w.cell? ⟨g, i * 4 + 2, none⟩ = _; rw [hc _ (by omega)]; exact g2
  · rw [hadd]; show w.cell? ⟨g, i * 4 + 3, none⟩ = _; rw [hc _ (by omega)]; exact g3
/-- one more type behind the row that a box holds -/
theorem subst_push {base B P8 n : Nat} {kd : Int} {nm : ByteArray} {v v' : Value} {vs : List Value} {ys : List Ty} {y : Ty} {a : Option Addr} {c : Nat} {w3 wE : World} {o : Obj} (hyn : ys.length = n) (h1 : w3.ownsRow B TT 4 v n vs) (h2 : RowT (fun b => ZS base B w3 b ∧ v.ownBlock ≠ some b) w3 vs ys) (hbP : base ≤ P8) (hPB : P8 < B) (hBw : B ≤ w3.heap.size) (hP : Box w3 P8 TT #[.int .i64 kd, .int .i64 0, .string nm, v])
    (hy : RdT (fun b => ZS base B w3 b ∧ v.ownBlock ≠ some b) w3 a y.args 0) (hl : y.args.len * 56 ≤ 140737488355328) (hn : y.nm.size ≤ 9223372036854775807)
    (hown : wE.ownsRow B TT 4 v' (n + 1) (vs ++ [.int .i64 y.kd, .int .i64 y.n, .string y.nm, .slice a y.args.len c])) (hg : (w3.alloc o).grownBy wE v.ownBlock) (hat : v'.ownBlock = v.ownBlock ∨ v'.ownBlock = some (w3.heap.size + 1)) :
    Box wE P8 TT #[.int .i64 kd, .int .i64 0, .string nm, v] ∧ Box (wE.setCell ⟨P8, 3, none⟩ v') P8 TT #[.int .i64 kd, .int .i64 0, .string nm, v'] ∧ OwnS base B (wE.setCell ⟨P8, 3, none⟩ v') v' (ys ++ [y]) ∧ Kept (fun b => b = P8 ∨ B ≤ b) w3 (wE.setCell ⟨P8, 3, none⟩ v') := by
  have hkE : Kept (fun b => v.ownBlock = some b) w3 wE := ((Kept.refl _ w3).alloc o).grown hg (fun k e _ => e)
  have hvB : ∀ b, v.ownBlock = some b → B ≤ b ∧ b < w3.heap.size := fun b e => ⟨(own_tyB h1 e).1, (own_tyB h1 e).2.lt⟩
  have hPE : Box wE P8 TT #[.int .i64 kd, .int .i64 0, .string nm, v] := hkE.box hP (fun e => by have := (hvB _ e).1; omega)
  have hlt : ∀ b, ZS base B w3 b → b < w3.heap.size ∧ b ≠ P8 := fun b q => q.elim (fun q => ⟨by omega, by omega⟩) fun q => ⟨q.2, by omega⟩
  have hz : ∀ b, (ZS base B w3 b ∧ v.ownBlock ≠ some b) → (wE.setCell ⟨P8, 3, none⟩ v').heap[b]? = w3.heap[b]? := fun b q => (Below.heap_setCell _ _ _ _ (by show b ≠ P8; exact (hlt b q.1).2)).trans (hkE.block b (hlt b q.1).1 q.2)
  have hsz : w3.heap.size ≤ (wE.setCell ⟨P8, 3, none⟩ v').heap.size := by rw [World.size_setCell]; exact hkE.size
  have hz2 : ∀ b, (ZS base B w3 b ∧ v.ownBlock ≠ some b) → ZS base B (wE.setCell ⟨P8, 3, none⟩ v') b ∧ v'.ownBlock ≠ some b := fun b q => ⟨q.1.imp id fun q => ⟨q.1, Nat.lt_of_lt_of_le q.2 hsz⟩, fun e => hat.elim (fun r => q.2 (by rw [← r]; exact e)) fun r => by
    have h9 : some b = some (w3.heap.size + 1) := e.symm.trans r
    injection h9 with h9
    have := (hlt b q.1).1
    omega⟩
  refine ⟨hPE, hPE.put 3 v', ⟨vs ++ [.int .i64 y.kd, .int .i64 y.n, .string y.nm, .slice a y.args.len c], ?_, ?_⟩, ?_⟩
  · rw [List.length_append, hyn]
    have hne : v'.ownBlock ≠ some P8 := fun e => hat.elim (fun r => by have := (hvB P8 (by rw [← r]; exact e)).1; omega) fun r => by
      have h9 : some P8 = some (w3.heap.size + 1) := e.symm.trans r
      injection h9 with h9
      omega
    exact kept_own (X := fun b => b = P8) (Kept.setCell (X := fun b => b = P8) (Kept.refl _ wE) (a := ⟨P8, 3, none⟩) (fun _ => rfl) v') hown (fun g e q => hne (by rw [← q]; exact e))
  · exact RowT.snoc (c2 := c) hn hl (hy.frame (fun b o hZ => World.cell?_of_block (hz b hZ)) (fun ad hZ => World.cell?_of_block (hz _ hZ)) hz2) (h2.frame (fun b o hZ => World.cell?_of_block (hz b hZ)) (fun ad hZ => World.cell?_of_block (hz _ hZ)) hz2)
  · exact Kept.setCell (X := fun b => b = P8 ∨ B ≤ b) (hkE.mono fun b _ e => .inr (hvB b e).1) (a := ⟨P8, 3, none⟩) (fun _ => .inl rfl) v'
/-- what a call within has told lies in no row of the caller's own -/
theorem zs_in {base B n : Nat} {w w3 : World} {v : Value} {vs : List Value} {a : Option Addr} {t : Tys} (hr : RdT (ZS base w.heap.size w3) w3 a t 0) (ho : w.ownsRow B TT 4 v n vs) (hbB : base ≤ B) (hBw : B ≤ w.heap.size) : RdT (fun b => ZS base B w3 b ∧ v.ownBlock ≠ some b) w3 a t 0 :=
  hr.mono fun b q => ⟨q.imp id fun q => ⟨Nat.le_trans hBw q.1, q.2⟩, fun e => by
    have h1 := own_tyB ho e
    have h2 := h1.2.lt
    rcases q with q | ⟨q, q2⟩ <;> omega⟩
theorem zs_row {base B : Nat} {w w3 : World} {v : Value} {vs : List Value} {ys : List Ty} (h2 : RowT (fun b => ZS base B w b ∧ v.ownBlock ≠ some b) w vs ys) (hb : Below w.heap.size w w3) (hbase : base ≤ w.heap.size) : RowT (fun b => ZS base B w3 b ∧ v.ownBlock ≠ some b) w3 vs ys :=
  (h2.below hb fun b hz => hz.1.elim (fun q => Nat.lt_of_lt_of_le q hbase) fun q => q.2).mono fun b hz => ⟨hz.1.imp id fun q => ⟨q.1, Nat.lt_of_lt_of_le q.2 hb.size⟩, hz.2⟩
def RSubC (base : Nat) (l : List Int) (W : List Ty) (b p : Option Addr) (cb cp : Nat) (x : Ty) : Prop := ∀ (a : Option Addr) (c : Nat) (w : World), base ≤ w.heap.size → RdT (fun k => k < base) w a x.args 0 → x.args.len * 56 ≤ 140737488355328 → x.nm.size ≤ 9223372036854775807 → okTy x = true → RdI (fun k => k < base) w b l → RdT (fun k => k < base) w p (Tys.ofL W) 0 →
  Calls Try.prog 17 #[tyV x a c, .slice b l.length cb, .slice p W.length cp] w (SubPost base (sub1 (subF l W) x) w)
set_option maxRecDepth 100000 in
set_option maxHeartbeats 8000000 in
theorem rsubst_of {base : Nat} {x : Ty} {a b p : Option Addr} {c cb cp : Nat} {l : List Int} {W : List Ty} (w : World) (hk : x.kd ≠ 1) (hbase : base ≤ w.heap.size) (hr : RdT (fun k => k < base) w a x.args 0) (hlx : x.args.len * 56 ≤ 140737488355328) (hnx : x.nm.size ≤ 9223372036854775807) (hok : okTy x = true)
    (hl : RdI (fun k => k < base) w b l) (hp : RdT (fun k => k < base) w p (Tys.ofL W) 0) (hC : ∀ y ∈ x.args.toL, RSubC base l W b p cb cp y) :
    Calls Try.prog 17 #[.agg #[.int .i64 x.kd, .int .i64 x.n, .string x.nm, .slice a x.args.len c], .slice b l.length cb, .slice p W.length cp] w (SubPost base (sub1 (subF l W) x) w) := by
  obtain ⟨i0, hi, hz0, hz1, hz2'⟩ := info_parts Ttype
  obtain ⟨kd, xn, nm, args⟩ := x
  simp only at hk hr hlx hnx hC ⊢
  unfold okTy at hok
  simp only [if_neg hk, Bool.and_eq_true] at hok
  obtain ⟨hhd, hoka⟩ := hok
  have hxn : xn = 0 := by
    unfold headC at hhd
    rw [Bool.and_eq_true] at hhd
    exact of_decide_eq_true hhd.1
  subst hxn
  rw [okT_all] at hoka
  obtain ⟨W0, hW0⟩ : ∃ W0, ((w.alloc (.cells #[.int .i64 kd, .int .i64 0, .string nm, .slice a args.len c] TT)).alloc (.cells zeroTy TT)).alloc (.cells #[.int .i64 kd, .int .i64 0, .string nm, .slice none 0 0] TT) = W0 := ⟨_, rfl⟩
  have hB0 : Below w.heap.size w W0 := by rw [← hW0]; exact (((Below.refl w.heap.size w).alloc (Nat.le_refl _) _).alloc (by simp) _).alloc (by simp; omega) _
  have hX0 : Box W0 w.heap.size TT #[.int .i64 kd, .int .i64 0, .string nm, .slice a args.len c] := by rw [← hW0]; exact ((Box.new w _ _).alloc _).alloc _
  have hR0 : Box W0 (w.heap.size + 1) TT zeroTy := by rw [← hW0]; exact (Box.at_ _ _ (by simp)).alloc _
  have hP0 : Box W0 (w.heap.size + 2) TT #[.int .i64 kd, .int .i64 0, .string nm, .slice none 0 0] := by rw [← hW0]; exact Box.at_ _ _ (by simp)
  have hz0' : W0.heap.size = w.heap.size + 3 := by rw [← hW0]; simp
  have hlow : ∀ q, q < base → q < w.heap.size := fun q h => by omega
  have HI := Lib.hid (hl.below hB0 hlow)
  have HT := Lib.hid (hr.below hB0 hlow)
  have HP := Lib.hid (hp.below hB0 hlow)
  have HB0 := Lib.hid hB0
  have HX0 := Lib.hid hX0
  have HR0 := Lib.hid hR0
  have HP0 := Lib.hid hP0
  have HL := Lib.hid (And.intro hbase (And.intro hlx hnx))
  have HLOW := Lib.hid hlow
  have HC := Lib.hid hC
  have HOK := Lib.hid (List.all_eq_true.1 hoka)
  have HES := Lib.hid (show sub1 (subF l W) ⟨kd, 0, nm, args⟩ = ⟨kd, 0, nm, Tys.ofL (args.toL.map (sub1 (subF l W)))⟩ by
    have h : sub1 (subF l W) ⟨kd, 0, nm, args⟩ = ⟨kd, 0, nm, subT (subF l W) args⟩ := by unfold sub1; exact if_neg hk
    rw [h, ← subT_all, Tys.ofL_toL])
  have HTL := Lib.hid (Tys.toL_len args)
  have hlen : args.len ≤ 140737488355328 := by omega
  have qk : (kd == 1) = false := by simpa using hk
  obtain ⟨x0, x1, x2, x3, _⟩ := ((Box.new w #[.int .i64 kd, .int .i64 0, .string nm, .slice a args.len c] TT).alloc (.cells zeroTy TT)).cells4
  have HW0 := Lib.hid hW0
  clear hl hB0 hX0 hR0 hP0 hr hp hlx hnx hbase hk hhd hoka hlow hC hW0
  go_enter Try.func17, Try.ntmps17
  go_wp2_with fail
  rw [HW0.out]
  clear x0 x1 x2 x3
  go_loopg [9] args.len (fun d v wr => ∃ (i : Nat) (v8 : Value) (ys : List Ty), i + d = args.len ∧ v = .int .i64 i ∧ ys = (args.toL.take i).map (sub1 (subF l W)) ∧ Box wr (w.heap.size + 2) TT #[.int .i64 kd, .int .i64 0, .string nm, v8] ∧ OwnS base W0.heap.size wr v8 ys ∧ Kept (fun b => b = w.heap.size + 2 ∨ W0.heap.size ≤ b) W0 wr)
  case atStart => exact ⟨0, _, [], by omega, rfl, rfl, HP0.out, OwnS.nil _ _ _, Kept.refl _ _⟩
  case round =>
    obtain ⟨i, v8, ys, hid, rfl, hys, hp8, how, hkp⟩ := hrel
    have hyl : ys.length = i := by rw [hys, List.length_map, List.length_take, Tys.toL_len]; omega
    have HYS := Lib.hid hys
    have HOW := Lib.hid how
    have HKP := Lib.hid hkp
    have HK := Lib.hid hid
    have hile : i ≤ args.len := by omega
    have hsz := hkp.size
    have hX := hkp.box HX0.out (fun e => by omega)
    have hR := hkp.box HR0.out (fun e => by omega)
    obtain ⟨va, vc, rfl, hor⟩ := how.reads
    have HOR := Lib.hid hor
    rw [hyl] at hp8
    have HP8 := Lib.hid hp8
    have HYL := Lib.hid hyl
    have hpl : ∀ q, q < base → q < W0.heap.size ∧ ¬ (q = w.heap.size + 2 ∨ W0.heap.size ≤ q) := fun q h => by have := HLOW.out q h; omega
    have HPL := Lib.hid hpl
    obtain ⟨p0, p1, p2, p3, pf0, pf1, pf2, pf3⟩ := hp8.cells4
    obtain ⟨x0, x1, x2, x3, _⟩ := hX.cells4
    have HRB := Lib.hid hR
    clear hid hys hp8 how hkp hX hR hor hyl hpl
    by_cases hlt : i < args.len
    · have hlt' : (i : Int) < args.len := by omega
      obtain ⟨y, hy⟩ : ∃ y, args.toL[i]? = some y := ⟨_, List.getElem?_eq_getElem (by rw [Tys.toL_len]; exact hlt)⟩
      have hx := (HKP.out.types HT.out HPL.out).at_ i y hy
      rw [Nat.zero_add] at hx
      obtain ⟨ad, a2, c2, rfl, _, z0, z1, z2, z3, hyn, ha, hrd⟩ := hx
      have HTK := Lib.hid (show (args.toL.take (i + 1)).map (sub1 (subF l W)) = (args.toL.take i).map (sub1 (subF l W)) ++ [sub1 (subF l W) y] by rw [List.take_add_one, hy, List.map_append]; rfl)
      have HCC := Lib.hid (HC.out y (List.mem_of_getElem? hy) a2 c2 wr.drew (by have := HL.out.1; show base ≤ wr.heap.size; omega) hrd.drew ha hyn (HOK.out y (List.mem_of_getElem? hy)) (HI.out.frame (fun ad q => World.cell?_of_block (HKP.out.block _ (HPL.out _ q).1 (HPL.out _ q).2)) fun _ h => h) ((HKP.out.types HP.out HPL.out).drew))
      unfold tyV at HCC
      obtain ⟨z, hz⟩ : ∃ z, sub1 (subF l W) y = z := ⟨_, rfl⟩
      rw [hz] at HCC HTK
      have z8 : w.heap.size + 2 < wr.heap.size := by omega
      have hlx6 : args.len * 56 ≤ 140737488355328 := HL.out.2.1
      obtain ⟨vs, o1, o2⟩ := HOW.out
      rw [HYL.out] at o1 o2
      have HO1 := Lib.hid o1
      have HO2 := Lib.hid o2
      clear hrd hy hz o1 o2
      go_wp2_with fail
      go_region_law (first
        | (go_simp; go_at_call 17; refine HCC.out.mono ?_; rintro e w3 ⟨a3, c3, rfl, hrd3, hl3, hn3, hb3⟩; replace hb3 : Below wr.heap.size wr w3 := ⟨hb3.os, hb3.tape, hb3.output, hb3.size, hb3.block⟩; have HB3 := Lib.hid hb3; have HO3 := Lib.hid (own_here HO1.out hb3); have HP3 := Lib.hid (HP8.out.below hb3 z8); have q3 := HP3.out.cell 3; have z83 := HP3.out.lt; have HY3 := Lib.hid (And.intro (zs_in hrd3 HO1.out (by have := HL.out.1; omega) hsz) (And.intro hl3 hn3)); have HO4 := Lib.hid (zs_row HO2.out hb3 (by have := HL.out.1; omega)); clear hb3 hrd3 hl3 hn3)
        | (refine step_append_lies _ ?_ (.tmp 49) (.tmp 58) 27 ?_ W0.heap.size TT i0 _ 4 56 Try.underlying27 hi hz0 hz1 hz2' rfl (by decide) (.slice va i vc) i vs ?_ (HO3.out.alloc _) ⟨w3.heap.size, 0, none⟩ 1 1 [.int .i64 z.kd, .int .i64 z.n, .string z.nm, .slice a3 z.args.len c3] ?_ rfl ?_ ?_ (by decide) ?_ ?_ ?_ _ rfl ?_; exact rfl; exact rfl; exact rfl; exact rfl; exact news_new w3 #[.int .i64 z.kd, .int .i64 z.n, .string z.nm, .slice a3 z.args.len c3] TT; (intro u hu; simp only [List.mem_cons, List.not_mem_nil, or_false] at hu; rcases hu with rfl | rfl | rfl | rfl <;> rfl); (unfold maxLen; omega); omega; (have := HB3.out.size; simp; omega); intro g5 c5 w5 hown hgrow hat hlt5; have HPU := Lib.hid (subst_push (y := z) HYL.out HO3.out HO4.out (by have := HL.out.1; omega) (by omega) (by have := HB3.out.size; omega) HP3.out HY3.out.1 HY3.out.2.1 HY3.out.2.2 hown hgrow (hat.imp (fun e => by rw [e]; rfl) (fun e => by rw [e]; simp [Value.ownBlock]))); have m3 := HPU.out.1.cell 3; have f3 := HPU.out.1.free 3; clear hown hgrow hat hlt5))
      all_goals
        go_wp2_with fail
        go_roundg (args.len - (i + 1))
        case measure => have := HK.out; omega
        case rel => exact ⟨i + 1, _, ys ++ [z], by have := HK.out; omega, by go_num, by rw [HTK.out, ← HYS.out], HPU.out.2.1, HPU.out.2.2.1, (HKP.out.trans (Kept.of_below HB3.out (Nat.le_refl _) _)).trans HPU.out.2.2.2⟩
    · have hge : ¬ (i : Int) < args.len := by omega
      have hil : i = args.len := by omega
      have HE := Lib.hid (show sub1 (subF l W) ⟨kd, 0, nm, args⟩ = ⟨kd, 0, nm, Tys.ofL ys⟩ by
        have h := HYS.out
        rw [List.take_of_length_le (by rw [HTL.out]; omega)] at h
        rw [HES.out, h])
      have HYI := Lib.hid (show (Tys.ofL ys).len = i by rw [Tys.len_ofL, HYL.out])
      obtain ⟨W6, hW6⟩ : ∃ W6, ((((wr.setCell ⟨w.heap.size + 1, 0, none⟩ (.int .i64 kd)).setCell ⟨w.heap.size + 1, 1, none⟩ (.int .i64 0)).setCell ⟨w.heap.size + 1, 2, none⟩ (.string nm)).setCell ⟨w.heap.size + 1, 3, none⟩ (.slice va i vc)) = W6 := ⟨_, rfl⟩
      have hBW : Below w.heap.size w wr := HB0.out.trans (Kept.below HKP.out (by omega) (fun k q => by omega))
      have hEND := sub_end (y := ⟨kd, 0, nm, Tys.ofL ys⟩) (base := base) (tmps := #[]) hBW HRB.out (Nat.le_succ _) HL.out.1 (HOR.out.mono fun q h => ⟨h.imp id fun h => ⟨by omega, h.2⟩, fun e => h.elim (fun h => by have := HLOW.out q h; omega) fun h => by omega⟩) (by show (Tys.ofL ys).len * 56 ≤ _; rw [HYI.out]; have := HL.out.2.1; omega) HL.out.2.2 (by show _ = _; simp only [HYI.out]; exact hW6)
      simp only [HYI.out] at hEND
      have HEND := Lib.hid hEND
      obtain ⟨s0, s1, s2, s3, sf0, sf1, sf2, sf3⟩ := HRB.out.cells4
      clear hEND hil hBW
      go_wp2_with fail
      obtain ⟨⟨q0, q1, q2, q3⟩, hP⟩ := HEND.out
      refine bodyPost_ret (v := .agg #[.int .i64 kd, .int .i64 0, .string nm, .slice va i vc]) (by simp [results, Try.results17, go_sem, q0, q1, q2, q3]) rfl ?_
      rw [HE.out]
      exact hP
theorem rsubst_any {base : Nat} {l : List Int} {W : List Ty} {b p : Option Addr} {cb cp : Nat} (hn : l.length ≤ 1000000) (hW : W.length ≤ 1000000) : ∀ (q : Nat) (x : Ty), x.args.nodes ≤ q → RSubC base l W b p cb cp x := by
  intro q
  induction q with
  | zero =>
    intro x hx a c w hb hr hl hnm hok hi hp
    by_cases hk : x.kd = 1
    · exact rsubst_var w hk hb hr hl hnm hi hn hp hW
    · refine rsubst_of w hk hb hr hl hnm hok hi hp fun y hy => ?_
      obtain ⟨i, hi⟩ := List.getElem?_of_mem hy
      have := Tys.nodes_get x.args i y hi
      omega
  | succ q ih =>
    intro x hx a c w hb hr hl hnm hok hi hp
    by_cases hk : x.kd = 1
    · exact rsubst_var w hk hb hr hl hnm hi hn hp hW
    · refine rsubst_of w hk hb hr hl hnm hok hi hp fun y hy => ?_
      obtain ⟨i, hi⟩ := List.getElem?_of_mem hy
      have := Tys.nodes_get x.args i y hi
      exact ih y (by omega)
end Go.Proofs.Ytgomafdhckfnbaa.Un
/-
  CONTRACT of layer unify: a variable is noted, if it is none of those noted ahead.
-/
namespace Go.Proofs.Ytgomafdhckfnbaa.Un
open Go.RowKit Mm Tm Mk Rn Go.Maps Go.ChangeMaps Go.MapKept Go.WideMaps
set_option linter.unusedVariables false
set_option linter.unusedSimpArgs false
abbrev TIs : TypeId := 37
abbrev TSeen : TypeId := 88
/-- the variables noted: how often each came up, the row of them, each once -/
structure VarsI (base : Nat) (w : World) (sb lb mm : Nat) (l : List Int) (vis : Nat) : Prop where
  sbx : Box w sb TSeen #[.map (some mm)]
  row : ∃ a c, Box w lb TIs #[.slice a l.length c] ∧ OwnI base TI w (.slice a l.length c) l
  map : ∃ Fs cs, MapK w Try.prog TI mm Fs cs ∧ cs ≤ vis ∧ ∀ n, inI n = true → ∃ k : Nat, (Fs (.int .i64 n)).getD (.int .i64 0) = .int .i64 k ∧ k ≤ vis ∧ (0 < k ↔ n ∈ l)
  lbl : base ≤ lb
  mml : base ≤ mm
  sbl : base ≤ sb
theorem VarsI.below {base : Nat} {w w' : World} {sb lb mm : Nat} {l : List Int} {vis : Nat} (h : VarsI base w sb lb mm l vis) (hb : Below w.heap.size w w') : VarsI base w' sb lb mm l vis := by
  obtain ⟨h1, ⟨a, c, h2, h3⟩, ⟨Fs, cs, h4, h5⟩, h6, h7, h8⟩ := h
  exact ⟨h1.below hb h1.lt, ⟨a, c, h2.below hb h2.lt, h3.here hb⟩, ⟨Fs, cs, h4.below hb h4.lt, h5⟩, h6, h7, h8⟩
theorem VarsI.drew {base : Nat} {w : World} {sb lb mm : Nat} {l : List Int} {vis : Nat} (h : VarsI base w sb lb mm l vis) : VarsI base w.drew sb lb mm l vis := h.below (Below.refl _ w).drew
/-- nothing turned but the row of variables, its box, the map -/
def NK (base lb mm : Nat) (w w' : World) : Prop := KG base (· = TI) (fun b => b = lb ∨ b = mm) w w'
def VarsPost (base sb lb mm : Nat) (l : List Int) (vis : Nat) (w : World) (e : Ending) (w' : World) : Prop := e = .returned (.tuple #[]) ∧ VarsI base w' sb lb mm l vis ∧ NK base lb mm w w'
/-- the map behind a variable that came up once more -/
theorem note_map {l l' : List Int} {n : Int} {k vis : Nat} {Fs : FK} (h6 : ∀ n, inI n = true → ∃ k : Nat, (Fs (.int .i64 n)).getD (.int .i64 0) = .int .i64 k ∧ k ≤ vis ∧ (0 < k ↔ n ∈ l)) (hkv : k ≤ vis) (hl' : ∀ m, m ∈ l' ↔ m ∈ l ∨ m = n) {v1 : Int} (hv1 : v1 = (k : Int) + 1) :
    ∀ m, inI m = true → ∃ k' : Nat, ((updK Fs (.int .i64 n) (.int .i64 v1)) (.int .i64 m)).getD (.int .i64 0) = .int .i64 k' ∧ k' ≤ vis + 1 ∧ (0 < k' ↔ m ∈ l') := by
  intro m hm
  by_cases e : m = n
  · subst e
    refine ⟨k + 1, ?_, Nat.succ_le_succ hkv, ?_⟩
    · unfold updK
      rw [if_pos rfl, hv1]
      rfl
    · exact ⟨fun _ => (hl' m).2 (.inr rfl), fun _ => Nat.succ_pos _⟩
  · obtain ⟨k', q1, q2, q3⟩ := h6 m hm
    refine ⟨k', ?_, Nat.le_succ_of_le q2, ?_⟩
    · unfold updK
      rw [if_neg (fun q => e (by injection q))]
      exact q1
    · rw [hl' m, q3]
      exact ⟨.inl, fun q => q.elim id fun q => absurd q e⟩
/-- what the walk goes by -/
structure NoteW (base : Nat) (w W1 : World) (sb lb mm : Nat) (l : List Int) (vis : Nat) (a : Option Addr) (c : Nat) (n : Int) (v0 v1 : Int) : Prop where
  look0 : (Instr.lookup 88 (.map (some mm)) (.int .i64 n) false).run Try.prog w = .ok (.int .i64 v0) w
  upd : (Instr.mapUpdate 88 (.map (some mm)) (.int .i64 n) (.int .i64 v1)).run Try.prog w = .ok () W1
  look1 : (Instr.lookup 88 (.map (some mm)) (.int .i64 n) false).run Try.prog W1 = .ok (.int .i64 v1) W1
  bs0 : Box w sb TSeen #[.map (some mm)]
  bs : Box W1 sb TSeen #[.map (some mm)]
  bl : Box W1 lb TIs #[.slice a l.length c]
  own : W1.ownsRow base TI 1 (.slice a l.length c) l.length (l.map fun x => .int .i64 x)
  bel : NK base lb mm w W1
  own0 : w.ownsRow base TI 1 (.slice a l.length c) l.length (l.map fun x => .int .i64 x)
  lo : base ≤ lb ∧ base ≤ mm ∧ base ≤ sb
set_option maxRecDepth 100000 in
theorem note_facts {base : Nat} {w : World} {sb lb mm vis : Nat} {l : List Int} {n : Int} (h : VarsI base w sb lb mm l vis) (hn : inI n = true) (hv : vis ≤ 1000000) (hb : base ≤ w.heap.size) :
    ∃ (k : Nat) (a : Option Addr) (c : Nat), k ≤ vis ∧ (0 < k ↔ n ∈ l) ∧ ∀ v1 : Int, v1 = (k : Int) + 1 → ∃ W1, NoteW base w W1 sb lb mm l vis a c n k v1 ∧
      ∀ l' : List Int, (∀ m, m ∈ l' ↔ m ∈ l ∨ m = n) → ∃ Fs cs, MapK W1 Try.prog TI mm Fs cs ∧ cs ≤ vis + 1 ∧ ∀ n, inI n = true → ∃ k : Nat, (Fs (.int .i64 n)).getD (.int .i64 0) = .int .i64 k ∧ k ≤ vis + 1 ∧ (0 < k ↔ n ∈ l') := by
  obtain ⟨h1, ⟨a, c, h2, h3⟩, ⟨Fs, cs, h4, h5, h6⟩, h7, h8, h9⟩ := h
  obtain ⟨k, hk, hkv, hkl⟩ := h6 n hn
  have hkey := key_int (inI_iff.1 hn)
  refine ⟨k, a, c, hkv, hkl, fun v1 hv1 => ?_⟩
  obtain ⟨W1, hupd, hmk1, hturn1⟩ := map_put_run (.int .i64 v1) h4 (by omega) hn
  have hown1 : W1.ownsRow base TI 1 (.slice a l.length c) l.length (l.map fun x => .int .i64 x) :=
    World.ownsRow.kept h3 hturn1 (.inr fun e => map_notTyB h4 (own_tyB h3 e).2)
  refine ⟨W1, ⟨by rw [h4.look keyI Try.underlying88 (zeroI w) hkey (lit_int n), hk], hupd, ?_, h1, h1.grown hturn1 (fun e => h4.ne h1 (by injection e with e; exact e.symm)), h2.grown hturn1 (fun e => h4.ne h2 (by injection e with e; exact e.symm)), hown1, (KG.refl base _ _ w).grown hturn1 (fun q e _ => by injection e with e; rw [← e]; exact ⟨h8, .inl (.inr rfl)⟩), h3, h7, h8, h9⟩, fun l' hl' => ⟨_, _, hmk1, Nat.le_trans (cntPut_le _ _ _) (Nat.succ_le_succ h5), note_map h6 hkv hl' hv1⟩⟩
  rw [hmk1.look keyI Try.underlying88 (zeroI W1) hkey (lit_int n)]
  unfold updK
  rw [if_pos rfl]
  rfl
set_option maxRecDepth 100000 in
set_option maxHeartbeats 4000000 in
theorem note_any {base sb lb mm vis : Nat} {l : List Int} {n : Int} (w : World) (h : VarsI base w sb lb mm l vis) (hn : inI n = true) (hv : vis ≤ 1000000) (hl : l.length ≤ 1000000) (hb : base ≤ w.heap.size) :
    Calls Try.prog 44 #[.int .i64 n, .pointer (some ⟨sb, 0, none⟩), .pointer (some ⟨lb, 0, none⟩)] w (VarsPost base sb lb mm (addV l n) (vis + 1) w) := by
  obtain ⟨i0, hi, hz0, hz1, hz2'⟩ := info_parts Tint
  obtain ⟨k, a, c, hkv, hkl, hall⟩ := note_facts h hn hv hb
  by_cases hm : n ∈ l
  · have hk0 : 0 < k := hkl.2 hm
    obtain ⟨W1, hW, hM⟩ := hall ((k : Int) + 1) rfl
    obtain ⟨Fs, cs, hmk, hcs, hmm⟩ := hM l fun m => ⟨.inl, fun q => q.elim id fun q => by rw [q]; exact hm⟩
    have hlook0 := hW.look0
    have hupd := hW.upd
    have hlook1 := hW.look1
    have s0 : w.cell? ⟨sb, 0, none⟩ = some (.map (some mm)) := hW.bs0.cell 0
    have s1 : W1.cell? ⟨sb, 0, none⟩ = some (.map (some mm)) := hW.bs.cell 0
    have hw1 : wrap64 ((k : Int) + 1) = (k : Int) + 1 := IntWalk.wrap64_in _ (by omega)
    have hne : ((k : Int) + 1 == 1) = false := by simp; omega
    have HE := Lib.hid (show addV l n = l by unfold addV; rw [if_pos hm])
    have HW := Lib.hid hW
    have HM := Lib.hid (show VarsI base W1 sb lb mm l (vis + 1) from ⟨hW.bs, ⟨a, c, hW.bl, hW.own⟩, ⟨Fs, cs, hmk, hcs, hmm⟩, hW.lo.1, hW.lo.2.1, hW.lo.2.2⟩)
    clear hm hk0 hW hM hmk hcs hmm hall hkl h
    go_enter Try.func44, Try.ntmps44
    go_wp2_with fail
    go_end0
    rw [HE.out]
    exact ⟨rfl, HM.out, HW.out.bel⟩
  · obtain rfl : k = 0 := by
      rcases Nat.eq_zero_or_pos k with e | e
      · exact e
      · exact absurd (hkl.1 e) hm
    obtain ⟨W1, hW, hM⟩ := hall 1 rfl
    obtain ⟨Fs, cs, hmk, hcs, hmm⟩ := hM (l ++ [n]) fun m => by simp
    have hlook0 := hW.look0
    have hupd := hW.upd
    have hlook1 := hW.look1
    have s0 : w.cell? ⟨sb, 0, none⟩ = some (.map (some mm)) := hW.bs0.cell 0
    have s1 : W1.cell? ⟨sb, 0, none⟩ = some (.map (some mm)) := hW.bs.cell 0
    have l1 : W1.cell? ⟨lb, 0, none⟩ = some (.slice a l.length c) := hW.bl.cell 0
    have zW1 : base ≤ W1.heap.size := Nat.le_trans hb (KG.size hW.bel)
    have HE := Lib.hid (show addV l n = l ++ [n] by unfold addV; rw [if_neg hm])
    have HW := Lib.hid hW
    have HM := Lib.hid (And.intro hmk (And.intro hcs hmm))
    clear hm hW hM hmk hcs hmm hall hkl h
    rw [show ((0 : Nat) : Int) = 0 from rfl] at hlook0
    go_enter Try.func44, Try.ntmps44
    go_wp2_with (at_builtin; refine wpList_append_own _ rfl _ _ 37 rfl base TI i0 _ 1 8 Try.underlying37 hi hz0 hz1 hz2' rfl (by decide) _ _ _ rfl (HW.out.own.alloc _) ⟨W1.heap.size, 0, none⟩ 1 1 [.int .i64 n] rfl rfl (Go.cell_one_new _ _ _) (fun u hu => by simp only [List.mem_singleton] at hu; rw [hu]; rfl) (by unfold maxLen; omega) (by omega) (by simp; omega) ?_)
    intro v7 w7 hown hgrow _
    obtain ⟨a7, c7, rfl⟩ := own_slice hown
    have hbl7 := (HW.out.bl.alloc (.cells #[.int .i64 n] TI)).grown hgrow (own_ne HW.out.own HW.out.bl (by decide))
    have hbs7 := (HW.out.bs.alloc (.cells #[.int .i64 n] TI)).grown hgrow (own_ne HW.out.own HW.out.bs (by decide))
    have hm7 := (HM.out.1.alloc (.cells #[.int .i64 n] TI)).kept hgrow (fun e => map_notTyB HM.out.1 (own_tyB HW.out.own e.symm).2)
    have hB7 : NK base lb mm w w7 := (KG.alloc HW.out.bel (.cells #[.int .i64 n] TI)).grown hgrow (fun q hq _ => ⟨(own_tyB HW.out.own0 hq).1, .inr ⟨TI, rfl, (own_tyB HW.out.own0 hq).2⟩⟩)
    have HW8 := Lib.hid (show VarsI base (w7.setCell ⟨lb, 0, none⟩ (.slice a7 (l.length + 1) c7)) sb lb mm (l ++ [n]) (vis + 1) from
      ⟨hbs7.far (fun e : lb = sb => absurd ((show Box w7 sb TIs _ by rw [← e]; exact hbl7).same hbs7) (by decide)) _,
       ⟨a7, c7, by rw [List.length_append]; exact hbl7.put 0 _, by unfold OwnI; rw [List.length_append, List.map_append]; exact own_far hown hbl7 (by decide) 0 _⟩,
       ⟨Fs, cs, hm7.setCell (fun e => hm7.ne hbl7 e) _, HM.out.2.1, HM.out.2.2⟩, HW.out.lo.1, HW.out.lo.2.1, HW.out.lo.2.2⟩)
    have HB8 := Lib.hid (show NK base lb mm w (w7.setCell ⟨lb, 0, none⟩ (.slice a7 (l.length + 1) c7)) from KG.setCell hB7 (a := ⟨lb, 0, none⟩) HW.out.lo.1 (fun _ => .inl (.inl rfl)) (.slice a7 (l.length + 1) c7))
    have y0 := hbl7.cell 0
    have f0 := hbl7.free 0
    clear hown hgrow hbl7 hbs7 hm7 hB7
    go_wp2_with fail
    go_end0
    rw [HE.out]
    exact ⟨rfl, HW8.out, HB8.out⟩
end Go.Proofs.Ytgomafdhckfnbaa.Un
/-
  CONTRACT of layer unify: the code's variables of a type.
-/
namespace Go.Proofs.Ytgomafdhckfnbaa.Un
open Go.RowKit Mm Tm Mk Rn Go.Maps Go.ChangeMaps Go.MapKept Go.WideMaps
set_option linter.unusedVariables false
set_option linter.unusedSimpArgs false
abbrev doN (sb lb : Nat) : Value := .func (.func 44) #[] #[.pointer (some ⟨sb, 0, none⟩), .pointer (some ⟨lb, 0, none⟩)]
def EachNC (base sb lb mm : Nat) (x : Ty) : Prop := ∀ (a : Option Addr) (c : Nat) (w : World) (l : List Int) (vis : Nat), VarsI base w sb lb mm l vis → base ≤ w.heap.size → RdT (fun b => b < base) w a x.args 0 → x.args.len * 56 ≤ 140737488355328 → okTy x = true → vis + x.args.nodes + 1 ≤ 1000000 → l.length ≤ vis →
  Calls Try.prog 40 #[tyV x a c, doN sb lb] w (VarsPost base sb lb mm ((occ x).foldl addV l) (vis + (occ x).length) w)
theorem ok_inI {x : Ty} (h : okTy x = true) (hk : x.kd = 1) : inI x.n = true ∧ x.args.len = 0 := by
  unfold okTy headV at h
  rw [if_pos hk] at h
  simp only [Bool.and_eq_true, decide_eq_true_eq] at h
  obtain ⟨h1, h2, h3, h4⟩ := h
  refine ⟨inI_iff.2 ⟨?_, ?_⟩, h4⟩ <;> omega
set_option maxRecDepth 100000 in
set_option maxHeartbeats 4000000 in
theorem eachn_var {base sb lb mm vis : Nat} {l : List Int} {x : Ty} {a : Option Addr} {c : Nat} (w : World) (hk : x.kd = 1) (h : VarsI base w sb lb mm l vis) (hb : base ≤ w.heap.size) (hok : okTy x = true) (hv : vis + 1 ≤ 1000000) (hl : l.length ≤ vis) :
    Calls Try.prog 40 #[.agg #[.int .i64 x.kd, .int .i64 x.n, .string x.nm, .slice a x.args.len c], doN sb lb] w (VarsPost base sb lb mm ((occ x).foldl addV l) (vis + (occ x).length) w) := by
  obtain ⟨hi, h0⟩ := ok_inI hok hk
  obtain ⟨kd, xn, nm, args⟩ := x
  simp only at hk hi h0 ⊢
  subst hk
  have hocc : occ ⟨1, xn, nm, args⟩ = [xn] := by unfold occ; rw [if_pos rfl]
  rw [hocc, h0]
  obtain ⟨W0, hW0⟩ : ∃ W0, w.alloc (.cells #[.int .i64 1, .int .i64 xn, .string nm, .slice a 0 c] TT) = W0 := ⟨_, rfl⟩
  have hX := Box.at_ (w := w) (k := w.heap.size) #[.int .i64 1, .int .i64 xn, .string nm, .slice a 0 c] TT rfl
  have hB0 : Below w.heap.size w W0 := by rw [← hW0]; exact (Below.refl w.heap.size w).alloc (Nat.le_refl _) _
  rw [hW0] at hX
  have HN := Lib.hid (note_any (n := xn) W0 (h.below hB0) hi (by omega) (by omega) (Nat.le_trans hb hB0.size))
  have HX := Lib.hid hX
  have HB0 := Lib.hid hB0
  have HNE := Lib.hid (And.intro (show w.heap.size ≠ lb by obtain ⟨a', c', q, _⟩ := h.row; have := q.lt; omega) (show w.heap.size ≠ mm by obtain ⟨F, cs, q, _⟩ := h.map; have := q.lt; omega))
  obtain ⟨x0, x1, x2, x3, _⟩ := hX.cells4
  clear h hB0 hX hok
  go_enter Try.func40, Try.ntmps40
  go_wp2_with fail
  refine HN.out.mono ?_
  rintro e w2 ⟨rfl, hv2, hk2⟩
  have HV2 := Lib.hid hv2
  have HK2 := Lib.hid hk2
  have hX2 := KG.box hk2 HX.out (fun q => q.elim HNE.out.1 HNE.out.2) (by decide)
  clear hv2 hk2 x0 x1 x2 x3 hW0
  obtain ⟨x0, x1, x2, x3, _⟩ := hX2.cells4
  clear hX2
  go_wp2_with fail
  go_loopg [16] 0 (fun d v wr => v = .int .i64 0 ∧ wr = w2)
  case atStart => exact ⟨rfl, rfl⟩
  case round =>
    obtain ⟨rfl, rfl⟩ := hrel
    go_wp2_with fail
    go_end0
    exact ⟨rfl, HV2.out, (KG.of_below HB0.out (Nat.le_refl _)).trans HK2.out⟩
set_option maxRecDepth 100000 in
set_option maxHeartbeats 4000000 in
theorem eachn_of {base sb lb mm vis : Nat} {l : List Int} {x : Ty} {a : Option Addr} {c : Nat} (w : World) (hk : x.kd ≠ 1) (h : VarsI base w sb lb mm l vis) (hb : base ≤ w.heap.size) (hr : RdT (fun b => b < base) w a x.args 0) (hlx : x.args.len * 56 ≤ 140737488355328) (hok : okTy x = true) (hv : vis + x.args.nodes + 1 ≤ 1000000) (hl : l.length ≤ vis)
    (hC : ∀ y ∈ x.args.toL, EachNC base sb lb mm y) :
    Calls Try.prog 40 #[.agg #[.int .i64 x.kd, .int .i64 x.n, .string x.nm, .slice a x.args.len c], doN sb lb] w (VarsPost base sb lb mm ((occ x).foldl addV l) (vis + (occ x).length) w) := by
  have hoka : ∀ y ∈ x.args.toL, okTy y = true := by
    unfold okTy at hok
    rw [if_neg hk, Bool.and_eq_true, okT_all] at hok
    exact List.all_eq_true.1 hok.2
  have hocc : occ x = x.args.toL.flatMap occ := by rw [← occT_all]; unfold occ; rw [if_neg hk]
  obtain ⟨W0, hW0⟩ : ∃ W0, w.alloc (.cells #[.int .i64 x.kd, .int .i64 x.n, .string x.nm, .slice a x.args.len c] TT) = W0 := ⟨_, rfl⟩
  have hX := Box.at_ (w := w) (k := w.heap.size) #[.int .i64 x.kd, .int .i64 x.n, .string x.nm, .slice a x.args.len c] TT rfl
  have hB0 : Below w.heap.size w W0 := by rw [← hW0]; exact (Below.refl w.heap.size w).alloc (Nat.le_refl _) _
  rw [hW0] at hX
  have HS0 := Lib.hid (h.below hB0)
  have HR := Lib.hid (hr.below hB0 fun q hq => Nat.lt_of_lt_of_le hq hb)
  have HB0 := Lib.hid hB0
  have HC := Lib.hid (And.intro hC hoka)
  have HV := Lib.hid (And.intro hv (And.intro hl hb))
  have HOC := Lib.hid hocc
  have HTL := Lib.hid (Tys.toL_len x.args)
  have HSZ := Lib.hid (sizes_all x.args)
  have hlen : x.args.len ≤ 140737488355328 := by omega
  have qk : (x.kd == 1) = false := by simpa using hk
  obtain ⟨x0, x1, x2, x3, _⟩ := hX.cells4
  clear h hB0 hX hok hr hC hoka hv hl hb hocc hk hlx
  go_enter Try.func40, Try.ntmps40
  go_wp2_with fail
  clear hW0 x0 x1 x2 x3
  go_loopg [5, 16] x.args.len (fun d v5 v wr => ∃ k : Nat, k + d = x.args.len ∧ v = .int .i64 k ∧ VarsI base wr sb lb mm (((x.args.toL.take k).flatMap occ).foldl addV l) (vis + ((x.args.toL.take k).flatMap occ).length) ∧ NK base lb mm W0 wr)
  case atStart => exact ⟨0, by omega, rfl, by rw [List.take_zero]; exact HS0.out, KG.refl _ _ _ _⟩
  case round =>
    obtain ⟨k, hkd, rfl, hs, hkk⟩ := hrel
    have HK := Lib.hid hkd
    have HS := Lib.hid hs
    have HKK := Lib.hid hkk
    have hkle : k ≤ x.args.len := by omega
    clear hkd hs hkk
    by_cases hlt : k < x.args.len
    · have hlt' : (k : Int) < x.args.len := by omega
      obtain ⟨y, hy⟩ : ∃ y, x.args.toL[k]? = some y := ⟨_, List.getElem?_eq_getElem (by rw [Tys.toL_len]; exact hlt)⟩
      have hx := (Kept.types HKK.out HR.out (fun q hq => ⟨Nat.lt_of_lt_of_le (Nat.lt_of_lt_of_le hq HV.out.2.2) HB0.out.size, fun e => by have := e.1; omega⟩)).at_ k y hy
      rw [Nat.zero_add] at hx
      obtain ⟨ad, a2, c2, rfl, _, z0, z1, z2, z3, _, ha, hrd⟩ := hx
      have hocl : ((x.args.toL.take k).flatMap occ).length ≤ sizes (x.args.toL.take k) := by
        rw [← Tys.toL_ofL (x.args.toL.take k), ← occT_all, sizes_all]
        exact occ_nodes _
      have hsz2 : sizes (x.args.toL.take (k + 1)) = sizes (x.args.toL.take k) + (y.args.nodes + 1) := by rw [List.take_add_one, hy]; exact sizes_snoc _ _
      have hst := sizes_take x.args.toL (k + 1)
      have hfl := fold_len ((x.args.toL.take k).flatMap occ) l
      obtain ⟨W1, hW1⟩ : ∃ W1, wr.alloc (.cells #[.int .i64 y.kd, .int .i64 y.n, .string y.nm, .slice a2 y.args.len c2] TT) = W1 := ⟨_, rfl⟩
      have hB1 : Below wr.heap.size wr W1 := by rw [← hW1]; exact (Below.refl wr.heap.size wr).alloc (Nat.le_refl _) _
      have hX1 := Box.at_ (w := wr) (k := wr.heap.size) #[.int .i64 y.kd, .int .i64 y.n, .string y.nm, .slice a2 y.args.len c2] TT rfl
      rw [hW1] at hX1
      obtain ⟨u0, u1, u2, u3, _⟩ := hX1.cells4
      have hwb : base ≤ wr.heap.size := Nat.le_trans (Nat.le_trans HV.out.2.2 HB0.out.size) (KG.size HKK.out)
      have HCC := Lib.hid (HC.out.1 y (List.mem_of_getElem? hy) a2 c2 W1 _ _ (HS.out.below hB1) (Nat.le_trans hwb hB1.size) (hrd.below hB1 fun q hq => Nat.lt_of_lt_of_le hq hwb) ha (HC.out.2 y (List.mem_of_getElem? hy)) (by have := HV.out.1; have := HSZ.out; omega) (by have := HV.out.2.1; omega))
      unfold tyV at HCC
      have HF2 := Lib.hid (And.intro (fold_flat x.args.toL k y hy l) (show ((x.args.toL.take (k + 1)).flatMap occ).length = ((x.args.toL.take k).flatMap occ).length + (occ y).length by rw [List.take_add_one, hy, List.flatMap_append]; simp))
      have HB1 := Lib.hid hB1
      clear hrd hy hocl hsz2 hst hfl hB1 hX1 hwb
      go_wp2_with fail
      refine HCC.out.mono ?_
      rintro e w3 ⟨rfl, hs3, hk3⟩
      have HS3 := Lib.hid hs3
      have HK3 := Lib.hid ((KG.trans HKK.out (KG.of_below HB1.out (Nat.le_refl _))).trans hk3)
      clear hs3 hk3
      go_wp2_with fail
      go_roundg (x.args.len - (k + 1))
      case measure => have := HK.out; omega
      case rel => exact ⟨k + 1, by have := HK.out; omega, by go_num, by rw [HF2.out.1, HF2.out.2, ← Nat.add_assoc]; exact HS3.out, HK3.out⟩
    · have hge : ¬ (k : Int) < x.args.len := by omega
      have HE := Lib.hid (show (x.args.toL.take k).flatMap occ = occ x by rw [List.take_of_length_le (by rw [HTL.out]; omega), HOC.out])
      go_wp2_with fail
      go_end0
      exact ⟨rfl, by rw [← HE.out]; exact HS.out, (KG.of_below HB0.out (Nat.le_refl _)).trans HKK.out⟩
theorem eachn_any {base sb lb mm : Nat} : ∀ (q : Nat) (x : Ty), x.args.nodes ≤ q → EachNC base sb lb mm x := by
  intro q
  induction q with
  | zero =>
    intro x hx a c w l vis h hb hr hlx hok hv hl
    by_cases hk : x.kd = 1
    · exact eachn_var w hk h hb hok (by omega) hl
    · refine eachn_of w hk h hb hr hlx hok hv hl fun y hy => ?_
      obtain ⟨i, hi⟩ := List.getElem?_of_mem hy
      have := Tys.nodes_get x.args i y hi
      omega
  | succ q ih =>
    intro x hx a c w l vis h hb hr hlx hok hv hl
    by_cases hk : x.kd = 1
    · exact eachn_var w hk h hb hok (by omega) hl
    · refine eachn_of w hk h hb hr hlx hok hv hl fun y hy => ?_
      obtain ⟨i, hi⟩ := List.getElem?_of_mem hy
      have := Tys.nodes_get x.args i y hi
      exact ih y (by omega)
/-- what the code's Vars tells of a type that may be -/
def VarsOut (x : Ty) (w : World) (e : Ending) (w' : World) : Prop := ∃ a c, e = .returned (.slice a (varsP x).length c) ∧ OwnI w.heap.size TI w' (.slice a (varsP x).length c) (varsP x) ∧ Below w.heap.size w w'
set_option maxRecDepth 100000 in
set_option maxHeartbeats 4000000 in
theorem vars_any {x : Ty} {a : Option Addr} {c : Nat} (w : World) (hr : RdT (fun b => b < w.heap.size) w a x.args 0) (hlx : x.args.len * 56 ≤ 140737488355328) (hok : okTy x = true) (hv : x.args.nodes + 1 ≤ 1000000) :
    Calls Try.prog 33 #[.agg #[.int .i64 x.kd, .int .i64 x.n, .string x.nm, .slice a x.args.len c]] w (VarsOut x w) := by
  have hmm := @run_makeMap Try.prog
  obtain ⟨W0, hW0⟩ : ∃ W0, w.alloc (.cells #[.int .i64 x.kd, .int .i64 x.n, .string x.nm, .slice a x.args.len c] TT) = W0 := ⟨_, rfl⟩
  have hB0 : Below w.heap.size w W0 := by rw [← hW0]; exact (Below.refl w.heap.size w).alloc (Nat.le_refl _) _
  have hX0 : Box W0 w.heap.size TT #[.int .i64 x.kd, .int .i64 x.n, .string x.nm, .slice a x.args.len c] := by rw [← hW0]; exact Box.new w _ _
  have HRX := Lib.hid (right_any x.args.nodes x (Nat.le_refl _) a c W0 (hr.below hB0 fun q h => h) (fun b hz => by have := hB0.size; omega) hlx)
  unfold tyV at HRX
  rw [hok] at HRX
  have HB0 := Lib.hid hB0
  have HX0 := Lib.hid hX0
  have HR := Lib.hid (And.intro hr (And.intro hlx (And.intro hok hv)))
  obtain ⟨x0, x1, x2, x3, _⟩ := hX0.cells4
  clear hr hlx hok hv hB0 hX0
  go_enter Try.func33, Try.ntmps33
  go_wp2_with fail
  refine HRX.out.mono ?_
  rintro e W1 ⟨rfl, hb1⟩
  have HB1 := Lib.hid (HB0.out.trans (hb1.mono HB0.out.size))
  have hX1 := HX0.out.below hb1 HX0.out.lt
  have zw1 : w.heap.size < W1.heap.size := hX1.lt
  obtain ⟨W2, hW2⟩ : ∃ W2, ((W1.alloc (.cells #[.slice none 0 0] TIs)).alloc (.map #[] 0)).alloc (.cells #[.map (some (W1.heap.size + 1))] TSeen) = W2 := ⟨_, rfl⟩
  have hB2 : Below W1.heap.size W1 W2 := by rw [← hW2]; exact (((Below.refl W1.heap.size W1).alloc (Nat.le_refl _) _).alloc (by simp) _).alloc (by simp; omega) _
  have hX2 := hX1.below hB2 hX1.lt
  have hv2 : VarsI W1.heap.size W2 (W1.heap.size + 2) W1.heap.size (W1.heap.size + 1) [] 0 := by
    have hm : MapK ((W1.alloc (.cells #[.slice none 0 0] TIs)).alloc (.map #[] 0)) Try.prog TI (W1.heap.size + 1) (fun _ => none) 0 := by
      have := MapK.made (W1.alloc (.cells #[.slice none 0 0] TIs)) Try.prog TI
      rwa [World.size_alloc] at this
    rw [← hW2]
    refine ⟨Box.at_ _ _ (by simp), ⟨none, 0, ((Box.new W1 _ _).alloc _).alloc _, OwnI.nil _ _ _⟩, ⟨fun _ => none, 0, hm.alloc _, Nat.le_refl _, fun n _ => ⟨0, rfl, Nat.le_refl _, by simp⟩⟩, Nat.le_refl _, by omega, by omega⟩
  have HEA := Lib.hid (eachn_any x.args.nodes x (Nat.le_refl _) a c W2 [] 0 hv2 hB2.size ((HR.out.1.below HB1.out fun q h => h).below hB2 (fun q h => by omega) |>.mono fun q h => by omega) HR.out.2.1 HR.out.2.2.1 (by have := HR.out.2.2.2; omega) (Nat.le_refl _))
  unfold tyV at HEA
  have HB2 := Lib.hid hB2
  have HW2 := Lib.hid hW2
  have HX2 := Lib.hid hX2
  obtain ⟨y0, y1, y2, y3, _⟩ := hX1.cells4
  clear hb1 hX1 hW0 x0 x1 x2 x3 hv2 hB2 hX2 hW2
  go_upto_region 5 with fail
  rw [HW2.out]
  clear y0 y1 y2 y3
  obtain ⟨y0, y1, y2, y3, _⟩ := HX2.out.cells4
  go_wp2_with fail
  refine HEA.out.mono ?_
  rintro e W3 ⟨rfl, hv3, hk3⟩
  obtain ⟨a3, c3, hl3, ho3⟩ := hv3.row
  rw [show (occ x).foldl addV [] = varsP x from rfl] at hl3 ho3
  have l0 : W3.cell? ⟨W1.heap.size, 0, none⟩ = some (.slice a3 (varsP x).length c3) := hl3.cell 0
  have HO3 := Lib.hid (own_base ho3 (show w.heap.size ≤ W1.heap.size by omega))
  have HB3 := Lib.hid (HB1.out.trans ((HB2.out.trans (KG.below hk3 HB2.out.size)).mono HB1.out.size))
  clear hv3 hk3 hl3 ho3 y0 y1 y2 y3
  go_wp2_with fail
  refine bodyPost_ret (v := .slice a3 (varsP x).length c3) (by simp [results, Try.results33, go_sem]) rfl ?_
  exact ⟨a3, c3, rfl, HO3.out, HB3.out⟩
end Go.Proofs.Ytgomafdhckfnbaa.Un
