/-
  Nodes and calls that came in, opened to their cells.
-/
import Derived.Test.YtbkklnihgejeoaaHpA
import Derived.Test.YtbkklnihgejeoaaRows
import Derived.OpenShut
import Derived.Deep.Slices
import Derived.SizedLaws
import Derived.Carry
namespace Go.Proofs.Ytbkklnihgejeoaa.Ha
open Go.RowKit Mm Tm Hp
open Go.ChangeShapes Go.WideShapes Go.ChangeAt
set_option linter.unusedVariables false
theorem cellsN : Try.prog.cellsOf 37 = 3 := by kernel_rfl
theorem cellsO : Try.prog.cellsOf 39 = 5 := by kernel_rfl
theorem cellsI : Try.prog.cellsOf 3 = 1 := by kernel_rfl
theorem cellsI64 : Try.prog.cellsOf 2 = 1 := by kernel_rfl
theorem cellsIs : Try.prog.cellsOf 35 = 1 := by kernel_rfl
theorem bytesI : Try.prog.bytesOf 3 = 8 := by kernel_rfl
theorem laidOut : laidOutB Try.prog = true := by kernel_rfl
/-- each part of a datum is within the form's reach -/
def WB {H : Type} (t : TypeId) (d : DataW H) : Prop := ∀ m ∈ d.weights Try.prog t, m ≤ reachBytes
theorem weightsAll_mem {H : Type} {e : TypeId} : ∀ {l : List (DataW H)} {d : DataW H}, d ∈ l → ∀ n ∈ d.weights Try.prog e, n ∈ DataW.weightsAll Try.prog e l
  | x :: l, d, hd, n, hn => by
    simp only [DataW.weightsAll, List.mem_append]
    rcases List.mem_cons.1 hd with rfl | q
    · exact .inl hn
    · exact .inr (weightsAll_mem q n hn)
theorem WB.elem {H : Type} {t e : TypeId} {es sp : List (DataW H)} (h : WB t (.slice es sp)) (ht : Try.prog.underlying t = some (.slice e)) {y : DataW H} (hy : y ∈ es) : WB e y := fun m hm => h m (by
  simp only [DataW.weights, ht, List.mem_cons, List.mem_append]
  exact .inr (.inl (weightsAll_mem hy m hm)))
theorem WB.len {H : Type} {t e : TypeId} {es sp : List (DataW H)} (h : WB t (.slice es sp)) (ht : Try.prog.underlying t = some (.slice e)) : es.length * Try.prog.bytesOf e ≤ reachBytes := by
  have := h ((es.length + sp.length) * Try.prog.bytesOf e) (by simp [DataW.weights, ht])
  exact Nat.le_trans (Nat.mul_le_mul_right _ (Nat.le_add_right _ _)) this
theorem WB.part {H : Type} {t tj : TypeId} {fs : Array Field} {ps : List (DataW H)} (h : WB t (.agg ps)) (ht : Try.prog.underlying t = some (.struct fs)) {j : Nat} (hj : (fs.toList.map (·.type))[j]? = some tj) {y : DataW H} (hy : ps[j]? = some y) : WB tj y := fun m hm => h m (by
  simp only [DataW.weights, ht]
  exact DataW.weights_mem_each hj hy m hm)
theorem cell_at {W : World} {a : Addr} {j : Nat} {v : Value} (hj : j ≠ 0) (h : W.cell? (a.add j) = some v) : W.cell? ⟨a.block, a.off + j, none⟩ = some v := by
  unfold Addr.add at h
  rw [if_neg hj] at h
  exact h
/-- a row's elements, each by a word of its own -/
theorem open_row {H : Type} {enc : TypeId × Value → H} {W : World} {base : Nat} {sp : Nat → Bool} {held : Bool} {t e : TypeId} {fuel : Nat} {b : Option Addr} {n c : Nat} {x : DataW H × List MemPlace} {α : Type} [Inhabited α] (ht : Try.prog.underlying t = some (.slice e)) (P : Addr → Nat → α → Prop)
    (h : DataW.trod enc Try.prog W base sp held fuel t [.slice b n c] = some x) (hw : WB t x.1)
    (hel : ∀ (a : Addr) (i : Nat) (cs : List Value) (f : Nat) (y : DataW H × List MemPlace), f < fuel → W.cells? base (a.add (i * Try.prog.cellsOf e)) (Try.prog.cellsOf e) = some cs → DataW.trod enc Try.prog W base sp held f e cs = some y → WB e y.1 → ∃ z, P a i z) :
    n * Try.prog.bytesOf e ≤ reachBytes ∧ n ≤ 9223372036854775807 ∧ ∃ l : List α, l.length = n ∧ ∀ i z, l[i]? = some z → ∃ a, b = some a ∧ P a i z := by
  rcases DataW.trod_slice ht h with ⟨h0, rfl⟩ | ⟨a, len, cap, elems, rest, f, rfl, h0, rfl, _, hlc, hcm, hlen, hi, _⟩
  · simp only [List.cons.injEq, Value.slice.injEq, and_true] at h0
    obtain ⟨rfl, rfl, rfl⟩ := h0
    exact ⟨by simp, by omega, [], rfl, fun i z hz => by simp at hz⟩
  · simp only [List.cons.injEq, Value.slice.injEq, and_true] at h0
    obtain ⟨rfl, rfl, rfl⟩ := h0
    have hl := hw.len ht
    rw [List.length_map, hlen] at hl
    obtain ⟨g, hg⟩ := Deep.choose_lt (n := n) (p := fun i z => P a i z) (fun i hin => by
      have h1 := hi i hin
      have h2 : elems[i]? = some elems[i] := List.getElem?_eq_getElem (by omega)
      rw [h2] at h1
      cases hcs : W.cells? base (a.add (i * Try.prog.cellsOf e)) (Try.prog.cellsOf e) with
      | none => rw [hcs] at h1; cases h1
      | some cs =>
        rw [hcs] at h1
        exact hel a i cs f elems[i] (Nat.lt_succ_self _) hcs h1 (hw.elem ht (List.mem_map_of_mem (List.getElem_mem (by omega)))))
    refine ⟨hl, by unfold maxLen at hcm; omega, (List.range n).map g, by simp, fun i z hz => ?_⟩
    rw [List.getElem?_map] at hz
    by_cases hin : i < n
    · rw [List.getElem?_range hin] at hz
      injection hz with hz
      subst hz
      exact ⟨a, rfl, hg i hin⟩
    · rw [List.getElem?_eq_none (by simpa using hin)] at hz
      cases hz
instance : Inhabited Int := ⟨0⟩
theorem open_ints {H : Type} {enc : TypeId × Value → H} {W : World} {base : Nat} {sp : Nat → Bool} {held : Bool} {fuel : Nat} {b : Option Addr} {n c : Nat} {x : DataW H × List MemPlace} (h : DataW.trod enc Try.prog W base sp held fuel 35 [.slice b n c] = some x) (hw : WB 35 x.1) :
    n * 8 ≤ 140737488351232 ∧ ∃ l : List Int, l.length = n ∧ RdI (· < W.heap.size) W b l := by
  obtain ⟨hl, hn, l, hlen, hall⟩ := open_row Try.underlying35 (fun a i (z : Int) => a.block < W.heap.size ∧ W.cell? (a.add i) = some (.int .i64 z)) h hw (fun a i cs f y hf hcs hy hwy => by
    rw [cellsI] at hcs
    obtain ⟨s, rfl, _⟩ := DataW.trod_int Try.underlying3 hy
    obtain ⟨_, _, hat⟩ := World.cells?_some hcs
    have k0 := hat 0 (by omega)
    have hlt := World.block_lt_of_cell? _ _ k0
    rw [show ((a.add (i * 1)).add 0).block = a.block by rw [add_block, add_block]] at hlt
    refine ⟨s, hlt, ?_⟩
    rw [Nat.mul_one] at k0
    exact k0)
  rw [bytesI] at hl
  refine ⟨by unfold reachBytes at hl; omega, l, hlen, fun i z hz => ?_⟩
  obtain ⟨a, rfl, h1, h2⟩ := hall i z hz
  exact ⟨a, rfl, h1, h2⟩
theorem row_form {H : Type} {enc : TypeId × Value → H} {W : World} {base : Nat} {sp : Nat → Bool} {held : Bool} {t e : TypeId} {fuel : Nat} {v : Value} {x : DataW H × List MemPlace} (ht : Try.prog.underlying t = some (.slice e)) (h : DataW.trod enc Try.prog W base sp held fuel t [v] = some x) : ∃ b n c, v = .slice b n c := by
  rcases DataW.trod_slice ht h with ⟨q, _⟩ | ⟨a', len, cap, _, _, _, _, q, _⟩
  · simp at q; exact ⟨_, _, _, q⟩
  · simp at q; exact ⟨_, _, _, q⟩
theorem open_ncells {H : Type} {enc : TypeId × Value → H} {W : World} {base : Nat} {sp : Nat → Bool} {held : Bool} {fuel : Nat} {cs : List Value} {y : DataW H × List MemPlace} (hy : DataW.trod enc Try.prog W base sp held fuel 37 cs = some y) (hwy : WB 37 y.1) :
    ∃ (x : Nd) (a : Option Addr) (c : Nat), cs = [.int .i64 x.tag, .int .i64 x.n, .slice a x.l.length c] ∧ x.l.length * 8 ≤ 140737488351232 ∧ RdI (· < W.heap.size) W a x.l := by
  obtain ⟨xs, f', rfl, rfl, hl, hlen, hfl⟩ := DataW.trod_struct Try.underlying37 hy
  rw [cellsN] at hl
  match cs, hl with
  | [c0, c1, c2], _ =>
    have g0 : DataW.trod enc Try.prog W base sp held f' 3 (([c0, c1, c2].drop 0).take (Try.prog.cellsOf 3)) = xs[0]? := hfl 0 _ rfl
    have g1 : DataW.trod enc Try.prog W base sp held f' 2 (([c0, c1, c2].drop 1).take (Try.prog.cellsOf 2)) = xs[1]? := hfl 1 _ rfl
    have g2 : DataW.trod enc Try.prog W base sp held f' 35 (([c0, c1, c2].drop 2).take (Try.prog.cellsOf 35)) = xs[2]? := hfl 2 _ rfl
    have hlen : xs.length = 3 := hlen
    match xs, hlen with
    | [y0, y1, y2], _ =>
      rw [cellsI] at g0
      rw [cellsI64] at g1
      rw [cellsIs] at g2
      simp at g0 g1 g2
      obtain ⟨tag, e0, _⟩ := DataW.trod_int Try.underlying3 g0
      obtain ⟨nn, e1, _⟩ := DataW.trod_int Try.underlying2 g1
      simp at e0 e1
      subst e0 e1
      have hw2 : WB 35 y2.1 := hwy.part Try.underlying37 (j := 2) rfl rfl
      obtain ⟨b2, n2, k2, rfl⟩ := row_form Try.underlying35 g2
      obtain ⟨hb, l, hl2, hr⟩ := open_ints g2 hw2
      refine ⟨⟨tag, nn, l⟩, b2, k2, ?_, ?_, hr⟩
      · show _ = [_, _, Value.slice b2 l.length k2]
        rw [hl2]
      · show l.length * 8 ≤ _
        rw [hl2]
        exact hb
theorem open_node {H : Type} {enc : TypeId × Value → H} {W : World} {rc : Reach} {bs : Nat} {v : Value} {d : DataW H} {ps : List MemPlace} (hv : Value.okWide Try.prog W rc bs 37 v) (h : DataW.Trod enc Try.prog W 0 (fun _ => true) true 37 v d ps) (hw : WB 37 d) :
    ∃ (x : Nd) (a : Option Addr) (c : Nat), v = .agg #[.int .i64 x.tag, .int .i64 x.n, .slice a x.l.length c] ∧ x.l.length * 8 ≤ 140737488351232 ∧ RdI (· < W.heap.size) W a x.l := by
  obtain ⟨cs, rfl, _⟩ := okWide_struct Try.underlying37 hv
  obtain ⟨fuel, hf⟩ := h
  obtain ⟨x, a, c, e, hr⟩ := open_ncells (cs := cs.toList) hf hw
  exact ⟨x, a, c, congrArg Value.agg (Array.toList_inj.1 (by rw [e])), hr⟩
/-- a call -/
structure HOp where
  kind : Int
  a : Int
  x : Nd
instance : Inhabited HOp := ⟨⟨0, 0, ⟨0, 0, []⟩⟩⟩
/-- a call that is read -/
def OpAt (Z : Nat → Prop) (w : World) (a : Option Addr) (i : Nat) (o : HOp) : Prop := ∃ ad la lc, a = some ad ∧ Z ad.block ∧ w.cell? (ad.add (i * 5)) = some (.int .i64 o.kind) ∧ w.cell? ⟨(ad.add (i * 5)).block, (ad.add (i * 5)).off + 1, none⟩ = some (.int .i64 o.a) ∧ w.cell? ⟨(ad.add (i * 5)).block, (ad.add (i * 5)).off + 2, none⟩ = some (.int .i64 o.x.tag) ∧ w.cell? ⟨(ad.add (i * 5)).block, (ad.add (i * 5)).off + 3, none⟩ = some (.int .i64 o.x.n) ∧ w.cell? ⟨(ad.add (i * 5)).block, (ad.add (i * 5)).off + 4, none⟩ = some (.slice la o.x.l.length lc) ∧ RdI Z w la o.x.l ∧ o.x.l.length * 8 ≤ 140737488351232
/-- calls that are read -/
def RdO (Z : Nat → Prop) (w : World) (a : Option Addr) (l : List HOp) : Prop := ∀ (i : Nat) o, l[i]? = some o → OpAt Z w a i o
theorem RdO.frame {Z Z' : Nat → Prop} {w w' : World} {a : Option Addr} {l : List HOp} (h : RdO Z w a l) (ha : ∀ ad : Addr, Z ad.block → w'.cell? ad = w.cell? ad) (hz : ∀ b, Z b → Z' b) : RdO Z' w' a l := fun i o ho => by
  obtain ⟨ad, la, lc, h1, h2, h3, h4, h5, h6, h7, h8, h9⟩ := h i o ho
  have hb : Z (ad.add (i * 5)).block := by rw [add_block]; exact h2
  exact ⟨ad, la, lc, h1, hz _ h2, (ha _ hb).trans h3, (ha ⟨(ad.add (i * 5)).block, (ad.add (i * 5)).off + 1, none⟩ hb).trans h4, (ha ⟨(ad.add (i * 5)).block, (ad.add (i * 5)).off + 2, none⟩ hb).trans h5, (ha ⟨(ad.add (i * 5)).block, (ad.add (i * 5)).off + 3, none⟩ hb).trans h6, (ha ⟨(ad.add (i * 5)).block, (ad.add (i * 5)).off + 4, none⟩ hb).trans h7, h8.frame ha hz, h9⟩
theorem RdO.below {Z : Nat → Prop} {B : Nat} {w w' : World} {a : Option Addr} {l : List HOp} (h : RdO Z w a l) (hb : Below B w w') (hz : ∀ b, Z b → b < B) : RdO Z w' a l := h.frame (fun ad hZ => hb.cell (hz _ hZ)) fun _ h => h
theorem open_hops {H : Type} {enc : TypeId × Value → H} {W : World} {b : Option Addr} {n c : Nat} {d : DataW H} {ps : List MemPlace} (h : DataW.Trod enc Try.prog W 0 (fun _ => true) true 22 (.slice b n c) d ps) (hw : WB 22 d) :
    n ≤ 9223372036854775807 ∧ ∃ l : List HOp, l.length = n ∧ RdO (· < W.heap.size) W b l := by
  obtain ⟨fuel, hf⟩ := h
  obtain ⟨_, hn, l, hlen, hall⟩ := open_row Try.underlying22 (fun a i (z : HOp) => OpAt (· < W.heap.size) W (some a) i z) hf hw (fun a i cs f y hf hcs hy hwy => by
    obtain ⟨xs, f', rfl, rfl, hl, hlen, hfl⟩ := DataW.trod_struct Try.underlying39 hy
    rw [cellsO] at hcs hl
    match cs, hl with
    | [c0, c1, c2, c3, c4], _ =>
      have g0 : DataW.trod enc Try.prog W 0 (fun _ => true) true f' 3 (([c0, c1, c2, c3, c4].drop 0).take (Try.prog.cellsOf 3)) = xs[0]? := hfl 0 _ rfl
      have g1 : DataW.trod enc Try.prog W 0 (fun _ => true) true f' 3 (([c0, c1, c2, c3, c4].drop 1).take (Try.prog.cellsOf 3)) = xs[1]? := hfl 1 _ rfl
      have g2 : DataW.trod enc Try.prog W 0 (fun _ => true) true f' 37 (([c0, c1, c2, c3, c4].drop 2).take (Try.prog.cellsOf 37)) = xs[2]? := hfl 2 _ rfl
      have hlen : xs.length = 3 := hlen
      match xs, hlen with
      | [y0, y1, y2], _ =>
        rw [cellsI] at g0 g1
        rw [cellsN] at g2
        simp at g0 g1 g2
        obtain ⟨kd, e0, _⟩ := DataW.trod_int Try.underlying3 g0
        obtain ⟨aa, e1, _⟩ := DataW.trod_int Try.underlying3 g1
        simp at e0 e1
        subst e0 e1
        have hw2 : WB 37 y2.1 := hwy.part Try.underlying39 (j := 2) rfl rfl
        obtain ⟨x, la, lc, e2, hlx, hr⟩ := open_ncells g2 hw2
        injection e2 with e2 e3
        injection e3 with e3 e4
        injection e4 with e4
        subst e2 e3 e4
        obtain ⟨_, _, hat⟩ := World.cells?_some hcs
        have k0 := hat 0 (by omega)
        refine ⟨⟨kd, aa, x⟩, a, la, lc, rfl, ?_, k0, cell_at (by omega) (hat 1 (by omega)), cell_at (by omega) (hat 2 (by omega)), cell_at (by omega) (hat 3 (by omega)), cell_at (by omega) (hat 4 (by omega)), hr, hlx⟩
        have := World.block_lt_of_cell? _ _ k0
        rwa [show ((a.add (i * 5)).add 0).block = a.block by rw [add_block, add_block]] at this)
  refine ⟨hn, l, hlen, fun i z hz => ?_⟩
  obtain ⟨a, rfl, ha⟩ := hall i z hz
  exact ha
theorem open_roots {H : Type} {enc : TypeId × Value → H} {W : World} {b : Option Addr} {n c : Nat} {d : DataW H} {ps : List MemPlace} (h : DataW.Trod enc Try.prog W 0 (fun _ => true) true 35 (.slice b n c) d ps) (hw : WB 35 d) :
    n * 8 ≤ 140737488351232 ∧ ∃ l : List Int, l.length = n ∧ RdI (· < W.heap.size) W b l := by
  obtain ⟨fuel, hf⟩ := h
  exact open_ints hf hw
end Go.Proofs.Ytbkklnihgejeoaa.Ha
