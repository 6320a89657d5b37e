/-
  Types that came in, opened to their cells.
-/
import Derived.Test.YtcaioffdcbjbjaaGB
import Derived.Test.YtcaioffdcbjbjaaRows
import Derived.OpenShut
import Derived.Deep.Slices
import Derived.SizedLaws
import Derived.Carry
namespace Go.Proofs.Ytcaioffdcbjbjaa.Ua
open Go.RowKit Mm Tm
open Go.ChangeShapes Go.WideShapes Go.ChangeAt
set_option linter.unusedVariables false
set_option maxRecDepth 100000
theorem cells4 : Try.prog.cellsOf 29 = 4 := by kernel_rfl
theorem cellsI : Try.prog.cellsOf 3 = 1 := by kernel_rfl
theorem cellsS : Try.prog.cellsOf 9 = 1 := by kernel_rfl
theorem cellsTs : Try.prog.cellsOf 27 = 1 := by kernel_rfl
theorem bytesT : Try.prog.bytesOf 29 = 56 := by kernel_rfl
theorem laidOut : laidOutB Try.prog = true := by kernel_rfl
/-- each part of a datum is within the form's reach -/
def WB {H : Type} (t : TypeId) (d : DataW H) : Prop := ∀ m ∈ d.weights Try.prog t, m ≤ reachBytes
theorem weightsAll_mem {H : Type} {e : TypeId} : ∀ {l : List (DataW H)} {d : DataW H}, d ∈ l → ∀ n ∈ d.weights Try.prog e, n ∈ DataW.weightsAll Try.prog e l
  | x :: l, d, hd, n, hn => by
    simp only [DataW.weightsAll, List.mem_append]
    rcases List.mem_cons.1 hd with rfl | q
    · exact .inl hn
    · exact .inr (weightsAll_mem q n hn)
theorem WB.elem {H : Type} {t e : TypeId} {es sp : List (DataW H)} (h : WB t (.slice es sp)) (ht : Try.prog.underlying t = some (.slice e)) {y : DataW H} (hy : y ∈ es) : WB e y := fun m hm => h m (by
  simp only [DataW.weights, ht, List.mem_cons, List.mem_append]
  exact .inr (.inl (weightsAll_mem hy m hm)))
theorem WB.len {H : Type} {t e : TypeId} {es sp : List (DataW H)} (h : WB t (.slice es sp)) (ht : Try.prog.underlying t = some (.slice e)) : es.length * Try.prog.bytesOf e ≤ reachBytes := by
  have := h ((es.length + sp.length) * Try.prog.bytesOf e) (by simp [DataW.weights, ht])
  exact Nat.le_trans (Nat.mul_le_mul_right _ (Nat.le_add_right _ _)) this
theorem WB.part {H : Type} {t tj : TypeId} {fs : Array Field} {ps : List (DataW H)} (h : WB t (.agg ps)) (ht : Try.prog.underlying t = some (.struct fs)) {j : Nat} (hj : (fs.toList.map (·.type))[j]? = some tj) {y : DataW H} (hy : ps[j]? = some y) : WB tj y := fun m hm => h m (by
  simp only [DataW.weights, ht]
  exact DataW.weights_mem_each hj hy m hm)
theorem cell_at {W : World} {a : Addr} {j : Nat} {v : Value} (hj : j ≠ 0) (h : W.cell? (a.add j) = some v) : W.cell? ⟨a.block, a.off + j, none⟩ = some v := by
  unfold Addr.add at h
  rw [if_neg hj] at h
  exact h
/-- a row's elements, each by a word of its own -/
theorem open_row {H : Type} {enc : TypeId × Value → H} {W : World} {base : Nat} {sp : Nat → Bool} {held : Bool} {t e : TypeId} {fuel : Nat} {b : Option Addr} {n c : Nat} {x : DataW H × List MemPlace} {α : Type} [Inhabited α] (ht : Try.prog.underlying t = some (.slice e)) (P : Addr → Nat → α → Prop)
    (h : DataW.trod enc Try.prog W base sp held fuel t [.slice b n c] = some x) (hw : WB t x.1)
    (hel : ∀ (a : Addr) (i : Nat) (cs : List Value) (f : Nat) (y : DataW H × List MemPlace), f < fuel → W.cells? base (a.add (i * Try.prog.cellsOf e)) (Try.prog.cellsOf e) = some cs → DataW.trod enc Try.prog W base sp held f e cs = some y → WB e y.1 → ∃ z, P a i z) :
    n * Try.prog.bytesOf e ≤ reachBytes ∧ n ≤ 9223372036854775807 ∧ ∃ l : List α, l.length = n ∧ ∀ i z, l[i]? = some z → ∃ a, b = some a ∧ P a i z := by
  rcases DataW.trod_slice ht h with ⟨h0, rfl⟩ | ⟨a, len, cap, elems, rest, f, rfl, h0, rfl, _, hlc, hcm, hlen, hi, _⟩
  · simp only [List.cons.injEq, Value.slice.injEq, and_true] at h0
    obtain ⟨rfl, rfl, rfl⟩ := h0
    exact ⟨by simp, by omega, [], rfl, fun i z hz => by simp at hz⟩
  · simp only [List.cons.injEq, Value.slice.injEq, and_true] at h0
    obtain ⟨rfl, rfl, rfl⟩ := h0
    have hl := hw.len ht
    rw [List.length_map, hlen] at hl
    obtain ⟨g, hg⟩ := Deep.choose_lt (n := n) (p := fun i z => P a i z) (fun i hin => by
      have h1 := hi i hin
      have h2 : elems[i]? = some elems[i] := List.getElem?_eq_getElem (by omega)
      rw [h2] at h1
      cases hcs : W.cells? base (a.add (i * Try.prog.cellsOf e)) (Try.prog.cellsOf e) with
      | none => rw [hcs] at h1; cases h1
      | some cs =>
        rw [hcs] at h1
        exact hel a i cs f elems[i] (Nat.lt_succ_self _) hcs h1 (hw.elem ht (List.mem_map_of_mem (List.getElem_mem (by omega)))))
    refine ⟨hl, by unfold maxLen at hcm; omega, (List.range n).map g, by simp, fun i z hz => ?_⟩
    rw [List.getElem?_map] at hz
    by_cases hin : i < n
    · rw [List.getElem?_range hin] at hz
      injection hz with hz
      subst hz
      exact ⟨a, rfl, hg i hin⟩
    · rw [List.getElem?_eq_none (by simpa using hin)] at hz
      cases hz
instance : Inhabited Ty := ⟨⟨0, 0, ByteArray.empty, .nil⟩⟩


theorem open_types {H : Type} {enc : TypeId × Value → H} {W : World} {base : Nat} {sp : Nat → Bool} {held : Bool} : ∀ (q fuel : Nat), fuel ≤ q → ∀ {b : Option Addr} {n c : Nat} {x : DataW H × List MemPlace}, DataW.trod enc Try.prog W base sp held fuel 27 [.slice b n c] = some x → WB 27 x.1 →
    n * 56 ≤ 140737488355328 ∧ ∃ t : Tys, t.len = n ∧ RdT (· < W.heap.size) W b t 0 := by
  intro q
  induction q with
  | zero =>
    intro fuel hq b n c x h
    obtain rfl : fuel = 0 := by omega
    simp [DataW.trod] at h
  | succ q ih =>
    intro fuel hq b n c x h hw
    obtain ⟨hl, hn, l, hlen, hall⟩ := open_row Try.underlying27 (fun a i (z : Ty) => TyAt (· < W.heap.size) W (some a) i z) h hw (fun a i cs f y hf hcs hy hwy => by
      obtain ⟨xs, f', rfl, rfl, hl, hlen, hfl⟩ := DataW.trod_struct Try.underlying29 hy
      rw [cells4] at hcs hl
      match cs, hl with
      | [c0, c1, c2, c3], _ =>
        have g0 : DataW.trod enc Try.prog W base sp held f' 3 (([c0, c1, c2, c3].drop 0).take (Try.prog.cellsOf 3)) = xs[0]? := hfl 0 _ rfl
        have g1 : DataW.trod enc Try.prog W base sp held f' 3 (([c0, c1, c2, c3].drop 1).take (Try.prog.cellsOf 3)) = xs[1]? := hfl 1 _ rfl
        have g2 : DataW.trod enc Try.prog W base sp held f' 9 (([c0, c1, c2, c3].drop 2).take (Try.prog.cellsOf 9)) = xs[2]? := hfl 2 _ rfl
        have g3 : DataW.trod enc Try.prog W base sp held f' 27 (([c0, c1, c2, c3].drop 3).take (Try.prog.cellsOf 27)) = xs[3]? := hfl 3 _ rfl
        have hlen : xs.length = 4 := hlen
        match xs, hlen with
        | [y0, y1, y2, y3], _ =>
          rw [cellsI] at g0 g1
          rw [cellsS] at g2
          rw [cellsTs] at g3
          simp at g0 g1 g2 g3
          obtain ⟨kd, e0, _⟩ := DataW.trod_int Try.underlying3 g0
          obtain ⟨nn, e1, _⟩ := DataW.trod_int Try.underlying3 g1
          obtain ⟨nm, e2, _, hnm⟩ := DataW.trod_string Try.underlying9 g2
          simp at e0 e1 e2
          subst e0 e1 e2
          have hw3 : WB 27 y3.1 := hwy.part Try.underlying29 (j := 3) rfl rfl
          obtain ⟨b3, n3, k3, rfl⟩ : ∃ b n c, c3 = .slice b n c := by
            rcases DataW.trod_slice Try.underlying27 g3 with ⟨q, _⟩ | ⟨a', len, cap, _, _, _, _, q, _⟩
            · simp at q; exact ⟨_, _, _, q⟩
            · simp at q; exact ⟨_, _, _, q⟩
          obtain ⟨hb3, t3, ht3, hr3⟩ := ih f' (by omega) g3 hw3
          obtain ⟨_, _, hat⟩ := World.cells?_some hcs
          have k0 := hat 0 (by omega)
          refine ⟨⟨kd, nn, nm, t3⟩, a, b3, k3, rfl, ?_, k0, cell_at (by omega) (hat 1 (by omega)), cell_at (by omega) (hat 2 (by omega)), ?_, by unfold maxLen at hnm; exact hnm, by rw [ht3]; exact hb3, hr3⟩
          · have := World.block_lt_of_cell? _ _ k0
            rwa [show ((a.add (i * 4)).add 0).block = a.block by rw [add_block, add_block]] at this
          · show _ = some (Value.slice b3 t3.len k3)
            rw [ht3]
            exact cell_at (by omega) (hat 3 (by omega)))
    rw [bytesT] at hl
    refine ⟨by unfold reachBytes at hl; omega, Tys.ofL l, by rw [Tys.len_ofL, hlen], RdT.mk fun i z hz => ?_⟩
    rw [Tys.toL_ofL] at hz
    obtain ⟨a, rfl, ha⟩ := hall i z hz
    rw [Nat.zero_add]
    exact ha
/-- the cells of a type -/
theorem open_tcells {H : Type} {enc : TypeId × Value → H} {W : World} {base : Nat} {sp : Nat → Bool} {held : Bool} {f : Nat} {cs : List Value} {y : DataW H × List MemPlace} (hy : DataW.trod enc Try.prog W base sp held f 29 cs = some y) (hwy : WB 29 y.1) :
    ∃ (z : Ty) (a : Option Addr) (c : Nat), cs = [.int .i64 z.kd, .int .i64 z.n, .string z.nm, .slice a z.args.len c] ∧ z.nm.size ≤ 9223372036854775807 ∧ z.args.len * 56 ≤ 140737488355328 ∧ RdT (· < W.heap.size) W a z.args 0 := by
  obtain ⟨xs, f', rfl, rfl, hl, hlen, hfl⟩ := DataW.trod_struct Try.underlying29 hy
  rw [cells4] at hl
  match cs, hl with
  | [c0, c1, c2, c3], _ =>
    have g0 : DataW.trod enc Try.prog W base sp held f' 3 (([c0, c1, c2, c3].drop 0).take (Try.prog.cellsOf 3)) = xs[0]? := hfl 0 _ rfl
    have g1 : DataW.trod enc Try.prog W base sp held f' 3 (([c0, c1, c2, c3].drop 1).take (Try.prog.cellsOf 3)) = xs[1]? := hfl 1 _ rfl
    have g2 : DataW.trod enc Try.prog W base sp held f' 9 (([c0, c1, c2, c3].drop 2).take (Try.prog.cellsOf 9)) = xs[2]? := hfl 2 _ rfl
    have g3 : DataW.trod enc Try.prog W base sp held f' 27 (([c0, c1, c2, c3].drop 3).take (Try.prog.cellsOf 27)) = xs[3]? := hfl 3 _ rfl
    have hlen : xs.length = 4 := hlen
    match xs, hlen with
    | [y0, y1, y2, y3], _ =>
      rw [cellsI] at g0 g1
      rw [cellsS] at g2
      rw [cellsTs] at g3
      simp at g0 g1 g2 g3
      obtain ⟨kd, e0, _⟩ := DataW.trod_int Try.underlying3 g0
      obtain ⟨nn, e1, _⟩ := DataW.trod_int Try.underlying3 g1
      obtain ⟨nm, e2, _, hnm⟩ := DataW.trod_string Try.underlying9 g2
      simp at e0 e1 e2
      subst e0 e1 e2
      have hw3 : WB 27 y3.1 := hwy.part Try.underlying29 (j := 3) rfl rfl
      obtain ⟨b3, n3, k3, rfl⟩ : ∃ b n c, c3 = .slice b n c := by
        rcases DataW.trod_slice Try.underlying27 g3 with ⟨q, _⟩ | ⟨a', len, cap, _, _, _, _, q, _⟩
        · simp at q; exact ⟨_, _, _, q⟩
        · simp at q; exact ⟨_, _, _, q⟩
      obtain ⟨hb3, t3, ht3, hr3⟩ := open_types f' f' (Nat.le_refl _) g3 hw3
      exact ⟨⟨kd, nn, nm, t3⟩, b3, k3, by rw [← ht3], by unfold maxLen at hnm; exact hnm, by rw [ht3]; exact hb3, hr3⟩
/-- a type by value -/
theorem open_type {H : Type} {enc : TypeId × Value → H} {W : World} {rc : Reach} {bs : Nat} {v : Value} {d : DataW H} {ps : List MemPlace} (hv : Value.okWide Try.prog W rc bs 29 v) (h : DataW.Trod enc Try.prog W 0 (fun _ => true) true 29 v d ps) (hw : WB 29 d) :
    ∃ (z : Ty) (a : Option Addr) (c : Nat), v = .agg #[.int .i64 z.kd, .int .i64 z.n, .string z.nm, .slice a z.args.len c] ∧ z.nm.size ≤ 9223372036854775807 ∧ z.args.len * 56 ≤ 140737488355328 ∧ RdT (· < W.heap.size) W a z.args 0 := by
  obtain ⟨cs, rfl, _⟩ := okWide_struct Try.underlying29 hv
  obtain ⟨fuel, hf⟩ := h
  obtain ⟨z, a, c, e, hr⟩ := open_tcells (cs := cs.toList) hf hw
  exact ⟨z, a, c, congrArg Value.agg (Array.toList_inj.1 (by rw [e])), hr⟩
end Go.Proofs.Ytcaioffdcbjbjaa.Ua
