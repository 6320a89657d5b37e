/-
  Types that came in, opened to their cells, with a bound on how many parts they have: the bulk of what came in.
-/
import Derived.Test.YtgomafdhckfnbaaGB
import Derived.Test.YtgomafdhckfnbaaGUnArg

namespace Go.Proofs.Ytgomafdhckfnbaa.Ua
open Go.RowKit Mm Tm Un
open Go.ChangeShapes Go.WideShapes Go.ChangeAt
set_option linter.unusedVariables false
set_option maxRecDepth 100000
theorem bulk_one {H : Type} (d : DataW H) : 0 + 1 ≤ Rows.uptoBulk d := by
  cases d with
  | lit l => cases l <;> simp [Rows.uptoBulk]
  | nil => simp [Rows.uptoBulk]
  | ptr d => simp [Rows.uptoBulk]
  | slice elems spare => simp [Rows.uptoBulk]
  | agg parts => simp [Rows.uptoBulk]
  | iface t d => simp [Rows.uptoBulk]
  | map entries => simp [Rows.uptoBulk]
  | held h => simp [Rows.uptoBulk]
theorem bulk_sum {H α β : Type} (f0 : α → Nat) : ∀ (es : List (DataW H × β)) (g : Nat → α), (∀ (i : Nat) (h : i < es.length), f0 (g i) ≤ Rows.uptoBulk es[i].1) → ((List.range es.length).map (f0 ∘ g)).sum ≤ Rows.uptoBulkAll (es.map (·.1))
  | [], g, _ => Nat.le_refl _
  | e :: es, g, h => by
    have h1 := bulk_sum f0 es (fun i => g (i + 1)) fun i hi => h (i + 1) (Nat.succ_lt_succ hi)
    have h2 := h 0 (Nat.succ_pos _)
    rw [List.length_cons, List.range_succ_eq_map, List.map_cons, List.sum_cons, List.map_map, List.map_cons, Rows.uptoBulkAll]
    simp only [List.getElem_cons_zero] at h2
    have e1 : (List.map ((f0 ∘ g) ∘ Nat.succ) (List.range es.length)) = List.map (f0 ∘ fun i => g (i + 1)) (List.range es.length) := rfl
    rw [e1]
    show f0 (g 0) + _ ≤ _
    omega
/-- a row's elements, each by a word of its own -/
theorem open_rowU {H : Type} {enc : TypeId × Value → H} {W : World} {base : Nat} {sp : Nat → Bool} {held : Bool} {t e : TypeId} {fuel : Nat} {b : Option Addr} {n c : Nat} {x : DataW H × List MemPlace} {α : Type} [Inhabited α] (ht : Try.prog.underlying t = some (.slice e)) (P : Addr → Nat → α → Prop) (f0 : α → Nat)
    (h : DataW.trod enc Try.prog W base sp held fuel t [.slice b n c] = some x) (hw : WB t x.1)
    (hel : ∀ (a : Addr) (i : Nat) (cs : List Value) (f : Nat) (y : DataW H × List MemPlace), f < fuel → W.cells? base (a.add (i * Try.prog.cellsOf e)) (Try.prog.cellsOf e) = some cs → DataW.trod enc Try.prog W base sp held f e cs = some y → WB e y.1 → ∃ z, P a i z ∧ f0 z ≤ Rows.uptoBulk y.1) :
    n * Try.prog.bytesOf e ≤ reachBytes ∧ n ≤ 9223372036854775807 ∧ ∃ l : List α, l.length = n ∧ (l.map f0).sum + 1 ≤ Rows.uptoBulk x.1 ∧ ∀ i z, l[i]? = some z → ∃ a, b = some a ∧ P a i z := by
  rcases DataW.trod_slice ht h with ⟨h0, rfl⟩ | ⟨a, len, cap, elems, rest, f, rfl, h0, rfl, _, hlc, hcm, hlen, hi, _⟩
  · simp only [List.cons.injEq, Value.slice.injEq, and_true] at h0
    obtain ⟨rfl, rfl, rfl⟩ := h0
    exact ⟨by simp, by omega, [], rfl, bulk_one _, fun i z hz => by simp at hz⟩
  · simp only [List.cons.injEq, Value.slice.injEq, and_true] at h0
    obtain ⟨rfl, rfl, rfl⟩ := h0
    have hl := hw.len ht
    rw [List.length_map, hlen] at hl
    obtain ⟨g, hg⟩ := Deep.choose_lt (n := n) (p := fun i z => P a i z ∧ ∀ h : i < elems.length, f0 z ≤ Rows.uptoBulk elems[i].1) (fun i hin => by
      have h1 := hi i hin
      have h2 : elems[i]? = some elems[i] := List.getElem?_eq_getElem (by omega)
      rw [h2] at h1
      cases hcs : W.cells? base (a.add (i * Try.prog.cellsOf e)) (Try.prog.cellsOf e) with
      | none => rw [hcs] at h1; cases h1
      | some cs =>
        rw [hcs] at h1
        obtain ⟨z, q1, q2⟩ := hel a i cs f elems[i] (Nat.lt_succ_self _) hcs h1 (hw.elem ht (List.mem_map_of_mem (List.getElem_mem (by omega))))
        exact ⟨z, q1, fun _ => q2⟩)
    refine ⟨hl, by unfold maxLen at hcm; omega, (List.range n).map g, by simp, ?_, fun i z hz => ?_⟩
    · have h9 := bulk_sum f0 elems g fun i hi => (hg i (by omega)).2 hi
      rw [hlen] at h9
      simp only [Rows.uptoBulk]
      rw [List.map_map]
      omega
    rw [List.getElem?_map] at hz
    by_cases hin : i < n
    · rw [List.getElem?_range hin] at hz
      injection hz with hz
      subst hz
      exact ⟨a, rfl, (hg i hin).1⟩
    · rw [List.getElem?_eq_none (by simpa using hin)] at hz
      cases hz
theorem open_typesU {H : Type} {enc : TypeId × Value → H} {W : World} {base : Nat} {sp : Nat → Bool} {held : Bool} : ∀ (q fuel : Nat), fuel ≤ q → ∀ {b : Option Addr} {n c : Nat} {x : DataW H × List MemPlace}, DataW.trod enc Try.prog W base sp held fuel 27 [.slice b n c] = some x → WB 27 x.1 →
    n * 56 ≤ 140737488355328 ∧ ∃ t : Tys, t.len = n ∧ RdT (· < W.heap.size) W b t 0 ∧ t.nodes ≤ Rows.uptoBulk x.1 := by
  intro q
  induction q with
  | zero =>
    intro fuel hq b n c x h
    obtain rfl : fuel = 0 := by omega
    simp [DataW.trod] at h
  | succ q ih =>
    intro fuel hq b n c x h hw
    obtain ⟨hl, hn, l, hlen, hbk, hall⟩ := open_rowU Try.underlying27 (fun a i (z : Ty) => TyAt (· < W.heap.size) W (some a) i z) (fun z => z.args.nodes + 1) h hw (fun a i cs f y hf hcs hy hwy => by
      obtain ⟨xs, f', rfl, rfl, hl, hlen, hfl⟩ := DataW.trod_struct Try.underlying29 hy
      rw [cells4] at hcs hl
      match cs, hl with
      | [c0, c1, c2, c3], _ =>
        have g0 : DataW.trod enc Try.prog W base sp held f' 3 (([c0, c1, c2, c3].drop 0).take (Try.prog.cellsOf 3)) = xs[0]? := hfl 0 _ rfl
        have g1 : DataW.trod enc Try.prog W base sp held f' 3 (([c0, c1, c2, c3].drop 1).take (Try.prog.cellsOf 3)) = xs[1]? := hfl 1 _ rfl
        have g2 : DataW.trod enc Try.prog W base sp held f' 9 (([c0, c1, c2, c3].drop 2).take (Try.prog.cellsOf 9)) = xs[2]? := hfl 2 _ rfl
        have g3 : DataW.trod enc Try.prog W base sp held f' 27 (([c0, c1, c2, c3].drop 3).take (Try.prog.cellsOf 27)) = xs[3]? := hfl 3 _ rfl
        have hlen : xs.length = 4 := hlen
        match xs, hlen with
        | [y0, y1, y2, y3], _ =>
          rw [cellsI] at g0 g1
          rw [cellsS] at g2
          rw [cellsTs] at g3
          simp at g0 g1 g2 g3
          obtain ⟨kd, e0, _⟩ := DataW.trod_int Try.underlying3 g0
          obtain ⟨nn, e1, _⟩ := DataW.trod_int Try.underlying3 g1
          obtain ⟨nm, e2, _, hnm⟩ := DataW.trod_string Try.underlying9 g2
          simp at e0 e1 e2
          subst e0 e1 e2
          have hw3 : WB 27 y3.1 := hwy.part Try.underlying29 (j := 3) rfl rfl
          obtain ⟨b3, n3, k3, rfl⟩ : ∃ b n c, c3 = .slice b n c := by
            rcases DataW.trod_slice Try.underlying27 g3 with ⟨q, _⟩ | ⟨a', len, cap, _, _, _, _, q, _⟩
            · simp at q; exact ⟨_, _, _, q⟩
            · simp at q; exact ⟨_, _, _, q⟩
          obtain ⟨hb3, t3, ht3, hr3, hk3⟩ := ih f' (by omega) g3 hw3
          obtain ⟨_, _, hat⟩ := World.cells?_some hcs
          have k0 := hat 0 (by omega)
          refine ⟨⟨kd, nn, nm, t3⟩, ⟨a, b3, k3, rfl, ?_, k0, cell_at (by omega) (hat 1 (by omega)), cell_at (by omega) (hat 2 (by omega)), ?_, by unfold maxLen at hnm; exact hnm, by rw [ht3]; exact hb3, hr3⟩, by simp only [List.map_cons, List.map_nil, Rows.uptoBulk, Rows.uptoBulkAll]; omega⟩
          · have := World.block_lt_of_cell? _ _ k0
            rwa [show ((a.add (i * 4)).add 0).block = a.block by rw [add_block, add_block]] at this
          · show _ = some (Value.slice b3 t3.len k3)
            rw [ht3]
            exact cell_at (by omega) (hat 3 (by omega)))
    rw [bytesT] at hl
    refine ⟨by unfold reachBytes at hl; omega, Tys.ofL l, by rw [Tys.len_ofL, hlen], RdT.mk fun i z hz => ?_, by have e := sizes_all (Tys.ofL l); rw [Tys.toL_ofL] at e; unfold sizes at e; omega⟩
    rw [Tys.toL_ofL] at hz
    obtain ⟨a, rfl, ha⟩ := hall i z hz
    rw [Nat.zero_add]
    exact ha
/-- the cells of a type -/
theorem open_tcellsU {H : Type} {enc : TypeId × Value → H} {W : World} {base : Nat} {sp : Nat → Bool} {held : Bool} {f : Nat} {cs : List Value} {y : DataW H × List MemPlace} (hy : DataW.trod enc Try.prog W base sp held f 29 cs = some y) (hwy : WB 29 y.1) :
    ∃ (z : Ty) (a : Option Addr) (c : Nat), cs = [.int .i64 z.kd, .int .i64 z.n, .string z.nm, .slice a z.args.len c] ∧ z.nm.size ≤ 9223372036854775807 ∧ z.args.len * 56 ≤ 140737488355328 ∧ RdT (· < W.heap.size) W a z.args 0 ∧ z.args.nodes ≤ Rows.uptoBulk y.1 := by
  obtain ⟨xs, f', rfl, rfl, hl, hlen, hfl⟩ := DataW.trod_struct Try.underlying29 hy
  rw [cells4] at hl
  match cs, hl with
  | [c0, c1, c2, c3], _ =>
    have g0 : DataW.trod enc Try.prog W base sp held f' 3 (([c0, c1, c2, c3].drop 0).take (Try.prog.cellsOf 3)) = xs[0]? := hfl 0 _ rfl
    have g1 : DataW.trod enc Try.prog W base sp held f' 3 (([c0, c1, c2, c3].drop 1).take (Try.prog.cellsOf 3)) = xs[1]? := hfl 1 _ rfl
    have g2 : DataW.trod enc Try.prog W base sp held f' 9 (([c0, c1, c2, c3].drop 2).take (Try.prog.cellsOf 9)) = xs[2]? := hfl 2 _ rfl
    have g3 : DataW.trod enc Try.prog W base sp held f' 27 (([c0, c1, c2, c3].drop 3).take (Try.prog.cellsOf 27)) = xs[3]? := hfl 3 _ rfl
    have hlen : xs.length = 4 := hlen
    match xs, hlen with
    | [y0, y1, y2, y3], _ =>
      rw [cellsI] at g0 g1
      rw [cellsS] at g2
      rw [cellsTs] at g3
      simp at g0 g1 g2 g3
      obtain ⟨kd, e0, _⟩ := DataW.trod_int Try.underlying3 g0
      obtain ⟨nn, e1, _⟩ := DataW.trod_int Try.underlying3 g1
      obtain ⟨nm, e2, _, hnm⟩ := DataW.trod_string Try.underlying9 g2
      simp at e0 e1 e2
      subst e0 e1 e2
      have hw3 : WB 27 y3.1 := hwy.part Try.underlying29 (j := 3) rfl rfl
      obtain ⟨b3, n3, k3, rfl⟩ : ∃ b n c, c3 = .slice b n c := by
        rcases DataW.trod_slice Try.underlying27 g3 with ⟨q, _⟩ | ⟨a', len, cap, _, _, _, _, q, _⟩
        · simp at q; exact ⟨_, _, _, q⟩
        · simp at q; exact ⟨_, _, _, q⟩
      obtain ⟨hb3, t3, ht3, hr3, hk3⟩ := open_typesU f' f' (Nat.le_refl _) g3 hw3
      exact ⟨⟨kd, nn, nm, t3⟩, b3, k3, by rw [← ht3], by unfold maxLen at hnm; exact hnm, by rw [ht3]; exact hb3, hr3, by simp only [List.map_cons, List.map_nil, Rows.uptoBulk, Rows.uptoBulkAll]; omega⟩
/-- a type by value -/
theorem open_typeU {H : Type} {enc : TypeId × Value → H} {W : World} {rc : Reach} {bs : Nat} {v : Value} {d : DataW H} {ps : List MemPlace} (hv : Value.okWide Try.prog W rc bs 29 v) (h : DataW.Trod enc Try.prog W 0 (fun _ => true) true 29 v d ps) (hw : WB 29 d) :
    ∃ (z : Ty) (a : Option Addr) (c : Nat), v = .agg #[.int .i64 z.kd, .int .i64 z.n, .string z.nm, .slice a z.args.len c] ∧ z.nm.size ≤ 9223372036854775807 ∧ z.args.len * 56 ≤ 140737488355328 ∧ RdT (· < W.heap.size) W a z.args 0 ∧ z.args.nodes ≤ Rows.uptoBulk d := by
  obtain ⟨cs, rfl, _⟩ := okWide_struct Try.underlying29 hv
  obtain ⟨fuel, hf⟩ := h
  obtain ⟨z, a, c, e, hr⟩ := open_tcellsU (cs := cs.toList) hf hw
  exact ⟨z, a, c, congrArg Value.agg (Array.toList_inj.1 (by rw [e])), hr⟩
end Go.Proofs.Ytgomafdhckfnbaa.Ua
