/-
  Declarations that came in, opened to their cells: the whole.
-/
import Derived.Test.YtgmgnnmmapdikaaDcArg
import Derived.Test.YtgmgnnmmapdikaaDcP
namespace Go.Proofs.Ytgmgnnmmapdikaa.Dc
open Go.RowKit Mm Tm Mv
open Go.ChangeShapes Go.WideShapes Go.ChangeAt
set_option linter.unusedVariables false
instance : Inhabited CnS := ⟨⟨ByteArray.empty, []⟩⟩
instance : Inhabited DataS := ⟨⟨ByteArray.empty, [], []⟩⟩
instance : Inhabited ByteArray := ⟨ByteArray.empty⟩
theorem row_form {H : Type} {enc : TypeId × Value → H} {W : World} {base : Nat} {sp : Nat → Bool} {held : Bool} {t e : TypeId} {fuel : Nat} {v : Value} {x : DataW H × List MemPlace} (ht : Try.prog.underlying t = some (.slice e)) (h : DataW.trod enc Try.prog W base sp held fuel t [v] = some x) : ∃ b n c, v = .slice b n c := by
  rcases DataW.trod_slice ht h with ⟨q, _⟩ | ⟨a', len, cap, _, _, _, _, q, _⟩
  · simp at q; exact ⟨_, _, _, q⟩
  · simp at q; exact ⟨_, _, _, q⟩
theorem open_texts {H : Type} {enc : TypeId × Value → H} {W : World} {base : Nat} {sp : Nat → Bool} {held : Bool} {fuel : Nat} {b : Option Addr} {n c : Nat} {x : DataW H × List MemPlace} (h : DataW.trod enc Try.prog W base sp held fuel 35 [.slice b n c] = some x) (hw : WB 35 x.1) :
    n ≤ 9223372036854775807 ∧ ∃ l : List ByteArray, l.length = n ∧ RdS (· < W.heap.size) W b l := by
  obtain ⟨_, hn, l, hlen, hall⟩ := open_row Try.underlying35 (fun a i (z : ByteArray) => a.block < W.heap.size ∧ W.cell? (a.add i) = some (.string z) ∧ z.size ≤ 9223372036854775807) h hw (fun a i cs f y hf hcs hy hwy => by
    rw [cellsS] at hcs
    obtain ⟨s, rfl, _, hs⟩ := DataW.trod_string Try.underlying9 hy
    obtain ⟨_, _, hat⟩ := World.cells?_some hcs
    have k0 := hat 0 (by omega)
    have hlt := World.block_lt_of_cell? _ _ k0
    rw [show ((a.add (i * 1)).add 0).block = a.block by rw [add_block, add_block]] at hlt
    refine ⟨s, hlt, ?_, by unfold maxLen at hs; exact hs⟩
    rw [Nat.mul_one] at k0
    exact k0)
  refine ⟨hn, l, hlen, fun i s hs => ?_⟩
  obtain ⟨a, rfl, h1, h2, h3⟩ := hall i s hs
  exact ⟨a, rfl, h1, h2, h3⟩
theorem open_cons {H : Type} {enc : TypeId × Value → H} {W : World} {base : Nat} {sp : Nat → Bool} {held : Bool} {fuel : Nat} {b : Option Addr} {n c : Nat} {x : DataW H × List MemPlace} (h : DataW.trod enc Try.prog W base sp held fuel 36 [.slice b n c] = some x) (hw : WB 36 x.1) :
    n ≤ 9223372036854775807 ∧ ∃ l : List CnS, l.length = n ∧ RdCn (· < W.heap.size) W b l := by
  obtain ⟨_, hn, l, hlen, hall⟩ := open_row Try.underlying36 (fun a i (z : CnS) => CnAt (· < W.heap.size) W (some a) i z) h hw (fun a i cs f y hf hcs hy hwy => by
    obtain ⟨xs, f', rfl, rfl, hl, hlen, hfl⟩ := DataW.trod_struct Try.underlying55 hy
    rw [cellsCn] at hcs hl
    match cs, hl with
    | [c0, c1, c2, c3], _ =>
      have g0 : DataW.trod enc Try.prog W base sp held f' 9 (([c0, c1, c2, c3].drop 0).take (Try.prog.cellsOf 9)) = xs[0]? := hfl 0 _ rfl
      have g1 : DataW.trod enc Try.prog W base sp held f' 39 (([c0, c1, c2, c3].drop 1).take (Try.prog.cellsOf 39)) = xs[1]? := hfl 1 _ rfl
      have g2 : DataW.trod enc Try.prog W base sp held f' 28 (([c0, c1, c2, c3].drop 2).take (Try.prog.cellsOf 28)) = xs[2]? := hfl 2 _ rfl
      have hlen : xs.length = 3 := hlen
      match xs, hlen with
      | [y0, y1, y2], _ =>
        rw [cellsS] at g0
        rw [cellsTs] at g1
        rw [cellsPos] at g2
        simp at g0 g1 g2
        obtain ⟨nm, e0, _, hnm⟩ := DataW.trod_string Try.underlying9 g0
        obtain ⟨z0, z1, m, _, _, t0, t1⟩ := trod_struct2 Try.underlying28 g2
        have t0 : DataW.trod enc Try.prog W base sp held m 3 (([c2, c3].drop 0).take (Try.prog.cellsOf 3)) = some z0 := t0
        have t1 : DataW.trod enc Try.prog W base sp held m 3 (([c2, c3].drop 1).take (Try.prog.cellsOf 3)) = some z1 := t1
        rw [cellsI] at t0 t1
        simp at t0 t1
        obtain ⟨p, e2, _⟩ := DataW.trod_int Try.underlying3 t0
        obtain ⟨q, e3, _⟩ := DataW.trod_int Try.underlying3 t1
        simp at e0 e2 e3
        subst e0 e2 e3
        have hw1 : WB 39 y1.1 := hwy.part Try.underlying55 (j := 1) rfl rfl
        obtain ⟨b1, n1, k1, rfl⟩ := row_form Try.underlying39 g1
        obtain ⟨hb1, t1', ht1, hr1⟩ := open_types f' f' (Nat.le_refl _) g1 hw1
        obtain ⟨_, _, hat⟩ := World.cells?_some hcs
        have k0 := hat 0 (by omega)
        have hl1 : t1'.toL.length = n1 := by rw [Tys.toL_len, ht1]
        refine ⟨⟨nm, t1'.toL⟩, a, b1, k1, p, q, rfl, ?_, k0, ?_, cell_at (by omega) (hat 2 (by omega)), cell_at (by omega) (hat 3 (by omega)), by unfold maxLen at hnm; exact hnm, by show t1'.toL.length * 56 ≤ _; rw [hl1]; exact hb1, by show RdT _ W b1 (Tys.ofL t1'.toL) 0; rw [Tys.ofL_toL]; exact hr1⟩
        · have := World.block_lt_of_cell? _ _ k0
          rwa [show ((a.add (i * 4)).add 0).block = a.block by rw [add_block, add_block]] at this
        · show _ = some (Value.slice b1 t1'.toL.length k1)
          rw [hl1]
          exact cell_at (by omega) (hat 1 (by omega)))
  refine ⟨hn, l, hlen, fun i z hz => ?_⟩
  obtain ⟨a, rfl, ha⟩ := hall i z hz
  exact ha
/-- the cells of a declaration -/
theorem open_dcells {H : Type} {enc : TypeId × Value → H} {W : World} {base : Nat} {sp : Nat → Bool} {held : Bool} {f : Nat} {cs : List Value} {y : DataW H × List MemPlace} (hy : DataW.trod enc Try.prog W base sp held f 38 cs = some y) (hwy : WB 38 y.1) :
    ∃ (z : DataS) (ap : Option Addr) (cp : Nat) (ac : Option Addr) (cc : Nat) (ln co : Int), cs = [.string z.name, .slice ap z.params.length cp, .slice ac z.cons.length cc, .int .i64 ln, .int .i64 co] ∧ z.name.size ≤ 9223372036854775807 ∧ RdS (· < W.heap.size) W ap z.params ∧ RdCn (· < W.heap.size) W ac z.cons ∧ z.cons.length ≤ 9223372036854775807 ∧ z.params.length ≤ 9223372036854775807 := by
  obtain ⟨xs, f', rfl, rfl, hl, hlen, hfl⟩ := DataW.trod_struct Try.underlying38 hy
  rw [cellsD] at hl
  match cs, hl with
  | [c0, c1, c2, c3, c4], _ =>
    have g0 : DataW.trod enc Try.prog W base sp held f' 9 (([c0, c1, c2, c3, c4].drop 0).take (Try.prog.cellsOf 9)) = xs[0]? := hfl 0 _ rfl
    have g1 : DataW.trod enc Try.prog W base sp held f' 35 (([c0, c1, c2, c3, c4].drop 1).take (Try.prog.cellsOf 35)) = xs[1]? := hfl 1 _ rfl
    have g2 : DataW.trod enc Try.prog W base sp held f' 36 (([c0, c1, c2, c3, c4].drop 2).take (Try.prog.cellsOf 36)) = xs[2]? := hfl 2 _ rfl
    have g3 : DataW.trod enc Try.prog W base sp held f' 28 (([c0, c1, c2, c3, c4].drop 3).take (Try.prog.cellsOf 28)) = xs[3]? := hfl 3 _ rfl
    have hlen : xs.length = 4 := hlen
    match xs, hlen with
    | [y0, y1, y2, y3], _ =>
      rw [cellsS] at g0
      rw [cellsSs] at g1
      rw [cellsCs] at g2
      rw [cellsPos] at g3
      simp at g0 g1 g2 g3
      obtain ⟨nm, e0, _, hnm⟩ := DataW.trod_string Try.underlying9 g0
      obtain ⟨z0, z1, m, _, _, t0, t1⟩ := trod_struct2 Try.underlying28 g3
      have t0 : DataW.trod enc Try.prog W base sp held m 3 (([c3, c4].drop 0).take (Try.prog.cellsOf 3)) = some z0 := t0
      have t1 : DataW.trod enc Try.prog W base sp held m 3 (([c3, c4].drop 1).take (Try.prog.cellsOf 3)) = some z1 := t1
      rw [cellsI] at t0 t1
      simp at t0 t1
      obtain ⟨p, e3, _⟩ := DataW.trod_int Try.underlying3 t0
      obtain ⟨q, e4, _⟩ := DataW.trod_int Try.underlying3 t1
      simp at e0 e3 e4
      subst e0 e3 e4
      have hw1 : WB 35 y1.1 := hwy.part Try.underlying38 (j := 1) rfl rfl
      have hw2 : WB 36 y2.1 := hwy.part Try.underlying38 (j := 2) rfl rfl
      obtain ⟨b1, n1, k1, rfl⟩ := row_form Try.underlying35 g1
      obtain ⟨b2, n2, k2, rfl⟩ := row_form Try.underlying36 g2
      obtain ⟨hn1, l1, rfl, hr1⟩ := open_texts g1 hw1
      obtain ⟨hn2, l2, rfl, hr2⟩ := open_cons g2 hw2
      exact ⟨⟨nm, l1, l2⟩, b1, k1, b2, k2, p, q, rfl, by unfold maxLen at hnm; exact hnm, hr1, hr2, hn2, hn1⟩
/-- declarations that lie at b -/
def RowD (w : World) (B : Nat) (b : Option Addr) (n : Nat) (l : List DataS) : Prop := l.length = n ∧ RdD (· < B) w b l ∧ ∀ d ∈ l, d.cons.length ≤ 9223372036854775807 ∧ d.params.length ≤ 9223372036854775807
theorem open_datas {H : Type} {enc : TypeId × Value → H} {W : World} {b : Option Addr} {n c : Nat} {d : DataW H} {ps : List MemPlace} (h : DataW.Trod enc Try.prog W 0 (fun _ => true) true 22 (.slice b n c) d ps) (hw : WB 22 d) :
    n ≤ 9223372036854775807 ∧ ∃ l, RowD W W.heap.size b n l := by
  obtain ⟨fuel, hf⟩ := h
  obtain ⟨_, hn, l, hlen, hall⟩ := open_row Try.underlying22 (fun a i (z : DataS) => DAt (· < W.heap.size) W (some a) i z ∧ z.cons.length ≤ 9223372036854775807 ∧ z.params.length ≤ 9223372036854775807) (show DataW.trod enc Try.prog W 0 (fun _ => true) true fuel 22 [.slice b n c] = some (d, ps) from hf) hw (fun a i cs f y hf hcs hy hwy => by
    rw [cellsD] at hcs
    obtain ⟨z, ap, cp, ac, cc, ln, co, rfl, h1, h2, h3, h4⟩ := open_dcells hy hwy
    obtain ⟨_, _, hat⟩ := World.cells?_some hcs
    have k0 := hat 0 (by omega)
    refine ⟨z, ⟨a, ap, cp, ac, cc, ln, co, rfl, ?_, k0, cell_at (by omega) (hat 1 (by omega)), cell_at (by omega) (hat 2 (by omega)), cell_at (by omega) (hat 3 (by omega)), cell_at (by omega) (hat 4 (by omega)), h1, h2, h3⟩, h4⟩
    have := World.block_lt_of_cell? _ _ k0
    rwa [show ((a.add (i * 5)).add 0).block = a.block by rw [add_block, add_block]] at this)
  refine ⟨hn, l, hlen, fun i z hz => ?_, fun d hd => ?_⟩
  · obtain ⟨a, rfl, ha, _⟩ := hall i z hz
    exact ha
  · obtain ⟨i, hi⟩ := List.getElem?_of_mem hd
    obtain ⟨a, _, _, ha⟩ := hall i d hi
    exact ha
theorem open_data {H : Type} {enc : TypeId × Value → H} {W : World} {rc : Reach} {bs : Nat} {v : Value} {d : DataW H} {ps : List MemPlace} (hv : Value.okWide Try.prog W rc bs 38 v) (h : DataW.Trod enc Try.prog W 0 (fun _ => true) true 38 v d ps) (hw : WB 38 d) :
    ∃ (z : DataS) (ap : Option Addr) (cp : Nat) (ac : Option Addr) (cc : Nat) (ln co : Int), v = .agg #[.string z.name, .slice ap z.params.length cp, .slice ac z.cons.length cc, .int .i64 ln, .int .i64 co] ∧ z.name.size ≤ 9223372036854775807 ∧ RdS (· < W.heap.size) W ap z.params ∧ RdCn (· < W.heap.size) W ac z.cons ∧ z.cons.length ≤ 9223372036854775807 ∧ z.params.length ≤ 9223372036854775807 := by
  obtain ⟨cs, rfl, _⟩ := okWide_struct Try.underlying38 hv
  obtain ⟨fuel, hf⟩ := h
  obtain ⟨z, ap, cp, ac, cc, ln, co, e, hr⟩ := open_dcells (cs := cs.toList) hf hw
  exact ⟨z, ap, cp, ac, cc, ln, co, congrArg Value.agg (Array.toList_inj.1 (by rw [e])), hr⟩
end Go.Proofs.Ytgmgnnmmapdikaa.Dc
