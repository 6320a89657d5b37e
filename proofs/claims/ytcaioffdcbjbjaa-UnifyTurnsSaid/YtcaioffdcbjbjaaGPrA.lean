/-
  Pairs of types that came in, opened to their cells.
-/
import Derived.Test.YtcaioffdcbjbjaaGUnArg

namespace Go.Proofs.Ytcaioffdcbjbjaa.Ua
open Go.RowKit Mm Tm
open Go.ChangeShapes Go.WideShapes Go.ChangeAt
set_option linter.unusedVariables false
set_option maxRecDepth 100000
abbrev Pr := Ty × Ty
theorem cells8 : Try.prog.cellsOf 31 = 8 := by kernel_rfl
theorem cellsPs : Try.prog.cellsOf 22 = 1 := by kernel_rfl
theorem bytesP : Try.prog.bytesOf 31 = 112 := by kernel_rfl
/-- One pair of a row. -/
def PrAt (Z : Nat → Prop) (w : World) (a : Option Addr) (k : Nat) (p : Pr) : Prop :=
  ∃ ad a2 c2 a3 c3, a = some ad ∧ Z ad.block ∧ w.cell? (ad.add (k * 8)) = some (.int .i64 p.1.kd) ∧ w.cell? ⟨(ad.add (k * 8)).block, (ad.add (k * 8)).off + 1, none⟩ = some (.int .i64 p.1.n) ∧ w.cell? ⟨(ad.add (k * 8)).block, (ad.add (k * 8)).off + 2, none⟩ = some (.string p.1.nm) ∧
      w.cell? ⟨(ad.add (k * 8)).block, (ad.add (k * 8)).off + 3, none⟩ = some (.slice a2 p.1.args.len c2) ∧ w.cell? ⟨(ad.add (k * 8)).block, (ad.add (k * 8)).off + 4, none⟩ = some (.int .i64 p.2.kd) ∧ w.cell? ⟨(ad.add (k * 8)).block, (ad.add (k * 8)).off + 5, none⟩ = some (.int .i64 p.2.n) ∧ w.cell? ⟨(ad.add (k * 8)).block, (ad.add (k * 8)).off + 6, none⟩ = some (.string p.2.nm) ∧
      w.cell? ⟨(ad.add (k * 8)).block, (ad.add (k * 8)).off + 7, none⟩ = some (.slice a3 p.2.args.len c3) ∧ p.1.nm.size ≤ 9223372036854775807 ∧ p.1.args.len * 56 ≤ 140737488355328 ∧ RdT Z w a2 p.1.args 0 ∧ p.2.nm.size ≤ 9223372036854775807 ∧ p.2.args.len * 56 ≤ 140737488355328 ∧ RdT Z w a3 p.2.args 0
/-- A row of pairs. -/
def Prs (Z : Nat → Prop) (w : World) (a : Option Addr) (l : List Pr) : Prop := ∀ k p, l[k]? = some p → PrAt Z w a k p
theorem PrAt.frame {Z Z' : Nat → Prop} {w w' : World} {a : Option Addr} {k : Nat} {p : Pr} (h : PrAt Z w a k p) (hc : ∀ b o, Z b → w'.cell? ⟨b, o, none⟩ = w.cell? ⟨b, o, none⟩) (ha : ∀ ad : Addr, Z ad.block → w'.cell? ad = w.cell? ad) (hz : ∀ b, Z b → Z' b) : PrAt Z' w' a k p := by
  obtain ⟨ad, a2, c2, a3, c3, h0, hb, h1, h2, h3, h4, h5, h6, h7, h8, n1, l1, r1, n2, l2, r2⟩ := h
  have hb' : Z (ad.add (k * 8)).block := by rw [add_block]; exact hb
  exact ⟨ad, a2, c2, a3, c3, h0, hz _ hb, (ha _ hb').trans h1, (hc _ _ hb').trans h2, (hc _ _ hb').trans h3, (hc _ _ hb').trans h4, (hc _ _ hb').trans h5, (hc _ _ hb').trans h6, (hc _ _ hb').trans h7, (hc _ _ hb').trans h8, n1, l1, r1.frame hc ha hz, n2, l2, r2.frame hc ha hz⟩
theorem Prs.below {Z : Nat → Prop} {B : Nat} {w w' : World} {a : Option Addr} {l : List Pr} (h : Prs Z w a l) (hb : Below B w w') (hz : ∀ b, Z b → b < B) : Prs Z w' a l :=
  fun k p q => (h k p q).frame (fun b o hZ => hb.cell (p := ⟨b, o, none⟩) (hz b hZ)) (fun ad hZ => hb.cell (hz _ hZ)) fun _ h => h
theorem Prs.mono {Z Z' : Nat → Prop} {w : World} {a : Option Addr} {l : List Pr} (h : Prs Z w a l) (hz : ∀ b, Z b → Z' b) : Prs Z' w a l := fun k p q => (h k p q).frame (fun _ _ _ => rfl) (fun _ _ => rfl) hz
theorem open_pairs {H : Type} {enc : TypeId × Value → H} {W : World} {base : Nat} {sp : Nat → Bool} {held : Bool} {fuel : Nat} {b : Option Addr} {n c : Nat} {x : DataW H × List MemPlace} (h : DataW.trod enc Try.prog W base sp held fuel 22 [.slice b n c] = some x) (hw : WB 22 x.1) :
    n * 112 ≤ 140737488355328 ∧ ∃ l : List Pr, l.length = n ∧ Prs (· < W.heap.size) W b l := by
  obtain ⟨hl, hn, l, hlen, hall⟩ := open_row Try.underlying22 (fun a i (z : Pr) => PrAt (· < W.heap.size) W (some a) i z) h hw (fun a i cs f y hf hcs hy hwy => by
    obtain ⟨xs, f', rfl, rfl, hl, hlen, hfl⟩ := DataW.trod_struct Try.underlying31 hy
    rw [cells8] at hcs hl
    match cs, hl with
    | [c0, c1, c2, c3, c4, c5, c6, c7], _ =>
      have g0 : DataW.trod enc Try.prog W base sp held f' 29 (([c0, c1, c2, c3, c4, c5, c6, c7].drop 0).take (Try.prog.cellsOf 29)) = xs[0]? := hfl 0 _ rfl
      have g1 : DataW.trod enc Try.prog W base sp held f' 29 (([c0, c1, c2, c3, c4, c5, c6, c7].drop 4).take (Try.prog.cellsOf 29)) = xs[1]? := hfl 1 _ rfl
      have hlen : xs.length = 2 := hlen
      match xs, hlen with
      | [y0, y1], _ =>
        rw [cells4] at g0 g1
        obtain ⟨z0, a0, k0, e0, n0, l0, r0⟩ := open_tcells (y := y0) g0 (hwy.part Try.underlying31 (j := 0) rfl rfl)
        obtain ⟨z1, a1, k1, e1, n1, l1, r1⟩ := open_tcells (y := y1) g1 (hwy.part Try.underlying31 (j := 1) rfl rfl)
        simp at e0 e1
        obtain ⟨rfl, rfl, rfl, rfl⟩ := e0
        obtain ⟨rfl, rfl, rfl, rfl⟩ := e1
        obtain ⟨_, _, hat⟩ := World.cells?_some hcs
        have q0 := hat 0 (by omega)
        refine ⟨⟨z0, z1⟩, a, a0, k0, a1, k1, rfl, ?_, q0, cell_at (by omega) (hat 1 (by omega)), cell_at (by omega) (hat 2 (by omega)), cell_at (by omega) (hat 3 (by omega)), cell_at (by omega) (hat 4 (by omega)), cell_at (by omega) (hat 5 (by omega)), cell_at (by omega) (hat 6 (by omega)), cell_at (by omega) (hat 7 (by omega)), n0, l0, r0, n1, l1, r1⟩
        have := World.block_lt_of_cell? _ _ q0
        rwa [show ((a.add (i * 8)).add 0).block = a.block by rw [add_block, add_block]] at this)
  rw [bytesP] at hl
  refine ⟨by unfold reachBytes at hl; omega, l, hlen, fun i z hz => ?_⟩
  obtain ⟨a, rfl, ha⟩ := hall i z hz
  exact ha
/-- the cells of a pair -/
theorem open_pcells {H : Type} {enc : TypeId × Value → H} {W : World} {base : Nat} {sp : Nat → Bool} {held : Bool} {f : Nat} {cs : List Value} {y : DataW H × List MemPlace} (hy : DataW.trod enc Try.prog W base sp held f 31 cs = some y) (hwy : WB 31 y.1) :
    ∃ (x y : Ty) (a : Option Addr) (c : Nat) (b : Option Addr) (e : Nat), cs = [.int .i64 x.kd, .int .i64 x.n, .string x.nm, .slice a x.args.len c, .int .i64 y.kd, .int .i64 y.n, .string y.nm, .slice b y.args.len e] ∧ (x.nm.size ≤ 9223372036854775807 ∧ x.args.len * 56 ≤ 140737488355328 ∧ RdT (· < W.heap.size) W a x.args 0) ∧ (y.nm.size ≤ 9223372036854775807 ∧ y.args.len * 56 ≤ 140737488355328 ∧ RdT (· < W.heap.size) W b y.args 0) := by
  obtain ⟨xs, f', rfl, rfl, hl, hlen, hfl⟩ := DataW.trod_struct Try.underlying31 hy
  rw [cells8] at hl
  match cs, hl with
  | [c0, c1, c2, c3, c4, c5, c6, c7], _ =>
    have g0 : DataW.trod enc Try.prog W base sp held f' 29 (([c0, c1, c2, c3, c4, c5, c6, c7].drop 0).take (Try.prog.cellsOf 29)) = xs[0]? := hfl 0 _ rfl
    have g1 : DataW.trod enc Try.prog W base sp held f' 29 (([c0, c1, c2, c3, c4, c5, c6, c7].drop 4).take (Try.prog.cellsOf 29)) = xs[1]? := hfl 1 _ rfl
    have hlen : xs.length = 2 := hlen
    match xs, hlen with
    | [y0, y1], _ =>
      rw [cells4] at g0 g1
      obtain ⟨z0, a0, k0, e0, n0, l0, r0⟩ := open_tcells (y := y0) g0 (hwy.part Try.underlying31 (j := 0) rfl rfl)
      obtain ⟨z1, a1, k1, e1, n1, l1, r1⟩ := open_tcells (y := y1) g1 (hwy.part Try.underlying31 (j := 1) rfl rfl)
      simp at e0 e1
      obtain ⟨rfl, rfl, rfl, rfl⟩ := e0
      obtain ⟨rfl, rfl, rfl, rfl⟩ := e1
      exact ⟨z0, z1, a0, k0, a1, k1, rfl, ⟨n0, l0, r0⟩, ⟨n1, l1, r1⟩⟩
/-- a pair by value -/
theorem open_pair {H : Type} {enc : TypeId × Value → H} {W : World} {rc : Reach} {bs : Nat} {v : Value} {d : DataW H} {ps : List MemPlace} (hv : Value.okWide Try.prog W rc bs 31 v) (h : DataW.Trod enc Try.prog W 0 (fun _ => true) true 31 v d ps) (hw : WB 31 d) :
    ∃ (x y : Ty) (a : Option Addr) (c : Nat) (b : Option Addr) (e : Nat), v = .agg #[.int .i64 x.kd, .int .i64 x.n, .string x.nm, .slice a x.args.len c, .int .i64 y.kd, .int .i64 y.n, .string y.nm, .slice b y.args.len e] ∧ (x.nm.size ≤ 9223372036854775807 ∧ x.args.len * 56 ≤ 140737488355328 ∧ RdT (· < W.heap.size) W a x.args 0) ∧ (y.nm.size ≤ 9223372036854775807 ∧ y.args.len * 56 ≤ 140737488355328 ∧ RdT (· < W.heap.size) W b y.args 0) := by
  obtain ⟨cs, rfl, _⟩ := okWide_struct Try.underlying31 hv
  obtain ⟨fuel, hf⟩ := h
  obtain ⟨x, y, a, c, b, e, q, hr⟩ := open_pcells (cs := cs.toList) hf hw
  exact ⟨x, y, a, c, b, e, congrArg Value.agg (Array.toList_inj.1 (by rw [q])), hr⟩
/-- a row of pairs -/
theorem open_prs {H : Type} {enc : TypeId × Value → H} {W : World} {b : Option Addr} {n c : Nat} {d : DataW H} {ps : List MemPlace} (h : DataW.Trod enc Try.prog W 0 (fun _ => true) true 22 (.slice b n c) d ps) (hw : WB 22 d) :
    n * 112 ≤ 140737488355328 ∧ ∃ l : List Pr, l.length = n ∧ Prs (· < W.heap.size) W b l := by
  obtain ⟨fuel, hf⟩ := h
  exact open_pairs hf hw
end Go.Proofs.Ytcaioffdcbjbjaa.Ua
