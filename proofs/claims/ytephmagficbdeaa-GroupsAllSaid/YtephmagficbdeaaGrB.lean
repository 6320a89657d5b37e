/-
  WORDS on a look in memory: its struct, its things, its stacks, its groups; contract: a thing is entered.
-/
import Derived.Test.YtephmagficbdeaaGrA
import Derived.Laws.OwnMore
import Derived.Deep.Fields
import Derived.Deep.Cut
import Derived.Maps.AppendAt
namespace Go.Proofs.Ytephmagficbdeaa.Gr
open Go.RowKit Mm Sp
set_option linter.unusedVariables false
set_option linter.unusedSimpArgs false
abbrev TL : TypeId := 50
abbrev TT : TypeId := 52
abbrev TI : TypeId := 3
abbrev TR : TypeId := 28
theorem Tint : (Try.prog.info? 3).map (fun i => (i.zero, i.size, i.bytes)) = some (some (.int .i64 0), 1, 8) := by kernel_rfl
theorem Trow : (Try.prog.info? 28).map (fun i => (i.zero, i.size, i.bytes)) = some (some (.slice none 0 0), 1, 24) := by kernel_rfl
theorem Tthing : (Try.prog.info? 52).map (fun i => (i.zero, i.size, i.bytes)) = some (some (.agg #[.int .i64 0, .int .i64 0, .int .i64 0, .bool false]), 4, 32) := by kernel_rfl
/-- numbers as values -/
def iv (l : List Int) : List Value := l.map (Value.int .i64)
def nv (l : List Nat) : List Value := l.map fun n : Nat => Value.int .i64 (n : Int)
theorem nv_length (l : List Nat) : (nv l).length = l.length := by simp [nv]
theorem nv_append (a b : List Nat) : nv (a ++ b) = nv a ++ nv b := by simp [nv]
theorem nv_take (l : List Nat) (n : Nat) : (nv l).take n = nv (l.take n) := by simp [nv]
theorem nv_get {l : List Nat} {i : Nat} (h : i < l.length) : (nv l)[i]? = some (.int .i64 ((l[i] : Nat) : Int)) := by simp [nv, h]
/-- the four cells of each thing -/
def cell4 (s : TS) (i : Nat) : List Value := [.int .i64 (s.at_ i), .int .i64 (s.back i), .int .i64 (s.nxt i), .bool (s.whole i)]
def thg (N : Nat) (s : TS) : List Value := (List.range N).flatMap (cell4 s)
theorem flat_congr {f g : Nat → List Value} : ∀ (l : List Nat), (∀ a ∈ l, f a = g a) → l.flatMap f = l.flatMap g
  | [], _ => rfl
  | a :: l, h => by rw [List.flatMap_cons, List.flatMap_cons, h a (by simp), flat_congr l fun b hb => h b (List.mem_cons_of_mem _ hb)]
theorem flat_get (f : Nat → List Value) (hf : ∀ i, (f i).length = 4) : ∀ (N k i j : Nat), i < N → j < 4 → ((List.range' k N).flatMap f)[i * 4 + j]? = (f (k + i))[j]?
  | 0, _, _, _, h, _ => by omega
  | N + 1, k, 0, j, _, hj => by
    rw [List.range'_succ, List.flatMap_cons, List.getElem?_append_left (by rw [hf]; omega)]
    simp
  | N + 1, k, i + 1, j, h, hj => by
    rw [List.range'_succ, List.flatMap_cons, List.getElem?_append_right (by rw [hf]; omega), hf]
    have := flat_get f hf N (k + 1) i j (by omega) hj
    rw [show (i + 1) * 4 + j - 4 = i * 4 + j by omega, this, show k + 1 + i = k + (i + 1) by omega]
theorem flat_set (f : Nat → List Value) (hf : ∀ i, (f i).length = 4) (u : Value) : ∀ (N k i j : Nat), i < N → j < 4 → ((List.range' k N).flatMap f).set (i * 4 + j) u = (List.range' k N).flatMap (fun a => if a = k + i then (f a).set j u else f a)
  | 0, _, _, _, h, _ => by omega
  | N + 1, k, 0, j, _, hj => by
    rw [List.range'_succ, List.flatMap_cons, List.flatMap_cons, List.set_append_left _ _ (by rw [hf]; omega)]
    simp only [Nat.zero_mul, Nat.zero_add, Nat.add_zero, if_true]
    congr 1
    refine flat_congr _ ?_
    intro a ha
    have := List.mem_range'_1.1 ha
    rw [if_neg (by omega)]
  | N + 1, k, i + 1, j, h, hj => by
    rw [List.range'_succ, List.flatMap_cons, List.flatMap_cons, List.set_append_right _ _ (by rw [hf]; omega), hf]
    have := flat_set f hf u N (k + 1) i j (by omega) hj
    rw [show (i + 1) * 4 + j - 4 = i * 4 + j by omega, this, if_neg (by omega)]
    congr 1
    refine flat_congr _ ?_
    intro a ha
    rw [show k + 1 + i = k + (i + 1) by omega]
theorem thg_length (N : Nat) (s : TS) : (thg N s).length = N * 4 := by
  unfold thg
  rw [List.length_flatMap]
  induction N with
  | zero => simp
  | succ N ih => rw [List.range_succ, List.map_append, List.sum_append, ih]; simp [cell4]; omega
theorem thg_get {N : Nat} {s : TS} {i j : Nat} (hi : i < N) (hj : j < 4) : (thg N s)[i * 4 + j]? = (cell4 s i)[j]? := by
  unfold thg
  rw [List.range_eq_range', flat_get (cell4 s) (fun _ => rfl) N 0 i j hi hj, Nat.zero_add]
theorem thg_set {N : Nat} {s s' : TS} {i j : Nat} {u : Value} (hi : i < N) (hj : j < 4) (h1 : cell4 s' i = (cell4 s i).set j u) (h2 : ∀ a, a ≠ i → cell4 s' a = cell4 s a) : (thg N s).set (i * 4 + j) u = thg N s' := by
  unfold thg
  rw [List.range_eq_range', flat_set (cell4 s) (fun _ => rfl) u N 0 i j hi hj]
  refine flat_congr _ ?_
  intro a _
  by_cases e : a = i
  · subst e; rw [if_pos (by omega), h1]
  · rw [if_neg (by omega), h2 a e]
/-- groups in memory -/
def RowsAt (B : Nat) (w : World) (pv ov : Value) (vs : List Value) (gs : List (List Nat)) : Prop :=
  ∀ (i : Nat) C, gs[i]? = some C → ∃ b c, vs[i]? = some (.slice (some ⟨b, 0, none⟩) C.length c) ∧ pv.ownBlock ≠ some b ∧ ov.ownBlock ≠ some b ∧ w.ownsRow B TI 1 (.slice (some ⟨b, 0, none⟩) C.length c) C.length (nv C)
/-- a look in memory -/
structure LookAt (B : Nat) (w : World) (p : Nat) (uv : Value) (N : Nat) (s : TS) (q : Nat) (pv ov gv : Value) (vs : List Value) : Prop where
  box : Box w p TL #[uv, .slice (some ⟨q, 0, none⟩) N N, .int .i64 s.count, pv, ov, gv]
  thg : w.ownsRow B TT 4 (.slice (some ⟨q, 0, none⟩) N N) N (thg N s)
  pth : w.ownsRow B TI 1 pv s.path.length (nv s.path)
  opn : w.ownsRow B TI 1 ov s.opn.length (nv s.opn)
  grp : w.ownsRow B TR 1 gv s.groups.length vs
  rows : RowsAt B w pv ov vs s.groups
  ap : ∀ k, pv.ownBlock = some k → ov.ownBlock ≠ some k
  hp : B ≤ p
def Look (B : Nat) (w : World) (p : Nat) (uv : Value) (N : Nat) (s : TS) : Prop := ∃ q pv ov gv vs, LookAt B w p uv N s q pv ov gv vs
/-- how a call on a look ends -/
def LookPost (B : Nat) (w : World) (p : Nat) (uv : Value) (N : Nat) (s : TS) (e : Ending) (w' : World) : Prop := e = .returned (.tuple #[]) ∧ Look B w' p uv N s ∧ Below B w w'
section
variable {B : Nat} {w w' : World} {p : Nat} {uv : Value} {N : Nat} {s : TS} {q : Nat} {pv ov gv : Value} {vs : List Value}
theorem LookAt.hq (h : LookAt B w p uv N s q pv ov gv vs) : B ≤ q := (h.thg.lt q rfl).1
theorem LookAt.thing (h : LookAt B w p uv N s q pv ov gv vs) {n : Nat} (hn : n < N) :
    w.cell? ⟨q, n * 4, none⟩ = some (.int .i64 (s.at_ n)) ∧ w.cell? ⟨q, n * 4 + 1, none⟩ = some (.int .i64 (s.back n)) ∧ w.cell? ⟨q, n * 4 + 2, none⟩ = some (.int .i64 (s.nxt n)) ∧ w.cell? ⟨q, n * 4 + 3, none⟩ = some (.bool (s.whole n)) := by
  refine ⟨?_, ?_, ?_, ?_⟩
  · exact (h.thg.cellAt (n * 4) (by omega)).trans (thg_get (j := 0) hn (by omega))
  · exact (h.thg.cellAt (n * 4 + 1) (by omega)).trans (thg_get (j := 1) hn (by omega))
  · exact (h.thg.cellAt (n * 4 + 2) (by omega)).trans (thg_get (j := 2) hn (by omega))
  · exact (h.thg.cellAt (n * 4 + 3) (by omega)).trans (thg_get (j := 3) hn (by omega))
theorem own_two {B1 B2 : Nat} {e1 e2 : TypeId} {s1 s2 n1 n2 : Nat} {v1 v2 : Value} {x1 x2 : List Value} (h1 : w.ownsRow B1 e1 s1 v1 n1 x1) (h2 : w.ownsRow B2 e2 s2 v2 n2 x2) (hne : e1 ≠ e2) : v1.ownBlock = none ∨ v1.ownBlock ≠ v2.ownBlock := by
  rcases h1.2 with ⟨rfl, _⟩ | ⟨g, cap, cur, rfl, _, hg, _⟩
  · exact .inl rfl
  · refine .inr fun e => ?_
    rcases h2.2 with ⟨rfl, _⟩ | ⟨g', cap', cur', rfl, _, hg', _⟩
    · simp [Value.ownBlock] at e
    · obtain rfl : g = g' := by simpa [Value.ownBlock] using e
      exact hne (Box.same (w := w) (g := g) hg hg')
theorem RowsAt.grown {row : Option Nat} {pv' ov' : Value} {gs : List (List Nat)} (h : RowsAt B w pv ov vs gs) (hg : w.grownBy w' row) (hr : ∀ b, pv.ownBlock ≠ some b → ov.ownBlock ≠ some b → b < w.heap.size → row ≠ some b ∧ pv'.ownBlock ≠ some b ∧ ov'.ownBlock ≠ some b) : RowsAt B w' pv' ov' vs gs := by
  intro i C hC
  obtain ⟨b, c, k1, k2, k3, k4⟩ := h i C hC
  obtain ⟨r1, r2, r3⟩ := hr b k2 k3 (k4.lt b rfl).2
  exact ⟨b, c, k1, r2, r3, k4.kept hg (.inr fun e => r1 (by rw [← e]; rfl))⟩
theorem RowsAt.set {gs : List (List Nat)} (h : RowsAt B w pv ov vs gs) {a : Addr} {t : TypeId} {cs : Array Value} (hx : Box w a.block t cs) (hne : TI ≠ t) (u : Value) : RowsAt B (w.setCell a u) pv ov vs gs := by
  intro i C hC
  obtain ⟨b, c, k1, k2, k3, k4⟩ := h i C hC
  refine ⟨b, c, k1, k2, k3, ownsRow_setCell_other k4 (fun e => ?_) u⟩
  exact own_ne k4 hx hne e.symm
theorem LookAt.drew (h : LookAt B w p uv N s q pv ov gv vs) : LookAt B w.drew p uv N s q pv ov gv vs := ⟨h.box, h.thg, h.pth, h.opn, h.grp, h.rows, h.ap, h.hp⟩
theorem LookAt.drewN (h : LookAt B w p uv N s q pv ov gv vs) (n : Nat) : LookAt B (w.drewN n) p uv N s q pv ov gv vs := ⟨h.box, h.thg, h.pth, h.opn, h.grp, h.rows, h.ap, h.hp⟩
theorem LookAt.alloc (h : LookAt B w p uv N s q pv ov gv vs) (o : Obj) : LookAt B (w.alloc o) p uv N s q pv ov gv vs :=
  ⟨h.box.alloc o, h.thg.alloc o, h.pth.alloc o, h.opn.alloc o, h.grp.alloc o, fun i C hC => by
    obtain ⟨b, c, k1, k2, k3, k4⟩ := h.rows i C hC
    exact ⟨b, c, k1, k2, k3, k4.alloc o⟩, h.ap, h.hp⟩
/-- a field of the struct is stored that is a row's new value -/
theorem LookAt.field (h : LookAt B w p uv N s q pv ov gv vs) (i : Nat) (u : Value) : Box (w.setCell ⟨p, i, none⟩ u) p TL (#[uv, .slice (some ⟨q, 0, none⟩) N N, .int .i64 s.count, pv, ov, gv].setIfInBounds i u) ∧ (w.setCell ⟨p, i, none⟩ u).ownsRow B TT 4 (.slice (some ⟨q, 0, none⟩) N N) N (Gr.thg N s) ∧ (w.setCell ⟨p, i, none⟩ u).ownsRow B TI 1 pv s.path.length (nv s.path) ∧ (w.setCell ⟨p, i, none⟩ u).ownsRow B TI 1 ov s.opn.length (nv s.opn) ∧ (w.setCell ⟨p, i, none⟩ u).ownsRow B TR 1 gv s.groups.length vs ∧ RowsAt B (w.setCell ⟨p, i, none⟩ u) pv ov vs s.groups :=
  ⟨h.box.put i u, own_far h.thg h.box (by decide) i u, own_far h.pth h.box (by decide) i u, own_far h.opn h.box (by decide) i u, own_far h.grp h.box (by decide) i u, h.rows.set (a := ⟨p, i, none⟩) h.box (by decide) u⟩
theorem LookAt.count (h : LookAt B w p uv N s q pv ov gv vs) (c : Nat) : LookAt B (w.setCell ⟨p, 2, none⟩ (.int .i64 c)) p uv N { s with count := c } q pv ov gv vs := by
  obtain ⟨h1, h2, h3, h4, h5, h6⟩ := h.field 2 (.int .i64 c)
  exact ⟨h1, h2, h3, h4, h5, h6, h.ap, h.hp⟩
/-- a thing's cell is stored -/
theorem LookAt.put (h : LookAt B w p uv N s q pv ov gv vs) {n j : Nat} {u : Value} {s' : TS} (hn : n < N) (hj : j < 4) (h1 : cell4 s' n = (cell4 s n).set j u) (h2 : ∀ a, a ≠ n → cell4 s' a = cell4 s a) (hc : s'.count = s.count) (hp : s'.path = s.path) (ho : s'.opn = s.opn) (hg : s'.groups = s.groups) :
    LookAt B (w.setCell ⟨q, n * 4 + j, none⟩ u) p uv N s' q pv ov gv vs := by
  obtain ⟨cur, hb⟩ := own_block h.thg
  have hpq : q ≠ p := fun e => by
    subst e
    exact absurd (Box.same h.box hb) (by decide)
  refine ⟨by rw [hc]; exact h.box.far (a := ⟨q, n * 4 + j, none⟩) hpq u, by rw [← thg_set hn hj h1 h2]; exact (h.thg.stored _ u).1, by rw [hp]; exact own_far h.pth hb (by decide) _ u, by rw [ho]; exact own_far h.opn hb (by decide) _ u, by rw [hg]; exact own_far h.grp hb (by decide) _ u, by rw [hg]; exact h.rows.set (a := ⟨q, n * 4 + j, none⟩) hb (by decide) u, h.ap, h.hp⟩
/-- something is put behind the path -/
theorem LookAt.onPath (h : LookAt B w p uv N s q pv ov gv vs) {w6 : World} {pv' : Value} {n : Nat} (hown : w6.ownsRow B TI 1 pv' (s.path.length + 1) (nv s.path ++ [.int .i64 n])) (hgrow : w.grownBy w6 pv.ownBlock) (hat : pv'.ownBlock = pv.ownBlock ∨ pv'.ownBlock = some w.heap.size) :
    LookAt B (w6.setCell ⟨p, 3, none⟩ pv') p uv N { s with path := s.path ++ [n] } q pv' ov gv vs := by
  have hb6 := h.box.grown hgrow (own_ne h.pth h.box (by decide))
  have ho6 := h.opn.kept hgrow (by
    cases e : ov.ownBlock with
    | none => exact .inl rfl
    | some k => exact .inr fun e2 => h.ap k e2.symm e)
  have ht6 := h.thg.kept hgrow (own_two h.thg h.pth (by decide))
  have hg6 := h.grp.kept hgrow (own_two h.grp h.pth (by decide))
  have hnew : ∀ b, pv.ownBlock ≠ some b → b < w.heap.size → pv'.ownBlock ≠ some b := fun b h1 h2 e => by
    rcases hat with e' | e'
    · exact h1 (e'.symm.trans e)
    · rw [e'] at e; simp at e; omega
  have hr6 : RowsAt B w6 pv' ov vs s.groups := h.rows.grown hgrow fun b h1 h2 h3 => ⟨fun e => h1 e, hnew b h1 h3, h2⟩
  refine ⟨hb6.put 3 pv', own_far ht6 hb6 (by decide) 3 pv', ?_, own_far ho6 hb6 (by decide) 3 pv', own_far hg6 hb6 (by decide) 3 pv', hr6.set (a := ⟨p, 3, none⟩) hb6 (by decide) pv', ?_, h.hp⟩
  · have := own_far hown hb6 (by decide) 3 pv'
    simpa [nv] using this
  · intro k hk e
    have hlt := (h.opn.lt k e).2
    refine hnew k (fun e' => h.ap k e' e) hlt hk
theorem LookAt.onOpen (h : LookAt B w p uv N s q pv ov gv vs) {w6 : World} {ov' : Value} {n : Nat} (hown : w6.ownsRow B TI 1 ov' (s.opn.length + 1) (nv s.opn ++ [.int .i64 n])) (hgrow : w.grownBy w6 ov.ownBlock) (hat : ov'.ownBlock = ov.ownBlock ∨ ov'.ownBlock = some w.heap.size) :
    LookAt B (w6.setCell ⟨p, 4, none⟩ ov') p uv N { s with opn := s.opn ++ [n] } q pv ov' gv vs := by
  have hb6 := h.box.grown hgrow (own_ne h.opn h.box (by decide))
  have ho6 := h.pth.kept hgrow (by
    cases e : pv.ownBlock with
    | none => exact .inl rfl
    | some k => exact .inr fun e2 => h.ap k e e2.symm)
  have ht6 := h.thg.kept hgrow (own_two h.thg h.opn (by decide))
  have hg6 := h.grp.kept hgrow (own_two h.grp h.opn (by decide))
  have hnew : ∀ b, ov.ownBlock ≠ some b → b < w.heap.size → ov'.ownBlock ≠ some b := fun b h1 h2 e => by
    rcases hat with e' | e'
    · exact h1 (e'.symm.trans e)
    · rw [e'] at e; simp at e; omega
  have hr6 : RowsAt B w6 pv ov' vs s.groups := h.rows.grown hgrow fun b h1 h2 h3 => ⟨fun e => h2 e, h1, hnew b h2 h3⟩
  refine ⟨hb6.put 4 ov', own_far ht6 hb6 (by decide) 4 ov', own_far ho6 hb6 (by decide) 4 ov', ?_, own_far hg6 hb6 (by decide) 4 ov', hr6.set (a := ⟨p, 4, none⟩) hb6 (by decide) ov', ?_, h.hp⟩
  · have := own_far hown hb6 (by decide) 4 ov'
    simpa [nv] using this
  · intro k hk e
    have hlt := (h.pth.lt k hk).2
    refine hnew k (fun e' => h.ap k hk e') hlt e
end
set_option maxHeartbeats 2000000 in
theorem enter_any {B : Nat} {p : Nat} {uv : Value} {N : Nat} {s : TS} (n : Nat) (w : World) (h : Look B w p uv N s) (hn : n < N) (hN : N ≤ 2048) (hB : B ≤ w.heap.size) (hc : s.count ≤ 100000) (hpl : s.path.length ≤ 100000) (hol : s.opn.length ≤ 100000) :
    Calls Try.prog 30 #[.pointer (some ⟨p, 0, none⟩), .int .i64 n] w (LookPost B w p uv N (s.enter n)) := by
  obtain ⟨q, pv, ov, gv, vs, H⟩ := h
  obtain ⟨i0, hi, hz0, hz1, hz2'⟩ := info_parts Tint
  obtain ⟨W1, hW1⟩ : ∃ W1, (((((w.setCell ⟨p, 2, none⟩ (.int .i64 (↑s.count + 1))).setCell ⟨q, n * 4, none⟩ (.int .i64 (↑s.count + 1))).setCell ⟨q, n * 4 + 1, none⟩ (.int .i64 (↑s.count + 1))).setCell ⟨q, n * 4 + 2, none⟩ (.int .i64 0)).setCell ⟨q, n * 4 + 3, none⟩ (.bool false)).drew = W1 := ⟨_, rfl⟩
  have H1 : LookAt B W1 p uv N { s.enter n with path := s.path, opn := s.opn } q pv ov gv vs := by
    rw [← hW1]
    have a1 := H.count (s.count + 1)
    have a2 := a1.put (n := n) (j := 0) (u := .int .i64 (↑s.count + 1)) (s' := { s with count := s.count + 1, at_ := upd s.at_ n (s.count + 1) }) hn (by omega) (by simp [cell4, upd]) (fun a ha => by simp [cell4, upd, ha]) rfl rfl rfl rfl
    have a3 := a2.put (n := n) (j := 1) (u := .int .i64 (↑s.count + 1)) (s' := { s with count := s.count + 1, at_ := upd s.at_ n (s.count + 1), back := upd s.back n (s.count + 1) }) hn (by omega) (by simp [cell4, upd]) (fun a ha => by simp [cell4, upd, ha]) rfl rfl rfl rfl
    have a4 := a3.put (n := n) (j := 2) (u := .int .i64 0) (s' := { s with count := s.count + 1, at_ := upd s.at_ n (s.count + 1), back := upd s.back n (s.count + 1), nxt := upd s.nxt n 0 }) hn (by omega) (by simp [cell4, upd]) (fun a ha => by simp [cell4, upd, ha]) rfl rfl rfl rfl
    have a5 := a4.put (n := n) (j := 3) (u := .bool false) (s' := { s with count := s.count + 1, at_ := upd s.at_ n (s.count + 1), back := upd s.back n (s.count + 1), nxt := upd s.nxt n 0, whole := upd s.whole n false }) hn (by omega) (by simp [cell4, upd]) (fun a ha => by simp [cell4, upd, ha]) rfl rfl rfl rfl
    exact a5.drew
  have hB1 : Below B w W1 := by
    rw [← hW1]
    have := H.hp
    have := H.hq
    exact (((((((Below.refl B w).setCell (p := ⟨p, 2, none⟩) H.hp _).setCell (p := ⟨q, _, none⟩) H.hq _).setCell (p := ⟨q, _, none⟩) H.hq _).setCell (p := ⟨q, _, none⟩) H.hq _).setCell (p := ⟨q, _, none⟩) H.hq _)).drew
  have HH1 := Lib.hid H1
  have HB1 := Lib.hid hB1
  have hz1B : B ≤ W1.heap.size := Nat.le_trans hB hB1.size
  have hpB := H.hp
  have x1 := H.box.cell 1
  have x2 := H.box.cell 2
  have x3 := H.box.cell 3
  have x4 := H.box.cell 4
  have f2 := H.box.free 2
  obtain ⟨t0, t1, t2, t3⟩ := H.thing hn
  have g0 := H.thg.frozenAt (n * 4)
  have g1 := H.thg.frozenAt (n * 4 + 1)
  have g2 := H.thg.frozenAt (n * 4 + 2)
  have g3 := H.thg.frozenAt (n * 4 + 3)
  have hpq : p ≠ q := fun e => by
    subst e
    exact absurd (Box.same H.box (own_block H.thg).choose_spec) (by decide)
  have hpq' := hpq.symm
  simp only [List.getElem?_toArray, List.getElem?_cons_zero, List.getElem?_cons_succ] at x1 x2 x3 x4
  clear H H1 hB1
  go_enter Try.func30, Try.ntmps30
  go_wp2_with fail
  go_region
  clear hW1 x1 x2 x3 x4 f2 t0 t1 t2 t3 g0 g1 g2 g3
  have x3 := HH1.out.box.cell 3
  have f3 := HH1.out.box.free 3
  simp only [List.getElem?_toArray, List.getElem?_cons_zero, List.getElem?_cons_succ] at x3
  go_wp2_with (at_builtin; refine wpList_append_own_at _ rfl _ _ 28 rfl B 3 i0 _ 1 8 Try.underlying28 hi hz0 hz1 hz2' rfl (by decide) _ _ _ rfl (HH1.out.pth.alloc _) ⟨W1.heap.size, 0, none⟩ 1 1 [.int .i64 n] rfl rfl (Go.cell_one_new _ _ _) (fun u hu => by simp only [List.mem_singleton] at hu; rw [hu]; rfl) (by unfold maxLen; show s.path.length + 1 ≤ _; omega) (by show (s.path.length + 1) * 8 ≤ _; omega) (by simp; omega) ?_)
  intro v1 w2 hown hgrow _ hat
  obtain ⟨a1, c1, rfl⟩ := own_slice hown
  have hx6 := (HH1.out.box.alloc (.cells #[.int .i64 n] 3)).grown hgrow (own_ne HH1.out.pth HH1.out.box (by decide))
  have H2 := Lib.hid ((HH1.out.alloc (.cells #[.int .i64 n] 3)).onPath hown hgrow (by simpa using hat))
  have B2 := Lib.hid ((((HB1.out.alloc hz1B (.cells #[.int .i64 n] 3)).grown hgrow (by simp; omega) (fun k hk => (HH1.out.pth.lt k hk).1))).setCell (p := ⟨p, 3, none⟩) hpB (.slice a1 (s.path.length + 1) c1))
  have z2 : B ≤ w2.heap.size := by have := hgrow.size; simp at this; omega
  obtain ⟨W2, hW2⟩ : ∃ W2, w2.setCell ⟨p, 3, none⟩ (.slice a1 (s.path.length + 1) c1) = W2 := ⟨_, rfl⟩
  rw [hW2] at H2 B2
  have z3 : B ≤ W2.heap.size := by rw [← hW2]; simpa using z2
  have y3 := hx6.cell 3
  have y4 := hx6.free 3
  simp only [List.getElem?_toArray, List.getElem?_cons_zero, List.getElem?_cons_succ] at y3
  clear hown hgrow hat hx6 x3 f3 z2
  go_upto_region 3 with fail
  clear hW2 y3 y4
  have x4 := H2.out.box.cell 4
  simp only [List.getElem?_toArray, List.getElem?_cons_zero, List.getElem?_cons_succ] at x4
  go_wp2_with (at_builtin; refine wpList_append_own_at _ rfl _ _ 28 rfl B 3 i0 _ 1 8 Try.underlying28 hi hz0 hz1 hz2' rfl (by decide) _ _ _ rfl (H2.out.opn.alloc _) ⟨W2.heap.size, 0, none⟩ 1 1 [.int .i64 n] rfl rfl (Go.cell_one_new _ _ _) (fun u hu => by simp only [List.mem_singleton] at hu; rw [hu]; rfl) (by unfold maxLen; show s.opn.length + 1 ≤ _; omega) (by show (s.opn.length + 1) * 8 ≤ _; omega) (by simp; omega) ?_)
  intro v2 w3 hown hgrow _ hat
  obtain ⟨a2, c2, rfl⟩ := own_slice hown
  have hx6 := (H2.out.box.alloc (.cells #[.int .i64 n] 3)).grown hgrow (own_ne H2.out.opn H2.out.box (by decide))
  have H3 := Lib.hid ((H2.out.alloc (.cells #[.int .i64 n] 3)).onOpen hown hgrow (by simpa using hat))
  have B3 := Lib.hid ((((B2.out.alloc z3 (.cells #[.int .i64 n] 3)).grown hgrow (by simp; omega) (fun k hk => (H2.out.opn.lt k hk).1))).setCell (p := ⟨p, 4, none⟩) hpB (.slice a2 (s.opn.length + 1) c2))
  have y3 := hx6.cell 4
  have y4 := hx6.free 4
  simp only [List.getElem?_toArray, List.getElem?_cons_zero, List.getElem?_cons_succ] at y3
  clear hown hgrow hat hx6 x4
  go_wp2_with fail
  refine bodyPost_end (by simp [results, Try.results30, go_sem]; rfl) rfl ?_
  exact ⟨rfl, ⟨q, _, _, gv, vs, H3.out⟩, B3.out⟩
end Go.Proofs.Ytephmagficbdeaa.Gr
