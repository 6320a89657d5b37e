/-
  WORDS of layer decl: a table while it is made: its box, its two maps, its rows of names; each step on them.
-/
import Derived.Test.YtgmgnnmmapdikaaDcH
namespace Go.Proofs.Ytgmgnnmmapdikaa.Dc
open Go.RowKit Mm Tm Mv Go.Maps Go.ChangeMaps Go.MapKept Go.WideMaps
set_option linter.unusedVariables false
set_option linter.unusedSimpArgs false
theorem ts_ne : TS ≠ TTab := by decide
/-- what a step on a table may write -/
def Mine (m1 m2 : Nat) (b : Nat) : Obj → Prop
  | .cells _ t _ => t = TS ∨ t = TTab
  | .map _ _ => b = m1 ∨ b = m2
  | _ => False
/-- all else is kept -/
def Keeps (m1 m2 : Nat) (w w' : World) : Prop := ∀ b o, w.heap[b]? = some o → ¬ Mine m1 m2 b o → w'.heap[b]? = some o
theorem Keeps.refl (m1 m2 : Nat) (w : World) : Keeps m1 m2 w w := fun _ _ h _ => h
theorem Keeps.trans {m1 m2 : Nat} {w w' w'' : World} (h : Keeps m1 m2 w w') (k : Keeps m1 m2 w' w'') : Keeps m1 m2 w w'' := fun b o h1 h2 => k b o (h b o h1 h2) h2
theorem Keeps.drew {m1 m2 : Nat} {w w' : World} (h : Keeps m1 m2 w w') : Keeps m1 m2 w w'.drew := h
theorem heap_lt {w : World} {b : Nat} {x : Obj} (h : w.heap[b]? = some x) : b < w.heap.size := by
  rcases Nat.lt_or_ge b w.heap.size with q | q
  · exact q
  · rw [Array.getElem?_eq_none q] at h; cases h
theorem Keeps.alloc {m1 m2 : Nat} {w w' : World} (h : Keeps m1 m2 w w') (o : Obj) : Keeps m1 m2 w (w'.alloc o) := fun b x h1 h2 => by
  have := h b x h1 h2
  rw [Below.heap_alloc w' o b (heap_lt this)]
  exact this
theorem Keeps.below {m1 m2 : Nat} {w w' w'' : World} (h : Keeps m1 m2 w w') (hb : Below w'.heap.size w' w'') : Keeps m1 m2 w w'' := fun b x h1 h2 => by
  have := h b x h1 h2
  rw [hb.block b (heap_lt this)]
  exact this
theorem Keeps.box {m1 m2 : Nat} {w w' : World} (h : Keeps m1 m2 w w') {g : Nat} {t : TypeId} {cs : Array Value} (hx : Box w g t cs) (h1 : t ≠ TS) (h2 : t ≠ TTab) : Box w' g t cs := h g _ hx (by rintro (e | e); exact h1 e; exact h2 e)
theorem Keeps.tyb {m1 m2 : Nat} {w w' : World} (h : Keeps m1 m2 w w') {b : Nat} (hx : TyB TT w b) : TyB TT w' b ∧ w'.heap[b]? = w.heap[b]? := by
  obtain ⟨cs, hc⟩ := hx
  have := h b _ hc (by rintro (e | e); exact absurd e (by decide); exact absurd e (by decide))
  exact ⟨⟨cs, this⟩, by rw [this, hc]⟩
theorem Keeps.map {m1 m2 : Nat} {w w' : World} (h : Keeps m1 m2 w w') {b n : Nat} {F : FM} (hx : MapIs w Try.prog TS b n F) (h1 : b ≠ m1) (h2 : b ≠ m2) : MapIs w' Try.prog TS b n F := by
  obtain ⟨D, ⟨es, clock, k1, k2, k3, k4⟩, q⟩ := hx
  exact ⟨D, ⟨es, clock, h b _ k1 (by rintro (e | e); exact h1 e; exact h2 e), k2, k3, k4⟩, q⟩
theorem Keeps.con {m1 m2 B : Nat} {w w' : World} (h : Keeps m1 m2 w w') {F2 : FM} {x : ConS} (hx : ConIs (fun b => B ≤ b ∧ TyB TT w b) w F2 x) : ConIs (fun b => B ≤ b ∧ TyB TT w' b) w' F2 x :=
  hx.frame (fun ad hZ => World.cell?_of_block (h.tyb hZ.2).2) fun b hZ => ⟨hZ.1, (h.tyb hZ.2).1⟩
theorem Keeps.rdt {m1 m2 B : Nat} {w w' : World} (h : Keeps m1 m2 w w') {a : Option Addr} {t : Tys} {k : Nat} (hx : RdT (fun b => B ≤ b ∧ TyB TT w b) w a t k) : RdT (fun b => B ≤ b ∧ TyB TT w' b) w' a t k :=
  hx.frame (fun b o hZ => World.cell?_of_block (h.tyb hZ.2).2) (fun ad hZ => World.cell?_of_block (h.tyb hZ.2).2) fun b hZ => ⟨hZ.1, (h.tyb hZ.2).1⟩
/-- a world's row or map is written -/
theorem Keeps.grown {m1 m2 : Nat} {w w' w'' : World} {g : Nat} (h : Keeps m1 m2 w w') (hg : w'.grownBy w'' (some g)) (hm : ∀ o, w'.heap[g]? = some o → Mine m1 m2 g o) : Keeps m1 m2 w w'' := fun b o h1 h2 => by
  have := h b o h1 h2
  rw [hg.block b (heap_lt this) (fun e => by injection e with e; subst e; exact h2 (hm o this))]
  exact this
theorem Keeps.grown0 {m1 m2 : Nat} {w w' w'' : World} (h : Keeps m1 m2 w w') (hg : w'.grownBy w'' none) : Keeps m1 m2 w w'' := fun b o h1 h2 => by
  have := h b o h1 h2
  rw [hg.block b (heap_lt this) (fun e => by cases e)]
  exact this
theorem Keeps.row {m1 m2 B n : Nat} {w w' w'' : World} {v : Value} {xs : List Value} (h : Keeps m1 m2 w w') (ho : w'.ownsRow B TS 1 v n xs) (hg : w'.grownBy w'' v.ownBlock) : Keeps m1 m2 w w'' := by
  rcases ho.2 with ⟨rfl, _⟩ | ⟨g, cap, cur, rfl, _, hh, _⟩
  · exact h.grown0 hg
  · exact h.grown hg fun o e => by rw [hh] at e; injection e with e; subst e; exact .inl rfl
theorem Keeps.set {m1 m2 : Nat} {w w' : World} {g : Nat} {cs : Array Value} (h : Keeps m1 m2 w w') (hx : Box w' g TTab cs) (j : Nat) (v : Value) : Keeps m1 m2 w (w'.setCell ⟨g, j, none⟩ v) := fun b o h1 h2 => by
  have := h b o h1 h2
  rw [Below.heap_setCell w' ⟨g, j, none⟩ v b (fun e => by
    have e : b = g := e
    subst e
    rw [show w'.heap[b]? = some (.cells cs TTab (0, 0)) from hx] at this
    injection this with this
    subst this
    exact h2 (.inr rfl))]
  exact this
/-- Beside a box that is new to the one who began, Keeps looks at the blocks that were there. -/
theorem Keeps.setNew {m1 m2 : Nat} {w w' : World} {g : Nat} (h : Keeps m1 m2 w w') (hg : w.heap.size ≤ g) (j : Nat) (v : Value) : Keeps m1 m2 w (w'.setCell ⟨g, j, none⟩ v) := fun b o h1 h2 => by
  have hlt := heap_lt h1
  rw [Below.heap_setCell w' ⟨g, j, none⟩ v b (fun e => by have e : b = g := e; omega)]
  exact h b o h1 h2
/-- The parts of a table. -/
structure TabP (B : Nat) (w : World) (tb m1 m2 n : Nat) (F1 F2 : FM) (vb vo : Value) (Lo : List Value) (V : ByteArray → Value) (L : ByteArray → List Value) : Prop where
  box : Box w tb TTab #[.map (some m1), .map (some m2), vb]
  btb : B ≤ tb
  bm1 : B ≤ m1
  bm2 : B ≤ m2
  ne : m1 ≠ m2
  map1 : MapIs w Try.prog TS m1 n F1
  map2 : MapIs w Try.prog TS m2 n F2
  ord : w.ownsRow B TS 1 vo Lo.length Lo
  row : ∀ s, w.ownsRow B TS 1 (V s) (L s).length (L s)
  sepo : ∀ s g, vo.ownBlock = some g → (V s).ownBlock ≠ some g
  sep : ∀ s s' g, s ≠ s' → (V s).ownBlock = some g → (V s').ownBlock ≠ some g
theorem map_not_cells {w : World} {b n : Nat} {F : FM} {cs : Array Value} {t : TypeId} (h : MapIs w Try.prog TS b n F) (hx : Box w b t cs) : False := by
  obtain ⟨D, ⟨es, clock, k1, _⟩, _⟩ := h
  rw [show w.heap[b]? = some (.cells cs t (0, 0)) from hx] at k1
  injection k1 with k1
  cases k1
theorem box_ne {w : World} {b g n : Nat} {F : FM} {cs : Array Value} {t : TypeId} (h : MapIs w Try.prog TS b n F) (hx : Box w g t cs) : b ≠ g := by
  rintro rfl
  exact map_not_cells h hx
theorem map_not_own {w : World} {b n k B : Nat} {F : FM} {v : Value} {xs : List Value} {e : TypeId} {sz : Nat} (h : MapIs w Try.prog TS b n F) (ho : w.ownsRow B e sz v k xs) : some b ≠ v.ownBlock := by
  intro hv
  rcases ho.2 with ⟨rfl, _⟩ | ⟨g, cap, cur, rfl, _, hh, _⟩
  · simp [Value.ownBlock] at hv
  · simp only [Value.ownBlock, Option.some.injEq] at hv
    subst hv
    exact map_not_cells h (show Box w b e cur from hh)
section
variable {B : Nat} {w w' : World} {tb m1 m2 n : Nat} {F1 F2 : FM} {vb vo : Value} {Lo : List Value} {V : ByteArray → Value} {L : ByteArray → List Value}
theorem TabP.drew (h : TabP B w tb m1 m2 n F1 F2 vb vo Lo V L) : TabP B w.drew tb m1 m2 n F1 F2 vb vo Lo V L := ⟨h.box, h.btb, h.bm1, h.bm2, h.ne, h.map1, h.map2, h.ord, h.row, h.sepo, h.sep⟩
theorem TabP.alloc (h : TabP B w tb m1 m2 n F1 F2 vb vo Lo V L) (o : Obj) : TabP B (w.alloc o) tb m1 m2 n F1 F2 vb vo Lo V L :=
  ⟨h.box.alloc o, h.btb, h.bm1, h.bm2, h.ne, h.map1.alloc o, h.map2.alloc o, h.ord.alloc o, fun s => (h.row s).alloc o, h.sepo, h.sep⟩
theorem TabP.here (h : TabP B w tb m1 m2 n F1 F2 vb vo Lo V L) (hb : Below w.heap.size w w') : TabP B w' tb m1 m2 n F1 F2 vb vo Lo V L :=
  ⟨h.box.below hb h.box.lt, h.btb, h.bm1, h.bm2, h.ne, h.map1.below hb h.map1.lt, h.map2.below hb h.map2.lt, own_here h.ord hb, fun s => own_here (h.row s) hb, h.sepo, h.sep⟩
theorem TabP.mono (h : TabP B w tb m1 m2 n F1 F2 vb vo Lo V L) {n' : Nat} (hn : n ≤ n') : TabP B w tb m1 m2 n' F1 F2 vb vo Lo V L := ⟨h.box, h.btb, h.bm1, h.bm2, h.ne, h.map1.mono hn, h.map2.mono hn, h.ord, h.row, h.sepo, h.sep⟩
theorem TabP.put2 (h : TabP B w tb m1 m2 n F1 F2 vb vo Lo V L) {F : FM} (hm : MapIs w' Try.prog TS m2 (n + 1) F) (hg : w.grownBy w' (some m2)) : TabP B w' tb m1 m2 (n + 1) F1 F vb vo Lo V L :=
  ⟨h.box.grown hg (fun e => by injection e with e; subst e; exact map_not_cells h.map2 h.box), h.btb, h.bm1, h.bm2, h.ne, (h.map1.kept hg (fun e => by injection e with e; exact h.ne e)).mono (by omega), hm,
    h.ord.kept hg (.inr fun e => map_not_own h.map2 h.ord e.symm), fun s => (h.row s).kept hg (.inr fun e => map_not_own h.map2 (h.row s) e.symm), h.sepo, h.sep⟩
theorem TabP.put1 (h : TabP B w tb m1 m2 n F1 F2 vb vo Lo V L) {F : FM} (hm : MapIs w' Try.prog TS m1 (n + 1) F) (hg : w.grownBy w' (some m1)) : TabP B w' tb m1 m2 (n + 1) F F2 vb vo Lo V L :=
  ⟨h.box.grown hg (fun e => by injection e with e; subst e; exact map_not_cells h.map1 h.box), h.btb, h.bm1, h.bm2, h.ne, hm, (h.map2.kept hg (fun e => by injection e with e; exact h.ne e.symm)).mono (by omega),
    h.ord.kept hg (.inr fun e => map_not_own h.map1 h.ord e.symm), fun s => (h.row s).kept hg (.inr fun e => map_not_own h.map1 (h.row s) e.symm), h.sepo, h.sep⟩
/-- a name behind a data type's row -/
theorem TabP.app (h : TabP B w tb m1 m2 n F1 F2 vb vo Lo V L) (s : ByteArray) {v' : Value} {xs : List Value} (ho : w'.ownsRow B TS 1 v' xs.length xs) (hg : w.grownBy w' (V s).ownBlock) (hat : v'.ownBlock = (V s).ownBlock ∨ v'.ownBlock = some w.heap.size) :
    TabP B w' tb m1 m2 n F1 F2 vb vo Lo (fun x => if x = s then v' else V x) (fun x => if x = s then xs else L x) := by
  have hro : ∀ {v : Value} {ys : List Value} {k : Nat}, w.ownsRow B TS 1 v k ys → (∀ g, v.ownBlock = some g → (V s).ownBlock ≠ some g) → w'.ownsRow B TS 1 v k ys := fun {v ys k} q hne => q.kept hg (by
    cases hv : v.ownBlock with
    | none => exact .inl rfl
    | some g => exact .inr fun e => hne g hv e.symm)
  have hnew : ∀ {v : Value} {ys : List Value} {k : Nat} {g : Nat}, w.ownsRow B TS 1 v k ys → (∀ g, v.ownBlock = some g → (V s).ownBlock ≠ some g) → v.ownBlock = some g → v'.ownBlock ≠ some g := fun {v ys k g} q hne hv e => by
    rcases hat with r | r
    · exact hne g hv (r ▸ e)
    · rw [r] at e; injection e with e; have := (q.lt g hv).2; omega
  refine ⟨h.box.grown hg (own_ne (h.row s) h.box ts_ne), h.btb, h.bm1, h.bm2, h.ne, h.map1.kept hg (map_not_own h.map1 (h.row s)), h.map2.kept hg (map_not_own h.map2 (h.row s)), hro h.ord (h.sepo s), fun x => ?_, fun x g hv => ?_, fun x y g hne hv => ?_⟩
  · by_cases e : x = s
    · rw [if_pos e, if_pos e]; exact ho
    · rw [if_neg e, if_neg e]; exact hro (h.row x) fun g => h.sep x s g e
  · by_cases e : x = s
    · rw [if_pos e]; exact hnew h.ord (h.sepo s) hv
    · rw [if_neg e]; exact h.sepo x g hv
  · by_cases e : x = s
    · have e2 : y ≠ s := fun q => hne (e.trans q.symm)
      rw [if_pos e] at hv
      rw [if_neg e2]
      exact fun q => hnew (h.row y) (fun g => h.sep y s g e2) q hv
    · rw [if_neg e] at hv
      by_cases e2 : y = s
      · rw [if_pos e2]; exact hnew (h.row x) (fun g => h.sep x s g e) hv
      · rw [if_neg e2]; exact h.sep x y g hne hv
/-- a name behind the row of all -/
theorem TabP.appo (h : TabP B w tb m1 m2 n F1 F2 vb vo Lo V L) {v' : Value} {xs : List Value} (ho : w'.ownsRow B TS 1 v' xs.length xs) (hg : w.grownBy w' vo.ownBlock) (hat : v'.ownBlock = vo.ownBlock ∨ v'.ownBlock = some w.heap.size) :
    TabP B w' tb m1 m2 n F1 F2 vb v' xs V L := by
  refine ⟨h.box.grown hg (own_ne h.ord h.box ts_ne), h.btb, h.bm1, h.bm2, h.ne, h.map1.kept hg (map_not_own h.map1 h.ord), h.map2.kept hg (map_not_own h.map2 h.ord), ho, fun x => (h.row x).kept hg ?_, fun x g hv e => ?_, h.sep⟩
  · cases hv : (V x).ownBlock with
    | none => exact .inl rfl
    | some g => exact .inr fun e => h.sepo x g e.symm hv
  · rcases hat with r | r
    · exact h.sepo x g (r ▸ hv) e
    · rw [r] at hv; injection hv with hv; have := ((h.row x).lt g e).2; omega
/-- a store into another block -/
theorem TabP.far (h : TabP B w tb m1 m2 n F1 F2 vb vo Lo V L) {g : Nat} {t : TypeId} {cs : Array Value} (hx : Box w g t cs) (h1 : t ≠ TS) (h2 : t ≠ TTab) (j : Nat) (u : Value) : TabP B (w.setCell ⟨g, j, none⟩ u) tb m1 m2 n F1 F2 vb vo Lo V L :=
  ⟨h.box.far (fun e => h2 (Box.same hx ((show g = tb from e) ▸ h.box))) u, h.btb, h.bm1, h.bm2, h.ne, h.map1.setCell (fun e => map_not_cells h.map1 ((show m1 = g from e) ▸ hx)) u, h.map2.setCell (fun e => map_not_cells h.map2 ((show m2 = g from e) ▸ hx)) u,
    own_far h.ord hx (fun e => h1 e.symm) j u, fun s => own_far (h.row s) hx (fun e => h1 e.symm) j u, h.sepo, h.sep⟩
/-- a store into the table's box -/
theorem TabP.set (h : TabP B w tb m1 m2 n F1 F2 vb vo Lo V L) (u : Value) : TabP B (w.setCell ⟨tb, 2, none⟩ u) tb m1 m2 n F1 F2 u vo Lo V L :=
  ⟨h.box.put 2 u, h.btb, h.bm1, h.bm2, h.ne, h.map1.setCell (box_ne h.map1 h.box) u, h.map2.setCell (box_ne h.map2 h.box) u,
    own_far h.ord h.box ts_ne 2 u, fun s => own_far (h.row s) h.box ts_ne 2 u, h.sepo, h.sep⟩
end
end Go.Proofs.Ytgmgnnmmapdikaa.Dc
