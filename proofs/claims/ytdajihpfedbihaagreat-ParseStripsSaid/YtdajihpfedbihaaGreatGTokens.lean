/-
  CONTRACT of layer lex: the tokens of a source.
-/
import Derived.Test.YtdajihpfedbihaaGreatGSc
import Derived.Deep.RegionHeld3
import Derived.Deep.RegionWith
import Derived.RegionTactic
import Derived.BigRegion
import Derived.IntWalk
import Derived.StillTailTactics
namespace Go.Proofs.YtdajihpfedbihaaGreat.Lx
open Go.RowKit Pl Ar Dg Pa
set_option linter.unusedVariables false

structure Tok where
  kind : Int
  text : List UInt8
  num : Int
  line : Int
  col : Int

def tokCells (t : Tok) : List Value := [.int .i64 t.kind, .string ⟨t.text.toArray⟩, .int .i64 t.num, .int .i64 t.line, .int .i64 t.col, .bool false]
def toksCells (l : List Tok) : List Value := l.flatMap tokCells
/-- tokens and a fault -/
structure Lexed where
  toks : List Tok
  err : Int
  line : Int
  col : Int
def lexG : Nat → List UInt8 → Int → Int → List Tok → Lexed
  | 0, _, _, _, acc => ⟨acc, 0, 0, 0⟩
  | f + 1, l, ln, col, acc =>
    if l = [] then ⟨acc, 0, 0, 0⟩
    else if 0 < gapLen l then lexG f (l.drop (gapLen l)) (behindL (l.take (gapLen l)) ln) (behindC (l.take (gapLen l)) col) acc
    else if fErr l ≠ 0 then ⟨[], fErr l, ln, col⟩
    else if acc.length = 2048 then ⟨[], 2, ln, col⟩
    else lexG f (l.drop (fText l).length) ln (col + (fText l).length) (acc ++ [⟨fKind l, fText l, fNum l, ln, col⟩])
def lexed (l : List UInt8) : Lexed := if 8192 < l.length then ⟨[], 2, 1, 1⟩ else lexG (l.length + 1) l 1 1 []

abbrev OwnsT (w : World) (B : Nat) (v : Value) (l : List Tok) : Prop := w.ownsRow B 54 6 v l.length (toksCells l)
def TokensPost (l : List UInt8) (w : World) (e : Ending) (w' : World) : Prop :=
  ∃ v, e = .returned (.tuple #[v, .agg #[.int .i64 (lexed l).err, .int .i64 (lexed l).line, .int .i64 (lexed l).col]]) ∧ OwnsT w' w.heap.size v (lexed l).toks ∧ Below w.heap.size w w'
theorem tokensPost {l : List UInt8} {v : Value} {r : Lexed} {w w' : World} (h : lexed l = r) (ho : OwnsT w' w.heap.size v r.toks) (hb : Below w.heap.size w w') :
    TokensPost l w (.returned (.tuple #[v, .agg #[.int .i64 r.err, .int .i64 r.line, .int .i64 r.col]])) w' := ⟨v, by rw [h], by rw [h]; exact ho, hb⟩
theorem toksNil (w : World) (B : Nat) : OwnsT w B (.slice none 0 0) [] := World.ownsRow_nil _ _ _ _

theorem gap_is {s : ByteArray} {n : Nat} (h : gapLen s.data.toList = n) (hs : s.size ≤ 9223372036854775807) (w : World) : Calls Tryz.prog 70 #[.string s] w fun e w' => e = .returned (.int .i64 n) ∧ w = w' := by
  have g := gap_any s hs w
  unfold GapPost at g
  rw [h] at g
  exact g
set_option maxHeartbeats 2000000 in
theorem tokens_long (s : ByteArray) (hs : s.size ≤ 9223372036854775807) (h : 8192 < s.size) (w : World) : Calls Tryz.prog 43 #[.string s] w (TokensPost s.data.toList w) := by
  have HF := Lib.hid (show lexed s.data.toList = ⟨[], 2, 1, 1⟩ by unfold lexed; rw [if_pos (by rw [← Lib.size_eq]; exact h)])
  go_enter Tryz.func43, Tryz.ntmps43
  go_wp2
  go_step3
  go_wp2
  go_region
  all_goals (try go_wp2)
  all_goals (try rw [Exit.noGoto_ret])
  all_goals go_returns
  all_goals exact tokensPost HF.out (toksNil _ _) (by go_grown)

theorem gapR_le (rm : Bool) (l : List UInt8) : gapR rm l ≤ l.length := by
  induction l with
  | nil => exact Nat.le_refl _
  | cons c r ih => unfold gapR; split; · simp
                   · split <;> simp; omega
theorem gapLen_le (l : List UInt8) : gapLen l ≤ l.length := gapR_le _ _
theorem behind_is {ln col ln2 col2 : Int} {s : ByteArray} (h1 : 0 ≤ ln) (h2 : ln ≤ 1000000000) (h3 : 0 ≤ col) (h4 : col ≤ 1000000000) (hs : s.size ≤ 1000000000) (hl : behindL s.data.toList ln = ln2) (hc : behindC s.data.toList col = col2) (w : World) : Calls Tryz.prog 71 #[posV ln col, .string s] w fun e w' => e = .returned (posV ln2 col2) ∧ Below w.heap.size w w' := by
  have g := behind_any ln col s h1 h2 h3 h4 hs w
  unfold BehindPost at g
  rw [hl, hc] at g
  exact g
theorem fText_len {l : List UInt8} (h : 0 < l.length) : 0 < (fText l).length ∧ (fText l).length ≤ l.length := by
  have := endLen_le (hcls l) h
  unfold fText
  rw [List.length_take]
  omega
/-- what stands of the loop's memory -/
structure Mem (B : Nat) (w wr : World) (ln col : Int) : Prop where
  r0 : wr.cell? ⟨B, 0, none⟩ = some (.int .i64 0)
  r1 : wr.cell? ⟨B, 1, none⟩ = some (.int .i64 0)
  r2 : wr.cell? ⟨B, 2, none⟩ = some (.int .i64 0)
  a0 : wr.cell? ⟨B + 1, 0, none⟩ = some (.int .i64 ln)
  a1 : wr.cell? ⟨B + 1, 1, none⟩ = some (.int .i64 col)
  fr : ∀ b j, b < B + 2 → B ≤ b → wr.frozen? ⟨b, j, none⟩ = false
  be : Below B w wr
  sz : B + 2 ≤ wr.heap.size
/-- where the loop stands -/
structure At (l : List UInt8) (k : Nat) (ln col : Int) (acc : List Tok) : Prop where
  l0 : 0 ≤ ln
  l1 : ln ≤ k + 1
  c0 : 0 ≤ col
  c1 : col ≤ k + 1
  len : acc.length ≤ 2048
  now : lexed l = lexG (l.length - k + 1) (l.drop k) ln col acc

theorem mem_moved {B : Nat} {w wr w2 : World} {ln col ln2 col2 : Int} (h : Mem B w wr ln col) (hb : Below wr.drew.heap.size wr.drew w2) : Mem B w ((w2.setCell ⟨B + 1, 0, none⟩ (.int .i64 ln2)).setCell ⟨B + 1, 1, none⟩ (.int .i64 col2)) ln2 col2 := by
  have hz : B + 1 < wr.heap.size := h.sz
  have c : ∀ b j, b < B + 2 → w2.cell? ⟨b, j, none⟩ = wr.cell? ⟨b, j, none⟩ := fun b j hlt => hb.cell (p := ⟨b, j, none⟩) (show b < wr.heap.size by omega)
  have f : ∀ b j, b < B + 2 → w2.frozen? ⟨b, j, none⟩ = wr.frozen? ⟨b, j, none⟩ := fun b j hlt => hb.frozen (p := ⟨b, j, none⟩) (show b < wr.heap.size by omega)
  have hbw : Below B w w2 := (h.be.drew).trans (hb.mono (show B ≤ wr.drew.heap.size from by show B ≤ wr.heap.size; omega))
  constructor
  · rw [World.cell?_setCell_other _ _ _ _ (by simp), World.cell?_setCell_other _ _ _ _ (by simp), c _ _ (by omega)]; exact h.r0
  · rw [World.cell?_setCell_other _ _ _ _ (by simp), World.cell?_setCell_other _ _ _ _ (by simp), c _ _ (by omega)]; exact h.r1
  · rw [World.cell?_setCell_other _ _ _ _ (by simp), World.cell?_setCell_other _ _ _ _ (by simp), c _ _ (by omega)]; exact h.r2
  · rw [World.cell?_setCell_other _ _ _ _ (by simp)]
    exact set_same (u := .int .i64 ln) (by rw [c _ _ (by omega)]; exact h.a0)
  · exact set_same (u := .int .i64 col) (by rw [World.cell?_setCell_other _ _ _ _ (by simp), c _ _ (by omega)]; exact h.a1)
  · intro b j hlt hge
    rw [World.frozen?_setCell, World.frozen?_setCell, f _ _ hlt]; exact h.fr b j hlt hge
  · exact (hbw.setCell (by show B ≤ B + 1; omega) _).setCell (by show B ≤ B + 1; omega) _
  · have := hb.size
    have h2 : wr.heap.size ≤ w2.heap.size := this
    simp; omega
theorem owns_moved {B : Nat} {w wr w2 : World} {ln col ln2 col2 : Int} {v : Value} {acc : List Tok} (h : Mem B w wr ln col) (ho : OwnsT wr (B + 2) v acc) (hb : Below wr.drew.heap.size wr.drew w2) : OwnsT ((w2.setCell ⟨B + 1, 0, none⟩ (.int .i64 ln2)).setCell ⟨B + 1, 1, none⟩ (.int .i64 col2)) (B + 2) v acc := by
  have h1 : OwnsT w2 (B + 2) v acc := by
    have hx := ho
    refine ⟨ho.1, ?_⟩
    rcases ho.2 with h2 | ⟨g, cap, cur, rfl, hg, hh, r⟩
    · exact Or.inl h2
    · have hlt := (hx.lt g rfl).2
      exact Or.inr ⟨g, cap, cur, rfl, hg, by rw [hb.block g hlt]; exact hh, r⟩
  exact ownsRow_setCell_below (ownsRow_setCell_below h1 (by show B + 1 < B + 2; omega) _) (by show B + 1 < B + 2; omega) _
theorem lexG_fuel (f : Nat) : ∀ (g : Nat) (l : List UInt8) (ln col : Int) (acc : List Tok), l.length < f → l.length < g → lexG f l ln col acc = lexG g l ln col acc := by
  induction f with
  | zero => intro g l ln col acc h; omega
  | succ f ih =>
    intro g l ln col acc h1 h2
    cases g with
    | zero => omega
    | succ g =>
      unfold lexG
      by_cases h0 : l = []
      · rw [if_pos h0, if_pos h0]
      rw [if_neg h0, if_neg h0]
      have hl : 0 < l.length := by cases l with
        | nil => exact absurd rfl h0
        | cons _ _ => simp
      by_cases hg : 0 < gapLen l
      · rw [if_pos hg, if_pos hg]
        exact ih g _ _ _ _ (by rw [List.length_drop]; omega) (by rw [List.length_drop]; omega)
      rw [if_neg hg, if_neg hg]
      by_cases he : fErr l ≠ 0
      · rw [if_pos he, if_pos he]
      rw [if_neg he, if_neg he]
      by_cases ha : acc.length = 2048
      · rw [if_pos ha, if_pos ha]
      rw [if_neg ha, if_neg ha]
      have hp := (fText_len hl).1
      exact ih g _ _ _ _ (by rw [List.length_drop]; omega) (by rw [List.length_drop]; omega)
theorem at_gap {l : List UInt8} {k g : Nat} {ln col ln2 col2 : Int} {acc : List Tok} {n : Nat} (h : At l k ln col acc) (hk : k < n) (hn : k < l.length) (hg : gapLen (l.drop k) = g) (h0 : 0 < g) (hl : behindL ((l.drop k).take g) ln = ln2) (hc : behindC ((l.drop k).take g) col = col2) : At l (k + g) ln2 col2 acc := by
  have hle := gapLen_le (l.drop k)
  rw [hg, List.length_drop] at hle
  have hr : 0 ≤ ln2 ∧ ln2 ≤ ln + 1 ∧ 0 ≤ col2 ∧ (col2 = 1 ∨ col2 = col + g) := by
    rw [← hl, ← hc]
    have ht : ((l.drop k).take g).length = g := by rw [List.length_take, List.length_drop]; omega
    have := h.l0
    have := h.c0
    unfold behindL behindC
    rw [ht]
    split <;> omega
  have a1 := h.l1
  have a2 := h.c1
  refine ⟨hr.1, by omega, hr.2.2.1, by omega, h.len, ?_⟩
  rw [h.now, ← List.drop_drop]
  conv => lhs; unfold lexG
  rw [if_neg (by intro e; have := congrArg List.length e; rw [List.length_drop] at this; simp at this; omega), if_pos (by rw [hg]; exact h0), hg, hl, hc]
  exact lexG_fuel _ _ _ _ _ _ (by rw [List.length_drop, List.length_drop]; omega) (by rw [List.length_drop, List.length_drop]; omega)
theorem at_tok {l : List UInt8} {k : Nat} {ln col : Int} {acc : List Tok} (h : At l k ln col acc) (hn : k < l.length) (hg : gapLen (l.drop k) = 0) (he : fErr (l.drop k) = 0) (hf : ¬ acc.length = 2048) :
    At l (k + (fText (l.drop k)).length) ln (col + (fText (l.drop k)).length) (acc ++ [⟨fKind (l.drop k), fText (l.drop k), fNum (l.drop k), ln, col⟩]) := by
  have hp := fText_len (l := l.drop k) (by rw [List.length_drop]; omega)
  rw [List.length_drop] at hp
  have a1 := h.l1
  have a2 := h.c1
  have a3 := h.c0
  have a4 := h.len
  refine ⟨h.l0, by omega, by omega, by omega, by simp; omega, ?_⟩
  rw [h.now, ← List.drop_drop]
  conv => lhs; unfold lexG
  rw [if_neg (by intro e; have := congrArg List.length e; rw [List.length_drop] at this; simp at this; omega), if_neg (by rw [hg]; omega), if_neg (by simp [he]), if_neg hf]
  exact lexG_fuel _ _ _ _ _ _ (by rw [List.length_drop, List.length_drop]; omega) (by rw [List.length_drop, List.length_drop]; omega)
theorem Ttok : (Tryz.prog.info? 54).map (fun i => (i.zero, i.size, i.bytes)) = some (some (.agg #[.int .i64 0, .string ByteArray.empty, .int .i64 0, .int .i64 0, .int .i64 0, .bool false]), 6, 56) := by kernel_rfl
theorem owns_below {wr w2 : World} {B : Nat} {v : Value} {acc : List Tok} (h : OwnsT wr B v acc) (hb : Below wr.heap.size wr w2) : OwnsT w2 B v acc := by
  have hx := h
  refine ⟨h.1, ?_⟩
  rcases h.2 with h2 | ⟨g, cap, cur, rfl, hg, hh, r⟩
  · exact Or.inl h2
  · have hlt := (hx.lt g rfl).2
    exact Or.inr ⟨g, cap, cur, rfl, hg, by rw [hb.block g hlt]; exact hh, r⟩
theorem news_at (w2 : World) (v0 v1 v2 v3 v4 v5 : Value) (o : Obj) : ∀ (j : Nat) u, [v0, v1, v2, v3, v4, v5][j]? = some u → ((w2.alloc o).alloc (.cells #[v0, v1, v2, v3, v4, v5] 54)).cell? ((⟨w2.heap.size + 1, 0, none⟩ : Addr).add j) = some u := by
  intro j u hj
  have e : ((⟨w2.heap.size + 1, 0, none⟩ : Addr).add j) = ⟨w2.heap.size + 1, j, none⟩ := by
    simp [Addr.add]
    try (intro e; exact e.symm)
  rw [e, World.cell?_alloc_at _ _ _ _ (by simp)]
  simpa using hj
theorem fText_size {l : List UInt8} {t : ByteArray} (h : (⟨(fText l).toArray⟩ : ByteArray) = t) : t.size = (fText l).length := by rw [← h, Lib.size_eq]
/-- behind the append -/
theorem grown_parts {B : Nat} {w wr w2 w3 : World} {ln col : Int} {a5 : Option Addr} {n5 c5 : Nat} {acc : List Tok} {v0 v1 v2 v3 v4 v5 : Value} {o : Obj} (h : Mem B w wr ln col) (ho : OwnsT wr (B + 2) (.slice a5 n5 c5) acc) (hb : Below wr.heap.size wr w2)
    (hg : ((w2.alloc (.cells #[v0, v1, v2, v3, v4, v5] 54)).alloc o).grownBy w3 (Value.ownBlock (.slice a5 n5 c5))) :
    w3.cell? ⟨B + 1, 0, none⟩ = some (.int .i64 ln) ∧ w3.cell? ⟨B + 1, 1, none⟩ = some (.int .i64 col) ∧ w3.frozen? ⟨B + 1, 0, none⟩ = false ∧ w3.frozen? ⟨B + 1, 1, none⟩ = false ∧ w3.cell? ⟨w2.heap.size, 1, none⟩ = some v1 ∧ w2.heap.size < w3.heap.size := by
  have hz : B + 1 < wr.heap.size := h.sz
  have hz2 : wr.heap.size ≤ w2.heap.size := hb.size
  have hne : ∀ j, j < B + 2 ∨ wr.heap.size ≤ j → some j ≠ Value.ownBlock (.slice a5 n5 c5) := fun j hj e => by
    have := ho.lt j e.symm
    omega
  have c : ∀ b j, b < B + 2 → ((w2.alloc (.cells #[v0, v1, v2, v3, v4, v5] 54)).alloc o).cell? ⟨b, j, none⟩ = wr.cell? ⟨b, j, none⟩ := fun b j hlt => by
    rw [World.cell?_alloc_past _ _ _ (by simp; omega), World.cell?_alloc_past _ _ _ (by show b < _; omega)]
    exact hb.cell (p := ⟨b, j, none⟩) (show b < wr.heap.size by omega)
  have f : ∀ b j, b < B + 2 → w3.frozen? ⟨b, j, none⟩ = wr.frozen? ⟨b, j, none⟩ := fun b j hlt => by
    rw [World.frozen?_of_block (w := (w2.alloc (.cells #[v0, v1, v2, v3, v4, v5] 54)).alloc o) (hg.block b (by simp; omega) (hne b (Or.inl hlt)))]
    rw [World.frozen?_alloc_past _ _ _ (by simp; omega), World.frozen?_alloc_past _ _ _ (by show b < _; omega)]
    exact hb.frozen (p := ⟨b, j, none⟩) (show b < wr.heap.size by omega)
  refine ⟨hg.cell ((c _ _ (by omega)).trans h.a0) (hne _ (Or.inl (by show B + 1 < _; omega))), hg.cell ((c _ _ (by omega)).trans h.a1) (hne _ (Or.inl (by show B + 1 < _; omega))), (f _ _ (by omega)).trans (h.fr _ _ (by omega) (by omega)), (f _ _ (by omega)).trans (h.fr _ _ (by omega) (by omega)), hg.cell ?_ (hne _ (Or.inr hz2)), ?_⟩
  · rw [World.cell?_alloc_past _ _ _ (by simp), World.cell?_alloc_at _ _ _ _ rfl]; rfl
  · have := hg.size; simp at this; omega
theorem mem_after {B : Nat} {w wr w2 w3 : World} {ln col col2 : Int} {a5 : Option Addr} {n5 c5 : Nat} {acc : List Tok} {v0 v1 v2 v3 v4 v5 : Value} {o : Obj} (h : Mem B w wr ln col) (hb : Below wr.heap.size wr w2) (ho : OwnsT wr (B + 2) (.slice a5 n5 c5) acc)
    (hg : ((w2.alloc (.cells #[v0, v1, v2, v3, v4, v5] 54)).alloc o).grownBy w3 (Value.ownBlock (.slice a5 n5 c5))) : Mem B w (w3.setCell ⟨B + 1, 1, none⟩ (.int .i64 col2)) ln col2 := by
  have hz : B + 1 < wr.heap.size := h.sz
  have hz2 : wr.heap.size ≤ w2.heap.size := hb.size
  have hne : ∀ j, j < B + 2 ∨ wr.heap.size ≤ j → some j ≠ Value.ownBlock (.slice a5 n5 c5) := fun j hj e => by
    have := ho.lt j e.symm
    omega
  have c : ∀ b j v, b < B + 2 → wr.cell? ⟨b, j, none⟩ = some v → w3.cell? ⟨b, j, none⟩ = some v := fun b j v hlt hv => by
    refine hg.cell ?_ (hne _ (Or.inl hlt))
    rw [World.cell?_alloc_past _ _ _ (by simp; omega), World.cell?_alloc_past _ _ _ (by show b < _; omega)]
    exact (hb.cell (p := ⟨b, j, none⟩) (show b < wr.heap.size by omega)).trans hv
  have f : ∀ b j, b < B + 2 → w3.frozen? ⟨b, j, none⟩ = wr.frozen? ⟨b, j, none⟩ := fun b j hlt => by
    rw [World.frozen?_of_block (w := (w2.alloc (.cells #[v0, v1, v2, v3, v4, v5] 54)).alloc o) (hg.block b (by simp; omega) (hne b (Or.inl hlt)))]
    rw [World.frozen?_alloc_past _ _ _ (by simp; omega), World.frozen?_alloc_past _ _ _ (by show b < _; omega)]
    exact hb.frozen (p := ⟨b, j, none⟩) (show b < wr.heap.size by omega)
  have hbw : Below B w w2 := h.be.trans (hb.mono (by omega))
  have hb3 : Below B w w3 := ((hbw.alloc (by omega) _).alloc (by simp; omega) _).grown hg (by simp; omega) (fun j hj => by have := (ho.lt j hj).1; omega)
  have hs3 := hg.size
  constructor
  · rw [World.cell?_setCell_other _ _ _ _ (by simp)]; exact c _ _ _ (by omega) h.r0
  · rw [World.cell?_setCell_other _ _ _ _ (by simp)]; exact c _ _ _ (by omega) h.r1
  · rw [World.cell?_setCell_other _ _ _ _ (by simp)]; exact c _ _ _ (by omega) h.r2
  · rw [World.cell?_setCell_other _ _ _ _ (by simp)]; exact c _ _ _ (by omega) h.a0
  · exact set_same (u := .int .i64 col) (c _ _ _ (by omega) h.a1)
  · intro b j hlt hge
    rw [World.frozen?_setCell, f _ _ hlt]; exact h.fr b j hlt hge
  · exact hb3.setCell (by show B ≤ B + 1; omega) _
  · simp at hs3 ⊢; omega
theorem owns_after {B : Nat} {w wr w3 : World} {ln col col2 : Int} {v' : Value} {acc : List Tok} {l : List UInt8} {fk fn : Int} {ft : ByteArray} (h : Mem B w wr ln col)
    (ho : w3.ownsRow (B + 2) 54 6 v' (acc.length + 1) (toksCells acc ++ [.int .i64 fk, .string ft, .int .i64 fn, .int .i64 ln, .int .i64 col, .bool false])) (hk : fKind l = fk) (ht : (⟨(fText l).toArray⟩ : ByteArray) = ft) (hn : fNum l = fn) :
    OwnsT (w3.setCell ⟨B + 1, 1, none⟩ (.int .i64 col2)) (B + 2) v' (acc ++ [⟨fKind l, fText l, fNum l, ln, col⟩]) := by
  have e : toksCells (acc ++ [⟨fKind l, fText l, fNum l, ln, col⟩]) = toksCells acc ++ [.int .i64 fk, .string ft, .int .i64 fn, .int .i64 ln, .int .i64 col, .bool false] := by
    unfold toksCells
    rw [List.flatMap_append, ← hk, ← ht, ← hn]; rfl
  have g := ownsRow_setCell_below ho (a := ⟨B + 1, 1, none⟩) (by show B + 1 < B + 2; omega) (.int .i64 col2)
  unfold OwnsT
  rw [e, List.length_append]
  exact g
theorem owns_form {wr : World} {B : Nat} {v : Value} {acc : List Tok} (h : OwnsT wr B v acc) : ∃ a c, v = .slice a acc.length c := by
  rcases h.2 with ⟨rfl, hn⟩ | ⟨g, cap, cur, rfl, _⟩
  · exact ⟨none, 0, by rw [hn]⟩
  · exact ⟨_, _, rfl⟩
theorem hcls_no {l : List UInt8} (h : 0 < l.length) (hg : gapLen l = 0) : ¬ hcls l = 1 := by
  cases l with
  | nil => simp at h
  | cons c r =>
    intro hc
    have hc1 : cls c.toNat = 1 := hc
    have hb : c.toNat = 32 ∨ c.toNat = 10 := by
      apply Decidable.byContradiction
      intro hx
      exact cls_no (fun e => hx (Or.inr e)) (fun e => hx (Or.inl e)) hc1
    unfold gapLen at hg
    rcases hb with hb | hb
    · rw [show c = 32 from UInt8.toNat_inj.1 hb, gapR_blank] at hg; omega
    · rw [show c = 10 from UInt8.toNat_inj.1 hb, gapR_line] at hg; omega
theorem first_ok {s : ByteArray} {k n : Int} {t : ByteArray} (h0 : 0 < s.size) (hs : s.size ≤ 1000000000) (hn : ¬ hcls s.data.toList = 1) (he : fErr s.data.toList = 0) (hk : fKind s.data.toList = k) (ht : (⟨(fText s.data.toList).toArray⟩ : ByteArray) = t) (hm : fNum s.data.toList = n) (w : World) :
    Calls Tryz.prog 72 #[.string s] w fun e w' => e = .returned (.tuple #[tokV k t n 0 0, .int .i64 0]) ∧ Below w.heap.size w w' := by
  have g := first_any s h0 hs hn w
  unfold FirstPost TokPost at g
  rw [he, hk, ht, hm] at g
  exact g
theorem first_err {s : ByteArray} {f : Int} (h0 : 0 < s.size) (hs : s.size ≤ 1000000000) (hn : ¬ hcls s.data.toList = 1) (he : fErr s.data.toList = f) (hf : ¬ f = 0) (w : World) :
    Calls Tryz.prog 72 #[.string s] w fun e w' => e = .returned (.tuple #[tokV 0 ByteArray.empty 0 0 0, .int .i64 f]) ∧ Below w.heap.size w w' := by
  have g := first_any s h0 hs hn w
  unfold FirstPost TokPost at g
  rw [he, if_neg hf] at g
  exact g
theorem setFault {w2 : World} {b : Nat} {a0 a1 a2 : Value} (k0 : w2.cell? ⟨b, 0, none⟩ = some a0) (k1 : w2.cell? ⟨b, 1, none⟩ = some a1) (k2 : w2.cell? ⟨b, 2, none⟩ = some a2) :
    (∀ v0, (w2.setCell ⟨b, 0, none⟩ v0).cell? ⟨b, 0, none⟩ = some v0) ∧
    (∀ v0 v1, ((w2.setCell ⟨b, 0, none⟩ v0).setCell ⟨b, 1, none⟩ v1).cell? ⟨b, 1, none⟩ = some v1) ∧
    (∀ v0 v1 v2, (((w2.setCell ⟨b, 0, none⟩ v0).setCell ⟨b, 1, none⟩ v1).setCell ⟨b, 2, none⟩ v2).cell? ⟨b, 2, none⟩ = some v2) := by
  refine ⟨fun v0 => World.cell?_setCell_same _ _ _ k0, fun v0 v1 => set_same (u := a1) ?_, fun v0 v1 v2 => set_same (u := a2) ?_⟩
  all_goals
    (repeat rw [World.cell?_setCell_other _ _ _ _ (by simp)])
    assumption
theorem owns_base {w : World} {B : Nat} {v : Value} {acc : List Tok} (h : OwnsT w (B + 2) v acc) : OwnsT w B v acc := by
  refine ⟨h.1, ?_⟩
  rcases h.2 with h2 | ⟨g, cap, cur, hv, hg, r⟩
  · exact Or.inl h2
  · exact Or.inr ⟨g, cap, cur, hv, by omega, r⟩
theorem drop_ne {l : List UInt8} {k : Nat} (h : k < l.length) : ¬ l.drop k = [] := by
  intro e
  have := congrArg List.length e
  rw [List.length_drop] at this
  simp at this; omega
theorem at_full {l : List UInt8} {k : Nat} {ln col : Int} {acc : List Tok} (h : At l k ln col acc) (hn : k < l.length) (hg : gapLen (l.drop k) = 0) (he : fErr (l.drop k) = 0) (hf : acc.length = 2048) : lexed l = ⟨[], 2, ln, col⟩ := by
  rw [h.now]
  unfold lexG
  rw [if_neg (drop_ne hn), if_neg (by rw [hg]; omega), if_neg (by simp [he]), if_pos hf]
theorem at_err {l : List UInt8} {k : Nat} {ln col f : Int} {acc : List Tok} (h : At l k ln col acc) (hn : k < l.length) (hg : gapLen (l.drop k) = 0) (he : fErr (l.drop k) = f) (hf : ¬ f = 0) : lexed l = ⟨[], f, ln, col⟩ := by
  rw [h.now]
  unfold lexG
  rw [if_neg (drop_ne hn), if_neg (by rw [hg]; omega), if_pos (by rw [he]; exact hf), he]
theorem at_end {l : List UInt8} {k : Nat} {ln col : Int} {acc : List Tok} (h : At l k ln col acc) (hn : l.length ≤ k) : lexed l = ⟨acc, 0, 0, 0⟩ := by
  rw [h.now, List.drop_of_length_le hn]
  unfold lexG
  rw [if_pos rfl]
theorem at_start {l : List UInt8} (h : l.length ≤ 8192) : At l 0 1 1 [] := by
  refine ⟨by omega, by omega, by omega, by omega, by simp, ?_⟩
  unfold lexed
  rw [if_neg (by omega)]; rfl
theorem mem_start (w : World) : Mem w.heap.size w ((w.alloc (.cells #[.int .i64 0, .int .i64 0, .int .i64 0] 45)).alloc (.cells #[.int .i64 1, .int .i64 1] 31)) 1 1 := by
  have c0 : ∀ j, ((w.alloc (.cells #[.int .i64 0, .int .i64 0, .int .i64 0] 45)).alloc (.cells #[.int .i64 1, .int .i64 1] 31)).cell? ⟨w.heap.size, j, none⟩ = #[Value.int .i64 0, .int .i64 0, .int .i64 0][j]? := fun j => by
    rw [World.cell?_alloc_past _ _ _ (by simp), World.cell?_alloc_at _ _ _ _ rfl]
  have c1 : ∀ j, ((w.alloc (.cells #[.int .i64 0, .int .i64 0, .int .i64 0] 45)).alloc (.cells #[.int .i64 1, .int .i64 1] 31)).cell? ⟨w.heap.size + 1, j, none⟩ = #[Value.int .i64 1, .int .i64 1][j]? := fun j => by
    rw [World.cell?_alloc_at _ _ _ _ (by simp)]
  refine ⟨c0 0, c0 1, c0 2, c1 0, c1 1, fun b j hlt hge => ?_, by go_grown, by simp⟩
  rcases (show b = w.heap.size ∨ b = w.heap.size + 1 by omega) with rfl | rfl
  · rw [World.frozen?_alloc_past _ _ _ (by simp), World.frozen?_alloc_at _ _ _ _ rfl]
  · rw [World.frozen?_alloc_at _ _ _ _ (by simp)]
set_option maxRecDepth 100000 in
set_option maxHeartbeats 4000000 in
theorem tokens_fine (s : ByteArray) (h : s.size ≤ 8192) (w : World) : Calls Tryz.prog 43 #[.string s] w (TokensPost s.data.toList w) := by
  obtain ⟨B, hB⟩ : ∃ B, w.heap.size = B := ⟨_, rfl⟩
  obtain ⟨i0, hi, hz0, hz1, hz2'⟩ := info_parts Ttok
  go_enter Tryz.func43, Tryz.ntmps43
  go_wp2
  go_step3
  go_wp2_with fail
  (try go_step3)
  go_wp2_with fail
  have HB := Lib.hid hB
  clear hB
  go_loopg [5, 6] (s.size) (fun j v i wr => ∃ (k : Nat) (ln col : Int) (acc : List Tok), j + k = s.size ∧ i = .int .i64 k ∧ At s.data.toList k ln col acc ∧ Mem B w wr ln col ∧ OwnsT wr (B + 2) v acc)
  case atStart => exact ⟨0, 1, 1, [], by omega, rfl, at_start (by rw [← Lib.size_eq]; exact h), by rw [← HB.out]; exact mem_start w, toksNil _ _⟩
  case round =>
    obtain ⟨k, ln, col, acc, hk, rfl, hat, hmem, hown⟩ := hrel
    have HK := Lib.hid hk
    have HAt := Lib.hid hat
    have HMem := Lib.hid hmem
    have HOwn := Lib.hid hown
    have hle : k ≤ s.size := by omega
    clear hk hat hmem hown
    by_cases hlt : k < s.size
    · obtain ⟨D, hD⟩ : ∃ D, s.extract k s.size = D := ⟨_, rfl⟩
      have hd : D.data.toList = s.data.toList.drop k := by rw [← hD, Lib.extract_to_end]
      have hds : D.size = s.size - k := by rw [← hD]; simp
      obtain ⟨g, hg⟩ : ∃ g, gapLen D.data.toList = g := ⟨_, rfl⟩
      have HD := Lib.hid hD
      have Hd := Lib.hid hd
      have HG := Lib.hid hg
      have hdl : D.size ≤ 8192 := by omega
      have HDS := Lib.hid hds
      clear hD hd hg hds
      go_wp2_with fail
      rw [HD.out]
      refine (gap_is HG.out (by omega) _).mono ?_
      rintro e w' ⟨rfl, rfl⟩
      by_cases hg0 : 0 < g
      · have hgl := gapLen_le D.data.toList
        rw [HG.out, ← Lib.size_eq] at hgl
        have hsl : (s.extract k (k + g)).data.toList = D.data.toList.take g := by
          rw [Hd.out, Lib.extract_data, show k + g - k = g by omega]
        have HSL := Lib.hid hsl
        clear hsl
        have hkg : k + g ≤ s.size := by have := HDS.out; omega
        have a0 := HMem.out.a0
        have a1 := HMem.out.a1
        have f0 := HMem.out.fr (B + 1) 0 (by omega) (by omega)
        have f1 := HMem.out.fr (B + 1) 1 (by omega) (by omega)
        obtain ⟨ln2, hl2⟩ : ∃ x, behindL (D.data.toList.take g) ln = x := ⟨_, rfl⟩
        obtain ⟨col2, hc2⟩ : ∃ x, behindC (D.data.toList.take g) col = x := ⟨_, rfl⟩
        have HL2 := Lib.hid hl2
        have HC2 := Lib.hid hc2
        clear hl2 hc2
        have hBz : B + 1 < wr.heap.size := by have := HMem.out.sz; omega
        have b0 := HAt.out.l0
        have b1 : ln ≤ 1000000000 := by have := HAt.out.l1; omega
        have b2 := HAt.out.c0
        have b3 : col ≤ 1000000000 := by have := HAt.out.c1; omega
        have b4 : (s.extract k (k + g)).size ≤ 1000000000 := by simp; omega
        have wqa : IntKind.i64.wrap ((k : Int) + (g : Int)) = (k : Int) + (g : Int) := IntWalk.i64_in _ (by omega)
        have wqb : (0 : Int) ≤ (k : Int) + (g : Int) := by omega
        have wqc : ((k : Int) + (g : Int)).toNat = k + g := by omega
        have wqd : (k : Int) ≤ (k : Int) + (g : Int) := by omega
        have wqe : (k : Int) + (g : Int) ≤ (s.size : Int) := by omega
        have wqf : k ≤ k + g := by omega
        go_wp2_with fail
        go_still_tail 7, (by kernel_rfl)
        go_wp2_with fail
        refine (behind_is (ln2 := ln2) (col2 := col2) (s := s.extract k (k + g)) b0 b1 b2 b3 b4 (by rw [HSL.out]; exact HL2.out) (by rw [HSL.out]; exact HC2.out) _).mono ?_
        rintro e w2 ⟨rfl, hb2⟩
        have kz0 : w2.cell? ⟨B + 1, 0, none⟩ = some (.int .i64 ln) := (hb2.cell (p := ⟨B + 1, 0, none⟩) hBz).trans a0
        have kz1 : w2.cell? ⟨B + 1, 1, none⟩ = some (.int .i64 col) := (hb2.cell (p := ⟨B + 1, 1, none⟩) hBz).trans a1
        have fz0 : w2.frozen? ⟨B + 1, 0, none⟩ = false := (hb2.frozen (p := ⟨B + 1, 0, none⟩) hBz).trans f0
        have fz1 : w2.frozen? ⟨B + 1, 1, none⟩ = false := (hb2.frozen (p := ⟨B + 1, 1, none⟩) hBz).trans f1
        have HW2 := Lib.hid hb2
        clear hb2 a0 a1 f0 f1 wqa wqb wqc wqd wqf
        go_wp2
        go_roundg (s.size - (k + g))
        case measure => have := HK.out; omega
        case rel =>
          have hm := mem_moved HMem.out HW2.out (ln2 := ln2) (col2 := col2)
          have ho := owns_moved HMem.out HOwn.out HW2.out (ln2 := ln2) (col2 := col2)
          exact ⟨k + g, ln2, col2, acc, by omega, by go_num, at_gap HAt.out hlt (by rw [← Lib.size_eq]; omega) (by rw [← Hd.out]; exact HG.out) hg0 (by rw [← Hd.out]; exact HL2.out) (by rw [← Hd.out]; exact HC2.out), hm, ho⟩
      · obtain rfl : g = 0 := by omega
        have hD0 : 0 < D.size := by have := HDS.out; omega
        have hnc := hcls_no (l := D.data.toList) (by rw [← Lib.size_eq]; exact hD0) HG.out
        obtain ⟨a5, c5, rfl⟩ := owns_form HOwn.out
        have hacc := HAt.out.len
        have HNC := Lib.hid hnc
        clear hnc
        go_wp2_with fail
        rw [HD.out]
        by_cases hfe : fErr D.data.toList = 0
        · obtain ⟨fk, hfk⟩ : ∃ x, fKind D.data.toList = x := ⟨_, rfl⟩
          obtain ⟨ft, hft⟩ : ∃ x : ByteArray, (⟨(fText D.data.toList).toArray⟩ : ByteArray) = x := ⟨_, rfl⟩
          obtain ⟨fn, hfn⟩ : ∃ x, fNum D.data.toList = x := ⟨_, rfl⟩
          have HFE := Lib.hid hfe
          have HFK := Lib.hid hfk
          have HFT := Lib.hid hft
          have HFN := Lib.hid hfn
          clear hfe hfk hft hfn
          refine (first_ok hD0 (by omega) HNC.out HFE.out HFK.out HFT.out HFN.out _).mono ?_
          rintro e w2 ⟨rfl, hb2⟩
          have HW2 := Lib.hid hb2
          have a0 := (hb2.cell (p := ⟨B + 1, 0, none⟩) (show B + 1 < wr.heap.size from HMem.out.sz)).trans HMem.out.a0
          have a1 := (hb2.cell (p := ⟨B + 1, 1, none⟩) (show B + 1 < wr.heap.size from HMem.out.sz)).trans HMem.out.a1
          have f0 := (hb2.frozen (p := ⟨B + 1, 0, none⟩) (show B + 1 < wr.heap.size from HMem.out.sz)).trans (HMem.out.fr (B + 1) 0 (by omega) (by omega))
          have f1 := (hb2.frozen (p := ⟨B + 1, 1, none⟩) (show B + 1 < wr.heap.size from HMem.out.sz)).trans (HMem.out.fr (B + 1) 1 (by omega) (by omega))
          have hz2 : B + 1 < w2.heap.size := by have := hb2.size; have := HMem.out.sz; omega
          clear hb2
          have hzB : B < w2.heap.size := by omega
          have r0 := (HW2.out.cell (p := ⟨B, 0, none⟩) (show B < wr.heap.size by have := HMem.out.sz; omega)).trans HMem.out.r0
          have r1 := (HW2.out.cell (p := ⟨B, 1, none⟩) (show B < wr.heap.size by have := HMem.out.sz; omega)).trans HMem.out.r1
          have r2 := (HW2.out.cell (p := ⟨B, 2, none⟩) (show B < wr.heap.size by have := HMem.out.sz; omega)).trans HMem.out.r2
          have e0 := (HW2.out.frozen (p := ⟨B, 0, none⟩) (show B < wr.heap.size by have := HMem.out.sz; omega)).trans (HMem.out.fr B 0 (by omega) (by omega))
          have e1 := (HW2.out.frozen (p := ⟨B, 1, none⟩) (show B < wr.heap.size by have := HMem.out.sz; omega)).trans (HMem.out.fr B 1 (by omega) (by omega))
          have e2 := (HW2.out.frozen (p := ⟨B, 2, none⟩) (show B < wr.heap.size by have := HMem.out.sz; omega)).trans (HMem.out.fr B 2 (by omega) (by omega))
          by_cases hfull : acc.length = 2048
          · have hfl : ((acc.length : Int) == 2048) = true := beq_iff_eq.2 (by omega)
            have HFU := Lib.hid hfull
            clear hfull
            have HF := Lib.hid (at_full HAt.out (by rw [← Lib.size_eq]; omega) (by rw [← Hd.out]; exact HG.out) (by rw [← Hd.out]; exact HFE.out) HFU.out)
            obtain ⟨q0, q1, q2⟩ := setFault r0 r1 r2
            have Q0 := Lib.hid q0
            have Q1 := Lib.hid q1
            have Q2 := Lib.hid q2
            have HBW := Lib.hid (HMem.out.be.trans (HW2.out.mono (by have := HMem.out.sz; omega)) : Below B w w2)
            clear q0 q1 q2
            go_wp2_with fail
            go_region
            go_wp2
            rw [Exit.noGoto_ret]
            refine bodyPost_ret (by simp [results, Tryz.results43, go_sem, hzB, Q0.out, Q1.out, Q2.out]; try rfl) rfl ?_
            have hbw := HBW.out
            refine tokensPost HF.out (toksNil _ _) ?_
            rw [HB.out]
            go_grown
          · have hfl : ((acc.length : Int) == 2048) = false := beq_eq_false_iff_ne.2 (by omega)
            have O2 := Lib.hid (owns_below HOwn.out HW2.out)
            go_wp2_with (at_builtin; refine wpList_append_own _ rfl _ _ 104 rfl (B + 2) 54 i0 _ 6 56 Tryz.underlying104 hi hz0 hz1 hz2' rfl (by decide) _ _ _ rfl ((O2.out.alloc _).alloc _) ⟨w2.heap.size + 1, 0, none⟩ 1 1 [.int .i64 fk, .string ft, .int .i64 fn, .int .i64 ln, .int .i64 col, .bool false] rfl rfl ?c1 ?c2 ?c3 ?c4 ?c5 ?_)
            case c1 => exact news_at _ _ _ _ _ _ _ _
            case c2 =>
              intro u hu
              simp only [List.mem_cons, List.not_mem_nil, or_false] at hu
              rcases hu with rfl | rfl | rfl | rfl | rfl | rfl <;> rfl
            case c3 => unfold maxLen; omega
            case c4 => omega
            case c5 => simp; omega
            intro v' w3 hown' hgrow _
            have hG := grown_parts HMem.out HOwn.out HW2.out hgrow
            obtain ⟨q0, q1, p0, p1, t1, hz3⟩ := hG
            have HO3 := Lib.hid hown'
            have HG3 := Lib.hid hgrow
            clear hown' hgrow
            have hT := fText_size HFT.out
            have hT2 : ft.size ≤ 8192 := by have := fText_le D.data.toList; rw [← Lib.size_eq] at this; omega
            have b2 := HAt.out.c0
            have b3 : col ≤ 1000000000 := by have := HAt.out.c1; omega
            have HTs := Lib.hid hT
            clear hT
            go_wp2
            have hpos := (fText_len (l := D.data.toList) (by rw [← Lib.size_eq]; exact hD0)).1
            have hmax := (fText_len (l := D.data.toList) (by rw [← Lib.size_eq]; exact hD0)).2
            rw [← HTs.out] at hpos hmax
            rw [← Lib.size_eq, HDS.out] at hmax
            go_roundg (s.size - (k + ft.size))
            case measure => have := HK.out; omega
            case rel =>
              have hm := mem_after HMem.out HW2.out HOwn.out HG3.out (col2 := col + ft.size)
              have ho := owns_after HMem.out HO3.out HFK.out HFT.out HFN.out (col2 := col + ft.size)
              have hat := at_tok HAt.out (by rw [← Lib.size_eq]; omega) (by rw [← Hd.out]; exact HG.out) (by rw [← Hd.out]; exact HFE.out) hfull
              rw [← Hd.out, ← HTs.out] at hat
              exact ⟨k + ft.size, ln, col + ft.size, _, by omega, by go_num, hat, hm, ho⟩
        · obtain ⟨f, hf⟩ : ∃ f, fErr D.data.toList = f := ⟨_, rfl⟩
          rw [hf] at hfe
          have HFE := Lib.hid hf
          have hfe2 : (f == 0) = false := beq_eq_false_iff_ne.2 hfe
          have HNE := Lib.hid hfe
          have HF := Lib.hid (at_err HAt.out (by rw [← Lib.size_eq]; omega) (by rw [← Hd.out]; exact HG.out) (by rw [← Hd.out]; exact HFE.out) HNE.out)
          clear hf hfe
          refine (first_err hD0 (by omega) HNC.out HFE.out HNE.out _).mono ?_
          rintro e w2 ⟨rfl, hb2⟩
          have HW2 := Lib.hid hb2
          have hz2 : B + 1 < w2.heap.size := by have := hb2.size; have := HMem.out.sz; omega
          have hzB : B < w2.heap.size := by omega
          clear hb2
          have a0 := (HW2.out.cell (p := ⟨B + 1, 0, none⟩) (show B + 1 < wr.heap.size from HMem.out.sz)).trans HMem.out.a0
          have a1 := (HW2.out.cell (p := ⟨B + 1, 1, none⟩) (show B + 1 < wr.heap.size from HMem.out.sz)).trans HMem.out.a1
          have r0 := (HW2.out.cell (p := ⟨B, 0, none⟩) (show B < wr.heap.size by have := HMem.out.sz; omega)).trans HMem.out.r0
          have r1 := (HW2.out.cell (p := ⟨B, 1, none⟩) (show B < wr.heap.size by have := HMem.out.sz; omega)).trans HMem.out.r1
          have r2 := (HW2.out.cell (p := ⟨B, 2, none⟩) (show B < wr.heap.size by have := HMem.out.sz; omega)).trans HMem.out.r2
          have e0 := (HW2.out.frozen (p := ⟨B, 0, none⟩) (show B < wr.heap.size by have := HMem.out.sz; omega)).trans (HMem.out.fr B 0 (by omega) (by omega))
          have e1 := (HW2.out.frozen (p := ⟨B, 1, none⟩) (show B < wr.heap.size by have := HMem.out.sz; omega)).trans (HMem.out.fr B 1 (by omega) (by omega))
          have e2 := (HW2.out.frozen (p := ⟨B, 2, none⟩) (show B < wr.heap.size by have := HMem.out.sz; omega)).trans (HMem.out.fr B 2 (by omega) (by omega))
          obtain ⟨q0, q1, q2⟩ := setFault r0 r1 r2
          have Q0 := Lib.hid q0
          have Q1 := Lib.hid q1
          have Q2 := Lib.hid q2
          have HBW := Lib.hid (HMem.out.be.trans (HW2.out.mono (by have := HMem.out.sz; omega)) : Below B w w2)
          clear q0 q1 q2
          go_wp2_with fail
          go_region
          go_wp2
          rw [Exit.noGoto_ret]
          refine bodyPost_ret (by simp [results, Tryz.results43, go_sem, hzB, Q0.out, Q1.out, Q2.out]; try rfl) rfl ?_
          have hbw := HBW.out
          refine tokensPost HF.out (toksNil _ _) ?_
          rw [HB.out]
          go_grown
    · have HF := Lib.hid (at_end HAt.out (by rw [← Lib.size_eq]; omega))
      have r0 := HMem.out.r0
      have r1 := HMem.out.r1
      have r2 := HMem.out.r2
      have e0 := HMem.out.fr B 0 (by omega) (by omega)
      have e1 := HMem.out.fr B 1 (by omega) (by omega)
      have e2 := HMem.out.fr B 2 (by omega) (by omega)
      have hzB : B < wr.heap.size := by have := HMem.out.sz; omega
      obtain ⟨q0, q1, q2⟩ := setFault r0 r1 r2
      have Q0 := Lib.hid q0
      have Q1 := Lib.hid q1
      have Q2 := Lib.hid q2
      clear q0 q1 q2
      go_wp2
      rw [Exit.noGoto_ret]
      refine bodyPost_ret (by simp [results, Tryz.results43, go_sem, Q0.out, Q1.out, Q2.out]; try rfl) rfl ?_
      have hbw := HMem.out.be
      refine tokensPost HF.out ?_ ?_
      · rw [HB.out]
        exact owns_base (ownsRow_setCell_below (ownsRow_setCell_below (ownsRow_setCell_below HOwn.out (by show B < B + 2; omega) _) (by show B < B + 2; omega) _) (by show B < B + 2; omega) _)
      · rw [HB.out]
        go_grown
/-- lex.Tokens, WHATEVER THE SOURCE. -/
theorem tokens_any (s : ByteArray) (hs : s.size ≤ 9223372036854775807) (w : World) : Calls Tryz.prog 43 #[.string s] w (TokensPost s.data.toList w) := by
  by_cases h : 8192 < s.size
  · exact tokens_long s hs h w
  · exact tokens_fine s (by omega) w
end Go.Proofs.YtdajihpfedbihaaGreat.Lx
