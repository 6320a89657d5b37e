/-
  WORDS on layer parse: a row of the call's own, of ways to bind, while it is filled.
-/
import Derived.Test.YtdajihpfedbihaaGreatGP
import Derived.Test.YtdajihpfedbihaaGreatGPhA

namespace Go.Proofs.YtdajihpfedbihaaGreat.Pa
open Go.RowKit Mm Tm Pm
set_option linter.unusedVariables false
set_option linter.unusedSimpArgs false
abbrev TFx : TypeId := 58
/-- elements of five cells each, one behind the other -/
def rowC (f : Nat → List Value) : Nat → List Value
  | 0 => []
  | n + 1 => rowC f n ++ f n
theorem rowC_len {f : Nat → List Value} (hf : ∀ i, (f i).length = 5) : ∀ n, (rowC f n).length = n * 5
  | 0 => rfl
  | n + 1 => by rw [rowC, List.length_append, rowC_len hf n, hf]; omega
theorem rowC_get {f : Nat → List Value} (hf : ∀ i, (f i).length = 5) : ∀ n i j, i < n → j < 5 → (rowC f n)[i * 5 + j]? = (f i)[j]? := by
  intro n
  induction n with
  | zero => intro i j h; omega
  | succ n ih =>
    intro i j h hj
    rw [rowC]
    by_cases hi : i < n
    · rw [List.getElem?_append_left (by rw [rowC_len hf]; omega)]
      exact ih i j hi hj
    · obtain rfl : i = n := by omega
      rw [List.getElem?_append_right (by rw [rowC_len hf]; omega), rowC_len hf, show i * 5 + j - i * 5 = j by omega]
theorem rowC_ext {f : Nat → List Value} (hf : ∀ i, (f i).length = 5) {n : Nat} {l : List Value} (hl : l.length = n * 5) (h : ∀ i j, i < n → j < 5 → l[i * 5 + j]? = (f i)[j]?) : l = rowC f n := by
  apply List.ext_getElem?
  intro p
  by_cases hp : p < n * 5
  · have e : p = p / 5 * 5 + p % 5 := by omega
    rw [e, h (p / 5) (p % 5) (by omega) (by omega), rowC_get hf n _ _ (by omega) (by omega)]
  · rw [List.getElem?_eq_none (by omega), List.getElem?_eq_none (by rw [rowC_len hf]; omega)]
theorem rowC_set {f : Nat → List Value} (hf : ∀ i, (f i).length = 5) {n k : Nat} (hk : k < n) (a b c d e : Value) : (((((rowC f n).set (k * 5) a).set (k * 5 + 1) b).set (k * 5 + 2) c).set (k * 5 + 3) d).set (k * 5 + 4) e = rowC (fun i => if i = k then [a, b, c, d, e] else f i) n := by
  have hf' : ∀ i, ((fun i => if i = k then [a, b, c, d, e] else f i) i).length = 5 := fun i => by
    dsimp only
    split
    · rfl
    · exact hf i
  have hl := rowC_len hf n
  refine rowC_ext hf' (by simp [hl]) fun i j hi hj => ?_
  by_cases hik : i = k
  · subst hik
    rw [if_pos rfl]
    match j, hj with
    | 0, _ => rw [List.getElem?_set_ne (by omega), List.getElem?_set_ne (by omega), List.getElem?_set_ne (by omega), List.getElem?_set_ne (by omega), Nat.add_zero, List.getElem?_set_self (by omega)]; rfl
    | 1, _ => rw [List.getElem?_set_ne (by omega), List.getElem?_set_ne (by omega), List.getElem?_set_ne (by omega), List.getElem?_set_self (by simp; omega)]; rfl
    | 2, _ => rw [List.getElem?_set_ne (by omega), List.getElem?_set_ne (by omega), List.getElem?_set_self (by simp; omega)]; rfl
    | 3, _ => rw [List.getElem?_set_ne (by omega), List.getElem?_set_self (by simp; omega)]; rfl
    | 4, _ => rw [List.getElem?_set_self (by simp; omega)]; rfl
  · rw [if_neg hik, List.getElem?_set_ne (by omega), List.getElem?_set_ne (by omega), List.getElem?_set_ne (by omega), List.getElem?_set_ne (by omega), List.getElem?_set_ne (by omega)]
    exact rowC_get hf n i j hi hj
theorem elC_rowC {f : Nat → List Value} (hf : ∀ i, (f i).length = 5) {n i : Nat} (hi : i < n) : elC (rowC f n) 5 i = f i := by
  apply List.ext_getElem?
  intro j
  unfold elC
  by_cases hj : j < 5
  · rw [List.getElem?_take_of_lt hj, List.getElem?_drop]
    exact rowC_get hf n i j hi hj
  · rw [List.getElem?_eq_none (by rw [List.length_take]; omega), List.getElem?_eq_none (by rw [hf]; omega)]
def z5 : List Value := [.string ByteArray.empty, .int .i64 0, .int .i64 0, .int .i64 0, .int .i64 0]
theorem ways_made (n : Nat) : (madeCells #[.string ByteArray.empty, .int .i64 0, .int .i64 0, .int .i64 0, .int .i64 0] (n * 5)).toList = rowC (fun _ => z5) n := by
  refine rowC_ext (fun _ => rfl) (by simp [madeCells]) fun i j hi hj => ?_
  have h1 : i * 5 + j < n * 5 := by omega
  have h2 : (i * 5 + j) % 5 = j := by omega
  simp only [madeCells]
  have h3 : (i * 5 + j) / 5 = i := by omega
  rcases (by omega : j = 0 ∨ j = 1 ∨ j = 2 ∨ j = 3 ∨ j = 4) with rfl | rfl | rfl | rfl | rfl <;> simp [h1, h2, z5] <;> simp_all <;> omega
/-- the ways found so far -/
def wy (l : List Fx) (k i : Nat) : List Value := if i < k then fxCells (l.getD i default) else z5
theorem wy_len (l : List Fx) (k : Nat) : ∀ i, (wy l k i).length = 5 := fun i => by
  unfold wy
  split <;> rfl
theorem wy_step (l : List Fx) (k : Nat) : (fun i => if i = k then fxCells (l.getD k default) else wy l k i) = wy l (k + 1) := by
  funext i
  unfold wy
  by_cases h : i = k
  · subst h
    rw [if_pos rfl, if_pos (by omega)]
  · rw [if_neg h]
    by_cases h2 : i < k
    · rw [if_pos h2, if_pos (by omega)]
    · rw [if_neg h2, if_neg (by omega)]
theorem Tfx : (Tryz.prog.info? TFx).map (fun i => (i.zero, i.size, i.bytes)) = some (some (.agg #[.string ByteArray.empty, .int .i64 0, .int .i64 0, .int .i64 0, .int .i64 0]), 5, 48) := by kernel_rfl
/-- a cell of the row, and that it may be written -/
theorem ways_at {w : World} {B n c q k : Nat} {l : List Fx} (h : w.ownsRow B TFx 5 (.slice (some ⟨q, 0, none⟩) n c) n (rowC (wy l k) n)) (hk : k < n) : (w.cell? ⟨q, k * 5, none⟩ = some (.string ByteArray.empty) ∧ w.cell? ⟨q, k * 5 + 1, none⟩ = some (.int .i64 0) ∧ w.cell? ⟨q, k * 5 + 2, none⟩ = some (.int .i64 0) ∧ w.cell? ⟨q, k * 5 + 3, none⟩ = some (.int .i64 0) ∧ w.cell? ⟨q, k * 5 + 4, none⟩ = some (.int .i64 0)) ∧
    (w.frozen? ⟨q, k * 5, none⟩ = false ∧ w.frozen? ⟨q, k * 5 + 1, none⟩ = false ∧ w.frozen? ⟨q, k * 5 + 2, none⟩ = false ∧ w.frozen? ⟨q, k * 5 + 3, none⟩ = false ∧ w.frozen? ⟨q, k * 5 + 4, none⟩ = false) := by
  have hz : wy l k k = z5 := by unfold wy; rw [if_neg (by omega)]
  have g : ∀ j u, j < 5 → z5[j]? = some u → w.cell? ⟨q, k * 5 + j, none⟩ = some u := fun j u hj hu => by
    rw [h.cellAt (k * 5 + j) (by omega), rowC_get (wy_len l k) n k j hk hj, hz, hu]
  exact ⟨⟨g 0 _ (by omega) rfl, g 1 _ (by omega) rfl, g 2 _ (by omega) rfl, g 3 _ (by omega) rfl, g 4 _ (by omega) rfl⟩, h.frozenAt _, h.frozenAt _, h.frozenAt _, h.frozenAt _, h.frozenAt _⟩
/-- one way more -/
theorem ways_put {w : World} {B n c q k : Nat} {l : List Fx} (h : w.ownsRow B TFx 5 (.slice (some ⟨q, 0, none⟩) n c) n (rowC (wy l k) n)) (hk : k < n) {x : Fx} (hx : l.getD k default = x) :
    ∃ V, (((((w.setCell ⟨q, k * 5, none⟩ (.string (toB x.op))).setCell ⟨q, k * 5 + 1, none⟩ (.int .i64 x.assoc)).setCell ⟨q, k * 5 + 2, none⟩ (.int .i64 x.level)).setCell ⟨q, k * 5 + 3, none⟩ (.int .i64 x.ln)).setCell ⟨q, k * 5 + 4, none⟩ (.int .i64 x.col)) = V ∧ V.ownsRow B TFx 5 (.slice (some ⟨q, 0, none⟩) n c) n (rowC (wy l (k + 1)) n) ∧ Wrote w V q := by
  refine ⟨_, rfl, ?_, (((((Wrote.refl w q).set _ _).set _ _).set _ _).set _ _).set _ _⟩
  have h1 := (h.stored (k * 5) (.string (toB x.op))).1
  have h2 := (h1.stored (k * 5 + 1) (.int .i64 x.assoc)).1
  have h3 := (h2.stored (k * 5 + 2) (.int .i64 x.level)).1
  have h4 := (h3.stored (k * 5 + 3) (.int .i64 x.ln)).1
  have h5 := (h4.stored (k * 5 + 4) (.int .i64 x.col)).1
  rw [rowC_set (wy_len l k) hk] at h5
  have e : (fun i => if i = k then [Value.string (toB x.op), .int .i64 x.assoc, .int .i64 x.level, .int .i64 x.ln, .int .i64 x.col] else wy l k i) = wy l (k + 1) := by
    rw [← wy_step, hx]
    rfl
  rw [e] at h5
  exact h5
/-- the row as ways to bind -/
theorem ways_done {w : World} {B n q : Nat} {c : Nat} {l : List Fx} (h : w.ownsRow B TFx 5 (.slice (some ⟨q, 0, none⟩) n c) n (rowC (wy l n) n)) (hn : l.length = n) : RowFx (fun b => B ≤ b) w (.slice (some ⟨q, 0, none⟩) l.length c) l := by
  have k := own_rowz (Q := fun b => B ≤ b) h fun b _ hb => hb
  subst hn
  refine RowZ.congr k fun i hi => ?_
  rw [elC_rowC (wy_len l _) hi]
  unfold wy
  rw [if_pos hi]
end Go.Proofs.YtdajihpfedbihaaGreat.Pa
/-
  CONTRACT of layer parse: a row is grouped (row).
-/
namespace Go.Proofs.YtdajihpfedbihaaGreat.Pa
open Go.RowKit Mm Tm Pm Mk Go.Maps Go.ChangeMaps Go.MapKept Go.WideMaps
set_option linter.unusedVariables false
set_option linter.unusedSimpArgs false
/-- the ways of binding that the parser has been given lie in memory -/
def FxF (pb : Nat) (af : Option Addr) (cf : Nat) (fixes : List Fx) (w : World) : Prop := RowFx (fun b => b ≠ pb) w (.slice af fixes.length cf) fixes
section
variable {N pb B E : Nat} {af : Option Addr} {cf : Nat} {fixes : List Fx} {p0 : Pp} {w w' : World}
theorem FxF.kp (h : FxF pb af cf fixes w) (hk : KP pb w w') : FxF pb af cf fixes w' := RowZ.frame h hk.size (fun b hz hl => hk.block b hl hz) fun b hz _ => hz
theorem frD_le (A L : Nat → Int) (k : Nat) : ∀ f, frD A L k f ≤ f := by
  intro f
  induction f with
  | zero => exact Nat.le_refl _
  | succ f ih =>
    unfold frD
    split
    · omega
    · omega
theorem toD_le (A L : Nat → Int) (k : Nat) : ∀ d t, toD A L k d t ≤ t + d := by
  intro d
  induction d with
  | zero => intro t; exact Nat.le_refl _
  | succ d ih =>
    intro t
    unfold toD
    split
    · have := ih (t + 1); omega
    · omega
theorem resolveD_sp (ways : List Fx) : (∀ s ∈ (resolveD ways).1, s.1 ≤ ways.length ∧ s.2 ≤ ways.length) ∧ (resolveD ways).1.length ≤ ways.length := by
  unfold resolveD
  dsimp only
  split
  · refine ⟨fun s hs => ?_, by simp⟩
    obtain ⟨k, hk, rfl⟩ := List.mem_map.1 hs
    rw [List.mem_range] at hk
    have h1 := frD_le (fun i => (ways.getD i default).assoc) (fun i => (ways.getD i default).level) k k
    have h2 := toD_le (fun i => (ways.getD i default).assoc) (fun i => (ways.getD i default).level) k (ways.length - (k + 1)) (k + 1)
    exact ⟨by dsimp only; omega, by dsimp only; omega⟩
  · exact ⟨(fun s hs => by cases hs), Nat.zero_le _⟩
/-- what fix.Resolve ends with, its answer named -/
def ResvP (r : List (Nat × Nat) × Nat × Int) (w : World) (e : Ending) (w' : World) : Prop :=
  ∃ a c, e = .returned (.tuple #[.slice a r.1.length c, .int .i64 (r.2.1 : Nat), .int .i64 r.2.2]) ∧
    RowZ (fun b => w.heap.size ≤ b) w' (.slice a r.1.length c) r.1.length 2 (fun i => [.int .i64 ((r.1.getD i (0, 0)).1 : Nat), .int .i64 ((r.1.getD i (0, 0)).2 : Nat)]) ∧ Below w.heap.size w w'
set_option maxRecDepth 100000 in
set_option maxHeartbeats 8000000 in
theorem row_any (hfx : fixes.length ≤ 9223372036854775807) (hpB : pb < B) (hNB : N ≤ B) (hBE : B ≤ E) (d : Nat) (ih : ∀ d', d' < d → GrowC (findD fixes) resolveD (FxF pb af cf fixes) N pb B E (.slice af fixes.length cf) p0 d') :
    RowMakes (findD fixes) resolveD (FxF pb af cf fixes) N pb B E (.slice af fixes.length cf) p0 d := by
  intro operands ops f e f' so sq C w hg hso hsq hel hn1 hn2 hps hf hEw
  cases d with
  | zero => simp [grow] at hg
  | succ d =>
    rw [grow] at hg
    by_cases hf0 : f.1 = 0
    case neg =>
      rw [if_pos hf0] at hg
      injection hg with hg
      injection hg with q1 q2
      subst q1 q2
      obtain ⟨ao, co, rfl, _⟩ := hso
      obtain ⟨aq, cq, rfl, _⟩ := hsq
      exact row_fault w hps hf0
    rw [if_neg (by simpa using hf0)] at hg
    dsimp only at hg
    obtain ⟨l, hl⟩ : ∃ l, (ops.map fun o => findD fixes o.text) = l := ⟨_, rfl⟩
    rw [hl] at hg
    have hll : l.length = ops.length := by rw [← hl]; simp
    have hlk : ∀ k o, ops[k]? = some o → l.getD k default = findD fixes o.text := fun k o ho => by
      rw [← hl, List.getD_eq_getElem?_getD, List.getElem?_map, ho]
      rfl
    obtain ⟨rr, hrr⟩ : ∃ rr, resolveD l = rr := ⟨_, rfl⟩
    rw [hrr] at hg
    have HSO := Lib.hid hso
    have HSQ := Lib.hid hsq
    obtain ⟨ao, co, rfl, _⟩ := hso
    obtain ⟨aq, cq, rfl, hcq, hrq⟩ := hsq
    obtain ⟨W0, hW0⟩ : ∃ W0, (w.alloc (.cells #[.slice aq ops.length cq] TToks)).alloc (.cells #[.int .i64 0, .string ⟨#[]⟩, .int .i64 0, .slice none 0 0, .slice none 0 0, .slice none 0 0, .slice none 0 0, .int .i64 0, .int .i64 0] TEx) = W0 := ⟨_, rfl⟩
    have hb0 : Below w.heap.size w W0 := by rw [← hW0]; exact ((Below.refl _ _).alloc (Nat.le_refl _) _).alloc (by simp) _
    have hz0 : W0.heap.size = w.heap.size + 1 + 1 := by rw [← hW0]; simp
    have hX0 : Box W0 w.heap.size TToks #[.slice aq ops.length cq] := by rw [← hW0]; exact (Box.new w _ _).alloc _
    have hR0 : Box W0 (w.heap.size + 1) TEx #[.int .i64 0, .string ⟨#[]⟩, .int .i64 0, .slice none 0 0, .slice none 0 0, .slice none 0 0, .slice none 0 0, .int .i64 0, .int .i64 0] := by rw [← hW0]; exact Box.at_ _ _ (by simp)
    have hps0 := hps.below hb0
    obtain ⟨ra, rc, hpx, _, _⟩ := hps0.ex
    have x4 : W0.cell? ⟨pb, 4, none⟩ = some (.int .i64 0) := by
      have := hpx.cell 4
      rw [show (pf p0 f).err = 0 from hf0] at this
      exact this
    have hf1 := hf.kp (show KP pb w W0 from Kept.of_below hb0 (Nat.le_refl _) _)
    have l1 := hpx.lt
    have x0 := hX0.cell 0
    have l0 := hX0.lt
    obtain ⟨i0, hi0, hi1, hi2, hi3⟩ := info_parts Tfx
    have HG := Lib.hid hg
    have HLL := Lib.hid hll
    have HLK := Lib.hid hlk
    have HRR := Lib.hid hrr
    have HEL := Lib.hid hel
    have HN1 := Lib.hid hn1
    have HPS := Lib.hid hps
    have HFX := Lib.hid hfx
    have HFF := Lib.hid hf
    have HF1 := Lib.hid hf1
    have HIH := Lib.hid ih
    have HPB := Lib.hid hpB
    have HNB := Lib.hid hNB
    have HBE := Lib.hid hBE
    have HEW := Lib.hid hEw
    have HB0 := Lib.hid hb0
    have HZ0 := Lib.hid hz0
    have HX0 := Lib.hid hX0
    have HR0 := Lib.hid hR0
    have HRQ := Lib.hid hrq
    have HPS0 := Lib.hid hps0
    have HPQ := Lib.hid (show pb ≠ W0.heap.size by omega)
    clear hg hl hll hlk hrr hel hn1 hps hf hpB hNB hBE hEw ih hb0 hz0 hX0 hR0 hrq hps0 hpx hf1 hf0 hcq hfx
    go_enter Tryz.func103, Tryz.ntmps103
    go_wp2_with (at_make; refine wpList_make_full _ rfl _ _ 23 rfl W0.heap.size TFx i0 _ 5 Tryz.underlying23 hi0 hi1 hi2 _ _ _ _ ops.length rfl rfl rfl rfl (by rw [hi3]; omega) (by unfold maxLen; omega) (Nat.le_refl _) ?_)
    intro w2 hown hgrow
    rw [ways_made] at hown
    have hb2 : Below W0.heap.size W0 w2 := (Below.refl _ W0).grown hgrow (Nat.le_refl _) (fun k h => by cases h)
    have x1 : w2.cell? ⟨w.heap.size, 0, none⟩ = some (.slice aq ops.length cq) := (hb2.cell (p := ⟨w.heap.size, 0, none⟩) l0).trans x0
    have HO2 := Lib.hid (show w2.ownsRow W0.heap.size TFx 5 (.slice (some ⟨W0.heap.size, 0, none⟩) ops.length ops.length) ops.length (rowC (wy l 0) ops.length) from by
      rw [show wy l 0 = fun _ => z5 from funext fun i => by unfold wy; rw [if_neg (by omega)]]
      exact hown)
    have HB2 := Lib.hid hb2
    have l3 : w.heap.size < w2.heap.size := Nat.lt_of_lt_of_le l0 hb2.size
    clear hown hgrow hb2 x0 x4 hW0
    go_wp2_with fail
    go_loopg [30] ops.length (fun dd v30 wr => ∃ k : Nat, k + dd = ops.length ∧ v30 = .int .i64 k ∧ wr.ownsRow W0.heap.size TFx 5 (.slice (some ⟨W0.heap.size, 0, none⟩) ops.length ops.length) ops.length (rowC (wy l k) ops.length) ∧ Below W0.heap.size W0 wr)
    case atStart => exact ⟨0, by omega, rfl, HO2.out, HB2.out⟩
    case round =>
      obtain ⟨k, hk, rfl, hown, hbr⟩ := hrel
      have HK := Lib.hid hk
      have HOW := Lib.hid hown
      have HBR := Lib.hid hbr
      have hkle : k ≤ ops.length := by omega
      have hq := (hown.lt W0.heap.size rfl).2
      clear hk hown hbr
      by_cases hlt : k < ops.length
      · have hlt' : (k : Int) < ops.length := by omega
        obtain ⟨o, ho⟩ : ∃ o, ops[k]? = some o := ⟨_, List.getElem?_eq_getElem hlt⟩
        have hdo : ops.getD k noTk = o := by rw [List.getD_eq_getElem?_getD, ho]; rfl
        obtain ⟨g, rfl, hgz, hgl, hcell⟩ := HRQ.out k hlt
        (try dsimp only at hcell)
        rw [hdo] at hcell
        have hb02 : Below w.heap.size w wr := HB0.out.trans (HBR.out.mono HB0.out.size)
        have hc : ∀ j u, (tokCells o)[j]? = some u → wr.cell? ⟨g, k * 6 + j, none⟩ = some u := fun j u hu => (hb02.cell (p := ⟨g, k * 6 + j, none⟩) hgl).trans (hcell j u hu)
        have m0 := hc 0 _ rfl
        have m1 := hc 1 _ rfl
        have m2 := hc 2 _ rfl
        have m3 := hc 3 _ rfl
        have m4 := hc 4 _ rfl
        have m5 := hc 5 _ rfl
        rw [Nat.add_zero] at m0
        obtain ⟨W1, hW1⟩ : ∃ W1, wr.alloc (oTok o) = W1 := ⟨_, rfl⟩
        have hbx : Box W1 wr.heap.size TTok #[.int .i64 o.kind, .string (toB o.text), .int .i64 o.n, .int .i64 o.ln, .int .i64 o.col, .bool o.made] := by rw [← hW1]; exact Box.new wr _ _
        have hb1 : Below wr.heap.size wr W1 := by rw [← hW1]; exact (Below.refl _ _).alloc (Nat.le_refl _) _
        have how1 := own_here HOW.out hb1
        have hkp1 : KP pb W0 W1.drew := (Kept.of_below (HBR.out.trans (hb1.mono HBR.out.size)) (Nat.le_refl _) _).drew
        have hpx1 := (HPS0.out.below (HBR.out.trans (hb1.mono HBR.out.size))).ex
        obtain ⟨ra1, rc1, hpx1, _, _⟩ := hpx1
        have y3 : W1.drew.cell? ⟨pb, 3, none⟩ = some (.slice af fixes.length cf) := hpx1.cell 3
        have y1 : W1.drew.cell? ⟨wr.heap.size, 1, none⟩ = some (.string (toB o.text)) := hbx.cell 1
        have HFD := Lib.hid (findD_any o.text W1.drew (HF1.out.kp hkp1) HFX.out)
        have HBX := Lib.hid hbx.drew
        have HOW1 := Lib.hid how1.drew
        have HB1 := Lib.hid (show Below W0.heap.size W0 W1.drew from (HBR.out.trans (hb1.mono HBR.out.size)).drew)
        have HPX := Lib.hid hpx1.drew
        have HDK := Lib.hid (HLK.out k o ho)
        have l5 := hbx.lt
        have hqn : wr.heap.size ≠ W0.heap.size := by omega
        clear hdo hgz hcell hb02 hc hbx hb1 how1 hkp1 hpx1 ho
        go_wp2_with fail
        go_region_held3 (fun w' => w'.cell? ⟨pb, 3, none⟩ = some (.slice af fixes.length cf) ∧ w'.cell? ⟨wr.heap.size, 1, none⟩ = some (.string (toB o.text)))
          (first
            | exact ⟨y3, y1⟩
            | exact ⟨z3, z1⟩
            | (rw [hV]; exact ⟨u3, u1⟩)
            | exact ⟨u3, u1⟩)
          (first
            | (go_at_call 131; refine HFD.out.mono ?_; rintro e6 w6 ⟨rfl, hb6⟩; have z3 := (HPX.out.below hb6 HPX.out.lt).cell 3; have z1 := (HBX.out.below hb6 HBX.out.lt).cell 1; have how6 := own_here HOW1.out hb6; obtain ⟨⟨c0, c1, c2, c3, c4⟩, f0, f1, f2, f3, f4⟩ := ways_at how6 hlt; obtain ⟨V, hV, hvo, hvw⟩ := ways_put how6 hlt HDK.out; have u3 := ((HPX.out.below hb6 HPX.out.lt).wrote hvw HPQ.out).cell 3; have u1 := ((HBX.out.below hb6 HBX.out.lt).wrote hvw hqn).cell 1; have HVO := Lib.hid hvo; have HVW := Lib.hid hvw; have HB6 := Lib.hid (show Below W0.heap.size W0 w6 from HB1.out.trans (hb6.mono HB1.out.size)); have hq6 := (how6.lt W0.heap.size rfl).2; clear hb6 how6 hvo hvw))
        go_wp2_with fail
        go_roundg (ops.length - (k + 1))
        case measure => have := HK.out; omega
        case rel => exact ⟨k + 1, by have := HK.out; omega, by go_num, HVO.out, HVW.out.below HB6.out (Nat.le_refl _)⟩
      · have hge : ¬ (k : Int) < ops.length := by omega
        have hkn : k = ops.length := by omega
        subst hkn
        have hwd := ways_done HOW.out HLL.out
        have hrv : Calls Tryz.prog 132 #[.slice (some ⟨W0.heap.size, 0, none⟩) l.length ops.length] wr (ResvP rr wr) := by
          rw [← HRR.out]
          exact resolveD_any wr hwd (by rw [HLL.out]; omega)
        rw [HLL.out] at hrv
        have hspb := resolveD_sp l
        rw [HRR.out, HLL.out] at hspb
        obtain ⟨sp, nn, ee⟩ := rr
        have HSPB := Lib.hid hspb
        have HRV := Lib.hid hrv
        have hg := HG.out
        dsimp only at hg
        have hbr := HBR.out
        have HBRX := Lib.hid hbr
        clear hwd hrv hspb hge hkle hbr
        by_cases hee : ee = 0
        case neg =>
          rw [if_pos hee] at hg
          cases ho : ops[nn]? with
          | none => rw [ho] at hg; cases hg
          | some o =>
            rw [ho] at hg
            injection hg with hg
            injection hg with q1 q2
            subst q1 q2
            have hnl : nn < ops.length := (List.getElem?_eq_some_iff.1 ho).1
            have hnl' : (nn : Int) < ops.length := by omega
            have hb : (ee != 0) = true := by simpa using hee
            have hdo : ops.getD nn noTk = o := by rw [List.getD_eq_getElem?_getD, ho]; rfl
            obtain ⟨g, rfl, hgz, hgl, hcell⟩ := HRQ.out nn hnl
            (try dsimp only at hcell)
            rw [hdo] at hcell
            have HC := Lib.hid hcell
            have hne1 : w.heap.size + 1 ≠ pb := by have := HPB.out; have := HBE.out; have := HEW.out; omega
            have HNE1 := Lib.hid hne1
            clear ho hdo hcell hee hne1
            go_wp2_with fail
            refine HRV.out.mono ?_
            rintro e w3 ⟨a, c, rfl, _, hb3⟩
            have hb03 : Below W0.heap.size W0 w3 := HBR.out.trans (hb3.mono HBR.out.size)
            have hbw3 : Below w.heap.size w w3 := HB0.out.trans (hb03.mono HB0.out.size)
            have m3 := (hbw3.cell (p := ⟨g, nn * 6 + 3, none⟩) hgl).trans (HC.out 3 _ rfl)
            have m4 := (hbw3.cell (p := ⟨g, nn * 6 + 4, none⟩) hgl).trans (HC.out 4 _ rfl)
            have x0 := (HX0.out.below hb03 HX0.out.lt).cell 0
            have hps3 := HPS0.out.below hb03
            have HPS3 := Lib.hid hps3
            obtain ⟨⟨ra, rc, g1, g2, g3⟩, g4, g5, g6⟩ := hps3
            obtain ⟨p0', p1, p2, p3, p4, p5, p6⟩ := g1.cells7
            obtain ⟨f0, f1, f2, f3, f4, f5, f6⟩ := g1.free7
            obtain ⟨V, hV, hvb, hvw⟩ : ∃ V, ((w3.setCell ⟨pb, 4, none⟩ (.int .i64 ee)).setCell ⟨pb, 5, none⟩ (.int .i64 o.ln)).setCell ⟨pb, 6, none⟩ (.int .i64 o.col) = V ∧ Box V pb TPar #[.slice ra (pf p0 f).rest.length rc, .int .i64 (pf p0 f).last.1, .int .i64 (pf p0 f).last.2, .slice af fixes.length cf, .int .i64 ee, .int .i64 o.ln, .int .i64 o.col] ∧ Wrote w3 V pb :=
              ⟨_, rfl, ((g1.put 4 _).put 5 _).put 6 _, (((Wrote.refl _ pb).set 4 _).set 5 _).set 6 _⟩
            have hrv := (HR0.out.below hb03 HR0.out.lt).wrote hvw HNE1.out
            obtain ⟨z0, z1, z2, z3, z4, z5, z6, z7, z8⟩ := cells9 hrv
            obtain ⟨y0, y1, y2, y3, y4, y5, y6, y7, y8⟩ := free9' hrv
            obtain ⟨U, hU, hub, huw⟩ := hrv.write9 (.int .i64 0) (.string ⟨#[]⟩) (.int .i64 0) (.slice none 0 0) (.slice none 0 0) (.slice none 0 0) (.slice none 0 0) (.int .i64 0) (.int .i64 0)
            have HUB := Lib.hid hub
            have HUW := Lib.hid huw
            have HVB := Lib.hid hvb
            have HVW := Lib.hid hvw
            have HG2 := Lib.hid g2
            have HG3 := Lib.hid g3
            have HG6 := Lib.hid g6
            have HBW3 := Lib.hid hbw3
            have l8 : w.heap.size < w3.heap.size := Nat.lt_of_lt_of_le l0 hb03.size
            have l9 : pb < w3.heap.size := Nat.lt_of_lt_of_le g4 g5
            clear hb3 hb03 hbw3 g1 g2 g3 g4 g5 g6 hvb hvw hrv hub huw
            go_wp2_with fail
            obtain ⟨v0, v1, v2, v3, v4, v5, v6, v7, v8⟩ := cells9 HUB.out
            refine bodyPost_ret (v := .agg (exCells 0 [] 0 0 0)) (by simp [results, Tryz.results103, go_sem, toB_nil, v0, v1, v2, v3, v4, v5, v6, v7, v8]) rfl ?_
            have hkU : Kept (fun b => b = pb ∨ b = w.heap.size + 1) w3 U := kept_wrote (kept_wrote (Kept.refl _ w3) HVW.out fun _ => .inl rfl) HUW.out fun _ => .inr rfl
            refine ⟨0, [], 0, none, 0, 0, none, 0, 0, none, 0, 0, none, 0, 0, 0, 0, rfl, ⟨EV.leaf _ _ _ _ _ _ _, rfl⟩, ⟨⟨ra, rc, HVB.out.wrote HUW.out (Ne.symm HNE1.out), HG2.out, HG3.out.frame (fun b o' hz => World.cell?_of_block (hkU.block b (by have := HPS3.out.size; have := hz.1; omega) fun q => q.elim hz.2 fun e => by have := hz.1; have := HPS.out.size; omega)) fun b hz => hz⟩, HPS3.out.lt, Nat.le_trans HPS3.out.size hkU.size, HG6.out⟩, ?_⟩
            exact kept_new (Kept.of_below HBW3.out (Nat.le_refl _) (fun b => b = pb)) hkU fun b y q => y.elim id fun e => by omega
        case pos =>
          subst hee
          rw [if_neg (by simp)] at hg
          obtain ⟨⟨parts, f1⟩, hgs, hg⟩ := Option.bind_eq_some_iff.1 hg
          dsimp only at hg
          obtain ⟨e1, hsg, hg⟩ := Option.bind_eq_some_iff.1 hg
          injection hg with hg
          injection hg with q1 q2
          subst q1 q2
          have HGS := Lib.hid hgs
          have HSG := Lib.hid hsg
          clear hgs hsg
          go_wp2_with fail
          refine HRV.out.mono ?_
          rintro e w3 ⟨a, c, rfl, hrz, hb3⟩
          have hb03 : Below W0.heap.size W0 w3 := HBRX.out.trans (hb3.mono HBRX.out.size)
          obtain ⟨Wm, hWm⟩ : ∃ Wm, (w3.alloc (.map #[] 0)).alloc (.cells #[.map (some w3.heap.size)] TMs) = Wm := ⟨_, rfl⟩
          have hbm : Below w3.heap.size w3 Wm := by rw [← hWm]; exact ((Below.refl _ _).alloc (Nat.le_refl _) _).alloc (by simp) _
          have hmk : MapK Wm Tryz.prog TSp w3.heap.size (rootsF sp 0) 0 := by rw [← hWm]; exact (MapK.made _ _ _).alloc _
          have hbxm : Box Wm (w3.heap.size + 1) TMs #[.map (some w3.heap.size)] := by rw [← hWm]; exact Box.at_ _ _ (by simp)
          have HRZ := Lib.hid hrz
          have HMK := Lib.hid hmk
          have HBM := Lib.hid hbxm
          have HB3 := Lib.hid hb03
          have HBMM := Lib.hid hbm
          have l8 := hbxm.lt
          have HS3 := Lib.hid (show w.heap.size + 1 < w3.heap.size by have := hb03.size; have := HZ0.out; omega)
          have hspl : sp.length ≤ ops.length := HSPB.out.2
          have x9 := hbxm.cell 0
          dsimp only at hrz
          obtain ⟨asp, csp, hqs, _, hrds⟩ := hrz
          injection hqs with hqs1 hqs2 hqs3
          subst hqs1 hqs3
          have HRS := Lib.hid hrds
          clear hb3 hb03 hbm hmk hbxm hrds
          have hmm := @run_makeMap Tryz.prog
          go_wp2_with fail
          clear hmm
          go_loopg [68] sp.length (fun dd v68 wx => ∃ (k c : Nat), k + dd = sp.length ∧ v68 = .int .i64 k ∧ c ≤ k ∧ MapK wx Tryz.prog TSp w3.heap.size (rootsF sp k) c ∧ Kept (fun b => b = w3.heap.size) Wm wx)
          case atStart => exact ⟨0, 0, by omega, rfl, Nat.le_refl _, HMK.out, Kept.refl _ _⟩
          case round =>
            obtain ⟨k, cm, hk, rfl, hck, hmk, hkx⟩ := hrel
            have HK := Lib.hid hk
            have HMX := Lib.hid hmk
            have HKX := Lib.hid hkx
            have hkle : k ≤ sp.length := by omega
            have y9 : wr.cell? ⟨w3.heap.size + 1, 0, none⟩ = some (.map (some w3.heap.size)) := (hkx.box HBM.out (by omega)).cell 0
            have l10 : w3.heap.size + 1 < wr.heap.size := Nat.lt_of_lt_of_le HBM.out.lt hkx.size
            clear hk hmk hkx
            by_cases hlt : k < sp.length
            · have hlt' : (k : Int) < sp.length := by omega
              obtain ⟨s, hs⟩ : ∃ s, sp.getD k (0, 0) = s := ⟨_, rfl⟩
              have hsk : sp[k] = s := by rw [← hs, List.getD_eq_getElem?_getD, List.getElem?_eq_getElem hlt]; rfl
              have hsb := HSPB.out.1 s (by rw [← hsk]; exact List.getElem_mem hlt)
              obtain ⟨g, rfl, hgz, hgl, hcell⟩ := HRS.out k hlt
              rw [hs] at hcell
              have hcx : ∀ j u, [Value.int .i64 s.1, .int .i64 s.2][j]? = some u → wr.cell? ⟨g, k * 2 + j, none⟩ = some u := fun j u hu => by
                have e1 : Wm.heap[g]? = w3.heap[g]? := HBMM.out.block g hgl
                have e2 : wr.heap[g]? = Wm.heap[g]? := HKX.out.block g (Nat.lt_of_lt_of_le hgl HBMM.out.size) (fun e => by omega)
                exact (World.cell?_of_block (a := ⟨g, k * 2 + j, none⟩) (e2.trans e1)).trans (hcell j u hu)
              have m0 := hcx 0 _ rfl
              have m1 := hcx 1 _ rfl
              rw [Nat.add_zero] at m0
              obtain ⟨Wa, hWa⟩ : ∃ Wa, wr.alloc (.cells #[.int .i64 s.1, .int .i64 s.2] TSp) = Wa := ⟨_, rfl⟩
              have hbxs : Box Wa wr.heap.size TSp #[.int .i64 s.1, .int .i64 s.2] := by rw [← hWa]; exact Box.new wr _ _
              have n0 := hbxs.cell 0
              have n1 := hbxs.cell 1
              have n9 : Wa.cell? ⟨w3.heap.size + 1, 0, none⟩ = some (.map (some w3.heap.size)) := by
                have hb : Below wr.heap.size wr Wa := by rw [← hWa]; exact (Below.refl _ _).alloc (Nat.le_refl _) _
                exact (hb.cell (p := ⟨w3.heap.size + 1, 0, none⟩) l10).trans y9
              have HMA := Lib.hid (show MapK Wa Tryz.prog TSp w3.heap.size (rootsF sp k) cm by rw [← hWa]; exact HMX.out.alloc _)
              have HKA := Lib.hid (show Kept (fun b => b = w3.heap.size) Wm Wa by rw [← hWa]; exact HKX.out.alloc _)
              have HKEY := Lib.hid (key_span (s := s) (by omega) (by omega))
              have HRF := Lib.hid (show rootsF sp (k + 1) = updK (rootsF sp k) (litS s) (.int .i64 (k : Nat)) by rw [← hs]; rfl)
              have l11 := hbxs.lt
              have l12 : w3.heap.size + 1 < Wa.heap.size := by omega
              clear hs hsk hsb hgz hcell hcx hbxs
              go_wp2_with (at_mapUpdate; refine wpList_putK _ rfl _ _ _ TMs rfl TSp 3 keySp Tryz.underlying187 w3.heap.size _ _ rfl HMA.out (by unfold maxLen; omega) _ _ _ (litS_key s) rfl rfl HKEY.out ?_)
              intro w' hm' hturn
              obtain ⟨hgw, hsz⟩ := turned_same hturn
              have HM' := Lib.hid hm'
              have HGW := Lib.hid hgw
              clear hm' hturn hgw hsz
              go_wp2_with fail
              go_roundg (sp.length - (k + 1))
              case measure => have := HK.out; omega
              case rel =>
                refine ⟨k + 1, _, by have := HK.out; omega, by go_num, ?_, by rw [HRF.out]; exact HM'.out, HKA.out.grown HGW.out fun b e _ => by injection e with e; exact e.symm⟩
                unfold cntPut
                split <;> omega
            · have hge : ¬ (k : Int) < sp.length := by omega
              have hkn : k = sp.length := by omega
              subst hkn
              have hkm : KP pb w wr := kept_new ((Kept.of_below (HB0.out.trans (HB3.out.mono HB0.out.size)) (Nat.le_refl _) (fun b => b = pb)).trans (Kept.of_below HBMM.out (Nat.le_refl _) _)) HKX.out fun b e q => by have e : b = w3.heap.size := e; have := HS3.out; omega
              have hpsx : PS N wr pb (pf p0 f) (.slice af fixes.length cf) := ((HPS0.out.below HB3.out).below HBMM.out).frame HKX.out fun b e => by have e : b = w3.heap.size := e; have := HPS.out.size; have := HS3.out; omega
              have hsx : w.heap.size + 1 < wr.heap.size := by have := HS3.out; omega
              have hgr := grown_any (find := findD fixes) (resolve := resolveD) (F := FxF pb af cf fixes) (d := d) wr (fun w w' h k => h.kp k) (fun d' h => HIH.out d' (by omega)) HGS.out (HSO.out.kp hkm HPB.out) (fun i t ht => (HEL.out i t ht).kp hkm HPB.out) hpsx (HFF.out.kp hkm) HPB.out HNB.out HBE.out (by have := HEW.out; omega) HN1.out
              have HGR := Lib.hid hgr
              have HKM := Lib.hid hkm
              have HSX := Lib.hid hsx
              have hst := st_one (v := growV (w3.heap.size + 1) wr.heap.size wr.heap.size w.heap.size) rfl
              clear hkm hpsx hgr hst
              go_wp2_with fail
              refine HGR.out.mono ?_
              rintro e w4 ⟨a4, c4, C4, rfl, hr4, he4, hp4, hk4⟩
              have hst : ∀ ad W, (store ad (growV (w3.heap.size + 1) w4.heap.size (w4.heap.size + 1) w.heap.size)).run Tryz.prog W = _ := st_one (v := growV (w3.heap.size + 1) w4.heap.size (w4.heap.size + 1) w.heap.size) rfl
              obtain ⟨Wg, hWg⟩ : ∃ Wg, ((w4.alloc (.cells #[.slice a4 parts.length c4] TExs)).alloc (.cells #[Value.nilFunc] TFg)).setCell ⟨w4.heap.size + 1, 0, none⟩ (growV (w3.heap.size + 1) w4.heap.size (w4.heap.size + 1) w.heap.size) = Wg := ⟨_, rfl⟩
              have hbg : Below w4.heap.size w4 Wg := by rw [← hWg]; exact (((Below.refl _ _).alloc (Nat.le_refl _) _).alloc (by simp) _).setCell (by simp) _
              have hbp : Box Wg w4.heap.size TExs #[.slice a4 parts.length c4] := by rw [← hWg]; exact ((Box.new w4 _ _).alloc _).far (by simp) _
              have hself : Box Wg (w4.heap.size + 1) TFg #[growV (w3.heap.size + 1) w4.heap.size (w4.heap.size + 1) w.heap.size] := by
                rw [← hWg]
                exact (Box.at_ (w := w4.alloc (.cells #[.slice a4 parts.length c4] TExs)) #[Value.nilFunc] TFg (by simp)).put 0 _
              have hpbx : wr.heap.size ≤ w4.heap.size := hk4.size
              have hnw3 : w3.heap.size + 1 ≠ pb := by have := HPS.out.lt; have := HPS.out.size; have := HS3.out; omega
              have hbm4 : Box Wg (w3.heap.size + 1) TMs #[.map (some w3.heap.size)] := (hk4.box (HKX.out.box HBM.out (by omega)) hnw3).below hbg (by have := (hk4.box (HKX.out.box HBM.out (by omega)) hnw3).lt; exact this)
              have hmap : MapK Wg Tryz.prog TSp w3.heap.size (rootsF sp sp.length) cm := (HMX.out.same (hk4.block _ HMX.out.lt (fun e => by have e : w3.heap.size = pb := e; have := HPS.out.lt; have := HPS.out.size; have := HS3.out; omega))).below hbg (Nat.lt_of_lt_of_le HMX.out.lt hpbx)
              have hnw : w.heap.size ≠ pb := by have := HPS.out.lt; have := HPS.out.size; omega
              have hbo4 : Box w4 w.heap.size TToks #[.slice aq ops.length cq] := hk4.box (HKX.out.box ((HX0.out.below HB3.out HX0.out.lt).below HBMM.out (by have := HS3.out; omega)) (by have := HS3.out; omega)) hnw
              have hboG := hbo4.below hbg hbo4.lt
              have hkg : KP pb w Wg := KP.here (HKM.out.trans hk4) hbg
              have hE := HEW.out
              have hzz : ∀ b, Zn B E wr.heap.size b → Zn B E w.heap.size b ∧ b ≠ w.heap.size + 1 := fun b hz => by
                have := HSX.out
                refine ⟨⟨hz.1, hz.2.imp id fun q => by omega⟩, fun e => ?_⟩
                rcases hz.2 with z | z <;> omega
              have gws : GwS (fun b => Zn B E w.heap.size b ∧ b ≠ w.heap.size + 1) Wg (w3.heap.size + 1) w4.heap.size (w4.heap.size + 1) w.heap.size ops parts sp :=
                ⟨⟨_, cm, hbm4, hmap⟩, ⟨a4, c4, C4, hbp, hr4.frame hbg.size (fun b _ hl => hbg.block b hl) (fun b hz _ => hzz b hz), fun i e he => (he4 i e he).frame hbg.size (fun b _ hl => hbg.block b hl) (fun b hz _ => hzz b hz)⟩, hself, ⟨aq, cq, hboG, RowZ.frame (HSQ.out.kp hkg HPB.out) (Nat.le_refl _) (fun _ _ _ => rfl) fun b hz _ => ⟨⟨hz.1, .inl hz.2⟩, by have := hz.2; omega⟩⟩⟩
              have hwg : w.heap.size + 1 < Wg.heap.size := by have := HSX.out; have := hbg.size; omega
              have hr1 : Calls Tryz.prog 134 #[.agg #[.int .i64 0, .int .i64 ops.length], ptr (w3.heap.size + 1), ptr w4.heap.size, ptr (w4.heap.size + 1), ptr w.heap.size] Wg (ExNew (fun b => Zn B E w.heap.size b ∧ b ≠ w.heap.size + 1) e1 Wg) :=
                row1_any (fun s hs => by have := HSPB.out.1 s hs; omega) (by omega) d _ (0, ops.length) e1 Wg HSG.out gws (fun b hb => ⟨⟨by have := HBE.out; omega, .inr (by omega)⟩, by omega⟩) (by show 0 ≤ _; omega) (by show ops.length ≤ _; omega)
              have hrG : Box Wg (w.heap.size + 1) TEx #[.int .i64 0, .string ⟨#[]⟩, .int .i64 0, .slice none 0 0, .slice none 0 0, .slice none 0 0, .slice none 0 0, .int .i64 0, .int .i64 0] :=
                (hk4.box (HKX.out.box ((HR0.out.below HB3.out HR0.out.lt).below HBMM.out (by have := HS3.out; omega)) (by have := HS3.out; omega)) (by have := HPS.out.lt; have := HPS.out.size; omega)).below hbg (by have := HSX.out; omega)
              have k1 : Wg.cell? ⟨w4.heap.size + 1, 0, none⟩ = some (.func (.func 134) #[] #[.pointer (some ⟨w3.heap.size + 1, 0, none⟩), .pointer (some ⟨w4.heap.size, 0, none⟩), .pointer (some ⟨w4.heap.size + 1, 0, none⟩), .pointer (some ⟨w.heap.size, 0, none⟩)]) := hself.cell 0
              have k2 := hboG.cell 0
              have k3 := hself.lt
              have k4 := hboG.lt
              have HR1 := Lib.hid hr1
              have HRG := Lib.hid hrG
              have HKG := Lib.hid hkg
              have HPG := Lib.hid (hp4.below hbg)
              have HWG := Lib.hid hwg
              clear hr4 he4 hp4 hk4 hbg hbp hself hpbx hbm4 hmap hnw hbo4 hboG hkg hE hzz gws hwg hr1 hrG hnw3
              go_wp2_with fail
              refine HR1.out.mono ?_
              rintro e' w5 ⟨kd5, nm5, n5, a15, n15, c15, a25, n25, c25, a35, n35, c35, a45, n45, c45, ln5, col5, rfl, hx5, hb5⟩
              have hrx := HRG.out.below hb5 HRG.out.lt
              obtain ⟨z0, z1, z2, z3, z4, z5', z6, z7, z8⟩ := cells9 hrx
              obtain ⟨y0, y1, y2, y3, y4, y5, y6, y7, y8⟩ := free9' hrx
              obtain ⟨V, hV, hvb, hvw⟩ := hrx.write9 (.int .i64 kd5) (.string (toB nm5)) (.int .i64 n5) (.slice a15 n15 c15) (.slice a25 n25 c25) (.slice a35 n35 c35) (.slice a45 n45 c45) (.int .i64 ln5) (.int .i64 col5)
              have HX5 := Lib.hid hx5
              have HB5 := Lib.hid hb5
              have HVB := Lib.hid hvb
              have HVW := Lib.hid hvw
              clear hx5 hb5 hvb hvw hrx
              go_wp2_with fail
              obtain ⟨v0, v1, v2, v3, v4, v5, v6, v7, v8⟩ := cells9 HVB.out
              refine bodyPost_ret (v := .agg (exV kd5 nm5 n5 a15 n15 c15 a25 n25 c25 a35 n35 c35 a45 n45 c45 ln5 col5)) (by simp [results, Tryz.results103, go_sem, v0, v1, v2, v3, v4, v5, v6, v7, v8]) rfl ?_
              have hkV : Kept (fun b => b = w.heap.size + 1) w5 V := kept_wrote (Kept.refl _ w5) HVW.out fun _ => rfl
              exact ⟨kd5, nm5, n5, a15, n15, c15, a25, n25, c25, a35, n35, c35, a45, n45, c45, ln5, col5, rfl, ⟨HX5.out.ev.frame hkV.size (fun b hz hl => hkV.block b hl hz.2) fun b hz _ => hz.1, HX5.out.at_⟩, (HPG.out.below HB5.out).frame hkV fun b e => by have e : b = w.heap.size + 1 := e; have := HPS.out.size; omega, kept_new (KP.here HKG.out HB5.out) hkV fun b e q => by have e : b = w.heap.size + 1 := e; omega⟩
end
end Go.Proofs.YtdajihpfedbihaaGreat.Pa
