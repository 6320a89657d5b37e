/-
  CONTRACTS of layer fix: what may be, what clashes.
-/
import Derived.Test.YtdajihpfedbihaaGreatGA
import Derived.Test.YtdajihpfedbihaaGreatGB
import Derived.Test.YtdajihpfedbihaaGreatChecked
import Derived.Handy
import Derived.Lib.Hide
import Derived.WalkSpells
import Derived.WalkLawsBesides
import Derived.Outline
import Derived.Deep.QuietTactic
import Derived.BigQuiet
import Derived.Deep.RegionHeld3
import Derived.Deep.RegionWith
import Derived.RegionTactic
import Derived.BigRegion
import Derived.IntWalk
import Derived.StillTailTactics
import Derived.Deep.LoopGhost
import Derived.WalkKit
import Derived.ProofKit
import Derived.Lib.Strings
namespace Go.Proofs.YtdajihpfedbihaaGreat.Fx
open Go.RowKit Fm
set_option linter.unusedVariables false

abbrev fixV (o : ByteArray) (a l p q : Int) : Value := .agg #[.string o, .int .i64 a, .int .i64 l, .int .i64 p, .int .i64 q]
def fineB (a l : Int) : Bool := decide (0 ≤ a ∧ a ≤ 2 ∧ 0 ≤ l ∧ l ≤ 9)
theorem maybe_any {a l : Int} {r : Bool} (h : fineB a l = r) (o : ByteArray) (p q : Int) (w : World) : Calls Tryz.prog 154 #[fixV o a l p q] w fun e w' => e = .returned (.bool r) ∧ Below w.heap.size w w' := by
  by_cases h0 : 0 ≤ a ∧ a ≤ 2
  · by_cases h1 : 0 ≤ l
    · have d1 : decide (0 ≤ l) = true := decide_eq_true h1
      obtain ⟨r2, d2⟩ : ∃ r2, decide (l ≤ 9) = r2 := ⟨_, rfl⟩
      have HR := Lib.hid (show r2 = r by rw [← h, ← d2]; unfold fineB; by_cases h9 : l ≤ 9 <;> simp [h0, h1, h9])
      clear h
      rcases (show a = 0 ∨ a = 1 ∨ a = 2 by omega) with rfl | rfl | rfl <;>
        (clear h0
         go_enter Tryz.func154, Tryz.ntmps154
         go_wp2
         go_returns
         exact ⟨by rw [HR.out]; rfl, by go_grown⟩)
    · have d1 : decide (0 ≤ l) = false := decide_eq_false h1
      have HR := Lib.hid (show r = false by rw [← h]; unfold fineB; simp [h1])
      clear h
      rcases (show a = 0 ∨ a = 1 ∨ a = 2 by omega) with rfl | rfl | rfl <;>
        (clear h0
         go_enter Tryz.func154, Tryz.ntmps154
         go_wp2
         go_returns
         exact ⟨by rw [HR.out]; rfl, by go_grown⟩)
  · obtain rfl : r = false := by rw [← h]; unfold fineB; exact decide_eq_false (by omega)
    clear h
    have e0 : (a == 0) = false := beq_eq_false_iff_ne.2 (by omega)
    have e1 : (a == 1) = false := beq_eq_false_iff_ne.2 (by omega)
    have e2 : (a == 2) = false := beq_eq_false_iff_ne.2 (by omega)
    clear h0
    go_enter Tryz.func154, Tryz.ntmps154
    go_wp2
    go_returns
    exact ⟨rfl, by go_grown⟩
/-- what two operators' ways make -/
def clashB (a b : Int) : Bool := decide (¬ (a = b ∧ a ≠ 0))
theorem clash_any {a b : Int} {r : Bool} (h : clashB a b = r) (o o2 : ByteArray) (l p q l2 p2 q2 : Int) (w : World) : Calls Tryz.prog 155 #[fixV o a l p q, fixV o2 b l2 p2 q2] w fun e w' => e = .returned (.bool r) ∧ Below w.heap.size w w' := by
  by_cases h1 : a = b
  · have e1 : (a != b) = false := by rw [h1]; simp
    by_cases h2 : a = 0
    · obtain rfl : r = true := by rw [← h]; unfold clashB; exact decide_eq_true (by omega)
      have e2 : (a == 0) = true := beq_iff_eq.2 h2
      clear h h1 h2
      go_enter Tryz.func155, Tryz.ntmps155
      go_wp2
      go_returns
      exact ⟨rfl, by go_grown⟩
    · obtain rfl : r = false := by rw [← h]; unfold clashB; exact decide_eq_false (by omega)
      have e2 : (a == 0) = false := beq_eq_false_iff_ne.2 h2
      clear h h1 h2
      go_enter Tryz.func155, Tryz.ntmps155
      go_wp2
      go_returns
      exact ⟨rfl, by go_grown⟩
  · obtain rfl : r = true := by rw [← h]; unfold clashB; exact decide_eq_true (by omega)
    have e1 : (a != b) = true := by simp [h1]
    clear h h1
    go_enter Tryz.func155, Tryz.ntmps155
    go_wp2
    go_returns
    exact ⟨rfl, by go_grown⟩
/-- a row of ways of binding as it lies in memory: op, group, level, place -/
structure Row where
  O : Nat → ByteArray
  A : Nat → Int
  L : Nat → Int
  P : Nat → Int
  Q : Nat → Int
def Reads (w : World) (B : Nat) (v : Option Addr) (n : Nat) (r : Row) : Prop := ∀ i, i < n → ∃ ad, v = some ad ∧ ad.block < B ∧
  w.cell? (ad.add (i * 5)) = some (.string (r.O i)) ∧ w.cell? ⟨(ad.add (i * 5)).block, (ad.add (i * 5)).off + 1, none⟩ = some (.int .i64 (r.A i)) ∧ w.cell? ⟨(ad.add (i * 5)).block, (ad.add (i * 5)).off + 2, none⟩ = some (.int .i64 (r.L i)) ∧
  w.cell? ⟨(ad.add (i * 5)).block, (ad.add (i * 5)).off + 3, none⟩ = some (.int .i64 (r.P i)) ∧ w.cell? ⟨(ad.add (i * 5)).block, (ad.add (i * 5)).off + 4, none⟩ = some (.int .i64 (r.Q i))
theorem block_of_add (a : Addr) (n : Nat) : (a.add n).block = a.block := by unfold Addr.add; split <;> rfl
theorem Reads.below {w w' : World} {B B' : Nat} {v : Option Addr} {n : Nat} {r : Row} (h : Reads w B v n r) (hb : Below B' w w') (hle : B ≤ B') : Reads w' B v n r := by
  intro i hi
  obtain ⟨ad, h1, h2, h3, h4, h5, h6, h7⟩ := h i hi
  have hlt : ad.block < B' := by omega
  refine ⟨ad, h1, h2, ?_, ?_, ?_, ?_, ?_⟩ <;> (rw [hb.cell (by simpa [block_of_add] using hlt)]; assumption)
theorem Reads.mono {w : World} {B B' : Nat} {v : Option Addr} {n : Nat} {r : Row} (h : Reads w B v n r) (hle : B ≤ B') : Reads w B' v n r := by
  intro i hi
  obtain ⟨ad, h1, h2, h3⟩ := h i hi
  exact ⟨ad, h1, by omega, h3⟩
end Go.Proofs.YtdajihpfedbihaaGreat.Fx
/-
  CONTRACT of layer fix: Resolve, whatever the row.
-/
namespace Go.Proofs.YtdajihpfedbihaaGreat.Fx
open Go.RowKit Fm Mm
set_option linter.unusedVariables false

def spanCells (n : Nat) (F T : Nat → Nat) : List Value := (List.range n).flatMap fun j => [.int .i64 (F j), .int .i64 (T j)]
abbrev OwnsS (w : World) (B : Nat) (v : Value) (n : Nat) (F T : Nat → Nat) : Prop := w.ownsRow B 119 2 v n (spanCells n F T)
abbrev OwnsW (w : World) (B : Nat) (v : Value) (st : List Nat) : Prop := w.ownsRow B 3 1 v st.length (st.reverse.map fun j : Nat => Value.int .i64 (j : Int))
def ResPost (r : Row) (n : Nat) (w : World) (x : Ending) (w' : World) : Prop :=
  ∃ v F T i e, x = .returned (.tuple #[v, .int .i64 (i : Nat), .int .i64 (e : Nat)]) ∧ Res r.A r.L n F T i e ∧ (e = 0 → OwnsS w' w.heap.size v n F T) ∧ (e ≠ 0 → v = .slice none 0 0) ∧ Below w.heap.size w w'
theorem Tspan : (Tryz.prog.info? 119).map (fun i => (i.zero, i.size, i.bytes)) = some (some (.agg #[.int .i64 0, .int .i64 0]), 2, 16) := by kernel_rfl
theorem spans_made (k : Nat) : (madeCells #[Value.int .i64 0, Value.int .i64 0] (k * 2)).toList = spanCells k (fun _ => 0) (fun _ => 0) := by
  have h : ∀ k : Nat, spanCells k (fun _ => 0) (fun _ => 0) = List.replicate (k * 2) (Value.int .i64 0) := by
    intro k
    induction k with
    | zero => rfl
    | succ k ih =>
      have e : spanCells (k + 1) (fun _ => 0) (fun _ => 0) = spanCells k (fun _ => 0) (fun _ => 0) ++ [Value.int .i64 0, Value.int .i64 0] := by
        unfold spanCells
        rw [List.range_succ, List.flatMap_append]
        rfl
      rw [e, ih, show (k + 1) * 2 = k * 2 + 2 by omega, ← List.replicate_append_replicate]
      rfl
  rw [h]
  apply List.ext_getElem?
  intro j
  by_cases hj : j < k * 2
  · have : j % 2 = 0 ∨ j % 2 = 1 := by omega
    rcases this with h0 | h0 <;> simp [madeCells, hj, h0]
  · simp [madeCells, hj]
theorem span_at (F T : Nat → Nat) (n i : Nat) (h : i < n) : (spanCells n F T)[i * 2]? = some (.int .i64 (F i)) ∧ (spanCells n F T)[i * 2 + 1]? = some (.int .i64 (T i)) := by
  induction n with
  | zero => omega
  | succ n ih =>
    have e : spanCells (n + 1) F T = spanCells n F T ++ [Value.int .i64 (F n), Value.int .i64 (T n)] := by
      unfold spanCells
      rw [List.range_succ, List.flatMap_append]
      rfl
    have el : (spanCells n F T).length = n * 2 := by
      unfold spanCells
      clear ih e h
      induction n with
      | zero => rfl
      | succ n ih => rw [List.range_succ, List.flatMap_append, List.length_append, ih]; simp; omega
    rw [e]
    by_cases hi : i < n
    · rw [List.getElem?_append_left (by omega), List.getElem?_append_left (by omega)]; exact ih hi
    · obtain rfl : i = n := by omega
      rw [List.getElem?_append_right (by omega), List.getElem?_append_right (by omega), el, show i * 2 - i * 2 = 0 by omega, show i * 2 + 1 - i * 2 = 1 by omega]
      exact ⟨rfl, rfl⟩
theorem span_len (F T : Nat → Nat) (n : Nat) : (spanCells n F T).length = n * 2 := by
  unfold spanCells
  induction n with
  | zero => rfl
  | succ n ih => rw [List.range_succ, List.flatMap_append, List.length_append, ih]; simp; omega
theorem span_ext {F T G U : Nat → Nat} {n : Nat} (h : ∀ j, j < n → F j = G j ∧ T j = U j) : spanCells n F T = spanCells n G U := by
  unfold spanCells
  induction n with
  | zero => rfl
  | succ n ih => rw [List.range_succ, List.flatMap_append, List.flatMap_append, ih (fun j hj => h j (by omega))]; simp [h n (by omega)]
theorem span_set1 (F T : Nat → Nat) (n i x : Nat) (h : i < n) : (spanCells n F T).set (i * 2) (.int .i64 (x : Int)) = spanCells n (upd F i x) T := by
  induction n with
  | zero => omega
  | succ n ih =>
    have e : ∀ F T, spanCells (n + 1) F T = spanCells n F T ++ [Value.int .i64 (F n : Nat), Value.int .i64 (T n : Nat)] := fun F T => by unfold spanCells; rw [List.range_succ, List.flatMap_append]; rfl
    rw [e, e]
    by_cases hi : i < n
    · rw [List.set_append_left _ _ (by rw [span_len]; omega), ih hi, upd_other F x (show n ≠ i by omega)]
    · obtain rfl : i = n := by omega
      rw [List.set_append_right _ _ (by rw [span_len]; omega), span_len, Nat.sub_self, upd_same]
      rw [span_ext (F := F) (T := T) (G := upd F i x) (U := T) (fun j hj => ⟨(upd_other F x (by omega)).symm, rfl⟩)]
      rfl
theorem span_set2 (F T : Nat → Nat) (n i x : Nat) (h : i < n) : (spanCells n F T).set (i * 2 + 1) (.int .i64 (x : Int)) = spanCells n F (upd T i x) := by
  induction n with
  | zero => omega
  | succ n ih =>
    have e : ∀ F T, spanCells (n + 1) F T = spanCells n F T ++ [Value.int .i64 (F n : Nat), Value.int .i64 (T n : Nat)] := fun F T => by unfold spanCells; rw [List.range_succ, List.flatMap_append]; rfl
    rw [e, e]
    by_cases hi : i < n
    · rw [List.set_append_left _ _ (by rw [span_len]; omega), ih hi, upd_other T x (show n ≠ i by omega)]
    · obtain rfl : i = n := by omega
      rw [List.set_append_right _ _ (by rw [span_len]; omega), span_len, show i * 2 + 1 - i * 2 = 1 by omega, upd_same]
      rw [span_ext (F := F) (T := T) (G := F) (U := upd T i x) (fun j hj => ⟨rfl, (upd_other T x (by omega)).symm⟩)]
      rfl
theorem owns_from {w : World} {B g n c : Nat} {F T : Nat → Nat} (h : OwnsS w B (.slice (some ⟨g, 0, none⟩) n c) n F T) {i : Nat} (hi : i < n) (x : Nat) :
    OwnsS (w.setCell ⟨g, i * 2, none⟩ (.int .i64 (x : Int))) B (.slice (some ⟨g, 0, none⟩) n c) n (upd F i x) T := by
  have := (World.ownsRow.stored h (i * 2) (.int .i64 (x : Int))).1
  rw [span_set1 F T n i x hi] at this
  exact this
theorem owns_to {w : World} {B g n c : Nat} {F T : Nat → Nat} (h : OwnsS w B (.slice (some ⟨g, 0, none⟩) n c) n F T) {i : Nat} (hi : i < n) (x : Nat) :
    OwnsS (w.setCell ⟨g, i * 2 + 1, none⟩ (.int .i64 (x : Int))) B (.slice (some ⟨g, 0, none⟩) n c) n F (upd T i x) := by
  have := (World.ownsRow.stored h (i * 2 + 1) (.int .i64 (x : Int))).1
  rw [span_set2 F T n i x hi] at this
  exact this
theorem inv_upd {A L : Nat → Int} {n i f : Nat} {st : List Nat} {F T : Nat → Nat} (h : Inv A L n i f st F T) (x : Nat) : Inv A L n i f st (upd F i x) T :=
  ⟨h.le, h.stk, h.wait, h.done, fun j hj => by rw [upd_other F x (show j ≠ i by omega)]; exact h.frm j hj, h.none, h.run, h.met⟩
theorem push_parts {w wx w3 : World} {B g k i : Nat} {v8 v' : Value} {st : List Nat} {F T : Nat → Nat} {o : Obj} (hos : OwnsS wx B (.slice (some ⟨g, 0, none⟩) k k) k F T) (how : OwnsW wx B v8 st) (hb : Below B w wx) (hB : B ≤ wx.heap.size)
    (hown : w3.ownsRow B 3 1 v' (st.length + 1) (st.reverse.map (fun j : Nat => Value.int .i64 (j : Int)) ++ [.int .i64 (i : Int)])) (hgrow : (wx.alloc o).grownBy w3 v8.ownBlock) :
    OwnsS w3 B (.slice (some ⟨g, 0, none⟩) k k) k F T ∧ OwnsW w3 B v' (i :: st) ∧ Below B w w3 := by
  obtain ⟨cur, hx⟩ := own_block hos
  have hne := own_ne how hx (by decide)
  refine ⟨(hos.alloc o).kept hgrow (.inr hne), ?_, (hb.alloc hB o).grown hgrow (by simp; omega) (fun q hq => (how.lt q hq).1)⟩
  have e : (i :: st).reverse.map (fun j : Nat => Value.int .i64 (j : Int)) = st.reverse.map (fun j : Nat => Value.int .i64 (j : Int)) ++ [.int .i64 (i : Int)] := by simp
  show w3.ownsRow B 3 1 v' (i :: st).length _
  rw [e]
  exact hown
theorem top_cell {w : World} {B g c s : Nat} {r : List Nat} (h : OwnsW w B (.slice (some ⟨g, 0, none⟩) (r.length + 1) c) (s :: r)) : w.cell? ⟨g, r.length, none⟩ = some (.int .i64 (s : Int)) := by
  have := World.ownsRow.cellAt (n := r.length + 1) h r.length (by omega)
  rw [this]
  simp
theorem pop_own {w : World} {B g c s : Nat} {r : List Nat} (h : OwnsW w B (.slice (some ⟨g, 0, none⟩) (r.length + 1) c) (s :: r)) : OwnsW w B (.slice (some ⟨g, 0, none⟩) r.length c) r := by
  have := own_cut (n := r.length + 1) (m := r.length) h (by omega)
  have e : ((s :: r).reverse.map (fun j : Nat => Value.int .i64 (j : Int))).take (r.length * 1) = r.reverse.map (fun j : Nat => Value.int .i64 (j : Int)) := by simp
  rw [e] at this
  exact this
theorem stk_len {A L : Nat → Int} {st : List Nat} {f : Nat} (h : Stk A L st f) : st.length ≤ f := by
  induction h with
  | nil => exact Nat.le_refl _
  | cons _ h2 ih => have := h2.1; simp; omega
theorem news1 (w : World) (x : Value) (t : TypeId) : ∀ (j : Nat) u, [x][j]? = some u → (w.alloc (.cells #[x] t)).cell? ((⟨w.heap.size, 0, none⟩ : Addr).add j) = some u := by
  intro j u hj
  have e : ((⟨w.heap.size, 0, none⟩ : Addr).add j) = ⟨w.heap.size, j, none⟩ := by
    unfold Addr.add
    split
    · rename_i h; rw [h]
    · simp
  rw [e, World.cell?_alloc_at _ _ _ _ rfl]
  simpa using hj
instance (A : Nat → Int) (p k : Nat) : Decidable (Fit A p k) := by unfold Fit; infer_instance
/-- one that waited is taken away: what its spans are, and what is left -/
theorem pop_parts {w wx : World} {B g k i s x g8 c8 : Nat} {rr : List Nat} {F T : Nat → Nat} {t : TypeId} {cs : Array Value} (hos : OwnsS wx B (.slice (some ⟨g, 0, none⟩) k k) k F T) (how : OwnsW wx B (.slice (some ⟨g8, 0, none⟩) (rr.length + 1) c8) (s :: rr))
    (hx : Box wx x t cs) (hne : t ≠ 119) (hb : Below B w wx) (hs : s < k) (hi : i < k) :
    (wx.setCell ⟨g, s * 2 + 1, none⟩ (.int .i64 (i : Int))).cell? ⟨g, s * 2, none⟩ = some (.int .i64 (F s : Nat)) ∧ (wx.setCell ⟨g, s * 2 + 1, none⟩ (.int .i64 (i : Int))).cell? ⟨g, i * 2, none⟩ = some (.int .i64 (F i : Nat)) ∧
    OwnsS ((wx.setCell ⟨g, s * 2 + 1, none⟩ (.int .i64 (i : Int))).setCell ⟨g, i * 2, none⟩ (.int .i64 (F s : Nat))) B (.slice (some ⟨g, 0, none⟩) k k) k (upd F i (F s)) (upd T s i) ∧
    OwnsW ((wx.setCell ⟨g, s * 2 + 1, none⟩ (.int .i64 (i : Int))).setCell ⟨g, i * 2, none⟩ (.int .i64 (F s : Nat))) B (.slice (some ⟨g8, 0, none⟩) rr.length c8) rr ∧
    Box ((wx.setCell ⟨g, s * 2 + 1, none⟩ (.int .i64 (i : Int))).setCell ⟨g, i * 2, none⟩ (.int .i64 (F s : Nat))) x t cs ∧
    Below B w ((wx.setCell ⟨g, s * 2 + 1, none⟩ (.int .i64 (i : Int))).setCell ⟨g, i * 2, none⟩ (.int .i64 (F s : Nat))) := by
  have h1 := owns_to hos hs i
  have hgB := (hos.lt g rfl).1
  obtain ⟨cur, hcur⟩ := own_block hos
  have hgx : g ≠ x := by
    rintro rfl
    exact hne (Box.same hx hcur)
  obtain ⟨cur2, hcur2⟩ := own_block h1
  refine ⟨(h1.cellAt (s * 2) (by omega)).trans (span_at _ _ k s hs).1, (h1.cellAt (i * 2) (by omega)).trans (span_at _ _ k i hi).1, owns_from h1 hi (F s), ?_, (hx.far (a := ⟨g, s * 2 + 1, none⟩) hgx _).far (a := ⟨g, i * 2, none⟩) hgx _, (hb.setCell (p := ⟨g, s * 2 + 1, none⟩) hgB _).setCell (p := ⟨g, i * 2, none⟩) hgB _⟩
  exact own_far (own_far (pop_own how) hcur (by decide) _ _) hcur2 (by decide) _ _
theorem Tint : (Tryz.prog.info? 3).map (fun i => (i.zero, i.size, i.bytes)) = some (some (.int .i64 0), 1, 8) := by kernel_rfl
theorem fineB_yes {a l : Int} (h : 0 ≤ a ∧ a ≤ 2 ∧ 0 ≤ l ∧ l ≤ 9) : fineB a l = true := decide_eq_true h
theorem fineB_no {a l : Int} (h : ¬ (0 ≤ a ∧ a ≤ 2 ∧ 0 ≤ l ∧ l ≤ 9)) : fineB a l = false := decide_eq_false h
set_option maxRecDepth 100000 in
set_option maxHeartbeats 2000000 in
theorem resolve_any (v : Option Addr) (n cap : Nat) (r : Row) (hn : n ≤ 9223372036854775807) (w : World) (hr : Reads w w.heap.size v n r) :
    Calls Tryz.prog 132 #[.slice v n cap] w (ResPost r n w) := by
  by_cases hlong : 1024 < n
  · have d0 : decide ((1024 : Int) < n) = true := decide_eq_true (by omega)
    have HR := Lib.hid (show Res r.A r.L n (fun _ => 0) (fun _ => 0) 0 2 from ⟨.inl ⟨rfl, rfl, hlong⟩⟩)
    clear hr
    go_enter Tryz.func132, Tryz.ntmps132
    go_wp2
    go_ret3
    exact ⟨_, _, _, 0, 2, rfl, HR.out, (fun h => absurd h (by decide)), (fun _ => rfl), Below.refl _ _⟩
  · have hn4 : n ≤ 1024 := by omega
    have d0 : decide ((1024 : Int) < n) = false := decide_eq_false (by omega)
    have HRD := Lib.hid hr
    clear hr
    go_enter Tryz.func132, Tryz.ntmps132
    go_wp2_with fail
    go_loopg [20] n (fun j i wr => ∃ k : Nat, j + k = n ∧ i = .int .i64 k ∧ (∀ x, x < k → Fine r.A r.L x) ∧ Below w.heap.size w wr)
    case atStart => exact ⟨0, rfl, rfl, (fun x h => absurd h (by omega)), Below.refl _ _⟩
    case round =>
      obtain ⟨k, hk, rfl, hf, hbw⟩ := hrel
      have HBW := Lib.hid hbw
      have HK := Lib.hid hk
      have HF := Lib.hid hf
      have hle : k ≤ n := by omega
      clear hbw hk hf
      by_cases hlt : k < n
      · have hlt' : (k : Int) < n := by omega
        obtain ⟨ad, rfl, had, c0, c1, c2, c3, c4⟩ := (HRD.out.below HBW.out (Nat.le_refl _)) k hlt
        have hz := HBW.out.size
        by_cases hfk : 0 ≤ r.A k ∧ r.A k ≤ 2 ∧ 0 ≤ r.L k ∧ r.L k ≤ 9
        · have HFK := Lib.hid hfk
          clear hfk
          go_wp2_with fail
          refine (maybe_any (fineB_yes HFK.out) _ _ _ _).mono ?_
          rintro e w2 ⟨rfl, hb2⟩
          have HB2 := Lib.hid (show Below w.heap.size w w2 from (HBW.out.alloc hz _).trans (hb2.mono (by simp; omega)))
          clear hb2 c0 c1 c2 c3 c4
          go_wp2
          go_roundg (n - (k + 1))
          case measure => have := HK.out; omega
          case rel => exact ⟨k + 1, by have := HK.out; omega, by go_num, (fun x hx => by
            by_cases e : x = k
            · rw [e]; exact HFK.out
            · exact HF.out x (by omega)), HB2.out⟩
        · have HFK := Lib.hid hfk
          clear hfk
          have HR := Lib.hid (show Res r.A r.L n (fun _ => 0) (fun _ => 0) k 1 from ⟨.inr (.inl ⟨rfl, hn4, hlt, HFK.out, HF.out⟩)⟩)
          go_wp2_with fail
          refine (maybe_any (fineB_no HFK.out) _ _ _ _).mono ?_
          rintro e w2 ⟨rfl, hb2⟩
          have HB2 := Lib.hid (show Below w.heap.size w w2 from (HBW.out.alloc hz _).trans (hb2.mono (by simp; omega)))
          clear hb2 c0 c1 c2 c3 c4
          go_wp2
          go_ret3
          exact ⟨_, _, _, k, 1, rfl, HR.out, (fun h => absurd h (by decide)), (fun _ => rfl), HB2.out⟩
      · have hke : k = n := by omega
        subst hke
        obtain ⟨wo, rfl⟩ : ∃ wo : World, wo = wr := ⟨_, rfl⟩
        have HFA := Lib.hid HF.out
        obtain ⟨i0, hi, hz0, hz1, hz2⟩ := info_parts Tspan
        have hzw := HBW.out.size
        clear HF HK
        go_wp2_with (first | (at_make; refine wpList_make_full _ rfl _ _ 60 rfl w.heap.size 119 i0 _ 2 Tryz.underlying60 hi hz0 hz1 _ _ _ _ k rfl rfl rfl rfl ?b2 ?b3 ?b4 ?_))
        case b2 => rw [hz2]; omega
        case b3 => unfold maxLen; omega
        case b4 => exact hzw
        intro w2 hown hgrow
        rw [spans_made] at hown
        have HS := Lib.hid hown
        have HB2 := Lib.hid (HBW.out.grown hgrow hzw (fun k h => by cases h))
        clear hown hgrow
        go_wp2_with fail
        go_loopg [8, 35] k (fun j v8 i8 wx => ∃ (i : Nat) (st : List Nat) (F T : Nat → Nat), j + i = k ∧ i8 = .int .i64 i ∧ Inv r.A r.L k i i st F T ∧ OwnsS wx w.heap.size (.slice (some ⟨wo.heap.size, 0, none⟩) k k) k F T ∧ OwnsW wx w.heap.size v8 st ∧ Below w.heap.size w wx)
        case atStart => exact ⟨0, [], _, _, by omega, rfl, inv_start _ _ _ _ _, HS.out, World.ownsRow_nil _ _ _ _, HB2.out⟩
        case round =>
          obtain ⟨i, st, F, T, hk, rfl, hinv, hos, how, hbx⟩ := hrel
          have HK := Lib.hid hk
          have HI := Lib.hid hinv
          have HOS := Lib.hid hos
          have HOW := Lib.hid how
          have HBX := Lib.hid hbx
          have hik : i ≤ k := by omega
          clear hk hinv hos how hbx
          by_cases hlt : i < k
          · have hlt' : (i : Int) < k := by omega
            obtain ⟨ad, rfl, had, c0, c1, c2, c3, c4⟩ := (HRD.out.below HBX.out (Nat.le_refl _)) i hlt
            have hgx := (HOS.out.lt wo.heap.size rfl).2
            have hzx := HBX.out.size
            have q0 := (HOS.out.cellAt (i * 2) (by omega)).trans (span_at F T k i hlt).1
            have f0 := HOS.out.frozenAt (i * 2)
            go_wp2_with fail
            go_step3
            go_wp2_with fail
            (try go_step3)
            go_wp2_with fail
            obtain ⟨wi, rfl⟩ : ∃ wi : World, wi = wr := ⟨_, rfl⟩
            have HOS1 := Lib.hid ((owns_from HOS.out hlt i).alloc (.cells #[.string (r.O i), .int .i64 (r.A i), .int .i64 (r.L i), .int .i64 (r.P i), .int .i64 (r.Q i)] 58))
            have HX := Lib.hid (Box.new (wi.setCell ⟨wo.heap.size, i * 2, none⟩ (.int .i64 i)) #[.string (r.O i), .int .i64 (r.A i), .int .i64 (r.L i), .int .i64 (r.P i), .int .i64 (r.Q i)] 58)
            rw [show (wi.setCell ⟨wo.heap.size, i * 2, none⟩ (.int .i64 i)).heap.size = wi.heap.size by simp] at HX
            have HOW1 := Lib.hid ((own_far HOW.out (own_block HOS.out).choose_spec (by decide) (i * 2) (.int .i64 i)).alloc (.cells #[.string (r.O i), .int .i64 (r.A i), .int .i64 (r.L i), .int .i64 (r.P i), .int .i64 (r.Q i)] 58))
            have HBX1 := Lib.hid ((HBX.out.setCell (p := ⟨wo.heap.size, i * 2, none⟩) hzw (.int .i64 i)).alloc (by simpa using hzx) (.cells #[.string (r.O i), .int .i64 (r.A i), .int .i64 (r.L i), .int .i64 (r.P i), .int .i64 (r.Q i)] 58))
            clear q0 f0 c0 c1 c2 c3 c4
            obtain ⟨j0, hj, hj0, hj1, hj2⟩ := info_parts Tint
            go_loopg [8] (st.length) (fun j v8 wx => ∃ (st : List Nat) (f : Nat) (F T : Nat → Nat), j = st.length ∧ Inv r.A r.L k i f st F T ∧ F i = f ∧ OwnsS wx w.heap.size (.slice (some ⟨wo.heap.size, 0, none⟩) k k) k F T ∧ OwnsW wx w.heap.size v8 st ∧ Box wx wi.heap.size 58 #[.string (r.O i), .int .i64 (r.A i), .int .i64 (r.L i), .int .i64 (r.P i), .int .i64 (r.Q i)] ∧ Below w.heap.size w wx)
            case atStart => exact ⟨st, i, _, T, rfl, inv_upd HI.out i, upd_same _ _ _, HOS1.out, HOW1.out, HX.out, HBX1.out⟩
            case round =>
              obtain ⟨st2, f, F2, T2, hj, hinv, hF2, hos, how, hx, hbx⟩ := hrel
              have HI2 := Lib.hid hinv
              have HF2 := Lib.hid hF2
              have HOS2 := Lib.hid hos
              have HX2 := Lib.hid hx
              have HBX2 := Lib.hid hbx
              have HJ := Lib.hid hj
              have hwi := hx.lt
              have hz2 := hbx.size
              clear hj hinv hF2 hos hbx
              cases st2 with
              | nil =>
                obtain ⟨b8, c8, rfl⟩ := own_slice how
                have HOW2 := Lib.hid how
                clear how hx
                have HI3 := Lib.hid (inv_push HI2.out HF2.out (fun s r h => by cases h))
                have hlen := stk_len HI2.out.stk
                have hfle := HI2.out.le
                have HLEN := Lib.hid hlen
                clear hlen
                go_wp2_with (first | (at_builtin; refine wpList_append_own _ rfl _ _ 202 rfl w.heap.size 3 j0 _ 1 8 Tryz.underlying202 hj hj0 hj1 hj2 rfl (by decide) _ _ _ rfl (HOW2.out.alloc _) ⟨wr.heap.size, 0, none⟩ 1 1 [.int .i64 i] rfl rfl ?c1a ?c2a ?c3a ?c4a ?c5a ?_))
                case c1a => exact news1 _ _ _
                case c2a => intro u hu; simp only [List.mem_cons, List.not_mem_nil, or_false] at hu; subst hu; rfl
                case c3a => have := HLEN.out; unfold maxLen; simp; try omega
                case c4a => have := HLEN.out; simp; try omega
                case c5a => simp; omega
                intro v' w3 hown' hgrow _
                have hP := push_parts (st := []) (i := i) HOS2.out HOW2.out HBX2.out hz2 (by simpa using hown') hgrow
                clear hown' hgrow
                obtain ⟨p1, p2, p3⟩ := hP
                have P1 := Lib.hid p1
                have P2 := Lib.hid p2
                have P3 := Lib.hid p3
                clear p1 p2 p3
                go_wp2
                rw [Exit.noGoto_normal]
                go_wp2
                go_roundg (k - (i + 1))
                case measure => have := HK.out; omega
                case rel => exact ⟨i + 1, i :: [], F2, T2, by have := HK.out; omega, by go_num, HI3.out, P1.out, P2.out, P3.out⟩
              | cons s rr =>
                obtain ⟨g8, c8, rfl, _, hg8, hc8⟩ := own_form (m := rr.length) how
                have t0 := top_cell how
                have hrl : rr.length ≤ 1024 := by have h1 := stk_len HI2.out.stk; have h2 := HI2.out.le; simp only [List.length_cons] at h1; omega
                have hc9 : rr.length ≤ c8 := by omega
                have hc9' : (rr.length : Int) ≤ c8 := by omega
                have hsi : s < i := (HI2.out.wait s (by simp)).1
                have hsk : s < k := by omega
                have hsk' : (s : Int) < k := by omega
                obtain ⟨ad2, e2, had2, c0, c1, c2, c3, c4⟩ := (HRD.out.below HBX2.out (Nat.le_refl _)) s hsk
                injection e2 with e2
                subst e2
                have b0 := hx.cell 0
                have b1 := hx.cell 1
                have b2 := hx.cell 2
                have b3 := hx.cell 3
                have b4 := hx.cell 4
                simp only [List.getElem?_toArray, List.getElem?_cons_zero, List.getElem?_cons_succ] at b0 b1 b2 b3 b4
                have HOW2 := Lib.hid how
                clear how hx
                by_cases hL : r.L s < r.L i
                · have d1 : decide (r.L s < r.L i) = true := decide_eq_true hL
                  have HI3 := Lib.hid (inv_push HI2.out HF2.out (fun s' r' h => by cases h; exact .inl hL))
                  have hlen := stk_len HI2.out.stk
                  have hfle := HI2.out.le
                  simp at hlen
                  have HLEN := Lib.hid hlen
                  clear hlen
                  go_wp2_with (first | (at_builtin; refine wpList_append_own _ rfl _ _ 202 rfl w.heap.size 3 j0 _ 1 8 Tryz.underlying202 hj hj0 hj1 hj2 rfl (by decide) _ _ _ rfl ((HOW2.out.alloc _).alloc _) ⟨wr.heap.size + 1, 0, none⟩ 1 1 [.int .i64 i] rfl rfl ?c1b ?c2b ?c3b ?c4b ?c5b ?_))
                  case c1b => have := news1 (wr.alloc (.cells #[.string (r.O s), .int .i64 (r.A s), .int .i64 (r.L s), .int .i64 (r.P s), .int .i64 (r.Q s)] 58)) (.int .i64 i) 3; simpa using this
                  case c2b => intro u hu; simp only [List.mem_cons, List.not_mem_nil, or_false] at hu; subst hu; rfl
                  case c3b => have := HLEN.out; unfold maxLen; simp; try omega
                  case c4b => have := HLEN.out; simp; try omega
                  case c5b => simp; omega
                  intro v' w3 hown' hgrow _
                  have hP := push_parts (st := (s :: rr)) (i := i) (HOS2.out.alloc (.cells #[.string (r.O s), .int .i64 (r.A s), .int .i64 (r.L s), .int .i64 (r.P s), .int .i64 (r.Q s)] 58)) (HOW2.out.alloc (.cells #[.string (r.O s), .int .i64 (r.A s), .int .i64 (r.L s), .int .i64 (r.P s), .int .i64 (r.Q s)] 58)) (HBX2.out.alloc hz2 (.cells #[.string (r.O s), .int .i64 (r.A s), .int .i64 (r.L s), .int .i64 (r.P s), .int .i64 (r.Q s)] 58)) (by simp; omega) (by simpa using hown') hgrow
                  clear hown' hgrow
                  obtain ⟨p1, p2, p3⟩ := hP
                  have P1 := Lib.hid p1
                  have P2 := Lib.hid p2
                  have P3 := Lib.hid p3
                  clear p1 p2 p3
                  go_wp2
                  rw [Exit.noGoto_normal]
                  go_wp2
                  go_roundg (k - (i + 1))
                  case measure => have := HK.out; omega
                  case rel => exact ⟨i + 1, i :: (s :: rr), F2, T2, by have := HK.out; omega, by go_num, HI3.out, P1.out, P2.out, P3.out⟩
                · have d1 : decide (r.L s < r.L i) = false := decide_eq_false hL
                  by_cases hE : r.L s = r.L i
                  · have d2 : (r.L s == r.L i) = true := beq_iff_eq.2 hE
                    have HE := Lib.hid hE
                    clear hE
                    obtain ⟨cb, hcb⟩ : ∃ cb, clashB (r.A s) (r.A i) = cb := ⟨_, rfl⟩
                    go_wp2_with fail
                    refine (clash_any hcb _ _ _ _ _ _ _ _ _).mono ?_
                    rintro e w3 ⟨rfl, hb3⟩
                    have hw3 : wr.heap.size + 1 ≤ w3.heap.size := by have := hb3.size; simpa using this
                    have HX3 := Lib.hid ((HX2.out.alloc (.cells #[.string (r.O s), .int .i64 (r.A s), .int .i64 (r.L s), .int .i64 (r.P s), .int .i64 (r.Q s)] 58)).below hb3 (by simp; omega))
                    have HY3 := Lib.hid ((Box.new wr #[.string (r.O s), .int .i64 (r.A s), .int .i64 (r.L s), .int .i64 (r.P s), .int .i64 (r.Q s)] 58).below hb3 (by simp))
                    have HOS3 := Lib.hid (own_here (HOS2.out.alloc (.cells #[.string (r.O s), .int .i64 (r.A s), .int .i64 (r.L s), .int .i64 (r.P s), .int .i64 (r.Q s)] 58)) hb3)
                    have HOW3 := Lib.hid (own_here (HOW2.out.alloc (.cells #[.string (r.O s), .int .i64 (r.A s), .int .i64 (r.L s), .int .i64 (r.P s), .int .i64 (r.Q s)] 58)) hb3)
                    have HBX3 := Lib.hid ((HBX2.out.alloc hz2 (.cells #[.string (r.O s), .int .i64 (r.A s), .int .i64 (r.L s), .int .i64 (r.P s), .int .i64 (r.Q s)] 58)).trans (hb3.mono (by simp; omega)))
                    have HC := Lib.hid hcb
                    clear hcb hb3 b0 b1 b2 b3 b4 c0 c1 c2 c3 c4 t0
                    cases cb with
                    | true =>
                      have hno : ¬ Fit r.A s i := of_decide_eq_true HC.out
                      have HR := Lib.hid (show Res r.A r.L k (fun _ => 0) (fun _ => 0) i 50 from ⟨.inr (.inr (.inl ⟨rfl, hn4, hlt, HFA.out, inv_clash HI2.out HE.out hno, HI2.out.none⟩))⟩)
                      clear hno
                      go_wp2
                      rw [Exit.noGoto_ret]
                      go_ret3
                      exact ⟨_, _, _, i, 50, rfl, HR.out, (fun h => absurd h (by decide)), (fun _ => rfl), HBX3.out⟩
                    | false =>
                      have HFit := Lib.hid (show Fit r.A s i from Decidable.not_not.1 (of_decide_eq_false HC.out))
                      have b1 := HX3.out.cell 1
                      have b2 := HX3.out.cell 2
                      have y2 := HY3.out.cell 2
                      simp only [List.getElem?_toArray, List.getElem?_cons_zero, List.getElem?_cons_succ] at b1 b2 y2
                      by_cases hA : r.A i = 2
                      · have d3 : (r.A i == 2) = true := beq_iff_eq.2 hA
                        have HA := Lib.hid hA
                        clear hA
                        have HI3 := Lib.hid (inv_push HI2.out HF2.out (fun s' r' h => by cases h; exact .inr ⟨HE.out, HFit.out, HA.out⟩))
                        go_wp2_with (first | (at_builtin; refine wpList_append_own _ rfl _ _ 202 rfl w.heap.size 3 j0 _ 1 8 Tryz.underlying202 hj hj0 hj1 hj2 rfl (by decide) _ _ _ rfl (HOW3.out.alloc _) ⟨w3.heap.size, 0, none⟩ 1 1 [.int .i64 i] rfl rfl ?c1c ?c2c ?c3c ?c4c ?c5c ?_))
                        case c1c => exact news1 _ _ _
                        case c2c => intro u hu; simp only [List.mem_cons, List.not_mem_nil, or_false] at hu; subst hu; rfl
                        case c3c => unfold maxLen; simp; try omega
                        case c4c => simp; try omega
                        case c5c => simp; omega
                        intro v' w4 hown' hgrow _
                        have hP := push_parts (st := (s :: rr)) (i := i) HOS3.out HOW3.out HBX3.out HBX3.out.size (by simpa using hown') hgrow
                        clear hown' hgrow
                        obtain ⟨p1, p2, p3⟩ := hP
                        have P1 := Lib.hid p1
                        have P2 := Lib.hid p2
                        have P3 := Lib.hid p3
                        clear p1 p2 p3
                        go_wp2
                        rw [Exit.noGoto_normal]
                        go_wp2
                        go_roundg (k - (i + 1))
                        case measure => have := HK.out; omega
                        case rel => exact ⟨i + 1, i :: (s :: rr), F2, T2, by have := HK.out; omega, by go_num, HI3.out, P1.out, P2.out, P3.out⟩
                      · have d3 : (r.A i == 2) = false := beq_eq_false_iff_ne.2 hA
                        have hA1 : r.A i = 1 := by
                          have h1 := HFA.out i hlt
                          have h2 := HFit.out
                          unfold Fine at h1
                          unfold Fit at h2
                          omega
                        have HI3 := Lib.hid (inv_pop HI2.out hlt (.inr ⟨HE.out, HFit.out, hA1⟩))
                        clear hA hA1
                        have hP := pop_parts HOS3.out HOW3.out HX3.out (by decide) HBX3.out hsk hlt
                        obtain ⟨p1, p2, p3, p4, p5, p6⟩ := hP
                        have P3 := Lib.hid p3
                        have P4 := Lib.hid p4
                        have P5 := Lib.hid p5
                        have P6 := Lib.hid p6
                        have q1 := (HOS3.out.cellAt (s * 2 + 1) (by omega)).trans (span_at _ _ k s hsk).2
                        have f1 := HOS3.out.frozenAt (s * 2 + 1)
                        have f2 := HOS3.out.frozenAt (i * 2)
                        have hg3 := (HOS3.out.lt wo.heap.size rfl).2
                        clear p3 p4 p5 p6
                        go_wp2
                        go_roundg rr.length
                        case measure => have := HJ.out; simp at this; omega
                        case rel => exact ⟨rr, F2 s, _, _, rfl, HI3.out, upd_same _ _ _, P3.out, P4.out, P5.out, P6.out⟩
                  · have d2 : (r.L s == r.L i) = false := beq_eq_false_iff_ne.2 hE
                    have HI3 := Lib.hid (inv_pop HI2.out hlt (.inl (by omega)))
                    have hP := pop_parts HOS2.out HOW2.out HX2.out (by decide) HBX2.out hsk hlt
                    obtain ⟨p1, p2, p3, p4, p5, p6⟩ := hP
                    have P3 := Lib.hid (p3.alloc (.cells #[.string (r.O s), .int .i64 (r.A s), .int .i64 (r.L s), .int .i64 (r.P s), .int .i64 (r.Q s)] 58))
                    have P4 := Lib.hid (p4.alloc (.cells #[.string (r.O s), .int .i64 (r.A s), .int .i64 (r.L s), .int .i64 (r.P s), .int .i64 (r.Q s)] 58))
                    have P5 := Lib.hid (p5.alloc (.cells #[.string (r.O s), .int .i64 (r.A s), .int .i64 (r.L s), .int .i64 (r.P s), .int .i64 (r.Q s)] 58))
                    have P6 := Lib.hid (p6.alloc (by simpa using hz2) (.cells #[.string (r.O s), .int .i64 (r.A s), .int .i64 (r.L s), .int .i64 (r.P s), .int .i64 (r.Q s)] 58))
                    have q1 := (HOS2.out.cellAt (s * 2 + 1) (by omega)).trans (span_at _ _ k s hsk).2
                    have f1 := HOS2.out.frozenAt (s * 2 + 1)
                    have f2 := HOS2.out.frozenAt (i * 2)
                    have hg3 := (HOS2.out.lt wo.heap.size rfl).2
                    clear p3 p4 p5 p6 hE
                    go_wp2
                    go_roundg rr.length
                    case measure => have := HJ.out; simp at this; omega
                    case rel => exact ⟨rr, F2 s, _, _, rfl, HI3.out, upd_same _ _ _, P3.out, P4.out, P5.out, P6.out⟩
          · have hik2 : i = k := by omega
            subst hik2
            have how := HOW.out
            obtain ⟨b8, c8, rfl⟩ := own_slice how
            have hlen : st.length ≤ 1024 := by have h1 := stk_len HI.out.stk; omega
            clear how
            obtain ⟨wj, rfl⟩ : ∃ wj : World, wj = wr := ⟨_, rfl⟩
            go_wp2_with fail
            go_loopg [113] (st.length) (fun d i13 wx => ∃ (j : Nat) (T2 : Nat → Nat), d + j = st.length ∧ i13 = .int .i64 j ∧ (∀ x, T2 x = if x ∈ st.reverse.take j then i else T x) ∧ OwnsS wx w.heap.size (.slice (some ⟨wo.heap.size, 0, none⟩) i i) i F T2 ∧ OwnsW wx w.heap.size (.slice b8 st.length c8) st ∧ Below w.heap.size w wx)
            case atStart => exact ⟨0, T, by omega, rfl, (fun x => by simp), HOS.out, HOW.out, HBX.out⟩
            case round =>
              obtain ⟨j, T2, hj, rfl, hT, hos, how, hbx⟩ := hrel
              have HJ := Lib.hid hj
              have HT := Lib.hid hT
              have HOS2 := Lib.hid hos
              have HOW2 := Lib.hid how
              have HBX2 := Lib.hid hbx
              have hjl : j ≤ st.length := by omega
              clear hj hT hos hbx
              by_cases hlt2 : j < st.length
              · obtain ⟨g8, rfl, _, hg8, hc8, hcell⟩ := own_at how (by omega)
                obtain ⟨x, hx⟩ : ∃ x, st.reverse[j]? = some x := ⟨_, List.getElem?_eq_getElem (by simpa using hlt2)⟩
                have t0 := hcell j (by omega)
                rw [List.getElem?_map, hx] at t0
                simp only [Option.map_some] at t0
                have hxm : x ∈ st := by have := List.mem_of_getElem? hx; simpa using this
                have hxi : x < i := (HI.out.wait x hxm).1
                have hxi' : (x : Int) < i := by omega
                have hlt3 : (j : Int) < st.length := by omega
                have q1 := (HOS2.out.cellAt (x * 2 + 1) (by omega)).trans (span_at _ _ i x hxi).2
                have f1 := HOS2.out.frozenAt (x * 2 + 1)
                have hg3 := (HOS2.out.lt wo.heap.size rfl).2
                have HOS3 := Lib.hid (owns_to HOS2.out hxi i)
                have HOW3 := Lib.hid (own_far HOW2.out (own_block HOS2.out).choose_spec (by decide) (x * 2 + 1) (.int .i64 i))
                have HBX3 := Lib.hid (HBX2.out.setCell (p := ⟨wo.heap.size, x * 2 + 1, none⟩) hzw (.int .i64 i))
                have HXX := Lib.hid hx
                clear hcell hx hxm how
                go_wp2
                go_roundg (st.length - (j + 1))
                case measure => have := HJ.out; omega
                case rel =>
                  refine ⟨j + 1, upd T2 x i, by have := HJ.out; omega, by go_num, (fun y => ?_), HOS3.out, HOW3.out, HBX3.out⟩
                  have hx := HXX.out
                  rw [List.take_add_one, hx]
                  by_cases hy : y = x
                  · rw [hy, upd_same]
                    simp
                  · rw [upd_other _ _ hy, HT.out y]
                    simp [hy]
              · have hje : j = st.length := by omega
                subst hje
                have HRes := Lib.hid (show Res r.A r.L i F T2 0 0 from ⟨.inr (.inr (.inr ⟨rfl, rfl, hn4, ⟨HFA.out, HI.out.none⟩, fun x hx => ⟨HI.out.frm x hx, by
                  rw [HT.out x, List.take_of_length_le (by simp)]
                  by_cases hm : x ∈ st
                  · rw [if_pos (by simpa using hm)]
                    exact inv_end HI.out hm
                  · rw [if_neg (by simpa using hm)]
                    exact HI.out.done x hx hm⟩⟩))⟩)
                clear how
                go_wp2
                go_ret3
                exact ⟨_, _, _, 0, 0, rfl, HRes.out, (fun _ => HOS2.out), (fun h => absurd rfl h), HBX2.out⟩
end Go.Proofs.YtdajihpfedbihaaGreat.Fx
/-
  CONTRACTS: operators' texts (num.Op, num.Rel; the document's own Op).
-/
namespace Go.Proofs.YtdajihpfedbihaaGreat.Nm
open Go.RowKit
set_option linter.unusedVariables false
/-- the operator whose text this is -/
def opOf (l : List UInt8) : Int :=
  if l = [43] then 1 else if l = [45] then 2 else if l = [42] then 3 else if l = [47] then 4 else if l = [37] then 5 else if l = [61, 61] then 6 else if l = [47, 61] then 7 else if l = [60] then 8 else if l = [60, 61] then 9 else if l = [62] then 10 else if l = [62, 61] then 11 else 0
def OpPost (l : List UInt8) (w : World) (e : Ending) (w' : World) : Prop := e = .returned (.int .i64 (opOf l)) ∧ Below w.heap.size w w'
theorem opPost {l : List UInt8} {n : Int} {w w' : World} (h : opOf l = n) (hb : Below w.heap.size w w') : OpPost l w (.returned (.int .i64 n)) w' := by
  unfold OpPost; rw [h]; exact ⟨rfl, hb⟩
theorem op_1 (w : World) : Calls Tryz.prog 161 #[.string ⟨#[43]⟩] w fun e w' => OpPost [43] w e w' ∧ w = w' := by
  go_enter Tryz.func161, Tryz.ntmps161
  go_wp2
  go_ret
  exact ⟨opPost (by decide) (Below.refl _ _), rfl⟩
theorem op_2 (w : World) : Calls Tryz.prog 161 #[.string ⟨#[45]⟩] w fun e w' => OpPost [45] w e w' ∧ w = w' := by
  go_enter Tryz.func161, Tryz.ntmps161
  go_wp2
  go_ret
  exact ⟨opPost (by decide) (Below.refl _ _), rfl⟩
theorem op_3 (w : World) : Calls Tryz.prog 161 #[.string ⟨#[42]⟩] w fun e w' => OpPost [42] w e w' ∧ w = w' := by
  go_enter Tryz.func161, Tryz.ntmps161
  go_wp2
  go_ret
  exact ⟨opPost (by decide) (Below.refl _ _), rfl⟩
theorem op_4 (w : World) : Calls Tryz.prog 161 #[.string ⟨#[47]⟩] w fun e w' => OpPost [47] w e w' ∧ w = w' := by
  go_enter Tryz.func161, Tryz.ntmps161
  go_wp2
  go_ret
  exact ⟨opPost (by decide) (Below.refl _ _), rfl⟩
theorem op_5 (w : World) : Calls Tryz.prog 161 #[.string ⟨#[37]⟩] w fun e w' => OpPost [37] w e w' ∧ w = w' := by
  go_enter Tryz.func161, Tryz.ntmps161
  go_wp2
  go_ret
  exact ⟨opPost (by decide) (Below.refl _ _), rfl⟩
theorem op_6 (w : World) : Calls Tryz.prog 161 #[.string ⟨#[61, 61]⟩] w fun e w' => OpPost [61, 61] w e w' ∧ w = w' := by
  go_enter Tryz.func161, Tryz.ntmps161
  go_wp2
  go_ret
  exact ⟨opPost (by decide) (Below.refl _ _), rfl⟩
theorem op_7 (w : World) : Calls Tryz.prog 161 #[.string ⟨#[47, 61]⟩] w fun e w' => OpPost [47, 61] w e w' ∧ w = w' := by
  go_enter Tryz.func161, Tryz.ntmps161
  go_wp2
  go_ret
  exact ⟨opPost (by decide) (Below.refl _ _), rfl⟩
theorem op_8 (w : World) : Calls Tryz.prog 161 #[.string ⟨#[60]⟩] w fun e w' => OpPost [60] w e w' ∧ w = w' := by
  go_enter Tryz.func161, Tryz.ntmps161
  go_wp2
  go_ret
  exact ⟨opPost (by decide) (Below.refl _ _), rfl⟩
theorem op_9 (w : World) : Calls Tryz.prog 161 #[.string ⟨#[60, 61]⟩] w fun e w' => OpPost [60, 61] w e w' ∧ w = w' := by
  go_enter Tryz.func161, Tryz.ntmps161
  go_wp2
  go_ret
  exact ⟨opPost (by decide) (Below.refl _ _), rfl⟩
theorem op_10 (w : World) : Calls Tryz.prog 161 #[.string ⟨#[62]⟩] w fun e w' => OpPost [62] w e w' ∧ w = w' := by
  go_enter Tryz.func161, Tryz.ntmps161
  go_wp2
  go_ret
  exact ⟨opPost (by decide) (Below.refl _ _), rfl⟩
theorem op_11 (w : World) : Calls Tryz.prog 161 #[.string ⟨#[62, 61]⟩] w fun e w' => OpPost [62, 61] w e w' ∧ w = w' := by
  go_enter Tryz.func161, Tryz.ntmps161
  go_wp2
  go_ret
  exact ⟨opPost (by decide) (Below.refl _ _), rfl⟩
def texts : List (List UInt8) := [[43], [45], [42], [47], [37], [61, 61], [47, 61], [60], [60, 61], [62], [62, 61]]
theorem opOf_none {l : List UInt8} (h : ∀ t, t ∈ texts → ¬ l = t) : opOf l = 0 := by
  unfold opOf
  rw [if_neg (h [43] (by decide)), if_neg (h [45] (by decide)), if_neg (h [42] (by decide)), if_neg (h [47] (by decide)), if_neg (h [37] (by decide)), if_neg (h [61, 61] (by decide)), if_neg (h [47, 61] (by decide)), if_neg (h [60] (by decide)), if_neg (h [60, 61] (by decide)), if_neg (h [62] (by decide)), if_neg (h [62, 61] (by decide))]
theorem op_none (s : ByteArray) (h : ∀ t, t ∈ texts → ¬ s.data.toList = t) (w : World) : Calls Tryz.prog 161 #[.string s] w fun e w' => OpPost s.data.toList w e w' ∧ w = w' := by
  have n1 : (s.toList == [43]) = false := by rw [Lib.toList_data]; exact beq_eq_false_iff_ne.2 (h [43] (by decide))
  have m1 : ([43] == s.toList) = false := by rw [Lib.toList_data]; exact beq_eq_false_iff_ne.2 (fun e => h [43] (by decide) e.symm)
  have n2 : (s.toList == [45]) = false := by rw [Lib.toList_data]; exact beq_eq_false_iff_ne.2 (h [45] (by decide))
  have m2 : ([45] == s.toList) = false := by rw [Lib.toList_data]; exact beq_eq_false_iff_ne.2 (fun e => h [45] (by decide) e.symm)
  have n3 : (s.toList == [42]) = false := by rw [Lib.toList_data]; exact beq_eq_false_iff_ne.2 (h [42] (by decide))
  have m3 : ([42] == s.toList) = false := by rw [Lib.toList_data]; exact beq_eq_false_iff_ne.2 (fun e => h [42] (by decide) e.symm)
  have n4 : (s.toList == [47]) = false := by rw [Lib.toList_data]; exact beq_eq_false_iff_ne.2 (h [47] (by decide))
  have m4 : ([47] == s.toList) = false := by rw [Lib.toList_data]; exact beq_eq_false_iff_ne.2 (fun e => h [47] (by decide) e.symm)
  have n5 : (s.toList == [37]) = false := by rw [Lib.toList_data]; exact beq_eq_false_iff_ne.2 (h [37] (by decide))
  have m5 : ([37] == s.toList) = false := by rw [Lib.toList_data]; exact beq_eq_false_iff_ne.2 (fun e => h [37] (by decide) e.symm)
  have n6 : (s.toList == [61, 61]) = false := by rw [Lib.toList_data]; exact beq_eq_false_iff_ne.2 (h [61, 61] (by decide))
  have m6 : ([61, 61] == s.toList) = false := by rw [Lib.toList_data]; exact beq_eq_false_iff_ne.2 (fun e => h [61, 61] (by decide) e.symm)
  have n7 : (s.toList == [47, 61]) = false := by rw [Lib.toList_data]; exact beq_eq_false_iff_ne.2 (h [47, 61] (by decide))
  have m7 : ([47, 61] == s.toList) = false := by rw [Lib.toList_data]; exact beq_eq_false_iff_ne.2 (fun e => h [47, 61] (by decide) e.symm)
  have n8 : (s.toList == [60]) = false := by rw [Lib.toList_data]; exact beq_eq_false_iff_ne.2 (h [60] (by decide))
  have m8 : ([60] == s.toList) = false := by rw [Lib.toList_data]; exact beq_eq_false_iff_ne.2 (fun e => h [60] (by decide) e.symm)
  have n9 : (s.toList == [60, 61]) = false := by rw [Lib.toList_data]; exact beq_eq_false_iff_ne.2 (h [60, 61] (by decide))
  have m9 : ([60, 61] == s.toList) = false := by rw [Lib.toList_data]; exact beq_eq_false_iff_ne.2 (fun e => h [60, 61] (by decide) e.symm)
  have n10 : (s.toList == [62]) = false := by rw [Lib.toList_data]; exact beq_eq_false_iff_ne.2 (h [62] (by decide))
  have m10 : ([62] == s.toList) = false := by rw [Lib.toList_data]; exact beq_eq_false_iff_ne.2 (fun e => h [62] (by decide) e.symm)
  have n11 : (s.toList == [62, 61]) = false := by rw [Lib.toList_data]; exact beq_eq_false_iff_ne.2 (h [62, 61] (by decide))
  have m11 : ([62, 61] == s.toList) = false := by rw [Lib.toList_data]; exact beq_eq_false_iff_ne.2 (fun e => h [62, 61] (by decide) e.symm)
  have HF := Lib.hid (opOf_none h)
  clear h
  go_enter Tryz.func161, Tryz.ntmps161
  go_wp2
  go_ret
  exact ⟨opPost HF.out (Below.refl _ _), rfl⟩
theorem is_text {s : ByteArray} {t : List UInt8} (h : s.data.toList = t) : s = ⟨t.toArray⟩ := by rw [← h]
theorem op_any (s : ByteArray) (w : World) : Calls Tryz.prog 161 #[.string s] w fun e w' => OpPost s.data.toList w e w' ∧ w = w' := by
  by_cases h1 : s.data.toList = [43]
  · obtain rfl := is_text h1; exact op_1 w
  by_cases h2 : s.data.toList = [45]
  · obtain rfl := is_text h2; exact op_2 w
  by_cases h3 : s.data.toList = [42]
  · obtain rfl := is_text h3; exact op_3 w
  by_cases h4 : s.data.toList = [47]
  · obtain rfl := is_text h4; exact op_4 w
  by_cases h5 : s.data.toList = [37]
  · obtain rfl := is_text h5; exact op_5 w
  by_cases h6 : s.data.toList = [61, 61]
  · obtain rfl := is_text h6; exact op_6 w
  by_cases h7 : s.data.toList = [47, 61]
  · obtain rfl := is_text h7; exact op_7 w
  by_cases h8 : s.data.toList = [60]
  · obtain rfl := is_text h8; exact op_8 w
  by_cases h9 : s.data.toList = [60, 61]
  · obtain rfl := is_text h9; exact op_9 w
  by_cases h10 : s.data.toList = [62]
  · obtain rfl := is_text h10; exact op_10 w
  by_cases h11 : s.data.toList = [62, 61]
  · obtain rfl := is_text h11; exact op_11 w
  exact op_none s (by intro t ht; simp only [texts, List.mem_cons, List.not_mem_nil, or_false] at ht; rcases ht with rfl | rfl | rfl | rfl | rfl | rfl | rfl | rfl | rfl | rfl | rfl <;> assumption) w
theorem rel_yes (op : Int) (w : World) (h1 : 6 ≤ op) (h2 : op ≤ 11) : Calls Tryz.prog 160 #[.int .i64 op] w fun e w' => e = .returned (.bool true) ∧ w = w' := by
  have e1 : decide (6 ≤ op) = true := by simp [h1]
  have e2 : decide (op ≤ 11) = true := by simp [h2]
  go_enter Tryz.func160, Tryz.ntmps160
  go_wp2
  go_ret
  exact ⟨rfl, rfl⟩
theorem rel_no (op : Int) (w : World) (h : op < 6 ∨ 11 < op) : Calls Tryz.prog 160 #[.int .i64 op] w fun e w' => e = .returned (.bool false) ∧ w = w' := by
  by_cases h1 : 6 ≤ op
  · have e1 : decide (6 ≤ op) = true := by simp [h1]
    have e2 : decide (op ≤ 11) = false := by simp; omega
    clear h
    go_enter Tryz.func160, Tryz.ntmps160
    go_wp2
    go_ret
    exact ⟨rfl, rfl⟩
  · have e1 : decide (6 ≤ op) = false := by simp; omega
    clear h
    go_enter Tryz.func160, Tryz.ntmps160
    go_wp2
    go_ret
    exact ⟨rfl, rfl⟩
end Go.Proofs.YtdajihpfedbihaaGreat.Nm
