/-
  Programs and expressions that came in, opened to their fields. Written by gen_starg.py.
-/
import Derived.Test.YtdajihpfedbihaaGreatGYa
import Derived.Test.YtdajihpfedbihaaGreatRows
import Derived.OpenShut
import Derived.Deep.Slices
import Derived.SizedLaws
import Derived.Carry
namespace Go.Proofs.YtdajihpfedbihaaGreat.St
open Go.RowKit Mm Tm
open Go.ChangeShapes Go.WideShapes Go.ChangeAt
set_option linter.unusedVariables false
set_option maxRecDepth 100000
theorem laidOut : laidOutB Tryz.prog = true := by kernel_rfl
/-- each part of a datum is within the form's reach -/
def WB {H : Type} (t : TypeId) (d : DataW H) : Prop := ∀ m ∈ d.weights Tryz.prog t, m ≤ reachBytes
theorem weightsAll_mem {H : Type} {e : TypeId} : ∀ {l : List (DataW H)} {d : DataW H}, d ∈ l → ∀ n ∈ d.weights Tryz.prog e, n ∈ DataW.weightsAll Tryz.prog e l
  | x :: l, d, hd, n, hn => by
    simp only [DataW.weightsAll, List.mem_append]
    rcases List.mem_cons.1 hd with rfl | q
    · exact .inl hn
    · exact .inr (weightsAll_mem q n hn)
theorem WB.elem {H : Type} {t e : TypeId} {es sp : List (DataW H)} (h : WB t (.slice es sp)) (ht : Tryz.prog.underlying t = some (.slice e)) {y : DataW H} (hy : y ∈ es) : WB e y := fun m hm => h m (by
  simp only [DataW.weights, ht, List.mem_cons, List.mem_append]
  exact .inr (.inl (weightsAll_mem hy m hm)))
theorem WB.len {H : Type} {t e : TypeId} {es sp : List (DataW H)} (h : WB t (.slice es sp)) (ht : Tryz.prog.underlying t = some (.slice e)) : es.length * Tryz.prog.bytesOf e ≤ reachBytes := by
  have := h ((es.length + sp.length) * Tryz.prog.bytesOf e) (by simp [DataW.weights, ht])
  exact Nat.le_trans (Nat.mul_le_mul_right _ (Nat.le_add_right _ _)) this
theorem WB.part {H : Type} {t tj : TypeId} {fs : Array Field} {ps : List (DataW H)} (h : WB t (.agg ps)) (ht : Tryz.prog.underlying t = some (.struct fs)) {j : Nat} (hj : (fs.toList.map (·.type))[j]? = some tj) {y : DataW H} (hy : ps[j]? = some y) : WB tj y := fun m hm => h m (by
  simp only [DataW.weights, ht]
  exact DataW.weights_mem_each hj hy m hm)
theorem cell_at {W : World} {a : Addr} {j : Nat} {v : Value} (hj : j ≠ 0) (h : W.cell? (a.add j) = some v) : W.cell? ⟨a.block, a.off + j, none⟩ = some v := by
  unfold Addr.add at h
  rw [if_neg hj] at h
  exact h
section
variable {H : Type} {enc : TypeId × Value → H} {W : World} {base : Nat} {sp : Nat → Bool} {held : Bool} {f : Nat} {cs : List Value} {y : DataW H × List MemPlace} {R : Kd → List Value → Prop}
/-- a row's elements -/
theorem open_rowg {t e : TypeId} {k B : Nat} {Q : List Value → Prop} (ht : Tryz.prog.underlying t = some (.slice e)) (hk : Tryz.prog.cellsOf e = k) (hk0 : 0 < k) (hB : Tryz.prog.bytesOf e = B)
    (h : DataW.trod enc Tryz.prog W base sp held f t cs = some y) (hw : WB t y.1) (hel : ∀ (f' : Nat) (cs : List Value) (y : DataW H × List MemPlace), f' < f → DataW.trod enc Tryz.prog W base sp held f' e cs = some y → WB e y.1 → Q cs) :
    ∃ a n c C, cs = [.slice a n c] ∧ n * B ≤ 140737488355328 ∧ n ≤ c ∧ RowG (· < W.heap.size) W a n k C ∧ ∀ i, i < n → Q (C i) := by
  subst hk hB
  rcases DataW.trod_slice ht h with ⟨rfl, rfl⟩ | ⟨a, len, cap, elems, rest, f', rfl, rfl, rfl, hba, hlc, hcm, hlen, hi, _⟩
  · exact ⟨none, 0, 0, fun _ => [], rfl, by omega, Nat.le_refl _, RowG.nil _ _ _ _ _, fun i hi => absurd hi (Nat.not_lt_zero i)⟩
  · have hl := hw.len ht
    rw [List.length_map, hlen] at hl
    obtain ⟨g, hg⟩ := Deep.choose_lt (n := len) (p := fun i (z : List Value) => (Q z ∧ W.cells? base (a.add (i * Tryz.prog.cellsOf e)) (Tryz.prog.cellsOf e) = some z)) (fun i hin => by
      have h1 := hi i hin
      have h2 : elems[i]? = some elems[i] := List.getElem?_eq_getElem (by omega)
      rw [h2] at h1
      cases hcs : W.cells? base (a.add (i * Tryz.prog.cellsOf e)) (Tryz.prog.cellsOf e) with
      | none => rw [hcs] at h1; cases h1
      | some cs =>
        rw [hcs] at h1
        exact ⟨cs, hel f' cs elems[i] (Nat.lt_succ_self _) h1 (hw.elem ht (List.mem_map_of_mem (List.getElem_mem (by omega)))), rfl⟩)
    refine ⟨some a, len, cap, g, rfl, by unfold reachBytes at hl; omega, hlc, fun i hin => ?_, fun i hin => (hg i hin).1⟩
    obtain ⟨_, hz, hat⟩ := World.cells?_some (hg i hin).2
    refine ⟨a, rfl, ?_, hz, fun u hu => ?_, fun j u hj hu => ?_⟩
    · have h0 := hat 0 hk0
      have hgl : 0 < (g i).length := by omega
      rw [List.getElem?_eq_getElem hgl] at h0
      have := World.block_lt_of_cell? _ _ h0
      rwa [add_block, add_block] at this
    · have h0 := hat 0 hk0
      rw [hu] at h0
      unfold Addr.add at h0 ⊢
      simpa using h0
    · have hjl : j < Tryz.prog.cellsOf e := by rw [← hz]; exact (List.getElem?_eq_some_iff.1 hu).1
      exact cell_at hj ((hat j hjl).trans hu)
theorem FF.append {Z : Nat → Prop} {w : World} {l m : List Fd} {us vs : List Value} (h : FF R Z w l us) (g : FF R Z w m vs) : FF R Z w (l ++ m) (us ++ vs) := by
  induction h with
  | nil => exact g
  | int _ ih => exact .int ih
  | pos _ ih => exact .pos ih
  | str h1 _ ih => exact .str h1 ih
  | strs h1 h2 h3 h4 _ ih => exact .strs h1 h2 h3 h4 ih
  | row h1 h2 h3 h4 _ ih => exact .row h1 h2 h3 h4 ih
theorem fld_int {t : TypeId} (ht : Tryz.prog.underlying t = some (.int .i64)) (h : DataW.trod enc Tryz.prog W base sp held f t cs = some y) : FF R (· < W.heap.size) W [.int] cs := by
  obtain ⟨x, rfl, _⟩ := DataW.trod_int ht h
  exact .int .nil
theorem fld_str {t : TypeId} (ht : Tryz.prog.underlying t = some .string) (h : DataW.trod enc Tryz.prog W base sp held f t cs = some y) : FF R (· < W.heap.size) W [.str] cs := by
  obtain ⟨s, rfl, _, hs⟩ := DataW.trod_string ht h
  exact .str (by unfold maxLen at hs; exact hs) .nil
theorem cellsI : Tryz.prog.cellsOf 3 = 1 := by kernel_rfl
theorem cellsI64 : Tryz.prog.cellsOf 2 = 1 := by kernel_rfl
theorem cellsS : Tryz.prog.cellsOf 9 = 1 := by kernel_rfl
theorem cellsSs : Tryz.prog.cellsOf 27 = 1 := by kernel_rfl
theorem cellsPos : Tryz.prog.cellsOf 31 = 2 := by kernel_rfl
theorem fld_pos (h : DataW.trod enc Tryz.prog W base sp held f 31 cs = some y) : FF R (· < W.heap.size) W [.pos, .pos] cs := by
  obtain ⟨y0, y1, m, rfl, hl, t0, t1⟩ := trod_struct2 Tryz.underlying31 h
  rw [cellsPos] at hl
  match cs, hl with
  | [c0, c1], _ =>
    have t0 : DataW.trod enc Tryz.prog W base sp held m 3 (([c0, c1].drop 0).take (Tryz.prog.cellsOf 3)) = some y0 := t0
    have t1 : DataW.trod enc Tryz.prog W base sp held m 3 (([c0, c1].drop 1).take (Tryz.prog.cellsOf 3)) = some y1 := t1
    rw [cellsI] at t0 t1
    obtain ⟨p, e3, _⟩ := DataW.trod_int Tryz.underlying3 t0
    obtain ⟨q, e4, _⟩ := DataW.trod_int Tryz.underlying3 t1
    simp at e3 e4
    subst e3 e4
    exact .pos (.pos .nil)
theorem fld_strs (h : DataW.trod enc Tryz.prog W base sp held f 27 cs = some y) (hw : WB 27 y.1) : FF R (· < W.heap.size) W [.strs] cs := by
  obtain ⟨a, n, c, C, rfl, h1, h2, h3, h4⟩ := open_rowg (k := 1) (B := 16) (Q := fun cs => ∃ s : ByteArray, cs = [.string s] ∧ s.size ≤ 9223372036854775807) Tryz.underlying27 (by kernel_rfl) (by decide) (by kernel_rfl) h hw (fun f' cs y _ h _ => by
    obtain ⟨s, rfl, _, hs⟩ := DataW.trod_string Tryz.underlying9 h
    exact ⟨s, rfl, by unfold maxLen at hs; exact hs⟩)
  obtain ⟨S, hS⟩ := Deep.choose_lt h4
  refine .strs (S := S) h1 h2 (fun i hi => ?_) (fun i hi => (hS i hi).2) .nil
  have := h3 i hi
  rwa [(hS i hi).1] at this
theorem fld_row {q : Nat} {t e : TypeId} {κ : Kd} (ht : Tryz.prog.underlying t = some (.slice e)) (hk : Tryz.prog.cellsOf e = wide κ) (hk0 : 0 < wide κ) (hB : Tryz.prog.bytesOf e = bytes κ) (hq : f ≤ q + 1) (ih : ∀ f cs (y : DataW H × List MemPlace), f ≤ q → DataW.trod enc Tryz.prog W base sp held f e cs = some y → WB e y.1 → G (· < W.heap.size) W q κ cs)
    (h : DataW.trod enc Tryz.prog W base sp held f t cs = some y) (hw : WB t y.1) : FF (G (· < W.heap.size) W q) (· < W.heap.size) W [.row κ] cs := by
  obtain ⟨a, n, c, C, rfl, h1, h2, h3, h4⟩ := open_rowg ht hk hk0 hB h hw (fun f' cs y hf h hw => ih f' cs y (by omega) h hw)
  exact .row h1 h2 h3 h4 .nil
end
def tyOf : Kd → TypeId
  | .ty => 152
  | .pt => 83
  | .ex => 33
  | .rh => 102
  | .cl => 100
  | .bd => 51
  | .al => 86
  | .cn => 92
  | .dt => 72
  | .fx => 58
theorem cells_ty : Tryz.prog.cellsOf 152 = 4 := by kernel_rfl
theorem cells_pt : Tryz.prog.cellsOf 83 = 6 := by kernel_rfl
theorem cells_ex : Tryz.prog.cellsOf 33 = 9 := by kernel_rfl
theorem cells_rh : Tryz.prog.cellsOf 102 = 10 := by kernel_rfl
theorem cells_cl : Tryz.prog.cellsOf 100 = 2 := by kernel_rfl
theorem cells_bd : Tryz.prog.cellsOf 51 = 4 := by kernel_rfl
theorem cells_al : Tryz.prog.cellsOf 86 = 7 := by kernel_rfl
theorem cells_cn : Tryz.prog.cellsOf 92 = 4 := by kernel_rfl
theorem cells_dt : Tryz.prog.cellsOf 72 = 5 := by kernel_rfl
theorem cells_fx : Tryz.prog.cellsOf 58 = 5 := by kernel_rfl
theorem cellss_ty : Tryz.prog.cellsOf 90 = 1 := by kernel_rfl
theorem cellss_pt : Tryz.prog.cellsOf 81 = 1 := by kernel_rfl
theorem cellss_ex : Tryz.prog.cellsOf 28 = 1 := by kernel_rfl
theorem cellss_rh : Tryz.prog.cellsOf 84 = 1 := by kernel_rfl
theorem cellss_cl : Tryz.prog.cellsOf 49 = 1 := by kernel_rfl
theorem cellss_bd : Tryz.prog.cellsOf 24 = 1 := by kernel_rfl
theorem cellss_al : Tryz.prog.cellsOf 29 = 1 := by kernel_rfl
theorem cellss_cn : Tryz.prog.cellsOf 70 = 1 := by kernel_rfl
theorem cellss_dt : Tryz.prog.cellsOf 22 = 1 := by kernel_rfl
theorem cellss_fx : Tryz.prog.cellsOf 23 = 1 := by kernel_rfl
section
variable {H : Type} {enc : TypeId × Value → H} {W : World} {base : Nat} {sp : Nat → Bool} {held : Bool} {f q : Nat} {cs : List Value} {y : DataW H × List MemPlace}
theorem open_ty (ih : ∀ κ f cs (y : DataW H × List MemPlace), f ≤ q → DataW.trod enc Tryz.prog W base sp held f (tyOf κ) cs = some y → WB (tyOf κ) y.1 → G (· < W.heap.size) W q κ cs) (hf : f ≤ q + 1) (h : DataW.trod enc Tryz.prog W base sp held f 152 cs = some y) (hw : WB 152 y.1) : FF (G (· < W.heap.size) W q) (· < W.heap.size) W (schema .ty) cs := by
  obtain ⟨xs, f', rfl, rfl, hl, hlen, hfl⟩ := DataW.trod_struct Tryz.underlying152 h
  rw [cells_ty] at hl
  match cs, hl with
  | [c0, c1, c2, c3], _ =>
    have hlen : xs.length = 4 := hlen
    match xs, hlen with
    | [y0, y1, y2, y3], _ =>
      have g0 : DataW.trod enc Tryz.prog W base sp held f' 3 (([c0, c1, c2, c3].drop 0).take (Tryz.prog.cellsOf 3)) = some y0 := hfl 0 _ rfl
      rw [cellsI] at g0
      have g0 : DataW.trod enc Tryz.prog W base sp held f' 3 [c0] = some y0 := g0
      have g1 : DataW.trod enc Tryz.prog W base sp held f' 3 (([c0, c1, c2, c3].drop 1).take (Tryz.prog.cellsOf 3)) = some y1 := hfl 1 _ rfl
      rw [cellsI] at g1
      have g1 : DataW.trod enc Tryz.prog W base sp held f' 3 [c1] = some y1 := g1
      have g2 : DataW.trod enc Tryz.prog W base sp held f' 9 (([c0, c1, c2, c3].drop 2).take (Tryz.prog.cellsOf 9)) = some y2 := hfl 2 _ rfl
      rw [cellsS] at g2
      have g2 : DataW.trod enc Tryz.prog W base sp held f' 9 [c2] = some y2 := g2
      have g3 : DataW.trod enc Tryz.prog W base sp held f' 90 (([c0, c1, c2, c3].drop 3).take (Tryz.prog.cellsOf 90)) = some y3 := hfl 3 _ rfl
      rw [cellss_ty] at g3
      have g3 : DataW.trod enc Tryz.prog W base sp held f' 90 [c3] = some y3 := g3
      exact (FF.append (fld_int Tryz.underlying3 g0) (FF.append (fld_int Tryz.underlying3 g1) (FF.append (fld_str Tryz.underlying9 g2) (fld_row (κ := .ty) Tryz.underlying90 cells_ty (by decide) (by kernel_rfl) (by omega) (ih .ty) g3 (hw.part Tryz.underlying152 (j := 3) rfl rfl)))))
theorem open_pt (ih : ∀ κ f cs (y : DataW H × List MemPlace), f ≤ q → DataW.trod enc Tryz.prog W base sp held f (tyOf κ) cs = some y → WB (tyOf κ) y.1 → G (· < W.heap.size) W q κ cs) (hf : f ≤ q + 1) (h : DataW.trod enc Tryz.prog W base sp held f 83 cs = some y) (hw : WB 83 y.1) : FF (G (· < W.heap.size) W q) (· < W.heap.size) W (schema .pt) cs := by
  obtain ⟨xs, f', rfl, rfl, hl, hlen, hfl⟩ := DataW.trod_struct Tryz.underlying83 h
  rw [cells_pt] at hl
  match cs, hl with
  | [c0, c1, c2, c3, c4, c5], _ =>
    have hlen : xs.length = 5 := hlen
    match xs, hlen with
    | [y0, y1, y2, y3, y4], _ =>
      have g0 : DataW.trod enc Tryz.prog W base sp held f' 3 (([c0, c1, c2, c3, c4, c5].drop 0).take (Tryz.prog.cellsOf 3)) = some y0 := hfl 0 _ rfl
      rw [cellsI] at g0
      have g0 : DataW.trod enc Tryz.prog W base sp held f' 3 [c0] = some y0 := g0
      have g1 : DataW.trod enc Tryz.prog W base sp held f' 9 (([c0, c1, c2, c3, c4, c5].drop 1).take (Tryz.prog.cellsOf 9)) = some y1 := hfl 1 _ rfl
      rw [cellsS] at g1
      have g1 : DataW.trod enc Tryz.prog W base sp held f' 9 [c1] = some y1 := g1
      have g2 : DataW.trod enc Tryz.prog W base sp held f' 2 (([c0, c1, c2, c3, c4, c5].drop 2).take (Tryz.prog.cellsOf 2)) = some y2 := hfl 2 _ rfl
      rw [cellsI64] at g2
      have g2 : DataW.trod enc Tryz.prog W base sp held f' 2 [c2] = some y2 := g2
      have g3 : DataW.trod enc Tryz.prog W base sp held f' 81 (([c0, c1, c2, c3, c4, c5].drop 3).take (Tryz.prog.cellsOf 81)) = some y3 := hfl 3 _ rfl
      rw [cellss_pt] at g3
      have g3 : DataW.trod enc Tryz.prog W base sp held f' 81 [c3] = some y3 := g3
      have g4 : DataW.trod enc Tryz.prog W base sp held f' 31 (([c0, c1, c2, c3, c4, c5].drop 4).take (Tryz.prog.cellsOf 31)) = some y4 := hfl 4 _ rfl
      rw [cellsPos] at g4
      have g4 : DataW.trod enc Tryz.prog W base sp held f' 31 [c4, c5] = some y4 := g4
      exact (FF.append (fld_int Tryz.underlying3 g0) (FF.append (fld_str Tryz.underlying9 g1) (FF.append (fld_int Tryz.underlying2 g2) (FF.append (fld_row (κ := .pt) Tryz.underlying81 cells_pt (by decide) (by kernel_rfl) (by omega) (ih .pt) g3 (hw.part Tryz.underlying83 (j := 3) rfl rfl)) (fld_pos g4)))))
theorem open_ex (ih : ∀ κ f cs (y : DataW H × List MemPlace), f ≤ q → DataW.trod enc Tryz.prog W base sp held f (tyOf κ) cs = some y → WB (tyOf κ) y.1 → G (· < W.heap.size) W q κ cs) (hf : f ≤ q + 1) (h : DataW.trod enc Tryz.prog W base sp held f 33 cs = some y) (hw : WB 33 y.1) : FF (G (· < W.heap.size) W q) (· < W.heap.size) W (schema .ex) cs := by
  obtain ⟨xs, f', rfl, rfl, hl, hlen, hfl⟩ := DataW.trod_struct Tryz.underlying33 h
  rw [cells_ex] at hl
  match cs, hl with
  | [c0, c1, c2, c3, c4, c5, c6, c7, c8], _ =>
    have hlen : xs.length = 8 := hlen
    match xs, hlen with
    | [y0, y1, y2, y3, y4, y5, y6, y7], _ =>
      have g0 : DataW.trod enc Tryz.prog W base sp held f' 3 (([c0, c1, c2, c3, c4, c5, c6, c7, c8].drop 0).take (Tryz.prog.cellsOf 3)) = some y0 := hfl 0 _ rfl
      rw [cellsI] at g0
      have g0 : DataW.trod enc Tryz.prog W base sp held f' 3 [c0] = some y0 := g0
      have g1 : DataW.trod enc Tryz.prog W base sp held f' 9 (([c0, c1, c2, c3, c4, c5, c6, c7, c8].drop 1).take (Tryz.prog.cellsOf 9)) = some y1 := hfl 1 _ rfl
      rw [cellsS] at g1
      have g1 : DataW.trod enc Tryz.prog W base sp held f' 9 [c1] = some y1 := g1
      have g2 : DataW.trod enc Tryz.prog W base sp held f' 2 (([c0, c1, c2, c3, c4, c5, c6, c7, c8].drop 2).take (Tryz.prog.cellsOf 2)) = some y2 := hfl 2 _ rfl
      rw [cellsI64] at g2
      have g2 : DataW.trod enc Tryz.prog W base sp held f' 2 [c2] = some y2 := g2
      have g3 : DataW.trod enc Tryz.prog W base sp held f' 27 (([c0, c1, c2, c3, c4, c5, c6, c7, c8].drop 3).take (Tryz.prog.cellsOf 27)) = some y3 := hfl 3 _ rfl
      rw [cellsSs] at g3
      have g3 : DataW.trod enc Tryz.prog W base sp held f' 27 [c3] = some y3 := g3
      have g4 : DataW.trod enc Tryz.prog W base sp held f' 28 (([c0, c1, c2, c3, c4, c5, c6, c7, c8].drop 4).take (Tryz.prog.cellsOf 28)) = some y4 := hfl 4 _ rfl
      rw [cellss_ex] at g4
      have g4 : DataW.trod enc Tryz.prog W base sp held f' 28 [c4] = some y4 := g4
      have g5 : DataW.trod enc Tryz.prog W base sp held f' 29 (([c0, c1, c2, c3, c4, c5, c6, c7, c8].drop 5).take (Tryz.prog.cellsOf 29)) = some y5 := hfl 5 _ rfl
      rw [cellss_al] at g5
      have g5 : DataW.trod enc Tryz.prog W base sp held f' 29 [c5] = some y5 := g5
      have g6 : DataW.trod enc Tryz.prog W base sp held f' 24 (([c0, c1, c2, c3, c4, c5, c6, c7, c8].drop 6).take (Tryz.prog.cellsOf 24)) = some y6 := hfl 6 _ rfl
      rw [cellss_bd] at g6
      have g6 : DataW.trod enc Tryz.prog W base sp held f' 24 [c6] = some y6 := g6
      have g7 : DataW.trod enc Tryz.prog W base sp held f' 31 (([c0, c1, c2, c3, c4, c5, c6, c7, c8].drop 7).take (Tryz.prog.cellsOf 31)) = some y7 := hfl 7 _ rfl
      rw [cellsPos] at g7
      have g7 : DataW.trod enc Tryz.prog W base sp held f' 31 [c7, c8] = some y7 := g7
      exact (FF.append (fld_int Tryz.underlying3 g0) (FF.append (fld_str Tryz.underlying9 g1) (FF.append (fld_int Tryz.underlying2 g2) (FF.append (fld_strs g3 (hw.part Tryz.underlying33 (j := 3) rfl rfl)) (FF.append (fld_row (κ := .ex) Tryz.underlying28 cells_ex (by decide) (by kernel_rfl) (by omega) (ih .ex) g4 (hw.part Tryz.underlying33 (j := 4) rfl rfl)) (FF.append (fld_row (κ := .al) Tryz.underlying29 cells_al (by decide) (by kernel_rfl) (by omega) (ih .al) g5 (hw.part Tryz.underlying33 (j := 5) rfl rfl)) (FF.append (fld_row (κ := .bd) Tryz.underlying24 cells_bd (by decide) (by kernel_rfl) (by omega) (ih .bd) g6 (hw.part Tryz.underlying33 (j := 6) rfl rfl)) (fld_pos g7))))))))
theorem open_rh (ih : ∀ κ f cs (y : DataW H × List MemPlace), f ≤ q → DataW.trod enc Tryz.prog W base sp held f (tyOf κ) cs = some y → WB (tyOf κ) y.1 → G (· < W.heap.size) W q κ cs) (hf : f ≤ q + 1) (h : DataW.trod enc Tryz.prog W base sp held f 102 cs = some y) (hw : WB 102 y.1) : FF (G (· < W.heap.size) W q) (· < W.heap.size) W (schema .rh) cs := by
  obtain ⟨xs, f', rfl, rfl, hl, hlen, hfl⟩ := DataW.trod_struct Tryz.underlying102 h
  rw [cells_rh] at hl
  match cs, hl with
  | [c0, c1, c2, c3, c4, c5, c6, c7, c8, c9], _ =>
    have hlen : xs.length = 2 := hlen
    match xs, hlen with
    | [y0, y1], _ =>
      have g0 : DataW.trod enc Tryz.prog W base sp held f' 28 (([c0, c1, c2, c3, c4, c5, c6, c7, c8, c9].drop 0).take (Tryz.prog.cellsOf 28)) = some y0 := hfl 0 _ rfl
      rw [cellss_ex] at g0
      have g0 : DataW.trod enc Tryz.prog W base sp held f' 28 [c0] = some y0 := g0
      have g1 : DataW.trod enc Tryz.prog W base sp held f' 33 (([c0, c1, c2, c3, c4, c5, c6, c7, c8, c9].drop 1).take (Tryz.prog.cellsOf 33)) = some y1 := hfl 1 _ rfl
      rw [cells_ex] at g1
      have g1 : DataW.trod enc Tryz.prog W base sp held f' 33 [c1, c2, c3, c4, c5, c6, c7, c8, c9] = some y1 := g1
      exact (FF.append (fld_row (κ := .ex) Tryz.underlying28 cells_ex (by decide) (by kernel_rfl) (by omega) (ih .ex) g0 (hw.part Tryz.underlying102 (j := 0) rfl rfl)) (open_ex ih (by omega) g1 (hw.part Tryz.underlying102 (j := 1) rfl rfl)))
theorem open_cl (ih : ∀ κ f cs (y : DataW H × List MemPlace), f ≤ q → DataW.trod enc Tryz.prog W base sp held f (tyOf κ) cs = some y → WB (tyOf κ) y.1 → G (· < W.heap.size) W q κ cs) (hf : f ≤ q + 1) (h : DataW.trod enc Tryz.prog W base sp held f 100 cs = some y) (hw : WB 100 y.1) : FF (G (· < W.heap.size) W q) (· < W.heap.size) W (schema .cl) cs := by
  obtain ⟨xs, f', rfl, rfl, hl, hlen, hfl⟩ := DataW.trod_struct Tryz.underlying100 h
  rw [cells_cl] at hl
  match cs, hl with
  | [c0, c1], _ =>
    have hlen : xs.length = 2 := hlen
    match xs, hlen with
    | [y0, y1], _ =>
      have g0 : DataW.trod enc Tryz.prog W base sp held f' 81 (([c0, c1].drop 0).take (Tryz.prog.cellsOf 81)) = some y0 := hfl 0 _ rfl
      rw [cellss_pt] at g0
      have g0 : DataW.trod enc Tryz.prog W base sp held f' 81 [c0] = some y0 := g0
      have g1 : DataW.trod enc Tryz.prog W base sp held f' 84 (([c0, c1].drop 1).take (Tryz.prog.cellsOf 84)) = some y1 := hfl 1 _ rfl
      rw [cellss_rh] at g1
      have g1 : DataW.trod enc Tryz.prog W base sp held f' 84 [c1] = some y1 := g1
      exact (FF.append (fld_row (κ := .pt) Tryz.underlying81 cells_pt (by decide) (by kernel_rfl) (by omega) (ih .pt) g0 (hw.part Tryz.underlying100 (j := 0) rfl rfl)) (fld_row (κ := .rh) Tryz.underlying84 cells_rh (by decide) (by kernel_rfl) (by omega) (ih .rh) g1 (hw.part Tryz.underlying100 (j := 1) rfl rfl)))
theorem open_bd (ih : ∀ κ f cs (y : DataW H × List MemPlace), f ≤ q → DataW.trod enc Tryz.prog W base sp held f (tyOf κ) cs = some y → WB (tyOf κ) y.1 → G (· < W.heap.size) W q κ cs) (hf : f ≤ q + 1) (h : DataW.trod enc Tryz.prog W base sp held f 51 cs = some y) (hw : WB 51 y.1) : FF (G (· < W.heap.size) W q) (· < W.heap.size) W (schema .bd) cs := by
  obtain ⟨xs, f', rfl, rfl, hl, hlen, hfl⟩ := DataW.trod_struct Tryz.underlying51 h
  rw [cells_bd] at hl
  match cs, hl with
  | [c0, c1, c2, c3], _ =>
    have hlen : xs.length = 3 := hlen
    match xs, hlen with
    | [y0, y1, y2], _ =>
      have g0 : DataW.trod enc Tryz.prog W base sp held f' 9 (([c0, c1, c2, c3].drop 0).take (Tryz.prog.cellsOf 9)) = some y0 := hfl 0 _ rfl
      rw [cellsS] at g0
      have g0 : DataW.trod enc Tryz.prog W base sp held f' 9 [c0] = some y0 := g0
      have g1 : DataW.trod enc Tryz.prog W base sp held f' 49 (([c0, c1, c2, c3].drop 1).take (Tryz.prog.cellsOf 49)) = some y1 := hfl 1 _ rfl
      rw [cellss_cl] at g1
      have g1 : DataW.trod enc Tryz.prog W base sp held f' 49 [c1] = some y1 := g1
      have g2 : DataW.trod enc Tryz.prog W base sp held f' 31 (([c0, c1, c2, c3].drop 2).take (Tryz.prog.cellsOf 31)) = some y2 := hfl 2 _ rfl
      rw [cellsPos] at g2
      have g2 : DataW.trod enc Tryz.prog W base sp held f' 31 [c2, c3] = some y2 := g2
      exact (FF.append (fld_str Tryz.underlying9 g0) (FF.append (fld_row (κ := .cl) Tryz.underlying49 cells_cl (by decide) (by kernel_rfl) (by omega) (ih .cl) g1 (hw.part Tryz.underlying51 (j := 1) rfl rfl)) (fld_pos g2)))
theorem open_al (ih : ∀ κ f cs (y : DataW H × List MemPlace), f ≤ q → DataW.trod enc Tryz.prog W base sp held f (tyOf κ) cs = some y → WB (tyOf κ) y.1 → G (· < W.heap.size) W q κ cs) (hf : f ≤ q + 1) (h : DataW.trod enc Tryz.prog W base sp held f 86 cs = some y) (hw : WB 86 y.1) : FF (G (· < W.heap.size) W q) (· < W.heap.size) W (schema .al) cs := by
  obtain ⟨xs, f', rfl, rfl, hl, hlen, hfl⟩ := DataW.trod_struct Tryz.underlying86 h
  rw [cells_al] at hl
  match cs, hl with
  | [c0, c1, c2, c3, c4, c5, c6], _ =>
    have hlen : xs.length = 2 := hlen
    match xs, hlen with
    | [y0, y1], _ =>
      have g0 : DataW.trod enc Tryz.prog W base sp held f' 83 (([c0, c1, c2, c3, c4, c5, c6].drop 0).take (Tryz.prog.cellsOf 83)) = some y0 := hfl 0 _ rfl
      rw [cells_pt] at g0
      have g0 : DataW.trod enc Tryz.prog W base sp held f' 83 [c0, c1, c2, c3, c4, c5] = some y0 := g0
      have g1 : DataW.trod enc Tryz.prog W base sp held f' 84 (([c0, c1, c2, c3, c4, c5, c6].drop 6).take (Tryz.prog.cellsOf 84)) = some y1 := hfl 1 _ rfl
      rw [cellss_rh] at g1
      have g1 : DataW.trod enc Tryz.prog W base sp held f' 84 [c6] = some y1 := g1
      exact (FF.append (open_pt ih (by omega) g0 (hw.part Tryz.underlying86 (j := 0) rfl rfl)) (fld_row (κ := .rh) Tryz.underlying84 cells_rh (by decide) (by kernel_rfl) (by omega) (ih .rh) g1 (hw.part Tryz.underlying86 (j := 1) rfl rfl)))
theorem open_cn (ih : ∀ κ f cs (y : DataW H × List MemPlace), f ≤ q → DataW.trod enc Tryz.prog W base sp held f (tyOf κ) cs = some y → WB (tyOf κ) y.1 → G (· < W.heap.size) W q κ cs) (hf : f ≤ q + 1) (h : DataW.trod enc Tryz.prog W base sp held f 92 cs = some y) (hw : WB 92 y.1) : FF (G (· < W.heap.size) W q) (· < W.heap.size) W (schema .cn) cs := by
  obtain ⟨xs, f', rfl, rfl, hl, hlen, hfl⟩ := DataW.trod_struct Tryz.underlying92 h
  rw [cells_cn] at hl
  match cs, hl with
  | [c0, c1, c2, c3], _ =>
    have hlen : xs.length = 3 := hlen
    match xs, hlen with
    | [y0, y1, y2], _ =>
      have g0 : DataW.trod enc Tryz.prog W base sp held f' 9 (([c0, c1, c2, c3].drop 0).take (Tryz.prog.cellsOf 9)) = some y0 := hfl 0 _ rfl
      rw [cellsS] at g0
      have g0 : DataW.trod enc Tryz.prog W base sp held f' 9 [c0] = some y0 := g0
      have g1 : DataW.trod enc Tryz.prog W base sp held f' 90 (([c0, c1, c2, c3].drop 1).take (Tryz.prog.cellsOf 90)) = some y1 := hfl 1 _ rfl
      rw [cellss_ty] at g1
      have g1 : DataW.trod enc Tryz.prog W base sp held f' 90 [c1] = some y1 := g1
      have g2 : DataW.trod enc Tryz.prog W base sp held f' 31 (([c0, c1, c2, c3].drop 2).take (Tryz.prog.cellsOf 31)) = some y2 := hfl 2 _ rfl
      rw [cellsPos] at g2
      have g2 : DataW.trod enc Tryz.prog W base sp held f' 31 [c2, c3] = some y2 := g2
      exact (FF.append (fld_str Tryz.underlying9 g0) (FF.append (fld_row (κ := .ty) Tryz.underlying90 cells_ty (by decide) (by kernel_rfl) (by omega) (ih .ty) g1 (hw.part Tryz.underlying92 (j := 1) rfl rfl)) (fld_pos g2)))
theorem open_dt (ih : ∀ κ f cs (y : DataW H × List MemPlace), f ≤ q → DataW.trod enc Tryz.prog W base sp held f (tyOf κ) cs = some y → WB (tyOf κ) y.1 → G (· < W.heap.size) W q κ cs) (hf : f ≤ q + 1) (h : DataW.trod enc Tryz.prog W base sp held f 72 cs = some y) (hw : WB 72 y.1) : FF (G (· < W.heap.size) W q) (· < W.heap.size) W (schema .dt) cs := by
  obtain ⟨xs, f', rfl, rfl, hl, hlen, hfl⟩ := DataW.trod_struct Tryz.underlying72 h
  rw [cells_dt] at hl
  match cs, hl with
  | [c0, c1, c2, c3, c4], _ =>
    have hlen : xs.length = 4 := hlen
    match xs, hlen with
    | [y0, y1, y2, y3], _ =>
      have g0 : DataW.trod enc Tryz.prog W base sp held f' 9 (([c0, c1, c2, c3, c4].drop 0).take (Tryz.prog.cellsOf 9)) = some y0 := hfl 0 _ rfl
      rw [cellsS] at g0
      have g0 : DataW.trod enc Tryz.prog W base sp held f' 9 [c0] = some y0 := g0
      have g1 : DataW.trod enc Tryz.prog W base sp held f' 27 (([c0, c1, c2, c3, c4].drop 1).take (Tryz.prog.cellsOf 27)) = some y1 := hfl 1 _ rfl
      rw [cellsSs] at g1
      have g1 : DataW.trod enc Tryz.prog W base sp held f' 27 [c1] = some y1 := g1
      have g2 : DataW.trod enc Tryz.prog W base sp held f' 70 (([c0, c1, c2, c3, c4].drop 2).take (Tryz.prog.cellsOf 70)) = some y2 := hfl 2 _ rfl
      rw [cellss_cn] at g2
      have g2 : DataW.trod enc Tryz.prog W base sp held f' 70 [c2] = some y2 := g2
      have g3 : DataW.trod enc Tryz.prog W base sp held f' 31 (([c0, c1, c2, c3, c4].drop 3).take (Tryz.prog.cellsOf 31)) = some y3 := hfl 3 _ rfl
      rw [cellsPos] at g3
      have g3 : DataW.trod enc Tryz.prog W base sp held f' 31 [c3, c4] = some y3 := g3
      exact (FF.append (fld_str Tryz.underlying9 g0) (FF.append (fld_strs g1 (hw.part Tryz.underlying72 (j := 1) rfl rfl)) (FF.append (fld_row (κ := .cn) Tryz.underlying70 cells_cn (by decide) (by kernel_rfl) (by omega) (ih .cn) g2 (hw.part Tryz.underlying72 (j := 2) rfl rfl)) (fld_pos g3))))
theorem open_fx (ih : ∀ κ f cs (y : DataW H × List MemPlace), f ≤ q → DataW.trod enc Tryz.prog W base sp held f (tyOf κ) cs = some y → WB (tyOf κ) y.1 → G (· < W.heap.size) W q κ cs) (hf : f ≤ q + 1) (h : DataW.trod enc Tryz.prog W base sp held f 58 cs = some y) (hw : WB 58 y.1) : FF (G (· < W.heap.size) W q) (· < W.heap.size) W (schema .fx) cs := by
  obtain ⟨xs, f', rfl, rfl, hl, hlen, hfl⟩ := DataW.trod_struct Tryz.underlying58 h
  rw [cells_fx] at hl
  match cs, hl with
  | [c0, c1, c2, c3, c4], _ =>
    have hlen : xs.length = 4 := hlen
    match xs, hlen with
    | [y0, y1, y2, y3], _ =>
      have g0 : DataW.trod enc Tryz.prog W base sp held f' 9 (([c0, c1, c2, c3, c4].drop 0).take (Tryz.prog.cellsOf 9)) = some y0 := hfl 0 _ rfl
      rw [cellsS] at g0
      have g0 : DataW.trod enc Tryz.prog W base sp held f' 9 [c0] = some y0 := g0
      have g1 : DataW.trod enc Tryz.prog W base sp held f' 3 (([c0, c1, c2, c3, c4].drop 1).take (Tryz.prog.cellsOf 3)) = some y1 := hfl 1 _ rfl
      rw [cellsI] at g1
      have g1 : DataW.trod enc Tryz.prog W base sp held f' 3 [c1] = some y1 := g1
      have g2 : DataW.trod enc Tryz.prog W base sp held f' 3 (([c0, c1, c2, c3, c4].drop 2).take (Tryz.prog.cellsOf 3)) = some y2 := hfl 2 _ rfl
      rw [cellsI] at g2
      have g2 : DataW.trod enc Tryz.prog W base sp held f' 3 [c2] = some y2 := g2
      have g3 : DataW.trod enc Tryz.prog W base sp held f' 31 (([c0, c1, c2, c3, c4].drop 3).take (Tryz.prog.cellsOf 31)) = some y3 := hfl 3 _ rfl
      rw [cellsPos] at g3
      have g3 : DataW.trod enc Tryz.prog W base sp held f' 31 [c3, c4] = some y3 := g3
      exact (FF.append (fld_str Tryz.underlying9 g0) (FF.append (fld_int Tryz.underlying3 g1) (FF.append (fld_int Tryz.underlying3 g2) (fld_pos g3))))
end
theorem opened {H : Type} {enc : TypeId × Value → H} {W : World} {base : Nat} {sp : Nat → Bool} {held : Bool} : ∀ (q : Nat) (κ : Kd) (f : Nat) (cs : List Value) (y : DataW H × List MemPlace), f ≤ q → DataW.trod enc Tryz.prog W base sp held f (tyOf κ) cs = some y → WB (tyOf κ) y.1 → G (· < W.heap.size) W q κ cs
  | 0, κ, f, cs, y, hf, h, hw => by
    obtain rfl : f = 0 := by omega
    simp [DataW.trod] at h
  | q + 1, κ, f, cs, y, hf, h, hw => by
    cases κ with
    | ty => exact open_ty (opened q) hf h hw
    | pt => exact open_pt (opened q) hf h hw
    | ex => exact open_ex (opened q) hf h hw
    | rh => exact open_rh (opened q) hf h hw
    | cl => exact open_cl (opened q) hf h hw
    | bd => exact open_bd (opened q) hf h hw
    | al => exact open_al (opened q) hf h hw
    | cn => exact open_cn (opened q) hf h hw
    | dt => exact open_dt (opened q) hf h hw
    | fx => exact open_fx (opened q) hf h hw
theorem cells_pg : Tryz.prog.cellsOf 26 = 3 := by kernel_rfl
section
variable {H : Type} {enc : TypeId × Value → H} {W : World} {base : Nat} {sp : Nat → Bool} {held : Bool} {f q : Nat} {cs : List Value} {y : DataW H × List MemPlace}
theorem open_pg (ih : ∀ κ f cs (y : DataW H × List MemPlace), f ≤ q → DataW.trod enc Tryz.prog W base sp held f (tyOf κ) cs = some y → WB (tyOf κ) y.1 → G (· < W.heap.size) W q κ cs) (hf : f ≤ q + 1) (h : DataW.trod enc Tryz.prog W base sp held f 26 cs = some y) (hw : WB 26 y.1) : FF (G (· < W.heap.size) W q) (· < W.heap.size) W ([.row .dt, .row .fx, .row .bd]) cs := by
  obtain ⟨xs, f', rfl, rfl, hl, hlen, hfl⟩ := DataW.trod_struct Tryz.underlying26 h
  rw [cells_pg] at hl
  match cs, hl with
  | [c0, c1, c2], _ =>
    have hlen : xs.length = 3 := hlen
    match xs, hlen with
    | [y0, y1, y2], _ =>
      have g0 : DataW.trod enc Tryz.prog W base sp held f' 22 (([c0, c1, c2].drop 0).take (Tryz.prog.cellsOf 22)) = some y0 := hfl 0 _ rfl
      rw [cellss_dt] at g0
      have g0 : DataW.trod enc Tryz.prog W base sp held f' 22 [c0] = some y0 := g0
      have g1 : DataW.trod enc Tryz.prog W base sp held f' 23 (([c0, c1, c2].drop 1).take (Tryz.prog.cellsOf 23)) = some y1 := hfl 1 _ rfl
      rw [cellss_fx] at g1
      have g1 : DataW.trod enc Tryz.prog W base sp held f' 23 [c1] = some y1 := g1
      have g2 : DataW.trod enc Tryz.prog W base sp held f' 24 (([c0, c1, c2].drop 2).take (Tryz.prog.cellsOf 24)) = some y2 := hfl 2 _ rfl
      rw [cellss_bd] at g2
      have g2 : DataW.trod enc Tryz.prog W base sp held f' 24 [c2] = some y2 := g2
      exact (FF.append (fld_row (κ := .dt) Tryz.underlying22 cells_dt (by decide) (by kernel_rfl) (by omega) (ih .dt) g0 (hw.part Tryz.underlying26 (j := 0) rfl rfl)) (FF.append (fld_row (κ := .fx) Tryz.underlying23 cells_fx (by decide) (by kernel_rfl) (by omega) (ih .fx) g1 (hw.part Tryz.underlying26 (j := 1) rfl rfl)) (fld_row (κ := .bd) Tryz.underlying24 cells_bd (by decide) (by kernel_rfl) (by omega) (ih .bd) g2 (hw.part Tryz.underlying26 (j := 2) rfl rfl))))
end
theorem open_expr {H : Type} {enc : TypeId × Value → H} {W : World} {rc : Reach} {bs : Nat} {v : Value} {d : DataW H} {ps : List MemPlace} (hv : Value.okWide Tryz.prog W rc bs 33 v) (h : DataW.Trod enc Tryz.prog W 0 (fun _ => true) true 33 v d ps) (hw : WB 33 d) :
    ∃ (q : Nat) (cs : List Value), v = .agg cs.toArray ∧ G (· < W.heap.size) W q .ex cs := by
  obtain ⟨cs, rfl, _⟩ := okWide_struct Tryz.underlying33 hv
  obtain ⟨fuel, hf⟩ := h
  exact ⟨fuel, cs.toList, by simp, opened fuel .ex fuel _ _ (Nat.le_refl _) hf hw⟩
theorem open_program {H : Type} {enc : TypeId × Value → H} {W : World} {rc : Reach} {bs : Nat} {v : Value} {d : DataW H} {ps : List MemPlace} (hv : Value.okWide Tryz.prog W rc bs 26 v) (h : DataW.Trod enc Tryz.prog W 0 (fun _ => true) true 26 v d ps) (hw : WB 26 d) :
    ∃ (q : Nat) (cs : List Value), v = .agg cs.toArray ∧ FF (G (· < W.heap.size) W q) (· < W.heap.size) W [.row .dt, .row .fx, .row .bd] cs := by
  obtain ⟨cs, rfl, _⟩ := okWide_struct Tryz.underlying26 hv
  obtain ⟨fuel, hf⟩ := h
  exact ⟨fuel, cs.toList, by simp, open_pg (opened fuel) (Nat.le_succ _) hf hw⟩
end Go.Proofs.YtdajihpfedbihaaGreat.St
