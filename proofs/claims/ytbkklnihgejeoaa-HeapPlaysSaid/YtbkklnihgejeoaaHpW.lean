/-
  CONTRACTS of layer heap: the document's All, Get, Alloc.
-/
import Derived.Test.YtbkklnihgejeoaaHpV
namespace Go.Proofs.Ytbkklnihgejeoaa.Hp
open Go.RowKit Mm Tm
set_option linter.unusedVariables false
set_option linter.unusedSimpArgs false
set_option maxRecDepth 100000 in
set_option maxHeartbeats 4000000 in
theorem all_any {B cap allocs c : Nat} {Z : Nat → Prop} {a : Option Addr} {l : List Rc} {ra : Option Addr} {rc : Nat} {row : List Int} (w : World) (h : OwnC B w (.slice a l.length c) l) (hB : B ≤ w.heap.size) (hn : l.length ≤ 1000000) (hr : RdI Z w ra row) (hz : ∀ b, Z b → b < w.heap.size) (hrn : row.length ≤ 9223372036854775807) :
    Calls Try.prog 37 #[.agg #[.int .i64 cap, .slice a l.length c, .int .i64 allocs], .slice ra row.length rc] w (RetB (.bool (row.all (hasAt l))) w) := by
  obtain ⟨W0, hW0⟩ : ∃ W0, w.alloc (.cells #[.int .i64 cap, .slice a l.length c, .int .i64 allocs] RH) = W0 := ⟨_, rfl⟩
  have hb0 : Below w.heap.size w W0 := by rw [← hW0]; exact (Below.refl w.heap.size w).alloc (Nat.le_refl _) _
  have hx0 : Box W0 w.heap.size RH #[.int .i64 cap, .slice a l.length c, .int .i64 allocs] := by rw [← hW0]; exact Box.new _ _ _
  have HB0 := Lib.hid hb0
  have HX0 := Lib.hid hx0
  have HO0 := Lib.hid (h.below hB hb0)
  have HR0 := Lib.hid ((hr.below hb0 hz).mono fun b q => Nat.lt_of_lt_of_le (hz b q) hb0.size)
  have HB := Lib.hid (Nat.le_trans hB hb0.size)
  clear h hb0 hx0 hr hz hB
  go_enter Try.func37, Try.ntmps37
  go_wp2_with fail
  clear hW0
  go_loopg [5] row.length (fun d i wr => ∃ k : Nat, k + d = row.length ∧ i = .int .i64 k ∧ (∀ j y, j < k → row[j]? = some y → hasAt l y = true) ∧ Below W0.heap.size W0 wr)
  case atStart => exact ⟨0, by omega, rfl, fun j y hj => by omega, Below.refl _ _⟩
  case round =>
    obtain ⟨k, hd, rfl, hU, hb⟩ := hrel
    have HD := Lib.hid hd
    have HU := Lib.hid hU
    have HBW := Lib.hid hb
    have hkl : k ≤ row.length := by omega
    by_cases hlt : k < row.length
    · obtain ⟨y, hy⟩ : ∃ y, row[k]? = some y := ⟨_, List.getElem?_eq_getElem hlt⟩
      obtain ⟨ad, rfl, had, c0⟩ := HR0.out k y hy
      have cy := (hb.cell (p := ad.add k) (by rw [Tm.add_block]; exact had)).trans c0
      obtain ⟨x0, x1, x2⟩ : wr.cell? ⟨w.heap.size, 0, none⟩ = some (.int .i64 cap) ∧ wr.cell? ⟨w.heap.size, 1, none⟩ = some (.slice a l.length c) ∧ wr.cell? ⟨w.heap.size, 2, none⟩ = some (.int .i64 allocs) := by
        have := HX0.out.below hb HX0.out.lt
        exact ⟨this.cell 0, this.cell 1, this.cell 2⟩
      have hbd := hb.drew
      have HF := Lib.hid (find_any (cap := cap) (allocs := allocs) y wr.drew (HO0.out.below HB.out hbd) (Nat.le_trans HB.out hbd.size) hn)
      have HBD := Lib.hid hbd
      have HY := Lib.hid hy
      clear hd hU hb hy c0 had hbd
      by_cases hy2 : hasAt l y = true
      · obtain ⟨i, r, e1, _, _⟩ := findV_has hy2
        rw [e1] at HF
        have HU' := Lib.hid (show ∀ j z, j < k + 1 → row[j]? = some z → hasAt l z = true from fun j z hj hz => by
          by_cases e : j = k
          · subst e
            rw [HY.out] at hz
            injection hz with hz
            rw [← hz]; exact hy2
          · exact HU.out j z (by omega) hz)
        clear hy2 e1
        go_wp2_with fail
        refine Sq.region_reads 5 (by kernel_rfl) (by kernel_rfl) ?_
        simp only [List.take_succ_cons, List.take_zero, List.drop_succ_cons, List.drop_zero]
        repeat (go_big_quiet_step (fail))
        refine wpQuiet_nil ?_
        go_wp2_with fail
        with_reducible refine HF.out.mono ?_
        rintro e w2 ⟨rfl, hb2⟩
        have HB2 := Lib.hid (HBD.out.trans (hb2.mono HBD.out.size))
        clear hb2
        go_wp2_with fail
        go_roundg (row.length - (k + 1))
        case measure => have := HD.out; omega
        case rel => exact ⟨k + 1, by omega, by go_num, HU'.out, HB2.out⟩
      · have hy2 : hasAt l y = false := by simpa using hy2
        rw [findV_not hy2] at HF
        have HE := Lib.hid (show row.all (hasAt l) = false by
          rw [List.all_eq_false]
          exact ⟨y, List.mem_of_getElem? HY.out, by rw [hy2]; simp⟩)
        clear hy2
        go_wp2_with fail
        refine Sq.region_reads 5 (by kernel_rfl) (by kernel_rfl) ?_
        simp only [List.take_succ_cons, List.take_zero, List.drop_succ_cons, List.drop_zero]
        repeat (go_big_quiet_step (fail))
        refine wpQuiet_nil ?_
        go_wp2_with fail
        with_reducible refine HF.out.mono ?_
        rintro e w2 ⟨rfl, hb2⟩
        have HB2 := Lib.hid (HB0.out.trans ((HBD.out.trans (hb2.mono HBD.out.size)).mono HB0.out.size))
        clear hb2
        go_wp2_with fail
        go_ret
        exact ⟨by rw [HE.out]; rfl, HB2.out⟩
    · have HE := Lib.hid (show row.all (hasAt l) = true from List.all_eq_true.2 fun y hy => by
        obtain ⟨j, hj, rfl⟩ := List.getElem_of_mem hy
        exact hU j _ (by omega) (List.getElem?_eq_getElem hj))
      have HB2 := Lib.hid (HB0.out.trans (hb.mono HB0.out.size))
      have hge : ¬ (k : Int) < row.length := by omega
      clear hd hU hb
      go_wp2_with fail
      go_ret
      exact ⟨by rw [HE.out]; rfl, HB2.out⟩
/-- the document's node -/
def RGetP (B : Nat) (x : Nd) (w : World) (e : Ending) (w' : World) : Prop := ∃ a c, e = .returned (.tuple #[.agg #[.int .i64 x.tag, .int .i64 x.n, .slice a x.l.length c], .bool true]) ∧ RdI (· < B) w' a x.l ∧ x.l.length ≤ 20 ∧ Below w.heap.size w w'
set_option maxRecDepth 100000 in
set_option maxHeartbeats 4000000 in
theorem rget_ok {B cap allocs c : Nat} {a : Option Addr} {l : List Rc} {p : Int} {r : Rc} {i : Nat} (w : World) (h : OwnC B w (.slice a l.length c) l) (hB : B ≤ w.heap.size) (hn : l.length ≤ 1000000) (hi : l[i]? = some r) (hf : findV l p = i) :
    Calls Try.prog 29 #[.agg #[.int .i64 cap, .slice a l.length c, .int .i64 allocs], .int .i64 p] w (RGetP B r.x w) := by
  obtain ⟨W0, hW0⟩ : ∃ W0, (w.alloc (.cells #[.int .i64 cap, .slice a l.length c, .int .i64 allocs] RH)).alloc (.cells #[.int .i64 0, .int .i64 0, .slice none 0 0] TN) = W0 := ⟨_, rfl⟩
  have hb0 : Below w.heap.size w W0 := by rw [← hW0]; exact ((Below.refl w.heap.size w).alloc (Nat.le_refl _) _).alloc (by simp) _
  have hx0 : Box W0 w.heap.size RH #[.int .i64 cap, .slice a l.length c, .int .i64 allocs] := by rw [← hW0]; exact (Box.new _ _ _).alloc _
  have hy0 : Box W0 (w.heap.size + 1) TN #[.int .i64 0, .int .i64 0, .slice none 0 0] := by rw [← hW0]; exact Box.at_ _ _ (by simp)
  have ho0 := h.below hB hb0
  have HF := Lib.hid (by have := find_any (cap := cap) (allocs := allocs) p W0 ho0 (Nat.le_trans hB hb0.size) hn; rw [hf] at this; exact this)
  have HB0 := Lib.hid hb0
  have HX0 := Lib.hid hx0
  have HY0 := Lib.hid hy0
  have HO0 := Lib.hid ho0
  have HBB := Lib.hid (Nat.le_trans hB hb0.size)
  have HBL := Lib.hid hB
  have HI := Lib.hid hi
  have hil : i < l.length := (List.getElem?_eq_some_iff.1 hi).1
  obtain ⟨x0, x1, x2⟩ : W0.cell? ⟨w.heap.size, 0, none⟩ = some (.int .i64 cap) ∧ W0.cell? ⟨w.heap.size, 1, none⟩ = some (.slice a l.length c) ∧ W0.cell? ⟨w.heap.size, 2, none⟩ = some (.int .i64 allocs) := ⟨hx0.cell 0, hx0.cell 1, hx0.cell 2⟩
  clear h hb0 hx0 hy0 ho0 hf hi hB
  go_enter Try.func29, Try.ntmps29
  go_wp2_with fail
  with_reducible refine HF.out.mono ?_
  rintro e W1 ⟨rfl, hb1⟩
  have hx1 := HX0.out.below hb1 HX0.out.lt
  have hy1 := HY0.out.below hb1 HY0.out.lt
  obtain ⟨g, la, lc, rfl, hg, c0, c1, c2, c3, hrd, hll⟩ := (HO0.out.below HBB.out hb1).at_ HI.out
  obtain ⟨W2, hW2, hX2, hw2⟩ : ∃ W2, ((W1.setCell ⟨w.heap.size + 1, 0, none⟩ (.int .i64 r.x.tag)).setCell ⟨w.heap.size + 1, 1, none⟩ (.int .i64 r.x.n)).setCell ⟨w.heap.size + 1, 2, none⟩ (.slice la r.x.l.length lc) = W2 ∧ Box W2 (w.heap.size + 1) TN #[.int .i64 r.x.tag, .int .i64 r.x.n, .slice la r.x.l.length lc] ∧ Wrote W1 W2 (w.heap.size + 1) := ⟨_, rfl, ((hy1.put 0 _).put 1 _).put 2 _, (((Wrote.refl W1 _).set 0 _).set 1 _).set 2 _⟩
  have HX2 := Lib.hid hX2
  have HB2 := Lib.hid (hw2.below (HB0.out.trans (hb1.mono HB0.out.size)) (Nat.le_succ _))
  have HRD := Lib.hid (show RdI (· < B) W2 la r.x.l from hrd.frame (fun ad hl => hw2.cell ad (by have := HBL.out; intro e; omega)) fun _ q => q)
  have z0 := hy1.cell 0
  have z1 := hy1.cell 1
  have z2 := hy1.cell 2
  have f0 := hy1.free 0
  have f1 := hy1.free 1
  have f2 := hy1.free 2
  have y1 : W1.cell? ⟨w.heap.size, 1, none⟩ = some (.slice (some ⟨g, 0, none⟩) l.length c) := hx1.cell 1
  clear hb1 hx1 hy1 hrd hX2 hw2 x0 x1 x2 hW0
  go_wp2_with fail
  have v0 := HX2.out.cell 0
  have v1 := HX2.out.cell 1
  have v2 := HX2.out.cell 2
  refine bodyPost_ret (v := .tuple #[.agg #[.int .i64 r.x.tag, .int .i64 r.x.n, .slice la r.x.l.length lc], .bool true]) (by simp [results, Try.results29, go_sem, v0, v1, v2]) rfl ?_
  exact ⟨la, lc, rfl, HRD.out, hll, HB2.out⟩
set_option maxRecDepth 100000 in
set_option maxHeartbeats 4000000 in
theorem rget_no {B cap allocs c : Nat} {a : Option Addr} {l : List Rc} {p : Int} (w : World) (h : OwnC B w (.slice a l.length c) l) (hB : B ≤ w.heap.size) (hn : l.length ≤ 1000000) (hf : findV l p = -1) :
    Calls Try.prog 29 #[.agg #[.int .i64 cap, .slice a l.length c, .int .i64 allocs], .int .i64 p] w (RetB (.tuple #[.agg #[.int .i64 0, .int .i64 0, .slice none 0 0], .bool false]) w) := by
  obtain ⟨W0, hW0⟩ : ∃ W0, (w.alloc (.cells #[.int .i64 cap, .slice a l.length c, .int .i64 allocs] RH)).alloc (.cells #[.int .i64 0, .int .i64 0, .slice none 0 0] TN) = W0 := ⟨_, rfl⟩
  have hb0 : Below w.heap.size w W0 := by rw [← hW0]; exact ((Below.refl w.heap.size w).alloc (Nat.le_refl _) _).alloc (by simp) _
  have hx0 : Box W0 w.heap.size RH #[.int .i64 cap, .slice a l.length c, .int .i64 allocs] := by rw [← hW0]; exact (Box.new _ _ _).alloc _
  have hy0 : Box W0 (w.heap.size + 1) TN #[.int .i64 0, .int .i64 0, .slice none 0 0] := by rw [← hW0]; exact Box.at_ _ _ (by simp)
  have HF := Lib.hid (by have := find_any (cap := cap) (allocs := allocs) p W0 (h.below hB hb0) (Nat.le_trans hB hb0.size) hn; rw [hf] at this; exact this)
  have HB0 := Lib.hid hb0
  have HY0 := Lib.hid hy0
  obtain ⟨x0, x1, x2⟩ : W0.cell? ⟨w.heap.size, 0, none⟩ = some (.int .i64 cap) ∧ W0.cell? ⟨w.heap.size, 1, none⟩ = some (.slice a l.length c) ∧ W0.cell? ⟨w.heap.size, 2, none⟩ = some (.int .i64 allocs) := ⟨hx0.cell 0, hx0.cell 1, hx0.cell 2⟩
  clear h hb0 hx0 hy0 hf hB
  go_enter Try.func29, Try.ntmps29
  go_wp2_with fail
  with_reducible refine HF.out.mono ?_
  rintro e W1 ⟨rfl, hb1⟩
  have hy1 := HY0.out.below hb1 HY0.out.lt
  obtain ⟨W2, hW2, hX2, hw2⟩ : ∃ W2, ((W1.setCell ⟨w.heap.size + 1, 0, none⟩ (.int .i64 0)).setCell ⟨w.heap.size + 1, 1, none⟩ (.int .i64 0)).setCell ⟨w.heap.size + 1, 2, none⟩ (.slice none 0 0) = W2 ∧ Box W2 (w.heap.size + 1) TN #[.int .i64 0, .int .i64 0, .slice none 0 0] ∧ Wrote W1 W2 (w.heap.size + 1) := ⟨_, rfl, ((hy1.put 0 _).put 1 _).put 2 _, (((Wrote.refl W1 _).set 0 _).set 1 _).set 2 _⟩
  have HX2 := Lib.hid hX2
  have HB2 := Lib.hid (hw2.below (HB0.out.trans (hb1.mono HB0.out.size)) (Nat.le_succ _))
  have z0 := hy1.cell 0
  have z1 := hy1.cell 1
  have z2 := hy1.cell 2
  have f0 := hy1.free 0
  have f1 := hy1.free 1
  have f2 := hy1.free 2
  clear hb1 hy1 hX2 hw2 x0 x1 x2 hW0
  go_wp2_with fail
  have v0 := HX2.out.cell 0
  have v1 := HX2.out.cell 1
  have v2 := HX2.out.cell 2
  refine bodyPost_ret (v := .tuple #[.agg #[.int .i64 0, .int .i64 0, .slice none 0 0], .bool false]) (by simp [results, Try.results29, go_sem, v0, v1, v2]) rfl ?_
  exact ⟨rfl, HB2.out⟩
end Go.Proofs.Ytbkklnihgejeoaa.Hp
