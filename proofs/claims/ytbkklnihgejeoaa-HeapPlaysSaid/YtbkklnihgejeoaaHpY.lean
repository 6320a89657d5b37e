/-
  CONTRACTS of layer heap: the document's Set.
-/
import Derived.Test.YtbkklnihgejeoaaHpX
namespace Go.Proofs.Ytbkklnihgejeoaa.Hp
open Go.RowKit Mm Tm
set_option linter.unusedVariables false
set_option linter.unusedSimpArgs false
set_option maxRecDepth 100000 in
set_option maxHeartbeats 8000000 in
theorem rset_no {B cap allocs c : Nat} {a : Option Addr} {l : List Rc} {x : Nd} {p : Int} {na : Option Addr} {nc : Nat} (w : World) (h : OwnC B w (.slice a l.length c) l) (hB : B ≤ w.heap.size) (hn : l.length ≤ 1000000) (hr : RdI (· < B) w na x.l) (hrn : x.l.length ≤ 20) (hno : hasAt l p = false ∨ x.l.all (hasAt l) = false) :
    Calls Try.prog 26 #[.agg #[.int .i64 cap, .slice a l.length c, .int .i64 allocs], .int .i64 p, .agg #[.int .i64 x.tag, .int .i64 x.n, .slice na x.l.length nc]] w (RetB (.tuple #[hpV cap (.slice a l.length c) allocs, .int .i64 161]) w) := by
  obtain ⟨W0, hR⟩ := RAb.mk' B cap allocs c a l x na nc w
  have HR := Lib.hid hR
  have HO0 := Lib.hid (h.below hB hR.below)
  have HB0 := Lib.hid (Nat.le_trans hB hR.below.size)
  have HRD0 := Lib.hid (hr.below hR.below fun b q => Nat.lt_of_lt_of_le q hB)
  have HF := Lib.hid (find_any (cap := cap) (allocs := allocs) p W0 HO0.out HB0.out hn)
  have HNO := Lib.hid hno
  have hW0 := hR.eq
  obtain ⟨x0, x1, x2⟩ : W0.cell? ⟨w.heap.size, 0, none⟩ = some (.int .i64 cap) ∧ W0.cell? ⟨w.heap.size, 1, none⟩ = some (.slice a l.length c) ∧ W0.cell? ⟨w.heap.size, 2, none⟩ = some (.int .i64 allocs) := ⟨hR.b0.cell 0, hR.b0.cell 1, hR.b0.cell 2⟩
  clear h hB hr hno hR
  go_enter Try.func26, Try.ntmps26
  go_wp2_with fail
  with_reducible refine HF.out.mono ?_
  rintro e W1 ⟨rfl, hb1⟩
  clear hW0 x0 x1 x2
  have HB1 := Lib.hid hb1
  have hx1 := HR.out.b0.below hb1 HR.out.b0.lt
  obtain ⟨x0, x1, x2⟩ : W1.cell? ⟨w.heap.size, 0, none⟩ = some (.int .i64 cap) ∧ W1.cell? ⟨w.heap.size, 1, none⟩ = some (.slice a l.length c) ∧ W1.cell? ⟨w.heap.size, 2, none⟩ = some (.int .i64 allocs) := ⟨hx1.cell 0, hx1.cell 1, hx1.cell 2⟩
  have y2 : W1.cell? ⟨w.heap.size + 1, 2, none⟩ = some (.slice na x.l.length nc) := (HR.out.b1.below hb1 HR.out.b1.lt).cell 2
  by_cases hh : hasAt l p = true
  · obtain ⟨i, r, e1, _, _⟩ := findV_has hh
    rw [e1]
    have HA := Lib.hid (by
      have := all_any (cap := cap) (allocs := allocs) (rc := nc) W1 (HO0.out.below HB0.out hb1) (Nat.le_trans HB0.out hb1.size) hn (HRD0.out.below hb1 fun b q => Nat.lt_of_lt_of_le q HB0.out) (fun b q => by have := hb1.size; have := HB0.out; omega) (by omega)
      rw [show x.l.all (hasAt l) = false from HNO.out.elim (fun q => by rw [hh] at q; cases q) id] at this
      exact this)
    clear hh e1 hb1 hx1
    go_wp2_with fail
    with_reducible refine HA.out.mono ?_
    rintro e W2 ⟨rfl, hb2⟩
    have hbt := HB1.out.trans (hb2.mono HB1.out.size)
    have hx2 := HR.out.b0.below hbt HR.out.b0.lt
    have hz2 := HR.out.b2.below hbt HR.out.b2.lt
    clear x0 x1 x2 y2
    obtain ⟨x0, x1, x2⟩ : W2.cell? ⟨w.heap.size, 0, none⟩ = some (.int .i64 cap) ∧ W2.cell? ⟨w.heap.size, 1, none⟩ = some (.slice a l.length c) ∧ W2.cell? ⟨w.heap.size, 2, none⟩ = some (.int .i64 allocs) := ⟨hx2.cell 0, hx2.cell 1, hx2.cell 2⟩
    obtain ⟨W3, hW3, hX3, hw3⟩ : ∃ W3, ((W2.setCell ⟨w.heap.size + 2, 0, none⟩ (.int .i64 cap)).setCell ⟨w.heap.size + 2, 1, none⟩ (.slice a l.length c)).setCell ⟨w.heap.size + 2, 2, none⟩ (.int .i64 allocs) = W3 ∧ Box W3 (w.heap.size + 2) RH #[.int .i64 cap, .slice a l.length c, .int .i64 allocs] ∧ Wrote W2 W3 (w.heap.size + 2) := ⟨_, rfl, ((hz2.put 0 _).put 1 _).put 2 _, (((Wrote.refl W2 _).set 0 _).set 1 _).set 2 _⟩
    have HX3 := Lib.hid hX3
    have HB3 := Lib.hid (hw3.below (HR.out.below.trans (hbt.mono HR.out.below.size)) (by omega))
    have z0 := hz2.cell 0
    have z1 := hz2.cell 1
    have z2 := hz2.cell 2
    have f0 := hz2.free 0
    have f1 := hz2.free 1
    have f2 := hz2.free 2
    clear hb2 hbt hx2 hz2 hX3 hw3
    go_wp2_with fail
    have v0 := HX3.out.cell 0
    have v1 := HX3.out.cell 1
    have v2 := HX3.out.cell 2
    refine bodyPost_ret (v := .tuple #[.agg #[.int .i64 cap, .slice a l.length c, .int .i64 allocs], .int .i64 161]) (by simp [results, Try.results26, go_sem, v0, v1, v2]) rfl ?_
    exact ⟨rfl, HB3.out⟩
  · rw [findV_not (by simpa using hh)]
    have hz2 := HR.out.b2.below hb1 HR.out.b2.lt
    obtain ⟨W3, hW3, hX3, hw3⟩ : ∃ W3, ((W1.setCell ⟨w.heap.size + 2, 0, none⟩ (.int .i64 cap)).setCell ⟨w.heap.size + 2, 1, none⟩ (.slice a l.length c)).setCell ⟨w.heap.size + 2, 2, none⟩ (.int .i64 allocs) = W3 ∧ Box W3 (w.heap.size + 2) RH #[.int .i64 cap, .slice a l.length c, .int .i64 allocs] ∧ Wrote W1 W3 (w.heap.size + 2) := ⟨_, rfl, ((hz2.put 0 _).put 1 _).put 2 _, (((Wrote.refl W1 _).set 0 _).set 1 _).set 2 _⟩
    have HX3 := Lib.hid hX3
    have HB3 := Lib.hid (hw3.below (HR.out.below.trans (hb1.mono HR.out.below.size)) (by omega))
    have z0 := hz2.cell 0
    have z1 := hz2.cell 1
    have z2 := hz2.cell 2
    have f0 := hz2.free 0
    have f1 := hz2.free 1
    have f2 := hz2.free 2
    clear hb1 hx1 hz2 hX3 hw3 hh
    go_wp2_with fail
    have v0 := HX3.out.cell 0
    have v1 := HX3.out.cell 1
    have v2 := HX3.out.cell 2
    refine bodyPost_ret (v := .tuple #[.agg #[.int .i64 cap, .slice a l.length c, .int .i64 allocs], .int .i64 161]) (by simp [results, Try.results26, go_sem, v0, v1, v2]) rfl ?_
    exact ⟨rfl, HB3.out⟩
def RSetP (B cap allocs : Nat) (L : List Rc) (w : World) (e : Ending) (w' : World) : Prop := ∃ v, e = .returned (.tuple #[hpV cap v allocs, .int .i64 0]) ∧ OwnC B w' v L ∧ Below w.heap.size w w'
set_option maxRecDepth 100000 in
set_option maxHeartbeats 16000000 in
theorem rset_ok {B cap allocs c i : Nat} {a : Option Addr} {l : List Rc} {x : Nd} {p : Int} {na : Option Addr} {nc : Nat} (w : World) (h : OwnC B w (.slice a l.length c) l) (hB : B ≤ w.heap.size) (hn : l.length ≤ 1000) (hr : RdI (· < B) w na x.l) (hrn : x.l.length ≤ 20) (hf : findV l p = i) (hil : i < l.length) (hall : x.l.all (hasAt l) = true) :
    Calls Try.prog 26 #[.agg #[.int .i64 cap, .slice a l.length c, .int .i64 allocs], .int .i64 p, .agg #[.int .i64 x.tag, .int .i64 x.n, .slice na x.l.length nc]] w (RSetP B cap allocs (l.set i ⟨p, x⟩) w) := by
  obtain ⟨W0, hR⟩ := RAb.mk' B cap allocs c a l x na nc w
  have HR := Lib.hid hR
  have HO := Lib.hid h
  have HBL := Lib.hid hB
  have HRD := Lib.hid hr
  have HO0 := Lib.hid (h.below hB hR.below)
  have HB0 := Lib.hid (Nat.le_trans hB hR.below.size)
  have HRD0 := Lib.hid (hr.below hR.below fun b q => Nat.lt_of_lt_of_le q hB)
  have HF := Lib.hid (by have := find_any (cap := cap) (allocs := allocs) p W0 HO0.out HB0.out (by omega); rw [hf] at this; exact this)
  have HALL := Lib.hid hall
  have hW0 := hR.eq
  obtain ⟨x0, x1, x2⟩ : W0.cell? ⟨w.heap.size, 0, none⟩ = some (.int .i64 cap) ∧ W0.cell? ⟨w.heap.size, 1, none⟩ = some (.slice a l.length c) ∧ W0.cell? ⟨w.heap.size, 2, none⟩ = some (.int .i64 allocs) := ⟨hR.b0.cell 0, hR.b0.cell 1, hR.b0.cell 2⟩
  obtain ⟨j0, hinf, hz0, hz1', hz2'⟩ := info_parts infoRC
  clear h hB hr hf hall hR
  go_enter Try.func26, Try.ntmps26
  go_wp2_with fail
  with_reducible refine HF.out.mono ?_
  rintro e W1 ⟨rfl, hb1⟩
  clear hW0 x0 x1 x2
  have HB1 := Lib.hid hb1
  have hx1 := HR.out.b0.below hb1 HR.out.b0.lt
  obtain ⟨x0, x1, x2⟩ : W1.cell? ⟨w.heap.size, 0, none⟩ = some (.int .i64 cap) ∧ W1.cell? ⟨w.heap.size, 1, none⟩ = some (.slice a l.length c) ∧ W1.cell? ⟨w.heap.size, 2, none⟩ = some (.int .i64 allocs) := ⟨hx1.cell 0, hx1.cell 1, hx1.cell 2⟩
  have y2 : W1.cell? ⟨w.heap.size + 1, 2, none⟩ = some (.slice na x.l.length nc) := (HR.out.b1.below hb1 HR.out.b1.lt).cell 2
  have HA := Lib.hid (by
    have := all_any (cap := cap) (allocs := allocs) (rc := nc) W1 (HO0.out.below HB0.out hb1) (Nat.le_trans HB0.out hb1.size) (by omega) (HRD0.out.below hb1 fun b q => Nat.lt_of_lt_of_le q HB0.out) (fun b q => by have := hb1.size; have := HB0.out; omega) (by omega)
    rw [HALL.out] at this
    exact this)
  clear hb1 hx1
  go_wp2_with fail
  with_reducible refine HA.out.mono ?_
  rintro e W2 ⟨rfl, hb2⟩
  have HB2 := Lib.hid (HB1.out.trans (hb2.mono HB1.out.size))
  have HBR2 := Lib.hid (HR.out.below.trans (HB2.out.mono HR.out.below.size))
  clear hb2 x0 x1 x2 y2
  have HLL := Lib.hid (show (l.set i ⟨p, x⟩).length = l.length by simp)
  go_wp2_with fail
  go_loopg [9, 10] l.length (fun d v i' wz => CpL B w W0 (l.set i ⟨p, x⟩) d v i' wz)
  case atStart => exact ⟨⟨0, [], by rw [HLL.out]; omega, rfl, World.ownsRow_nil _ _ _ _, by simp, fun i r hr => by simp at hr⟩, HBR2.out, HB2.out⟩
  case round =>
    obtain ⟨⟨k, vs, hd, rfl, ho, hrow⟩, hbw, hbz⟩ := hrel
    rw [HLL.out] at hd
    have HDI := Lib.hid hd
    have HOI := Lib.hid ho
    have HROW := Lib.hid hrow
    have HBI := Lib.hid hbw
    have HBZ := Lib.hid hbz
    have hkl : k ≤ l.length := by omega
    obtain ⟨oa, oc, rfl⟩ := own_slice ho
    obtain ⟨x0, x1, x2⟩ : wr.cell? ⟨w.heap.size, 0, none⟩ = some (.int .i64 cap) ∧ wr.cell? ⟨w.heap.size, 1, none⟩ = some (.slice a l.length c) ∧ wr.cell? ⟨w.heap.size, 2, none⟩ = some (.int .i64 allocs) := by
      have hx1 := HR.out.b0.below hbz HR.out.b0.lt
      exact ⟨hx1.cell 0, hx1.cell 1, hx1.cell 2⟩
    obtain ⟨y0, y1, y2⟩ : wr.cell? ⟨w.heap.size + 1, 0, none⟩ = some (.int .i64 x.tag) ∧ wr.cell? ⟨w.heap.size + 1, 1, none⟩ = some (.int .i64 x.n) ∧ wr.cell? ⟨w.heap.size + 1, 2, none⟩ = some (.slice na x.l.length nc) := by
      have hx1 := HR.out.b1.below hbz HR.out.b1.lt
      exact ⟨hx1.cell 0, hx1.cell 1, hx1.cell 2⟩
    by_cases hlt : k < l.length
    · by_cases hki : k = i
      · have q3 : ((k : Int) == (i : Int)) = true := by simp [hki]
        have hr : (l.set i ⟨p, x⟩)[k]? = some ⟨p, x⟩ := by rw [hki, List.getElem?_set, if_pos rfl, if_pos hil]
        have HTK := Lib.hid (show (l.set i ⟨p, x⟩).take (k + 1) = (l.set i ⟨p, x⟩).take k ++ [⟨p, x⟩] by rw [List.take_add_one, hr]; rfl)
        obtain ⟨W5, hW5⟩ : ∃ W5, wr.alloc (.cells #[.int .i64 p, .int .i64 x.tag, .int .i64 x.n, .slice na x.l.length nc] RC) = W5 := ⟨_, rfl⟩
        have hb5 : Below wr.heap.size wr W5 := by rw [← hW5]; exact (Below.refl wr.heap.size wr).alloc (Nat.le_refl _) _
        have HO5 := Lib.hid (own_here ho hb5)
        have HNW := Lib.hid (show ∀ q u, [Value.int .i64 p, .int .i64 x.tag, .int .i64 x.n, .slice na x.l.length nc][q]? = some u → W5.cell? ((⟨wr.heap.size, 0, none⟩ : Addr).add q) = some u from by
          have := news_new wr #[.int .i64 p, .int .i64 x.tag, .int .i64 x.n, .slice na x.l.length nc] RC
          rw [hW5] at this
          exact this)
        have HB5 := Lib.hid hb5
        have HRDW := Lib.hid (HRD.out.frame (fun ad hl => hbw.cell (Nat.lt_of_lt_of_le hl HBL.out)) (fun _ q => q))
        have hs5 : W0.heap.size ≤ W5.heap.size := Nat.le_trans hbz.size hb5.size
        clear hd ho hrow hbw hbz hr hb5 hki
        go_wp2_with (at_builtin; refine wpList_append_own _ rfl _ _ 30 rfl W0.heap.size RC j0 _ 4 48 Try.underlying30 hinf hz0 hz1' hz2' rfl (by decide) (.slice oa k oc) k vs rfl HO5.out ⟨wr.heap.size, 0, none⟩ 1 1 [.int .i64 p, .int .i64 x.tag, .int .i64 x.n, .slice na x.l.length nc] rfl rfl HNW.out (by intro u hu; simp only [List.mem_cons, List.not_mem_nil, or_false] at hu; rcases hu with rfl | rfl | rfl | rfl <;> rfl) (by unfold maxLen; omega) (by omega) hs5 ?_)
        intro v' w6 hown' hgrow _
        have hbw6 : Below w.heap.size w w6 := (HBI.out.trans (HB5.out.mono HBI.out.size)).grown hgrow (Nat.le_trans HR.out.below.size hs5) (fun q hq => Nat.le_trans HR.out.below.size (HO5.out.lt q hq).1)
        have hcell : ∀ ad : Addr, ad.block < B → w6.cell? ad = wr.cell? ad := fun ad hl => by
          rw [hbw6.cell (Nat.lt_of_lt_of_le hl HBL.out), HBI.out.cell (Nat.lt_of_lt_of_le hl HBL.out)]
        have HE := Lib.hid (show CpL B w W0 (l.set i ⟨p, x⟩) (l.length - (k + 1)) v' (.int .i64 ((k : Int) + 1)) w6 from
          ⟨⟨k + 1, _, by rw [HLL.out]; omega, rfl, hown', by rw [HTK.out]; exact (HROW.out.keep hcell).snoc (r := ⟨p, x⟩) (HRDW.out.frame hcell fun _ q => q) hrn⟩, hbw6,
            (HBZ.out.trans (HB5.out.mono HBZ.out.size)).grown hgrow hs5 (fun q hq => (HO5.out.lt q hq).1)⟩)
        clear hown' hgrow hbw6 hcell
        go_wp2_with fail
        go_roundg (l.length - (k + 1))
        case measure => have := HDI.out; omega
        case rel => exact HE.out
      · have q3 : ((k : Int) == (i : Int)) = false := by simpa using (show ¬ (k : Int) = i by omega)
        obtain ⟨r, hr⟩ : ∃ r, l[k]? = some r := ⟨_, List.getElem?_eq_getElem hlt⟩
        obtain ⟨g, la, lc, rfl, _, c0, c1, c2, c3, hrd, hll⟩ := (HO.out.below HBL.out hbw).at_ hr
        have hr2 : (l.set i ⟨p, x⟩)[k]? = some r := by rw [List.getElem?_set, if_neg (fun e => hki e.symm)]; exact hr
        have HTK := Lib.hid (show (l.set i ⟨p, x⟩).take (k + 1) = (l.set i ⟨p, x⟩).take k ++ [r] by rw [List.take_add_one, hr2]; rfl)
        obtain ⟨W5, hW5⟩ : ∃ W5, wr.alloc (.cells #[.int .i64 r.at_, .int .i64 r.x.tag, .int .i64 r.x.n, .slice la r.x.l.length lc] RC) = W5 := ⟨_, rfl⟩
        have hb5 : Below wr.heap.size wr W5 := by rw [← hW5]; exact (Below.refl wr.heap.size wr).alloc (Nat.le_refl _) _
        have HO5 := Lib.hid (own_here ho hb5)
        have HNW := Lib.hid (show ∀ q u, [Value.int .i64 r.at_, .int .i64 r.x.tag, .int .i64 r.x.n, .slice la r.x.l.length lc][q]? = some u → W5.cell? ((⟨wr.heap.size, 0, none⟩ : Addr).add q) = some u from by
          have := news_new wr #[.int .i64 r.at_, .int .i64 r.x.tag, .int .i64 r.x.n, .slice la r.x.l.length lc] RC
          rw [hW5] at this
          exact this)
        have HB5 := Lib.hid hb5
        have HRDW := Lib.hid (hrd)
        have hs5 : W0.heap.size ≤ W5.heap.size := Nat.le_trans hbz.size hb5.size
        clear hd ho hrow hbw hbz hr hb5 hki hrd hr2
        go_wp2_with (at_builtin; refine wpList_append_own _ rfl _ _ 30 rfl W0.heap.size RC j0 _ 4 48 Try.underlying30 hinf hz0 hz1' hz2' rfl (by decide) (.slice oa k oc) k vs rfl HO5.out ⟨wr.heap.size, 0, none⟩ 1 1 [.int .i64 r.at_, .int .i64 r.x.tag, .int .i64 r.x.n, .slice la r.x.l.length lc] rfl rfl HNW.out (by intro u hu; simp only [List.mem_cons, List.not_mem_nil, or_false] at hu; rcases hu with rfl | rfl | rfl | rfl <;> rfl) (by unfold maxLen; omega) (by omega) hs5 ?_)
        intro v' w6 hown' hgrow _
        have hbw6 : Below w.heap.size w w6 := (HBI.out.trans (HB5.out.mono HBI.out.size)).grown hgrow (Nat.le_trans HR.out.below.size hs5) (fun q hq => Nat.le_trans HR.out.below.size (HO5.out.lt q hq).1)
        have hcell : ∀ ad : Addr, ad.block < B → w6.cell? ad = wr.cell? ad := fun ad hl => by
          rw [hbw6.cell (Nat.lt_of_lt_of_le hl HBL.out), HBI.out.cell (Nat.lt_of_lt_of_le hl HBL.out)]
        have HE := Lib.hid (show CpL B w W0 (l.set i ⟨p, x⟩) (l.length - (k + 1)) v' (.int .i64 ((k : Int) + 1)) w6 from
          ⟨⟨k + 1, _, by rw [HLL.out]; omega, rfl, hown', by rw [HTK.out]; exact (HROW.out.keep hcell).snoc (r := r) (HRDW.out.frame hcell fun _ q => q) hll⟩, hbw6,
            (HBZ.out.trans (HB5.out.mono HBZ.out.size)).grown hgrow hs5 (fun q hq => (HO5.out.lt q hq).1)⟩)
        clear hown' hgrow hbw6 hcell
        go_wp2_with fail
        go_roundg (l.length - (k + 1))
        case measure => have := HDI.out; omega
        case rel => exact HE.out
    · obtain rfl : k = l.length := by omega
      have HFULL := Lib.hid (show (l.set i ⟨p, x⟩).take l.length = l.set i ⟨p, x⟩ from List.take_of_length_le (by simp))
      rw [HFULL.out] at hrow
      have hx6 := HR.out.b0.below hbz HR.out.b0.lt
      have hz6 := HR.out.b2.below hbz HR.out.b2.lt
      obtain ⟨W7, hW7⟩ : ∃ W7, wr.setCell ⟨w.heap.size, 1, none⟩ (.slice oa l.length oc) = W7 := ⟨_, rfl⟩
      have hx7 : Box W7 w.heap.size RH #[.int .i64 cap, .slice oa l.length oc, .int .i64 allocs] := by rw [← hW7]; exact hx6.put 1 _
      have hz7 : Box W7 (w.heap.size + 2) RH #[.int .i64 0, .slice none 0 0, .int .i64 0] := by rw [← hW7]; exact hz6.far (by show w.heap.size ≠ _; omega) _
      have ho7 : W7.ownsRow W0.heap.size RC 4 (.slice oa l.length oc) l.length vs := by
        rw [← hW7]
        exact own_far ho hx6 (by decide) 1 _
      have hbw7 : Below w.heap.size w W7 := by rw [← hW7]; exact hbw.setCell (p := ⟨w.heap.size, 1, none⟩) (Nat.le_refl _) _
      obtain ⟨W8, hW8, hX8, hw8⟩ : ∃ W8, ((W7.setCell ⟨w.heap.size + 2, 0, none⟩ (.int .i64 cap)).setCell ⟨w.heap.size + 2, 1, none⟩ (.slice oa l.length oc)).setCell ⟨w.heap.size + 2, 2, none⟩ (.int .i64 allocs) = W8 ∧ Box W8 (w.heap.size + 2) RH #[.int .i64 cap, .slice oa l.length oc, .int .i64 allocs] ∧ Wrote W7 W8 (w.heap.size + 2) := ⟨_, rfl, ((hz7.put 0 _).put 1 _).put 2 _, (((Wrote.refl W7 _).set 0 _).set 1 _).set 2 _⟩
      have ho8 : W8.ownsRow W0.heap.size RC 4 (.slice oa l.length oc) l.length vs := by
        rw [← hW8]
        exact own_far (own_far (own_far ho7 hz7 (by decide) 0 _) (hz7.put 0 _) (by decide) 1 _) ((hz7.put 0 _).put 1 _) (by decide) 2 _
      have hbw8 : Below w.heap.size w W8 := hw8.below hbw7 (by omega)
      have hcell : ∀ ad : Addr, ad.block < B → W8.cell? ad = wr.cell? ad := fun ad hl => by
        rw [hbw8.cell (Nat.lt_of_lt_of_le hl HBL.out), hbw.cell (Nat.lt_of_lt_of_le hl HBL.out)]
      have HE := Lib.hid (show OwnC B W8 (.slice oa l.length oc) (l.set i ⟨p, x⟩) from
        ⟨vs, by rw [HLL.out]; exact own_base ho8 (Nat.le_trans HBL.out HR.out.below.size), hrow.keep hcell⟩)
      have HX8 := Lib.hid hX8
      have HBW8 := Lib.hid hbw8
      have u1 := hx6.cell 1
      have fu1 := hx6.free 1
      have p0 := hx7.cell 0
      have p1 := hx7.cell 1
      have p2 := hx7.cell 2
      have s0 := hz7.cell 0
      have s1 := hz7.cell 1
      have s2 := hz7.cell 2
      have fs0 := hz7.free 0
      have fs1 := hz7.free 1
      have fs2 := hz7.free 2
      clear hd ho hrow hbw hbz hx6 hz6 hx7 hz7 ho7 hbw7 hX8 hw8 ho8 hbw8 hcell y0 y1 y2 HROW
      go_wp2_with fail
      have v0 := HX8.out.cell 0
      have v1 := HX8.out.cell 1
      have v2 := HX8.out.cell 2
      refine bodyPost_ret (v := .tuple #[.agg #[.int .i64 cap, .slice oa l.length oc, .int .i64 allocs], .int .i64 0]) (by simp [results, Try.results26, go_sem, v0, v1, v2]) rfl ?_
      exact ⟨_, rfl, HE.out, HBW8.out⟩
end Go.Proofs.Ytbkklnihgejeoaa.Hp
