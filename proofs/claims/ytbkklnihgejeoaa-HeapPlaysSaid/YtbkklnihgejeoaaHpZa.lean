/-
  CONTRACTS of layer heap: the document's Collect.
-/
import Derived.Test.YtbkklnihgejeoaaHpZ
import Derived.Test.YtbkklnihgejeoaaHpY
namespace Go.Proofs.Ytbkklnihgejeoaa.Hp
open Go.RowKit Mm Tm
set_option linter.unusedVariables false
set_option linter.unusedSimpArgs false
structure RCb (cap allocs c : Nat) (a : Option Addr) (l : List Rc) (w W0 : World) : Prop where
  eq : (w.alloc (.cells #[.int .i64 cap, .slice a l.length c, .int .i64 allocs] RH)).alloc (.cells #[.int .i64 0, .slice none 0 0, .int .i64 0] RH) = W0
  below : Below w.heap.size w W0
  b0 : Box W0 w.heap.size RH #[.int .i64 cap, .slice a l.length c, .int .i64 allocs]
  b1 : Box W0 (w.heap.size + 1) RH #[.int .i64 0, .slice none 0 0, .int .i64 0]
  size : W0.heap.size = w.heap.size + 2
theorem RCb.mk' (cap allocs c : Nat) (a : Option Addr) (l : List Rc) (w : World) : ∃ W0, RCb cap allocs c a l w W0 :=
  ⟨_, rfl, ((Below.refl w.heap.size w).alloc (Nat.le_refl _) _).alloc (by simp) _, (Box.new _ _ _).alloc _, Box.at_ _ _ (by simp), by simp⟩
set_option maxRecDepth 100000 in
set_option maxHeartbeats 4000000 in
theorem rcollect_no {B cap allocs c : Nat} {a : Option Addr} {l : List Rc} {ra : Option Addr} {rc : Nat} {roots : List Int} (w : World) (h : OwnC B w (.slice a l.length c) l) (hB : B ≤ w.heap.size) (hn : l.length ≤ 1000000) (hr : RdI (· < B) w ra roots) (hrn : roots.length ≤ 20) (hno : roots.all (hasAt l) = false) :
    Calls Try.prog 27 #[.agg #[.int .i64 cap, .slice a l.length c, .int .i64 allocs], .slice ra roots.length rc] w (RetB (.tuple #[hpV cap (.slice a l.length c) allocs, .int .i64 0, .int .i64 161]) w) := by
  obtain ⟨W0, hR⟩ := RCb.mk' cap allocs c a l w
  have HA := Lib.hid (by
    have := all_any (cap := cap) (allocs := allocs) (rc := rc) W0 (h.below hB hR.below) (Nat.le_trans hB hR.below.size) hn (hr.below hR.below fun b q => Nat.lt_of_lt_of_le q hB) (fun b q => by have := hR.below.size; omega) (by omega)
    rw [hno] at this
    exact this)
  have HR := Lib.hid hR
  have hW0 := hR.eq
  obtain ⟨x0, x1, x2⟩ : W0.cell? ⟨w.heap.size, 0, none⟩ = some (.int .i64 cap) ∧ W0.cell? ⟨w.heap.size, 1, none⟩ = some (.slice a l.length c) ∧ W0.cell? ⟨w.heap.size, 2, none⟩ = some (.int .i64 allocs) := ⟨hR.b0.cell 0, hR.b0.cell 1, hR.b0.cell 2⟩
  clear h hB hr hno hR
  go_enter Try.func27, Try.ntmps27
  go_wp2_with fail
  with_reducible refine HA.out.mono ?_
  rintro e W1 ⟨rfl, hb1⟩
  clear hW0 x0 x1 x2
  have hx1 := HR.out.b0.below hb1 HR.out.b0.lt
  have hz1 := HR.out.b1.below hb1 HR.out.b1.lt
  obtain ⟨x0, x1, x2⟩ : W1.cell? ⟨w.heap.size, 0, none⟩ = some (.int .i64 cap) ∧ W1.cell? ⟨w.heap.size, 1, none⟩ = some (.slice a l.length c) ∧ W1.cell? ⟨w.heap.size, 2, none⟩ = some (.int .i64 allocs) := ⟨hx1.cell 0, hx1.cell 1, hx1.cell 2⟩
  obtain ⟨W2, hW2, hX2, hw2⟩ : ∃ W2, ((W1.setCell ⟨w.heap.size + 1, 0, none⟩ (.int .i64 cap)).setCell ⟨w.heap.size + 1, 1, none⟩ (.slice a l.length c)).setCell ⟨w.heap.size + 1, 2, none⟩ (.int .i64 allocs) = W2 ∧ Box W2 (w.heap.size + 1) RH #[.int .i64 cap, .slice a l.length c, .int .i64 allocs] ∧ Wrote W1 W2 (w.heap.size + 1) := ⟨_, rfl, ((hz1.put 0 _).put 1 _).put 2 _, (((Wrote.refl W1 _).set 0 _).set 1 _).set 2 _⟩
  have HX2 := Lib.hid hX2
  have HB2 := Lib.hid (hw2.below (HR.out.below.trans (hb1.mono HR.out.below.size)) (by omega))
  have z0 := hz1.cell 0
  have z1 := hz1.cell 1
  have z2 := hz1.cell 2
  have f0 := hz1.free 0
  have f1 := hz1.free 1
  have f2 := hz1.free 2
  clear hb1 hx1 hz1 hX2 hw2
  go_wp2_with fail
  have v0 := HX2.out.cell 0
  have v1 := HX2.out.cell 1
  have v2 := HX2.out.cell 2
  refine bodyPost_ret (v := .tuple #[.agg #[.int .i64 cap, .slice a l.length c, .int .i64 allocs], .int .i64 0, .int .i64 161]) (by simp [results, Try.results27, go_sem, v0, v1, v2]) rfl ?_
  exact ⟨rfl, HB2.out⟩
def RCollP (B cap allocs : Nat) (S : Hs) (roots : List Int) (l : List Rc) (w : World) (e : Ending) (w' : World) : Prop := ∃ (v : Value) (out : List Int) (l' : List Rc), e = .returned (.tuple #[hpV cap v allocs, .int .i64 ((l.length : Int) - (l'.length : Nat)), .int .i64 0]) ∧ (∀ x, x ∈ out ↔ Rch S roots x) ∧ l' = (l.filter fun r => decide (r.at_ ∈ out)) ∧ OwnC B w' v l' ∧ Below w.heap.size w w'
/-- while cells that are reached are copied -/
structure CoL (B : Nat) (w W1 : World) (l : List Rc) (out : List Int) (d : Nat) (v i : Value) (wr : World) : Prop where
  mem : ∃ (k : Nat) (vs : List Value) (q : List Rc), k + d = l.length ∧ i = .int .i64 k ∧ q = ((l.take k).filter fun r => decide (r.at_ ∈ out)) ∧ wr.ownsRow W1.heap.size RC 4 v q.length vs ∧ RowC B wr vs q
  below : Below w.heap.size w wr
  from_ : Below W1.heap.size W1 wr
set_option maxRecDepth 100000 in
set_option maxHeartbeats 16000000 in
theorem rcollect_ok {B cap allocs c hc : Nat} {a : Option Addr} {l : List Rc} {S : Hs} {ra : Option Addr} {rc : Nat} {roots : List Int} (w : World) (h : OwnC B w (.slice a l.length c) l) (hB : B ≤ w.heap.size) (hs : Sim S l) (hp : Pl hc 400 S) (hr : RdI (· < B) w ra roots) (hrn : roots.length ≤ 20) (hroots : ∀ x ∈ roots, S.held x = true) :
    Calls Try.prog 27 #[.agg #[.int .i64 cap, .slice a l.length c, .int .i64 allocs], .slice ra roots.length rc] w (RCollP B cap allocs S roots l w) := by
  obtain ⟨W0, hR⟩ := RCb.mk' cap allocs c a l w
  have hlive : S.live ≤ 400 := Nat.le_trans hp.liv hp.allocs
  have hn : l.length ≤ 400 := by rw [hs.length hp.good]; exact hlive
  have hyes : roots.all (hasAt l) = true := by
    rw [List.all_eq_true]
    intro x hx
    rw [hs.at_]
    exact hroots x hx
  have HA := Lib.hid (by
    have := all_any (cap := cap) (allocs := allocs) (rc := rc) W0 (h.below hB hR.below) (Nat.le_trans hB hR.below.size) (by omega) (hr.below hR.below fun b q => Nat.lt_of_lt_of_le q hB) (fun b q => by have := hR.below.size; omega) (by omega)
    rw [hyes] at this
    exact this)
  have HR := Lib.hid hR
  have HO := Lib.hid h
  have HBL := Lib.hid hB
  have HRE := Lib.hid (show ∀ W1, Below w.heap.size w W1 → Calls Try.prog 39 #[.agg #[.int .i64 cap, .slice a l.length c, .int .i64 allocs], .slice ra roots.length rc] W1 (RchP S roots W1) from fun W1 hb =>
    rreached_any W1 (h.below hB hb) (Nat.le_trans hB hb.size) hs hp (hr.below hb fun b q => Nat.lt_of_lt_of_le q hB) hrn hroots)
  have hW0 := hR.eq
  obtain ⟨x0, x1, x2⟩ : W0.cell? ⟨w.heap.size, 0, none⟩ = some (.int .i64 cap) ∧ W0.cell? ⟨w.heap.size, 1, none⟩ = some (.slice a l.length c) ∧ W0.cell? ⟨w.heap.size, 2, none⟩ = some (.int .i64 allocs) := ⟨hR.b0.cell 0, hR.b0.cell 1, hR.b0.cell 2⟩
  obtain ⟨j0, hinf, hz0, hz1', hz2'⟩ := info_parts infoRC
  clear h hB hr hyes hR hs hp hroots hlive
  go_enter Try.func27, Try.ntmps27
  go_wp2_with fail
  with_reducible refine HA.out.mono ?_
  rintro e W1 ⟨rfl, hb1⟩
  clear hW0 x0 x1 x2
  obtain ⟨x0, x1, x2⟩ : W1.cell? ⟨w.heap.size, 0, none⟩ = some (.int .i64 cap) ∧ W1.cell? ⟨w.heap.size, 1, none⟩ = some (.slice a l.length c) ∧ W1.cell? ⟨w.heap.size, 2, none⟩ = some (.int .i64 allocs) := by
    have hx1 := HR.out.b0.below hb1 HR.out.b0.lt
    exact ⟨hx1.cell 0, hx1.cell 1, hx1.cell 2⟩
  have HB1 := Lib.hid hb1
  have HBW := Lib.hid (HR.out.below.trans (hb1.mono HR.out.below.size))
  have HREA := Lib.hid (HRE.out W1 HBW.out)
  clear hb1
  go_wp2_with fail
  with_reducible refine HREA.out.mono ?_
  rintro e W2 ⟨kv, out, rfl, hown, hnd, hout, hb2⟩
  obtain ⟨ka, kc, rfl⟩ := hown.slice
  have HOWN := Lib.hid hown
  have HOUT := Lib.hid hout
  have HB2 := Lib.hid (HB1.out.trans (hb2.mono HB1.out.size))
  have HBW2 := Lib.hid (HBW.out.trans (hb2.mono HBW.out.size))
  clear hown hnd hout hb2 x0 x1 x2
  go_wp2_with fail
  go_loopg [8, 9] l.length (fun d v i wz => CoL B w W2 l out d v i wz)
  case atStart => exact ⟨⟨0, [], [], by omega, rfl, by simp, World.ownsRow_nil _ _ _ _, by simp, fun i r hr => by simp at hr⟩, HBW2.out, Below.refl _ _⟩
  case round =>
    obtain ⟨⟨k, vs, q, hd, rfl, hq, ho, hrow⟩, hbw, hbz⟩ := hrel
    have HDI := Lib.hid hd
    have HQ := Lib.hid hq
    have HOI := Lib.hid ho
    have HROW := Lib.hid hrow
    have HBI := Lib.hid hbw
    have HBZ := Lib.hid hbz
    have hkl : k ≤ l.length := by omega
    have hql : q.length ≤ l.length := by
      rw [hq]
      exact Nat.le_trans (List.length_filter_le _ _) (by rw [List.length_take]; omega)
    obtain ⟨oa, oc, rfl⟩ := own_slice ho
    have hxb := HR.out.b0.below (HB2.out.trans (hbz.mono HB2.out.size)) HR.out.b0.lt
    have hzb := HR.out.b1.below (HB2.out.trans (hbz.mono HB2.out.size)) HR.out.b1.lt
    obtain ⟨x0, x1, x2⟩ : wr.cell? ⟨w.heap.size, 0, none⟩ = some (.int .i64 cap) ∧ wr.cell? ⟨w.heap.size, 1, none⟩ = some (.slice a l.length c) ∧ wr.cell? ⟨w.heap.size, 2, none⟩ = some (.int .i64 allocs) := ⟨hxb.cell 0, hxb.cell 1, hxb.cell 2⟩
    by_cases hlt : k < l.length
    · obtain ⟨r, hr⟩ : ∃ r, l[k]? = some r := ⟨_, List.getElem?_eq_getElem hlt⟩
      obtain ⟨g, la, lc, rfl, _, c0, c1, c2, c3, hrd, hll⟩ := (HO.out.below HBL.out hbw).at_ hr
      have HTK := Lib.hid (show l.take (k + 1) = l.take k ++ [r] by rw [List.take_add_one, hr]; rfl)
      have howz : OwnI W1.heap.size TI wr (.slice ka out.length kc) out := HOWN.out.here hbz
      have HHA := Lib.hid (has_any (c := kc) r.at_ wr (own_rd howz) (len_own howz))
      by_cases hm : r.at_ ∈ out
      · rw [decide_eq_true hm] at HHA
        obtain ⟨W5, hW5⟩ : ∃ W5, wr.alloc (.cells #[.int .i64 r.at_, .int .i64 r.x.tag, .int .i64 r.x.n, .slice la r.x.l.length lc] RC) = W5 := ⟨_, rfl⟩
        have hb5 : Below wr.heap.size wr W5 := by rw [← hW5]; exact (Below.refl wr.heap.size wr).alloc (Nat.le_refl _) _
        have HO5 := Lib.hid (own_here ho hb5)
        have HNW := Lib.hid (show ∀ q u, [Value.int .i64 r.at_, .int .i64 r.x.tag, .int .i64 r.x.n, .slice la r.x.l.length lc][q]? = some u → W5.cell? ((⟨wr.heap.size, 0, none⟩ : Addr).add q) = some u from by
          have := news_new wr #[.int .i64 r.at_, .int .i64 r.x.tag, .int .i64 r.x.n, .slice la r.x.l.length lc] RC
          rw [hW5] at this
          exact this)
        have HB5 := Lib.hid hb5
        have HRDW := Lib.hid hrd
        have hs5 : W2.heap.size ≤ W5.heap.size := Nat.le_trans hbz.size hb5.size
        have HQ' := Lib.hid (show q ++ [r] = ((l.take (k + 1)).filter fun r => decide (r.at_ ∈ out)) by
          rw [HTK.out, List.filter_append, ← HQ.out, List.filter_cons_of_pos (by simpa using hm)]; rfl)
        clear hd hq ho hrow hbw hbz hr hrd hb5 hxb hzb howz hm
        go_wp2_with fail
        with_reducible refine HHA.out.mono ?_
        rintro e w' ⟨rfl, rfl⟩
        go_wp2_with (at_builtin; refine wpList_append_own _ rfl _ _ 30 rfl W2.heap.size RC j0 _ 4 48 Try.underlying30 hinf hz0 hz1' hz2' rfl (by decide) (.slice oa q.length oc) q.length vs rfl HO5.out ⟨wr.heap.size, 0, none⟩ 1 1 [.int .i64 r.at_, .int .i64 r.x.tag, .int .i64 r.x.n, .slice la r.x.l.length lc] rfl rfl HNW.out (by intro u hu; simp only [List.mem_cons, List.not_mem_nil, or_false] at hu; rcases hu with rfl | rfl | rfl | rfl <;> rfl) (by unfold maxLen; omega) (by omega) hs5 ?_)
        intro v' w6 hown' hgrow _
        have hbw6 : Below w.heap.size w w6 := (HBI.out.trans (HB5.out.mono HBI.out.size)).grown hgrow (Nat.le_trans HBW2.out.size hs5) (fun q hq => Nat.le_trans HBW2.out.size (HO5.out.lt q hq).1)
        have hcell : ∀ ad : Addr, ad.block < B → w6.cell? ad = wr.cell? ad := fun ad hl => by
          rw [hbw6.cell (Nat.lt_of_lt_of_le hl HBL.out), HBI.out.cell (Nat.lt_of_lt_of_le hl HBL.out)]
        have HE := Lib.hid (show CoL B w W2 l out (l.length - (k + 1)) v' (.int .i64 ((k : Int) + 1)) w6 from
          ⟨⟨k + 1, _, q ++ [r], by omega, rfl, HQ'.out, by rw [List.length_append]; exact hown', (HROW.out.keep hcell).snoc (HRDW.out.frame hcell fun _ q => q) hll⟩, hbw6,
            (HBZ.out.trans (HB5.out.mono HBZ.out.size)).grown hgrow hs5 (fun q hq => (HO5.out.lt q hq).1)⟩)
        clear hown' hgrow hbw6 hcell
        go_wp2_with fail
        go_roundg (l.length - (k + 1))
        case measure => have := HDI.out; omega
        case rel => exact HE.out
      · rw [decide_eq_false hm] at HHA
        have HQ' := Lib.hid (show q = ((l.take (k + 1)).filter fun r => decide (r.at_ ∈ out)) by
          rw [HTK.out, List.filter_append, ← HQ.out, List.filter_cons_of_neg (by simpa using hm)]; simp)
        have HE := Lib.hid (show CoL B w W2 l out (l.length - (k + 1)) (.slice oa q.length oc) (.int .i64 ((k : Int) + 1)) wr from
          ⟨⟨k + 1, _, q, by omega, rfl, HQ'.out, ho, hrow⟩, hbw, hbz⟩)
        clear hd hq ho hrow hbw hbz hr hrd hxb hzb howz hm
        go_wp2_with fail
        with_reducible refine HHA.out.mono ?_
        rintro e w' ⟨rfl, rfl⟩
        go_wp2_with fail
        go_roundg (l.length - (k + 1))
        case measure => have := HDI.out; omega
        case rel => exact HE.out
    · obtain rfl : k = l.length := by omega
      rw [List.take_length] at hq
      obtain ⟨W7, hW7⟩ : ∃ W7, wr.setCell ⟨w.heap.size, 1, none⟩ (.slice oa q.length oc) = W7 := ⟨_, rfl⟩
      have hx7 : Box W7 w.heap.size RH #[.int .i64 cap, .slice oa q.length oc, .int .i64 allocs] := by rw [← hW7]; exact hxb.put 1 _
      have hz7 : Box W7 (w.heap.size + 1) RH #[.int .i64 0, .slice none 0 0, .int .i64 0] := by rw [← hW7]; exact hzb.far (by show w.heap.size ≠ _; omega) _
      have ho7 : W7.ownsRow W2.heap.size RC 4 (.slice oa q.length oc) q.length vs := by
        rw [← hW7]
        exact own_far ho hxb (by decide) 1 _
      obtain ⟨W8, hW8, hX8, hw8⟩ : ∃ W8, ((W7.setCell ⟨w.heap.size + 1, 0, none⟩ (.int .i64 cap)).setCell ⟨w.heap.size + 1, 1, none⟩ (.slice oa q.length oc)).setCell ⟨w.heap.size + 1, 2, none⟩ (.int .i64 allocs) = W8 ∧ Box W8 (w.heap.size + 1) RH #[.int .i64 cap, .slice oa q.length oc, .int .i64 allocs] ∧ Wrote W7 W8 (w.heap.size + 1) := ⟨_, rfl, ((hz7.put 0 _).put 1 _).put 2 _, (((Wrote.refl W7 _).set 0 _).set 1 _).set 2 _⟩
      have ho8 : W8.ownsRow W2.heap.size RC 4 (.slice oa q.length oc) q.length vs := by
        rw [← hW8]
        exact own_far (own_far (own_far ho7 hz7 (by decide) 0 _) (hz7.put 0 _) (by decide) 1 _) ((hz7.put 0 _).put 1 _) (by decide) 2 _
      have hbw7 : Below w.heap.size w W7 := by rw [← hW7]; exact hbw.setCell (p := ⟨w.heap.size, 1, none⟩) (Nat.le_refl _) _
      have hbw8 : Below w.heap.size w W8 := hw8.below hbw7 (by omega)
      have hcell : ∀ ad : Addr, ad.block < B → W8.cell? ad = wr.cell? ad := fun ad hl => by
        rw [hbw8.cell (Nat.lt_of_lt_of_le hl HBL.out), HBI.out.cell (Nat.lt_of_lt_of_le hl HBL.out)]
      have HE := Lib.hid (show OwnC B W8 (.slice oa q.length oc) q from
        ⟨_, own_base ho8 (Nat.le_trans HBL.out HBW2.out.size), HROW.out.keep hcell⟩)
      have HQE := Lib.hid hq
      have HX8 := Lib.hid hX8
      have HBW8 := Lib.hid hbw8
      have u1 := hxb.free 1
      have p0 := hx7.cell 0
      have p1 := hx7.cell 1
      have p2 := hx7.cell 2
      have s0 := hz7.cell 0
      have s1 := hz7.cell 1
      have s2 := hz7.cell 2
      have fs0 := hz7.free 0
      have fs1 := hz7.free 1
      have fs2 := hz7.free 2
      clear hd hq ho hrow hbw hbz hxb hzb hx7 hz7 ho7 hX8 hw8 ho8 hbw7 hbw8 hcell
      go_wp2_with fail
      have v0 := HX8.out.cell 0
      have v1 := HX8.out.cell 1
      have v2 := HX8.out.cell 2
      refine bodyPost_ret (v := .tuple #[.agg #[.int .i64 cap, .slice oa q.length oc, .int .i64 allocs], .int .i64 ((l.length : Int) - (q.length : Nat)), .int .i64 0]) (by simp [results, Try.results27, go_sem, v0, v1, v2]) rfl ?_
      exact ⟨_, out, q, rfl, HOUT.out, HQE.out, HE.out, HBW8.out⟩
end Go.Proofs.Ytbkklnihgejeoaa.Hp
