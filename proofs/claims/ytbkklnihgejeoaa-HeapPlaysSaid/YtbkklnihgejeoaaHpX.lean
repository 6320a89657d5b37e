/-
  CONTRACTS of layer heap: the document's Alloc.
-/
import Derived.Test.YtbkklnihgejeoaaHpW
namespace Go.Proofs.Ytbkklnihgejeoaa.Hp
open Go.RowKit Mm Tm
set_option linter.unusedVariables false
set_option linter.unusedSimpArgs false
abbrev hpV (cap : Nat) (v : Value) (allocs : Nat) : Value := .agg #[.int .i64 cap, v, .int .i64 allocs]
/-- the boxes that the document's Alloc makes of its arguments -/
structure RAb (B cap allocs c : Nat) (a : Option Addr) (l : List Rc) (x : Nd) (na : Option Addr) (nc : Nat) (w W0 : World) : Prop where
  eq : ((w.alloc (.cells #[.int .i64 cap, .slice a l.length c, .int .i64 allocs] RH)).alloc (.cells #[.int .i64 x.tag, .int .i64 x.n, .slice na x.l.length nc] TN)).alloc (.cells #[.int .i64 0, .slice none 0 0, .int .i64 0] RH) = W0
  below : Below w.heap.size w W0
  b0 : Box W0 w.heap.size RH #[.int .i64 cap, .slice a l.length c, .int .i64 allocs]
  b1 : Box W0 (w.heap.size + 1) TN #[.int .i64 x.tag, .int .i64 x.n, .slice na x.l.length nc]
  b2 : Box W0 (w.heap.size + 2) RH #[.int .i64 0, .slice none 0 0, .int .i64 0]
  size : W0.heap.size = w.heap.size + 3
theorem RAb.mk' (B cap allocs c : Nat) (a : Option Addr) (l : List Rc) (x : Nd) (na : Option Addr) (nc : Nat) (w : World) : ∃ W0, RAb B cap allocs c a l x na nc w W0 :=
  ⟨_, rfl, (((Below.refl w.heap.size w).alloc (Nat.le_refl _) _).alloc (by simp) _).alloc (by simp; omega) _, ((Box.new _ _ _).alloc _).alloc _, (Box.at_ _ _ (by simp)).alloc _, Box.at_ _ _ (by simp), by simp⟩
set_option maxRecDepth 100000 in
set_option maxHeartbeats 4000000 in
theorem ralloc_no {B cap allocs c : Nat} {a : Option Addr} {l : List Rc} {x : Nd} {na : Option Addr} {nc : Nat} (w : World) (h : OwnC B w (.slice a l.length c) l) (hB : B ≤ w.heap.size) (hn : l.length ≤ 1000000) (hr : RdI (· < B) w na x.l) (hrn : x.l.length ≤ 20) (hno : x.l.all (hasAt l) = false) :
    Calls Try.prog 25 #[.agg #[.int .i64 cap, .slice a l.length c, .int .i64 allocs], .agg #[.int .i64 x.tag, .int .i64 x.n, .slice na x.l.length nc]] w (RetB (.tuple #[hpV cap (.slice a l.length c) allocs, .int .i64 0, .int .i64 161]) w) := by
  obtain ⟨W0, hR⟩ := RAb.mk' B cap allocs c a l x na nc w
  have HA := Lib.hid (by
    have := all_any (cap := cap) (allocs := allocs) (rc := nc) W0 (h.below hB hR.below) (Nat.le_trans hB hR.below.size) hn (hr.below hR.below fun b q => Nat.lt_of_lt_of_le q hB) (fun b q => by have := hR.below.size; omega) (by omega)
    rw [hno] at this
    exact this)
  have HR := Lib.hid hR
  have hW0 := hR.eq
  obtain ⟨x0, x1, x2⟩ : W0.cell? ⟨w.heap.size, 0, none⟩ = some (.int .i64 cap) ∧ W0.cell? ⟨w.heap.size, 1, none⟩ = some (.slice a l.length c) ∧ W0.cell? ⟨w.heap.size, 2, none⟩ = some (.int .i64 allocs) := ⟨hR.b0.cell 0, hR.b0.cell 1, hR.b0.cell 2⟩
  have y2 : W0.cell? ⟨w.heap.size + 1, 2, none⟩ = some (.slice na x.l.length nc) := hR.b1.cell 2
  clear h hB hr hno hR
  go_enter Try.func25, Try.ntmps25
  go_wp2_with fail
  with_reducible refine HA.out.mono ?_
  rintro e W1 ⟨rfl, hb1⟩
  clear hW0 x0 x1 x2 y2
  have hx1 := HR.out.b0.below hb1 HR.out.b0.lt
  have hz1 := HR.out.b2.below hb1 HR.out.b2.lt
  obtain ⟨x0, x1, x2⟩ : W1.cell? ⟨w.heap.size, 0, none⟩ = some (.int .i64 cap) ∧ W1.cell? ⟨w.heap.size, 1, none⟩ = some (.slice a l.length c) ∧ W1.cell? ⟨w.heap.size, 2, none⟩ = some (.int .i64 allocs) := ⟨hx1.cell 0, hx1.cell 1, hx1.cell 2⟩
  obtain ⟨W2, hW2, hX2, hw2⟩ : ∃ W2, ((W1.setCell ⟨w.heap.size + 2, 0, none⟩ (.int .i64 cap)).setCell ⟨w.heap.size + 2, 1, none⟩ (.slice a l.length c)).setCell ⟨w.heap.size + 2, 2, none⟩ (.int .i64 allocs) = W2 ∧ Box W2 (w.heap.size + 2) RH #[.int .i64 cap, .slice a l.length c, .int .i64 allocs] ∧ Wrote W1 W2 (w.heap.size + 2) := ⟨_, rfl, ((hz1.put 0 _).put 1 _).put 2 _, (((Wrote.refl W1 _).set 0 _).set 1 _).set 2 _⟩
  have HX2 := Lib.hid hX2
  have HB2 := Lib.hid (hw2.below (HR.out.below.trans (hb1.mono HR.out.below.size)) (by omega))
  have z0 := hz1.cell 0
  have z1 := hz1.cell 1
  have z2 := hz1.cell 2
  have f0 := hz1.free 0
  have f1 := hz1.free 1
  have f2 := hz1.free 2
  clear hb1 hx1 hz1 hX2 hw2
  go_wp2_with fail
  have v0 := HX2.out.cell 0
  have v1 := HX2.out.cell 1
  have v2 := HX2.out.cell 2
  refine bodyPost_ret (v := .tuple #[.agg #[.int .i64 cap, .slice a l.length c, .int .i64 allocs], .int .i64 0, .int .i64 161]) (by simp [results, Try.results25, go_sem, v0, v1, v2]) rfl ?_
  exact ⟨rfl, HB2.out⟩
set_option maxRecDepth 100000 in
set_option maxHeartbeats 4000000 in
theorem ralloc_full {B cap allocs c : Nat} {a : Option Addr} {l : List Rc} {x : Nd} {na : Option Addr} {nc : Nat} (w : World) (h : OwnC B w (.slice a l.length c) l) (hB : B ≤ w.heap.size) (hn : l.length ≤ 1000000) (hr : RdI (· < B) w na x.l) (hrn : x.l.length ≤ 20) (hno : x.l.all (hasAt l) = true) (hfull : cap ≤ l.length) :
    Calls Try.prog 25 #[.agg #[.int .i64 cap, .slice a l.length c, .int .i64 allocs], .agg #[.int .i64 x.tag, .int .i64 x.n, .slice na x.l.length nc]] w (RetB (.tuple #[hpV cap (.slice a l.length c) allocs, .int .i64 0, .int .i64 160]) w) := by
  obtain ⟨W0, hR⟩ := RAb.mk' B cap allocs c a l x na nc w
  have HA := Lib.hid (by
    have := all_any (cap := cap) (allocs := allocs) (rc := nc) W0 (h.below hB hR.below) (Nat.le_trans hB hR.below.size) hn (hr.below hR.below fun b q => Nat.lt_of_lt_of_le q hB) (fun b q => by have := hR.below.size; omega) (by omega)
    rw [hno] at this
    exact this)
  have HR := Lib.hid hR
  have hW0 := hR.eq
  obtain ⟨x0, x1, x2⟩ : W0.cell? ⟨w.heap.size, 0, none⟩ = some (.int .i64 cap) ∧ W0.cell? ⟨w.heap.size, 1, none⟩ = some (.slice a l.length c) ∧ W0.cell? ⟨w.heap.size, 2, none⟩ = some (.int .i64 allocs) := ⟨hR.b0.cell 0, hR.b0.cell 1, hR.b0.cell 2⟩
  have y2 : W0.cell? ⟨w.heap.size + 1, 2, none⟩ = some (.slice na x.l.length nc) := hR.b1.cell 2
  have q1 : decide (cap ≤ l.length) = true := decide_eq_true hfull
  have q2 : decide ((cap : Int) ≤ l.length) = true := decide_eq_true (by omega)
  clear h hB hr hno hR
  go_enter Try.func25, Try.ntmps25
  go_wp2_with fail
  with_reducible refine HA.out.mono ?_
  rintro e W1 ⟨rfl, hb1⟩
  clear hW0 x0 x1 x2 y2
  have hx1 := HR.out.b0.below hb1 HR.out.b0.lt
  have hz1 := HR.out.b2.below hb1 HR.out.b2.lt
  obtain ⟨x0, x1, x2⟩ : W1.cell? ⟨w.heap.size, 0, none⟩ = some (.int .i64 cap) ∧ W1.cell? ⟨w.heap.size, 1, none⟩ = some (.slice a l.length c) ∧ W1.cell? ⟨w.heap.size, 2, none⟩ = some (.int .i64 allocs) := ⟨hx1.cell 0, hx1.cell 1, hx1.cell 2⟩
  obtain ⟨W2, hW2, hX2, hw2⟩ : ∃ W2, ((W1.setCell ⟨w.heap.size + 2, 0, none⟩ (.int .i64 cap)).setCell ⟨w.heap.size + 2, 1, none⟩ (.slice a l.length c)).setCell ⟨w.heap.size + 2, 2, none⟩ (.int .i64 allocs) = W2 ∧ Box W2 (w.heap.size + 2) RH #[.int .i64 cap, .slice a l.length c, .int .i64 allocs] ∧ Wrote W1 W2 (w.heap.size + 2) := ⟨_, rfl, ((hz1.put 0 _).put 1 _).put 2 _, (((Wrote.refl W1 _).set 0 _).set 1 _).set 2 _⟩
  have HX2 := Lib.hid hX2
  have HB2 := Lib.hid (hw2.below (HR.out.below.trans (hb1.mono HR.out.below.size)) (by omega))
  have z0 := hz1.cell 0
  have z1 := hz1.cell 1
  have z2 := hz1.cell 2
  have f0 := hz1.free 0
  have f1 := hz1.free 1
  have f2 := hz1.free 2
  clear hb1 hx1 hz1 hX2 hw2 hfull
  go_wp2_with fail
  have v0 := HX2.out.cell 0
  have v1 := HX2.out.cell 1
  have v2 := HX2.out.cell 2
  refine bodyPost_ret (v := .tuple #[.agg #[.int .i64 cap, .slice a l.length c, .int .i64 allocs], .int .i64 0, .int .i64 160]) (by simp [results, Try.results25, go_sem, v0, v1, v2]) rfl ?_
  exact ⟨rfl, HB2.out⟩
def RAllocP (B cap allocs k : Nat) (l : List Rc) (x : Nd) (w : World) (e : Ending) (w' : World) : Prop := ∃ v, e = .returned (.tuple #[hpV cap v (allocs + 1), .int .i64 k, .int .i64 0]) ∧ OwnC B w' v (l ++ [⟨k, x⟩]) ∧ Below w.heap.size w w'
/-- while cells are copied -/
structure CpL (B : Nat) (w W0 : World) (l : List Rc) (d : Nat) (v i : Value) (wr : World) : Prop where
  mem : ∃ (k : Nat) (vs : List Value), k + d = l.length ∧ i = .int .i64 k ∧ wr.ownsRow W0.heap.size RC 4 v k vs ∧ RowC B wr vs (l.take k)
  below : Below w.heap.size w wr
  from_ : Below W0.heap.size W0 wr
set_option maxRecDepth 100000 in
set_option maxHeartbeats 16000000 in
theorem ralloc_ok {B cap allocs c k : Nat} {a : Option Addr} {l : List Rc} {x : Nd} {na : Option Addr} {nc : Nat} (w : World) (h : OwnC B w (.slice a l.length c) l) (hB : B ≤ w.heap.size) (hn : l.length ≤ 1000) (hr : RdI (· < B) w na x.l) (hrn : x.l.length ≤ 20) (hno : x.l.all (hasAt l) = true) (hfull : l.length < cap) (hk1 : ∀ j : Nat, j < k → hasAt l j = true) (hk2 : hasAt l k = false) (hk3 : k ≤ 16777216) (hal : allocs ≤ 1000000) :
    Calls Try.prog 25 #[.agg #[.int .i64 cap, .slice a l.length c, .int .i64 allocs], .agg #[.int .i64 x.tag, .int .i64 x.n, .slice na x.l.length nc]] w (RAllocP B cap allocs k l x w) := by
  obtain ⟨W0, hR⟩ := RAb.mk' B cap allocs c a l x na nc w
  have HA := Lib.hid (by
    have := all_any (cap := cap) (allocs := allocs) (rc := nc) W0 (h.below hB hR.below) (Nat.le_trans hB hR.below.size) (by omega) (hr.below hR.below fun b q => Nat.lt_of_lt_of_le q hB) (fun b q => by have := hR.below.size; omega) (by omega)
    rw [hno] at this
    exact this)
  have HR := Lib.hid hR
  have HO := Lib.hid h
  have HBL := Lib.hid hB
  have HRD := Lib.hid hr
  have HK1 := Lib.hid hk1
  have HK2 := Lib.hid hk2
  have hW0 := hR.eq
  obtain ⟨x0, x1, x2⟩ : W0.cell? ⟨w.heap.size, 0, none⟩ = some (.int .i64 cap) ∧ W0.cell? ⟨w.heap.size, 1, none⟩ = some (.slice a l.length c) ∧ W0.cell? ⟨w.heap.size, 2, none⟩ = some (.int .i64 allocs) := ⟨hR.b0.cell 0, hR.b0.cell 1, hR.b0.cell 2⟩
  have y2 : W0.cell? ⟨w.heap.size + 1, 2, none⟩ = some (.slice na x.l.length nc) := hR.b1.cell 2
  have q1 : decide (cap ≤ l.length) = false := decide_eq_false (by omega)
  have q2 : decide ((cap : Int) ≤ l.length) = false := decide_eq_false (by omega)
  obtain ⟨j0, hinf, hz0, hz1', hz2'⟩ := info_parts infoRC
  clear h hB hr hno hR hfull hk1 hk2
  go_enter Try.func25, Try.ntmps25
  go_wp2_with fail
  with_reducible refine HA.out.mono ?_
  rintro e W1 ⟨rfl, hb1⟩
  clear hW0 x0 x1 x2 y2
  have HB1 := Lib.hid hb1
  have HBW := Lib.hid (HR.out.below.trans (hb1.mono HR.out.below.size))
  obtain ⟨x0, x1, x2⟩ : W1.cell? ⟨w.heap.size, 0, none⟩ = some (.int .i64 cap) ∧ W1.cell? ⟨w.heap.size, 1, none⟩ = some (.slice a l.length c) ∧ W1.cell? ⟨w.heap.size, 2, none⟩ = some (.int .i64 allocs) := by
    have hx1 := HR.out.b0.below hb1 HR.out.b0.lt
    exact ⟨hx1.cell 0, hx1.cell 1, hx1.cell 2⟩
  clear hb1
  go_wp2_with fail
  clear x0 x1 x2 q1 q2
  go_loopg [7] k (fun d i wr => (∃ j : Nat, j + d = k ∧ i = .int .i64 j) ∧ Below W1.heap.size W1 wr)
  case atStart => exact ⟨⟨0, by omega, rfl⟩, Below.refl _ _⟩
  case round =>
    obtain ⟨⟨j, hd, rfl⟩, hb⟩ := hrel
    have HD := Lib.hid hd
    have HBJ := Lib.hid (HB1.out.trans (hb.mono HB1.out.size))
    have HBJ1 := Lib.hid hb
    have hjk : j ≤ k := by omega
    have hbw := HBW.out.trans (hb.mono HBW.out.size)
    have HBR := Lib.hid hbw
    obtain ⟨x0, x1, x2⟩ : wr.cell? ⟨w.heap.size, 0, none⟩ = some (.int .i64 cap) ∧ wr.cell? ⟨w.heap.size, 1, none⟩ = some (.slice a l.length c) ∧ wr.cell? ⟨w.heap.size, 2, none⟩ = some (.int .i64 allocs) := by
      have hx1 := HR.out.b0.below HBJ.out HR.out.b0.lt
      exact ⟨hx1.cell 0, hx1.cell 1, hx1.cell 2⟩
    have HF := Lib.hid (find_any (cap := cap) (allocs := allocs) (j : Int) wr (HO.out.below HBL.out hbw) (Nat.le_trans HBL.out hbw.size) (by omega))
    clear hd hb hbw
    by_cases hj : j < k
    · obtain ⟨i, r, e1, _, _⟩ := findV_has (HK1.out j hj)
      rw [e1] at HF
      clear e1
      go_wp2_with fail
      with_reducible refine HF.out.mono ?_
      rintro e w2 ⟨rfl, hb2⟩
      have HB2 := Lib.hid (HBJ1.out.trans (hb2.mono HBJ1.out.size))
      clear hb2
      go_wp2_with fail
      go_roundg (k - (j + 1))
      case measure => have := HD.out; omega
      case rel => exact ⟨⟨j + 1, by omega, by go_num⟩, HB2.out⟩
    · obtain rfl : j = k := by omega
      rw [findV_not HK2.out] at HF
      go_wp2_with fail
      with_reducible refine HF.out.mono ?_
      rintro e w2 ⟨rfl, hb2⟩
      have HB2 := Lib.hid (HBJ.out.trans (hb2.mono HBJ.out.size))
      have HBR2 := Lib.hid (HBR.out.trans (hb2.mono HBR.out.size))
      clear hb2 x0 x1 x2
      go_wp2_with fail
      obtain ⟨wq, hwq⟩ : ∃ q, q = wr := ⟨_, rfl⟩
      subst hwq
      go_loopg [8, 9] l.length (fun d v i wz => CpL B w W0 l d v i wz)
      case atStart => exact ⟨⟨0, [], by omega, rfl, World.ownsRow_nil _ _ _ _, by simp, fun i r hr => by simp at hr⟩, HBR2.out, HB2.out⟩
      case round =>
        obtain ⟨⟨i, vs, hd, rfl, ho, hrow⟩, hbw, hbz⟩ := hrel
        have HDI := Lib.hid hd
        have HOI := Lib.hid ho
        have HROW := Lib.hid hrow
        have HBI := Lib.hid hbw
        have HBZ := Lib.hid hbz
        have hil : i ≤ l.length := by omega
        obtain ⟨oa, oc, rfl⟩ := own_slice ho
        obtain ⟨x0, x1, x2⟩ : wr.cell? ⟨w.heap.size, 0, none⟩ = some (.int .i64 cap) ∧ wr.cell? ⟨w.heap.size, 1, none⟩ = some (.slice a l.length c) ∧ wr.cell? ⟨w.heap.size, 2, none⟩ = some (.int .i64 allocs) := by
          have hx1 := HR.out.b0.below hbz HR.out.b0.lt
          exact ⟨hx1.cell 0, hx1.cell 1, hx1.cell 2⟩
        by_cases hlt : i < l.length
        · obtain ⟨r, hr⟩ : ∃ r, l[i]? = some r := ⟨_, List.getElem?_eq_getElem hlt⟩
          obtain ⟨g, la, lc, rfl, _, c0, c1, c2, c3, hrd, hll⟩ := (HO.out.below HBL.out hbw).at_ hr
          have HTK := Lib.hid (show l.take (i + 1) = l.take i ++ [r] by rw [List.take_add_one, hr]; rfl)
          obtain ⟨W5, hW5⟩ : ∃ W5, wr.alloc (.cells #[.int .i64 r.at_, .int .i64 r.x.tag, .int .i64 r.x.n, .slice la r.x.l.length lc] RC) = W5 := ⟨_, rfl⟩
          have hb5 : Below wr.heap.size wr W5 := by rw [← hW5]; exact (Below.refl wr.heap.size wr).alloc (Nat.le_refl _) _
          have HO5 := Lib.hid (own_here ho hb5)
          have HNW := Lib.hid (show ∀ q u, [Value.int .i64 r.at_, .int .i64 r.x.tag, .int .i64 r.x.n, .slice la r.x.l.length lc][q]? = some u → W5.cell? ((⟨wr.heap.size, 0, none⟩ : Addr).add q) = some u from by
            have := news_new wr #[.int .i64 r.at_, .int .i64 r.x.tag, .int .i64 r.x.n, .slice la r.x.l.length lc] RC
            rw [hW5] at this
            exact this)
          have HB5 := Lib.hid hb5
          have HRDW := Lib.hid hrd
          have hs5 : W0.heap.size ≤ W5.heap.size := Nat.le_trans hbz.size hb5.size
          clear hd ho hrow hbw hbz hr hrd hb5
          go_wp2_with (at_builtin; refine wpList_append_own _ rfl _ _ 30 rfl W0.heap.size RC j0 _ 4 48 Try.underlying30 hinf hz0 hz1' hz2' rfl (by decide) (.slice oa i oc) i vs rfl HO5.out ⟨wr.heap.size, 0, none⟩ 1 1 [.int .i64 r.at_, .int .i64 r.x.tag, .int .i64 r.x.n, .slice la r.x.l.length lc] rfl rfl HNW.out (by intro u hu; simp only [List.mem_cons, List.not_mem_nil, or_false] at hu; rcases hu with rfl | rfl | rfl | rfl <;> rfl) (by unfold maxLen; omega) (by omega) hs5 ?_)
          intro v' w6 hown' hgrow _
          have hbw6 : Below w.heap.size w w6 := (HBI.out.trans (HB5.out.mono HBI.out.size)).grown hgrow (Nat.le_trans HR.out.below.size hs5) (fun q hq => Nat.le_trans HR.out.below.size (HO5.out.lt q hq).1)
          have hcell : ∀ ad : Addr, ad.block < B → w6.cell? ad = wr.cell? ad := fun ad hl => by
            rw [hbw6.cell (Nat.lt_of_lt_of_le hl HBL.out), HBI.out.cell (Nat.lt_of_lt_of_le hl HBL.out)]
          have HE := Lib.hid (show CpL B w W0 l (l.length - (i + 1)) v' (.int .i64 ((i : Int) + 1)) w6 from
            ⟨⟨i + 1, _, by omega, rfl, hown', by rw [HTK.out]; exact (HROW.out.keep hcell).snoc (HRDW.out.frame hcell fun _ q => q) hll⟩, hbw6,
              (HBZ.out.trans (HB5.out.mono HBZ.out.size)).grown hgrow (Nat.le_trans HBZ.out.size HB5.out.size) (fun q hq => (HO5.out.lt q hq).1)⟩)
          clear hown' hgrow hbw6 hcell
          go_wp2_with fail
          go_roundg (l.length - (i + 1))
          case measure => have := HDI.out; omega
          case rel => exact HE.out
        · obtain rfl : i = l.length := by omega
          rw [List.take_length] at hrow
          obtain ⟨y0, y1, y2⟩ : wr.cell? ⟨w.heap.size + 1, 0, none⟩ = some (.int .i64 x.tag) ∧ wr.cell? ⟨w.heap.size + 1, 1, none⟩ = some (.int .i64 x.n) ∧ wr.cell? ⟨w.heap.size + 1, 2, none⟩ = some (.slice na x.l.length nc) := by
            have hx1 := HR.out.b1.below hbz HR.out.b1.lt
            exact ⟨hx1.cell 0, hx1.cell 1, hx1.cell 2⟩
          obtain ⟨W5, hW5⟩ : ∃ W5, wr.alloc (.cells #[.int .i64 j, .int .i64 x.tag, .int .i64 x.n, .slice na x.l.length nc] RC) = W5 := ⟨_, rfl⟩
          have hb5 : Below wr.heap.size wr W5 := by rw [← hW5]; exact (Below.refl wr.heap.size wr).alloc (Nat.le_refl _) _
          have HO5 := Lib.hid (own_here ho hb5)
          have HNW := Lib.hid (show ∀ q u, [Value.int .i64 j, .int .i64 x.tag, .int .i64 x.n, .slice na x.l.length nc][q]? = some u → W5.cell? ((⟨wr.heap.size, 0, none⟩ : Addr).add q) = some u from by
            have := news_new wr #[.int .i64 j, .int .i64 x.tag, .int .i64 x.n, .slice na x.l.length nc] RC
            rw [hW5] at this
            exact this)
          have HB5 := Lib.hid hb5
          have HROWE := Lib.hid hrow
          have hs5 : W0.heap.size ≤ W5.heap.size := Nat.le_trans hbz.size hb5.size
          clear hd ho hrow hbw hbz hb5 HROW
          go_wp2_with (at_builtin; refine wpList_append_own _ rfl _ _ 30 rfl W0.heap.size RC j0 _ 4 48 Try.underlying30 hinf hz0 hz1' hz2' rfl (by decide) (.slice oa l.length oc) l.length vs rfl HO5.out ⟨wr.heap.size, 0, none⟩ 1 1 [.int .i64 j, .int .i64 x.tag, .int .i64 x.n, .slice na x.l.length nc] rfl rfl HNW.out (by intro u hu; simp only [List.mem_cons, List.not_mem_nil, or_false] at hu; rcases hu with rfl | rfl | rfl | rfl <;> rfl) (by unfold maxLen; omega) (by omega) hs5 ?_)
          intro v' w6 hown' hgrow _
          obtain ⟨va6, vc6, rfl⟩ := own_slice hown'
          have hbw6 : Below w.heap.size w w6 := (HBI.out.trans (HB5.out.mono HBI.out.size)).grown hgrow (Nat.le_trans HR.out.below.size hs5) (fun q hq => Nat.le_trans HR.out.below.size (HO5.out.lt q hq).1)
          have hbz6 : Below W0.heap.size W0 w6 := (HBZ.out.trans (HB5.out.mono HBZ.out.size)).grown hgrow hs5 (fun q hq => (HO5.out.lt q hq).1)
          have hx6 := HR.out.b0.below hbz6 HR.out.b0.lt
          have hz6 := HR.out.b2.below hbz6 HR.out.b2.lt
          obtain ⟨W7, hW7⟩ : ∃ W7, (w6.setCell ⟨w.heap.size, 1, none⟩ (.slice va6 (l.length + 1) vc6)).setCell ⟨w.heap.size, 2, none⟩ (.int .i64 ((allocs : Int) + 1)) = W7 := ⟨_, rfl⟩
          have hx7 : Box W7 w.heap.size RH #[.int .i64 cap, .slice va6 (l.length + 1) vc6, .int .i64 ((allocs : Int) + 1)] := by rw [← hW7]; exact (hx6.put 1 _).put 2 _
          have hz7 : Box W7 (w.heap.size + 2) RH #[.int .i64 0, .slice none 0 0, .int .i64 0] := by rw [← hW7]; exact (hz6.far (by show w.heap.size ≠ _; omega) _).far (by show w.heap.size ≠ _; omega) _
          have ho7 : W7.ownsRow W0.heap.size RC 4 (.slice va6 (l.length + 1) vc6) (l.length + 1) (vs ++ [.int .i64 j, .int .i64 x.tag, .int .i64 x.n, .slice na x.l.length nc]) := by
            rw [← hW7]
            exact own_far (own_far hown' hx6 (by decide) 1 _) (hx6.put 1 _) (by decide) 2 _
          have hbw7 : Below w.heap.size w W7 := by rw [← hW7]; exact (hbw6.setCell (p := ⟨w.heap.size, 1, none⟩) (Nat.le_refl _) _).setCell (p := ⟨w.heap.size, 2, none⟩) (Nat.le_refl _) _
          obtain ⟨W8, hW8, hX8, hw8⟩ : ∃ W8, ((W7.setCell ⟨w.heap.size + 2, 0, none⟩ (.int .i64 cap)).setCell ⟨w.heap.size + 2, 1, none⟩ (.slice va6 (l.length + 1) vc6)).setCell ⟨w.heap.size + 2, 2, none⟩ (.int .i64 ((allocs : Int) + 1)) = W8 ∧ Box W8 (w.heap.size + 2) RH #[.int .i64 cap, .slice va6 (l.length + 1) vc6, .int .i64 ((allocs : Int) + 1)] ∧ Wrote W7 W8 (w.heap.size + 2) := ⟨_, rfl, ((hz7.put 0 _).put 1 _).put 2 _, (((Wrote.refl W7 _).set 0 _).set 1 _).set 2 _⟩
          have ho8 : W8.ownsRow W0.heap.size RC 4 (.slice va6 (l.length + 1) vc6) (l.length + 1) (vs ++ [.int .i64 j, .int .i64 x.tag, .int .i64 x.n, .slice na x.l.length nc]) := by
            rw [← hW8]
            exact own_far (own_far (own_far ho7 hz7 (by decide) 0 _) (hz7.put 0 _) (by decide) 1 _) ((hz7.put 0 _).put 1 _) (by decide) 2 _
          have hbw8 : Below w.heap.size w W8 := hw8.below hbw7 (by omega)
          have hcell : ∀ ad : Addr, ad.block < B → W8.cell? ad = wr.cell? ad := fun ad hl => by
            rw [hbw8.cell (Nat.lt_of_lt_of_le hl HBL.out), HBI.out.cell (Nat.lt_of_lt_of_le hl HBL.out)]
          have HE := Lib.hid (show OwnC B W8 (.slice va6 (l.length + 1) vc6) (l ++ [⟨j, x⟩]) from
            ⟨_, by rw [List.length_append]; exact own_base ho8 (Nat.le_trans HBL.out HR.out.below.size), (HROWE.out.keep hcell).snoc (r := ⟨j, x⟩) (HRD.out.frame (fun ad hl => hbw8.cell (Nat.lt_of_lt_of_le hl HBL.out)) fun _ q => q) hrn⟩)
          have HX8 := Lib.hid hX8
          have HBW8 := Lib.hid hbw8
          have u1 := hx6.cell 1
          have u2 : w6.cell? ⟨w.heap.size, 2, none⟩ = some (.int .i64 allocs) := hx6.cell 2
          have fu1 := hx6.free 1
          have fu2 := hx6.free 2
          have p0 := hx7.cell 0
          have p1 := hx7.cell 1
          have p2 := hx7.cell 2
          have s0 := hz7.cell 0
          have s1 := hz7.cell 1
          have s2 := hz7.cell 2
          have fs0 := hz7.free 0
          have fs1 := hz7.free 1
          have fs2 := hz7.free 2
          clear hown' hgrow hbw6 hbz6 hx6 hz6 hx7 hz7 ho7 hbw7 hX8 hw8 ho8 hbw8 hcell x0 x1 x2 y0 y1 y2 hW5
          go_wp2_with fail
          have v0 := HX8.out.cell 0
          have v1 := HX8.out.cell 1
          have v2 := HX8.out.cell 2
          refine bodyPost_ret (v := .tuple #[.agg #[.int .i64 cap, .slice va6 (l.length + 1) vc6, .int .i64 ((allocs : Int) + 1)], .int .i64 j, .int .i64 0]) (by simp [results, Try.results25, go_sem, v0, v1, v2]) rfl ?_
          exact ⟨_, rfl, HE.out, HBW8.out⟩
end Go.Proofs.Ytbkklnihgejeoaa.Hp
