/-
  CONTRACT of layer decl: New.
-/
import Derived.Test.YtgmgnnmmapdikaaDcP
namespace Go.Proofs.Ytgmgnnmmapdikaa.Dc
open Go.RowKit Mm Tm Mv Go.Maps Go.ChangeMaps Go.MapKept Go.WideMaps
set_option linter.unusedVariables false
set_option linter.unusedSimpArgs false
abbrev TF : TypeId := 30
abbrev faultV (e ln co : Int) : Value := .agg #[.int .i64 e, .int .i64 ln, .int .i64 co]
/-- what New answers -/
def NewPost (l : List DataS) (w : World) (e : Ending) (w' : World) : Prop :=
  ∃ v c ln co, e = .returned (.tuple #[v, faultV c ln co]) ∧ Below w.heap.size w w' ∧ ((v = .pointer none ∧ c ≠ 0 ∧ ¬ OKL l) ∨ (c = 0 ∧ ln = 0 ∧ co = 0 ∧ ∃ tb m1 m2 n, v = .pointer (some ⟨tb, 0, none⟩) ∧ TabM (w.heap.size + 1) w' tb m1 m2 n (consOf l) (dlOf l)))
theorem Box.cells3 {w : World} {g : Nat} {t : TypeId} {a0 a1 a2 : Value} (h : Box w g t #[a0, a1, a2]) : w.cell? ⟨g, 0, none⟩ = some a0 ∧ w.cell? ⟨g, 1, none⟩ = some a1 ∧ w.cell? ⟨g, 2, none⟩ = some a2 ∧ w.frozen? ⟨g, 0, none⟩ = false ∧ w.frozen? ⟨g, 1, none⟩ = false ∧ w.frozen? ⟨g, 2, none⟩ = false :=
  ⟨h.cell 0, h.cell 1, h.cell 2, h.free 0, h.free 1, h.free 2⟩
theorem Box.write3 {w : World} {g : Nat} {t : TypeId} {a0 a1 a2 : Value} (h : Box w g t #[a0, a1, a2]) (v0 v1 v2 : Value) : ∃ W, (((w.setCell ⟨g, 0, none⟩ v0).setCell ⟨g, 1, none⟩ v1).setCell ⟨g, 2, none⟩ v2) = W ∧ Box W g t #[v0, v1, v2] ∧ Wrote w W g :=
  ⟨_, rfl, ((h.put 0 v0).put 1 v1).put 2 v2, (((Wrote.refl w g).set 0 v0).set 1 v1).set 2 v2⟩
theorem len_next {cs0 : List ConS} {n : Nat} {x : DataS} (h1 : cs0.length ≤ 2 + n * 1000) (h2 : n ≤ 1000) (h3 : x.cons.length ≤ 1000) (j : Nat) : (cs0 ++ (consD x).take j).length ≤ 1002002 := by
  have h4 : ((consD x).take j).length ≤ x.cons.length := by rw [List.length_take, consD_len]; exact Nat.min_le_right _ _
  rw [List.length_append]
  omega
theorem TabM.lts {B : Nat} {w : World} {tb m1 m2 n : Nat} {cs : List ConS} {dl : List (ByteArray × Int)} (h : TabM B w tb m1 m2 n cs dl) : m1 < w.heap.size ∧ m2 < w.heap.size := by
  obtain ⟨F1, F2, vo, V, h1, _⟩ := h.ex
  exact ⟨h1.map1.lt, h1.map2.lt⟩
/-- the next constructor of a data type is added -/
theorem add_next {B : Nat} {w5 w6 : World} {tb m1 m2 N j : Nat} {cs0 : List ConS} {dl : List (ByteArray × Int)} {x : DataS} {y : CnS} {a6 : Option Addr} {c6 : Nat} {F : FM} (h : TabM B w6 tb m1 m2 (N + 2 * (cs0 ++ (consD x).take j).length) (cs0 ++ (consD x).take j) dl) (hin : (x.name, (x.params.length : Int)) ∈ dl) (htag : (ofD (cs0 ++ (consD x).take j) x.name).length = j)
    (hN : N ≤ 1000000) (hlen : (cs0 ++ (consD x).take j).length ≤ 1002002) (hs : y.name.size ≤ 9223372036854775807) (hnew : ∀ z ∈ cs0 ++ (consD x).take j, z.name ≠ y.name) (ho : OwnT w5.heap.size TT w6 (.slice a6 (Tys.ofL y.fields).len c6) (numK F (Tys.ofL y.fields)).toL) (hB : B ≤ w5.heap.size) (hfy : y.fields.length * 56 ≤ 140737488355328)
    (hF : placeF x.params = F) (hct : (consD x).take (j + 1) = (consD x).take j ++ [conD x (y, j)]) :
    Calls Try.prog 19 #[.pointer (some ⟨tb, 0, none⟩), .string x.name, .string y.name, .slice a6 (Tys.ofL y.fields).len c6] w6 fun e w' => e = .returned (.tuple #[]) ∧ TabM B w' tb m1 m2 (N + 2 * (cs0 ++ (consD x).take (j + 1)).length) (cs0 ++ (consD x).take (j + 1)) dl ∧ Keeps m1 m2 w6 w' ∧ Below B w6 w' := by
  subst hF
  have hr := ho.reads
  rw [numK_toL, Tys.toL_ofL] at hr
  have := h.addcon (of := x.name) (nm := y.name) (p := x.params.length) (a := a6) (c := c6) (fl := y.fields.map (numX (placeF x.params))) hin (by omega) (by omega) hs hnew (hr.mono fun b hZ => ⟨Nat.le_trans hB hZ.1, hZ.2⟩) (by rw [List.length_map]; exact hfy)
  rw [htag] at this
  rw [show (y.fields.map (numX (placeF x.params))).length = (Tys.ofL y.fields).len by rw [List.length_map, Tys.len_ofL]] at this
  refine this.mono ?_
  rintro e w' ⟨h1, h2, h3, h4⟩
  rw [hct, ← List.append_assoc]
  refine ⟨h1, ?_, h3, h4⟩
  have e : N + 2 * (cs0 ++ (consD x).take j).length + 2 = N + 2 * (cs0 ++ (consD x).take j ++ [conD x (y, j)]).length := by
    generalize cs0 ++ (consD x).take j = L
    rw [List.length_append]
    simp only [List.length_cons, List.length_nil]
    omega
  rw [← e]
  exact h2
theorem newT {w wr W : World} {tb m1 m2 n : Nat} {cs : List ConS} {dl : List (ByteArray × Int)} (h : TabM (w.heap.size + 1) wr tb m1 m2 n cs dl) (hw : Wrote wr W w.heap.size) : TabM (w.heap.size + 1) W tb m1 m2 n cs dl := by
  have hne : ∀ {b}, w.heap.size + 1 ≤ b → W.heap[b]? = wr.heap[b]? := fun {b} hb => hw.block b (by omega)
  obtain ⟨F1, F2, vo, V, h1, h2, h3, h4, h5, h6⟩ := h.ex
  have own : ∀ {v : Value} {k : Nat} {xs : List Value}, wr.ownsRow (w.heap.size + 1) TS 1 v k xs → W.ownsRow (w.heap.size + 1) TS 1 v k xs := by
    rintro v k xs ⟨k1, k2⟩
    refine ⟨k1, ?_⟩
    rcases k2 with k2 | ⟨g, cap, cur, q1, q2, q3, q4⟩
    · exact .inl k2
    · exact .inr ⟨g, cap, cur, q1, q2, (hne q2).trans q3, q4⟩
  have map : ∀ {b : Nat} {F : FM} {k : Nat}, w.heap.size + 1 ≤ b → MapIs wr Try.prog TS b k F → MapIs W Try.prog TS b k F := by
    rintro b F k hb ⟨D, ⟨es, clock, k1, k2, k3, k4⟩, q⟩
    exact ⟨D, ⟨es, clock, (hne hb).trans k1, k2, k3, k4⟩, q⟩
  exact ⟨⟨F1, F2, vo, V, ⟨(hne h1.btb).trans h1.box, h1.btb, h1.bm1, h1.bm2, h1.ne, map h1.bm1 h1.map1, map h1.bm2 h1.map2, own h1.ord, fun s => own (h1.row s), h1.sepo, h1.sep⟩, h2, h3,
    fun x hx => (h4 x hx).frame (fun ad hZ => hw.cell ad (by have := hZ.1; omega)) fun b hZ => ⟨hZ.1, hZ.2.same (hne hZ.1)⟩, h5, h6⟩, h.dnd, h.cnd, h.of, h.dsz⟩
set_option maxRecDepth 100000 in
set_option maxHeartbeats 8000000 in
theorem new_any {a : Option Addr} {c0 : Nat} {l : List DataS} (w : World) (h : RdD (· < w.heap.size) w a l) (hl : l.length ≤ 1000) (hc : ∀ d ∈ l, d.cons.length ≤ 1000 ∧ d.params.length ≤ 1000) :
    Calls Try.prog 8 #[.slice a l.length c0] w (NewPost l w) := by
  have HD := Lib.hid h
  have HC := Lib.hid hc
  have HCL := Lib.hid (show ∀ i, (consOf (l.take i)).length ≤ 2 + l.length * 1000 from fun i => Nat.le_trans (consOf_len fun d hd => (hc d (List.mem_of_mem_take hd)).1) (by rw [List.length_take]; have : min i l.length ≤ l.length := Nat.min_le_right _ _; omega))
  have HB0 := Lib.hid ((Below.refl w.heap.size w).alloc (Nat.le_refl _) (.cells #[.int .i64 0, .int .i64 0, .int .i64 0] TF))
  have HX0 := Lib.hid (Box.new w #[.int .i64 0, .int .i64 0, .int .i64 0] TF)
  have HZ0 := Lib.hid (show (w.alloc (.cells #[.int .i64 0, .int .i64 0, .int .i64 0] TF)).heap.size = w.heap.size + 1 by simp)
  have HA := Lib.hid (always_any (w.alloc (.cells #[.int .i64 0, .int .i64 0, .int .i64 0] TF)))
  clear h hc
  go_enter Try.func8, Try.ntmps8
  go_wp2_with fail
  refine HA.out.mono ?_
  rintro e w1 ⟨tb, m1, m2, rfl, ht1, hb1⟩
  rw [HZ0.out] at ht1 hb1
  have HT1 := Lib.hid ht1
  have HBa := Lib.hid hb1
  have HX1 := Lib.hid (HX0.out.below hb1 (by omega))
  have HBw := Lib.hid (HB0.out.trans (hb1.mono (by omega)))
  have hz1 := hb1.size
  rw [HZ0.out] at hz1
  clear ht1 hb1 HA
  go_wp2_with fail
  go_loopg [17] l.length (fun d v wr => ∃ k : Nat, k + d = l.length ∧ v = .int .i64 k ∧ TabM (w.heap.size + 1) wr tb m1 m2 (10 + k) [cFalse, cTrue] (dlOf (l.take k)) ∧ Below (w.heap.size + 1) w1 wr)
  case atStart => exact ⟨0, by omega, rfl, HT1.out, Below.refl _ _⟩
  case round =>
    obtain ⟨k, hk, rfl, ht, hb⟩ := hrel
    have HK := Lib.hid hk
    have HT := Lib.hid ht
    have HB := Lib.hid hb
    have hkle : k ≤ l.length := by omega
    have hzB := hb.size
    have htb := ht.lt
    clear hk ht hb
    by_cases hlt : k < l.length
    · have hlt' : (k : Int) < l.length := by omega
      have hx := ((HD.out k l[k] (List.getElem?_eq_getElem hlt)).below HBw.out (fun b hb => hb)).below HB.out (fun b hb => by omega)
      have HT' := Lib.hid (show dlOf (l.take (k + 1)) = dlOf (l.take k) ++ [(l[k].name, (l[k].params.length : Int))] by rw [List.take_add_one, List.getElem?_eq_getElem hlt]; exact dlOf_snoc _ _)
      have HCX := Lib.hid (HC.out _ (List.getElem_mem hlt))
      have HOK := Lib.hid (show OKL l → (∀ d ∈ dlOf (l.take k), d.1 ≠ l[k].name) ∧ l[k].params.Nodup from fun h => ⟨dl_new h hlt, h.params _ (List.getElem_mem hlt)⟩)
      generalize l[k] = x at hx HT' HCX HOK
      obtain ⟨ad, ap, cp, ac, cc, ln, co, rfl, hz, x0, x1, x2, x3, x4, hs, hps, _⟩ := hx
      have HXd := Lib.hid (Box.new wr #[.string x.name, .slice ap x.params.length cp, .slice ac x.cons.length cc, .int .i64 ln, .int .i64 co] TD)
      have HBd := Lib.hid ((Below.refl wr.heap.size wr).alloc (Nat.le_refl _) (.cells #[.string x.name, .slice ap x.params.length cp, .slice ac x.cons.length cc, .int .i64 ln, .int .i64 co] TD))
      have HAD := Lib.hid ((HT.out.here HBd.out).adddata (cp := cp) (ac := ac) (nc := x.cons.length) (cc := cc) (ln := ln) (co := co) hs (by omega) ((hps.below HBd.out (fun b hb => by omega)).mono fun b hb => by omega) HCX.out.2)
      have HBW := Lib.hid (HB.out.alloc (by omega) (.cells #[.string x.name, .slice ap x.params.length cp, .slice ac x.cons.length cc, .int .i64 ln, .int .i64 co] TD))
      clear hps
      go_wp2_with fail
      refine HAD.out.mono ?_
      rintro e w3 ⟨c3, rfl, hb3, hk3, hok3, hc3⟩
      have HOK3 := Lib.hid hok3
      clear hok3
      have HB3 := Lib.hid (HBW.out.trans hb3)
      have HX3 := Lib.hid (hk3.box HXd.out (by decide) (by decide))
      have HC3 := Lib.hid hc3
      clear hb3 hk3 hc3 HAD
      by_cases he : c3 = 0
      · subst he
        have HT3 := Lib.hid (show TabM (w.heap.size + 1) w3 tb m1 m2 (10 + (k + 1)) [cFalse, cTrue] (dlOf (l.take (k + 1))) by rw [HT'.out]; exact (HC3.out rfl).2)
        go_wp2_with fail
        go_roundg (l.length - (k + 1))
        case measure => have := HK.out; omega
        case rel => exact ⟨k + 1, by have := HK.out; omega, by go_num, HT3.out, HB3.out⟩
      · have q3 : (c3 != 0) = true := by simpa using he
        have HE := Lib.hid he
        clear he
        go_wp2_with fail
        obtain ⟨y0, y1, y2, y3, y4, _⟩ := HX3.out.cells5
        have hXr := HX1.out.below HB3.out (Nat.lt_succ_self _)
        obtain ⟨r0, r1, r2, s0, s1, s2⟩ := Box.cells3 hXr
        obtain ⟨W, hW, hbx, hwr⟩ := Box.write3 hXr (.int .i64 c3) (.int .i64 ln) (.int .i64 co)
        obtain ⟨q0, q1, q2, _⟩ := Box.cells3 hbx
        have HW := Lib.hid hwr
        have Q0 := Lib.hid q0
        have Q1 := Lib.hid q1
        have Q2 := Lib.hid q2
        have HBf := Lib.hid (HBw.out.trans (HB3.out.mono (Nat.le_succ w.heap.size)))
        clear hXr hbx hwr q0 q1 q2 x0 x1 x2 x3 x4
        go_region
        all_goals go_wp2_with fail
        all_goals refine bodyPost_ret (v := .tuple #[.pointer none, faultV c3 ln co]) (by simp [results, Try.results8, go_sem, Q0.out, Q1.out, Q2.out]) rfl ?_
        all_goals exact ⟨_, c3, ln, co, rfl, (HW.out.below HBf.out (Nat.le_refl _)).drew, .inl ⟨rfl, HE.out, fun h => HE.out (HOK3.out (HOK.out h))⟩⟩
    · have hge : ¬ (k : Int) < l.length := by omega
      have hkn : k = l.length := by omega
      have HT2 := Lib.hid (show TabM (w.heap.size + 1) wr tb m1 m2 (10 + l.length) [cFalse, cTrue] (dlOf l) by have := HT.out; rw [hkn, List.take_length] at this; exact this)
      have HBl := Lib.hid (HBw.out.trans (HB.out.mono (by omega)))
      have HXl := Lib.hid (HX1.out.below HB.out (by omega))
      have hzl : w.heap.size + 1 ≤ wr.heap.size := by omega
      clear hkn HT HB HX1 HT1 HBw hzB htb
      go_wp2_with fail
      obtain ⟨wo, rfl⟩ : ∃ wo : World, wo = wr := ⟨_, rfl⟩
      go_loopg [33] l.length (fun d v wr => ∃ i : Nat, i + d = l.length ∧ v = .int .i64 i ∧ TabM (w.heap.size + 1) wr tb m1 m2 (10 + l.length + 2 * (consOf (l.take i)).length) (consOf (l.take i)) (dlOf l) ∧ Below (w.heap.size + 1) wo wr)
      case atStart => exact ⟨0, by omega, rfl, (by rw [List.take_zero]; exact HT2.out.mono (by omega)), Below.refl _ _⟩
      case round =>
        obtain ⟨i, hi, rfl, ht, hb⟩ := hrel
        have HI := Lib.hid hi
        have HT := Lib.hid ht
        have HB := Lib.hid hb
        have hile : i ≤ l.length := by omega
        have hzB := hb.size
        have htb := ht.lt
        clear hi ht hb
        by_cases hlt : i < l.length
        · have hlt' : (i : Int) < l.length := by omega
          have hx := ((HD.out i l[i] (List.getElem?_eq_getElem hlt)).below HBl.out (fun b hb => hb)).below HB.out (fun b hb => by omega)
          have HT' := Lib.hid (show consOf (l.take (i + 1)) = consOf (l.take i) ++ consD l[i] by rw [List.take_add_one, List.getElem?_eq_getElem hlt]; exact consOf_snoc _ _)
          have HCX := Lib.hid (HC.out _ (List.getElem_mem hlt))
          have HTAG := Lib.hid (fun j hj => tag_is HT.out.dnd hlt j hj)
          have HIN := Lib.hid (show (l[i].name, (l[i].params.length : Int)) ∈ dlOf l from List.mem_append.2 (.inr (List.mem_map.2 ⟨_, List.getElem_mem hlt, rfl⟩)))
          have HOK := Lib.hid (show OKL l → (∀ c ∈ l[i].cons, OKD (dlOf l) (placeF l[i].params) (Tys.ofL c.fields)) ∧ ∀ j (hj : j < l[i].cons.length), ∀ z ∈ consOf (l.take i) ++ (consD l[i]).take j, z.name ≠ l[i].cons[j].name from fun h => ⟨h.types _ (List.getElem_mem hlt), fun j hj => con_new h hlt hj⟩)
          generalize l[i] = x at hx HT' HCX HTAG HIN HOK
          obtain ⟨ad, ap, cp, ac, cc, ln, co, rfl, hz, x0, x1, x2, x3, x4, hs, hps, hcs⟩ := hx
          have HCS := Lib.hid hcs
          have HXd := Lib.hid (Box.new wr #[.string x.name, .slice ap x.params.length cp, .slice ac x.cons.length cc, .int .i64 ln, .int .i64 co] TD)
          have HBd := Lib.hid ((Below.refl wr.heap.size wr).alloc (Nat.le_refl _) (.cells #[.string x.name, .slice ap x.params.length cp, .slice ac x.cons.length cc, .int .i64 ln, .int .i64 co] TD))
          have HPL := Lib.hid (places_any (a := ap) (c := cp) (l := x.params) _ ((hps.below HBd.out (fun b hb => by omega)).mono fun b hb => by simp; omega) HCX.out.2)
          have HZd := Lib.hid (show (wr.alloc (.cells #[.string x.name, .slice ap x.params.length cp, .slice ac x.cons.length cc, .int .i64 ln, .int .i64 co] TD)).heap.size = wr.heap.size + 1 by simp)
          clear hps hcs
          go_wp2_with fail
          refine HPL.out.mono ?_
          rintro e w4 ⟨mb, rfl, hmb, hmp, hb4, _⟩
          have HB4 := Lib.hid (HBd.out.trans (hb4.mono (by have := HZd.out; omega)))
          have HX4 := Lib.hid (HXd.out.below hb4 (by have := HZd.out; omega))
          have HM4 := Lib.hid hmp
          have HT4 := Lib.hid (HT.out.here HB4.out)
          have HMB := Lib.hid (show wr.heap.size + 1 ≤ mb by have := HZd.out; omega)
          have hz4 := hb4.size
          rw [HZd.out] at hz4
          clear hmb hmp hb4 HPL
          obtain ⟨y0, y1, y2, y3, y4, _⟩ := HX4.out.cells5
          go_wp2_with fail
          have HF := Lib.hid (show IntF (placeF x.params) from fun s => placeF_int x.params s)
          obtain ⟨w2, rfl⟩ : ∃ w2 : World, w2 = wr := ⟨_, rfl⟩
          obtain ⟨F, hFe⟩ : ∃ F, placeF x.params = F := ⟨_, rfl⟩
          have HFE := Lib.hid hFe
          rw [hFe] at HM4 HF
          have hcl := HCX.out.1
          clear hFe x0 x1 x2 x3 x4
          go_loopg [43] x.cons.length (fun d v wr => ∃ j : Nat, j + d = x.cons.length ∧ v = .int .i64 j ∧ TabM (w.heap.size + 1) wr tb m1 m2 (10 + l.length + 2 * (consOf (l.take i) ++ (consD x).take j).length) (consOf (l.take i) ++ (consD x).take j) (dlOf l) ∧ Below (w.heap.size + 1) w2 wr ∧
            Box wr w2.heap.size TD #[.string x.name, .slice ap x.params.length cp, .slice ac x.cons.length cc, .int .i64 ln, .int .i64 co] ∧ MapIs wr Try.prog TS mb x.params.length F)
          case atStart => exact ⟨0, by omega, rfl, (by rw [List.take_zero, List.append_nil]; exact HT4.out), HB4.out.mono (by omega), HX4.out, HM4.out⟩
          case round =>
            obtain ⟨j, hj, rfl, ht, hb, hxd, hmp⟩ := hrel
            have HJ := Lib.hid hj
            have HTj := Lib.hid ht
            have HBj := Lib.hid hb
            have HXj := Lib.hid hxd
            have HMj := Lib.hid hmp
            have hjle : j ≤ x.cons.length := by omega
            have hzBj := hb.size
            have hlt2 := hxd.lt
            clear hj ht hb hxd hmp
            by_cases hjt : j < x.cons.length
            · have hjt' : (j : Int) < x.cons.length := by omega
              have hy := ((HCS.out j x.cons[j] (List.getElem?_eq_getElem hjt)).below HBj.out (fun b hb => by omega))
              have HCT := Lib.hid (consD_take x hjt)
              have HTAGJ := Lib.hid (HTAG.out j hjle)
              have HOKJ := Lib.hid (show OKL l → (∀ z ∈ consOf (l.take i) ++ (consD x).take j, z.name ≠ x.cons[j].name) ∧ OKD (dlOf l) (placeF x.params) (Tys.ofL x.cons[j].fields) from fun h => ⟨(HOK.out h).2 j hjt, (HOK.out h).1 _ (List.getElem_mem hjt)⟩)
              rw [HFE.out] at HOKJ
              generalize x.cons[j] = y at hy HCT HOKJ
              obtain ⟨ad2, af, cf, ln2, co2, rfl, hz2, x0, x1, x2, x3, hsy, hfy, hry⟩ := hy
              have HRr := Lib.hid hry
              have HXc := Lib.hid (Box.new wr #[.string y.name, .slice af y.fields.length cf, .int .i64 ln2, .int .i64 co2] 55)
              have HBc := Lib.hid ((Below.refl wr.heap.size wr).alloc (Nat.le_refl _) (.cells #[.string y.name, .slice af y.fields.length cf, .int .i64 ln2, .int .i64 co2] 55))
              have HRc := Lib.hid (hry.below HBc.out (fun b hb => by omega))
              have HWR := Lib.hid ((HTj.out.here HBc.out).wrong (af := af) (cf := cf) (ln := ln2) (co := co2) (fl := y.fields) (HMj.out.below HBc.out HMj.out.lt) HF.out hsy (HRc.out.mono fun b hb => by simp; omega) hfy)
              have HLEN := Lib.hid (len_next (HCL.out i) hl HCX.out.1 j)
              have HLT := Lib.hid HT.out.lts
              have HZc := Lib.hid (show (wr.alloc (.cells #[.string y.name, .slice af y.fields.length cf, .int .i64 ln2, .int .i64 co2] 55)).heap.size = wr.heap.size + 1 by simp)
              clear hry
              go_wp2_with fail
              refine HWR.out.mono ?_
              rintro e w5 ⟨c5, rfl, hb5, hok5, hc5⟩
              have HOK5 := Lib.hid hok5
              clear hok5
              have HB5 := Lib.hid (HBc.out.trans (hb5.mono (by have := HZc.out; omega)))
              have HX5 := Lib.hid (HXc.out.below hb5 (by have := HZc.out; omega))
              have HC5 := Lib.hid hc5
              have hz5 := hb5.size
              rw [HZc.out] at hz5
              clear hb5 hc5 HWR
              obtain ⟨u0, u1, u2, u3, _⟩ := HX5.out.cells4
              by_cases he : c5 = 0
              · subst he
                go_wp2_with fail
                have HT5 := Lib.hid (HTj.out.here HB5.out)
                have HX5d := Lib.hid (HXj.out.below HB5.out hlt2)
                have HR5 := Lib.hid ((HRr.out.below HB5.out (fun b hb => by omega)).mono (Z' := (· < w5.heap.size)) fun b hb => by omega)
                have HM5 := Lib.hid (HMj.out.below HB5.out HMj.out.lt)
                have HNU := Lib.hid (numbered_any HF.out _ (Tys.ofL y.fields) (Nat.le_refl _) af cf w5.drew HR5.out.drew (by rw [Tys.len_ofL]; exact hfy) HM5.out)
                rw [Tys.len_ofL] at HNU
                have v0 : w5.cell? ⟨w2.heap.size, 0, none⟩ = some (.string x.name) := HX5d.out.cell 0
                go_region_held3 (fun w' => w'.cell? ⟨w2.heap.size, 0, none⟩ = some (.string x.name) ∧ w'.cell? ⟨wr.heap.size, 0, none⟩ = some (.string y.name) ∧ w'.cell? ⟨wr.heap.size, 1, none⟩ = some (.slice af y.fields.length cf))
                  (first
                    | exact ⟨v0, u0, u1⟩
                    | exact ⟨g0, g1, g2⟩
                    | exact ⟨k0, k1, k2⟩
                    | go_keep)
                  (first
                    | (go_at_call 20; refine HNU.out.mono ?_; rintro e w6 ⟨a6, c6, rfl, ho6, hb6⟩; replace hb6 : Below w5.heap.size w5 w6 := ⟨hb6.os, hb6.tape, hb6.output, hb6.size, hb6.block⟩; have g0 := (hb6.cell (p := ⟨w2.heap.size, 0, none⟩) (by show w2.heap.size < w5.heap.size; omega)).trans v0; have g1 := (hb6.cell (p := ⟨wr.heap.size, 0, none⟩) (by show wr.heap.size < w5.heap.size; omega)).trans u0; have g2 := (hb6.cell (p := ⟨wr.heap.size, 1, none⟩) (by show wr.heap.size < w5.heap.size; omega)).trans u1)
                    | (go_at_call 19; refine (add_next (j := j) (HT5.out.here hb6) HIN.out HTAGJ.out (by omega) HLEN.out hsy (HC5.out trivial) ho6 (by show w.heap.size + 1 ≤ w5.heap.size; omega) hfy HFE.out HCT.out).mono ?_; rintro e w7 ⟨rfl, ht7, hk7, hb7⟩; have X7 := hk7.box (HX5d.out.below hb6 (by show w2.heap.size < w5.heap.size; omega)) (by decide) (by decide); have Y7 := hk7.box (HX5.out.below hb6 (by show wr.heap.size < w5.heap.size; omega)) (by decide) (by decide); have M7 := hk7.map (HM5.out.below hb6 HM5.out.lt) (by have := HLT.out; have := HMB.out; omega) (by have := HLT.out; have := HMB.out; omega); have k0 : w7.cell? ⟨w2.heap.size, 0, none⟩ = some (.string x.name) := X7.cell 0; have k1 : w7.cell? ⟨wr.heap.size, 0, none⟩ = some (.string y.name) := Y7.cell 0; have k2 : w7.cell? ⟨wr.heap.size, 1, none⟩ = some (.slice af y.fields.length cf) := Y7.cell 1))
                have HT7 := Lib.hid ht7
                have HB7 := Lib.hid (HBj.out.trans ((HB5.out.mono (B' := w.heap.size + 1) (by omega)).trans ((hb6.mono (B' := w.heap.size + 1) (by show w.heap.size + 1 ≤ w5.heap.size; omega)).trans hb7)))
                have HX7 := Lib.hid X7
                have HM7 := Lib.hid M7
                clear ht7 hk7 hb7 X7 Y7 M7 k0 k1 k2 g0 g1 g2 v0 u0 u1 u2 u3 ho6 hb6
                go_wp2_with fail
                go_roundg (x.cons.length - (j + 1))
                case measure => have := HJ.out; omega
                case rel => exact ⟨j + 1, by have := HJ.out; omega, by go_num, HT7.out, HB7.out, HX7.out, HM7.out⟩
              · have q5 : (c5 != 0) = true := by simpa using he
                have HE := Lib.hid he
                clear he
                go_wp2_with fail
                have hb0 := (HB.out.trans HBj.out).trans (HB5.out.mono (B' := w.heap.size + 1) (by omega))
                have hXr := HXl.out.below hb0 (Nat.lt_succ_self _)
                obtain ⟨r0, r1, r2, s0, s1, s2⟩ := Box.cells3 hXr
                obtain ⟨W, hW, hbx, hwr⟩ := Box.write3 hXr (.int .i64 c5) (.int .i64 ln2) (.int .i64 co2)
                obtain ⟨q0, q1, q2, _⟩ := Box.cells3 hbx
                have HW := Lib.hid hwr
                have Q0 := Lib.hid q0
                have Q1 := Lib.hid q1
                have Q2 := Lib.hid q2
                have HBf := Lib.hid (HBl.out.trans (hb0.mono (Nat.le_succ w.heap.size)))
                clear hb0 hXr hbx hwr q0 q1 q2 x0 x1 x2 x3 y0 y1 y2 y3 y4
                go_region
                all_goals go_wp2_with fail
                all_goals refine bodyPost_ret (v := .tuple #[.pointer none, faultV c5 ln2 co2]) (by simp [results, Try.results8, go_sem, Q0.out, Q1.out, Q2.out]) rfl ?_
                all_goals exact ⟨_, c5, ln2, co2, rfl, (HW.out.below HBf.out (Nat.le_refl _)).drew, .inl ⟨rfl, HE.out, fun h => HE.out (HOK5.out (HOKJ.out h))⟩⟩
            · have hge2 : ¬ (j : Int) < x.cons.length := by omega
              have hjn : j = x.cons.length := by omega
              have HT5 := Lib.hid (show TabM (w.heap.size + 1) wr tb m1 m2 (10 + l.length + 2 * (consOf (l.take (i + 1))).length) (consOf (l.take (i + 1))) (dlOf l) by
                have := HTj.out
                rw [hjn, ← consD_len x, List.take_length, ← HT'.out] at this
                exact this)
              clear hjn
              go_wp2_with fail
              go_roundg (l.length - (i + 1))
              case measure => have := HI.out; omega
              case rel => exact ⟨i + 1, by have := HI.out; omega, by go_num, HT5.out, HB.out.trans HBj.out⟩
        · have hge : ¬ (i : Int) < l.length := by omega
          have hin : i = l.length := by omega
          have HT3 := Lib.hid (show TabM (w.heap.size + 1) wr tb m1 m2 (10 + l.length + 2 * (consOf l).length) (consOf l) (dlOf l) by have := HT.out; rw [hin, List.take_length] at this; exact this)
          clear hin
          have hXr := HXl.out.below HB.out (by omega)
          obtain ⟨r0, r1, r2, s0, s1, s2⟩ := Box.cells3 hXr
          obtain ⟨W, hW, hbx, hwr⟩ := Box.write3 hXr (.int .i64 0) (.int .i64 0) (.int .i64 0)
          obtain ⟨q0, q1, q2, _⟩ := Box.cells3 hbx
          have HW := Lib.hid hwr
          have Q0 := Lib.hid q0
          have Q1 := Lib.hid q1
          have Q2 := Lib.hid q2
          have HBf := Lib.hid (HBl.out.trans (HB.out.mono (by omega)))
          clear hXr hbx hwr q0 q1 q2
          go_wp2_with fail
          refine bodyPost_ret (v := .tuple #[.pointer (some ⟨tb, 0, none⟩), faultV 0 0 0]) (by simp [results, Try.results8, go_sem, Q0.out, Q1.out, Q2.out]) rfl ?_
          exact ⟨_, 0, 0, 0, rfl, HW.out.below HBf.out (Nat.le_refl _), .inr ⟨rfl, rfl, rfl, tb, m1, m2, _, rfl, newT HT3.out HW.out⟩⟩
end Go.Proofs.Ytgmgnnmmapdikaa.Dc
