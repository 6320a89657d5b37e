/-
  THE LAW HeapPlays: whatever is put into a heap, changed and collected: each answer is the document's.
-/
import Derived.Test.YtbkklnihgejeoaaHpZd
import Derived.Deep.DeepCutAuto
namespace Go.Proofs.Ytbkklnihgejeoaa.HeapPlays
open Go.RowKit Mm Tm Hp Ha
set_option linter.unusedVariables false
set_option linter.unusedSimpArgs false
/-- three cells of a box of one's own are written -/
theorem put3 {B h c n al g : Nat} {w w3 : World} {S : Hs} {l : List Rc} {a : Option Addr} {k cc : Nat} {cs : Array Value} (t : Tw B h c n w3 S l (.slice a k cc)) (hB : B ≤ w.heap.size) (hg : w.heap.size ≤ g) (hk : KH B w w3) (hz : Box w3 g RH cs) :
    ∃ W3, ((w3.setCell ⟨g, 0, none⟩ (.int .i64 c)).setCell ⟨g, 1, none⟩ (.slice a k cc)).setCell ⟨g, 2, none⟩ (.int .i64 al) = W3 ∧ (cs.size = 3 → Box W3 g RH #[.int .i64 c, .slice a k cc, .int .i64 al]) ∧ Tw B h c n W3 S l (.slice a k cc) ∧ KH B w W3 := by
  have hkk : Kept (fun b => b = g) w3 (((w3.setCell ⟨g, 0, none⟩ (.int .i64 c)).setCell ⟨g, 1, none⟩ (.slice a k cc)).setCell ⟨g, 2, none⟩ (.int .i64 al)) := kept_set (kept_set (kept_set (Kept.refl _ w3) 0 _) 1 _) 2 _
  obtain ⟨vs, ho, hrow⟩ := t.own
  refine ⟨_, rfl, fun hcs => ?_, ⟨t.hp.far hz (by decide) (by decide) (by decide) (by decide) hkk, t.pl, ⟨vs, own_far (own_far (own_far ho hz (by decide) 0 _) (hz.put 0 _) (by decide) 1 _) ((hz.put 0 _).put 1 _) (by decide) 2 _, hrow.keep fun ad hl => World.cell?_of_block (hkk.block ad.block (Nat.lt_of_lt_of_le hl t.le) (by intro e; omega))⟩, t.sim, Nat.le_trans t.le hkk.size⟩, ?_⟩
  · obtain ⟨u0, u1, u2, rfl⟩ : ∃ u0 u1 u2, cs = #[u0, u1, u2] := ⟨cs[0], cs[1], cs[2], by
      apply Array.ext
      · simpa using hcs
      · intro i h1 h2
        match i, h1, h2 with
        | 0, _, _ => rfl
        | 1, _, _ => rfl
        | 2, _, _ => rfl⟩
    exact ((hz.put 0 (.int .i64 c)).put 1 (.slice a k cc)).put 2 (.int .i64 al)
  · exact ((hk.setCell (a := ⟨g, 0, none⟩) (by show B ≤ g; omega) (fun q => by exact absurd q (by show ¬ g < w.heap.size; omega)) _).setCell (a := ⟨g, 1, none⟩) (by show B ≤ g; omega) (fun q => by exact absurd q (by show ¬ g < w.heap.size; omega)) _).setCell (a := ⟨g, 2, none⟩) (by show B ≤ g; omega) (fun q => by exact absurd q (by show ¬ g < w.heap.size; omega)) _
/-- what a cut behind 'next, ok := step(h, r, o)' knows -/
def CutB (B h c n : Nat) (wr : World) (v9 v10 : Value) (wx : World) : Prop := ∃ nb S' l' a' cc', v9 = .pointer (some ⟨nb, 0, none⟩) ∧ v10 = .bool true ∧ wr.heap.size ≤ nb ∧ Box wx nb RH #[.int .i64 c, .slice a' l'.length cc', .int .i64 S'.allocs] ∧ Tw B h c n wx S' l' (.slice a' l'.length cc') ∧ KH B wr wx
theorem CutB.here {B h c n : Nat} {wr w5 : World} {S' : Hs} {l' : List Rc} {a' : Option Addr} {cc' : Nat} (t : Tw B h c n w5 S' l' (.slice a' l'.length cc')) (hk : KH B wr w5) :
    CutB B h c n wr (.pointer (some ⟨w5.heap.size, 0, none⟩)) (.bool true) (w5.alloc (.cells #[.int .i64 c, .slice a' l'.length cc', .int .i64 S'.allocs] RH)) :=
  ⟨_, S', l', a', cc', rfl, rfl, KG.size hk, Box.new _ _ _, t.below ((Below.refl _ _).alloc (Nat.le_refl _) _), hk.alloc _⟩
theorem CutB.there {B h c n : Nat} {wr w5 : World} {S' : Hs} {l' : List Rc} {a' : Option Addr} {cc' : Nat} (t : Tw B h c n w5 S' l' (.slice a' l'.length cc')) (hk : KH B wr w5) (hB : B ≤ wr.heap.size) (hx : Box w5 wr.heap.size RH #[.int .i64 0, .slice none 0 0, .int .i64 0]) :
    CutB B h c n wr (.pointer (some ⟨wr.heap.size, 0, none⟩)) (.bool true) (((w5.setCell ⟨wr.heap.size, 0, none⟩ (.int .i64 c)).setCell ⟨wr.heap.size, 1, none⟩ (.slice a' l'.length cc')).setCell ⟨wr.heap.size, 2, none⟩ (.int .i64 S'.allocs)) := by
  obtain ⟨W3, rfl, h1, h2, h3⟩ := put3 (al := S'.allocs) t hB (Nat.le_refl _) hk hx
  exact ⟨_, S', l', a', cc', rfl, rfl, Nat.le_refl _, h1 rfl, h2, h3⟩
/-- behind some calls -/
structure L1 (w : World) (g c : Nat) (l : List HOp) (d : Nat) (i : Value) (wr : World) : Prop where
  mem : ∃ (k : Nat) (S : Hs) (L : List Rc) (a : Option Addr) (cc : Nat), k + d = l.length ∧ i = .int .i64 k ∧ Tw w.heap.size w.heap.size c k wr S L (.slice a L.length cc) ∧ Box wr g RH #[.int .i64 c, .slice a L.length cc, .int .i64 S.allocs]
  kept : KH w.heap.size w wr
set_option maxRecDepth 100000 in
set_option maxHeartbeats 16000000 in
theorem law (c : Int) (hc1 : -9223372036854775808 ≤ c) (hc2 : c ≤ 9223372036854775807) (a : Option Addr) (n lc : Nat) (hn : n ≤ 9223372036854775807) (l : List HOp) (w : World) (hr : l.length = n ∧ RdO (· < w.heap.size) w a l) :
    Calls Try.prog 3 #[.int .i64 c, .slice a n lc] w fun e w' => e = .returned (.bool true) ∧ Below w.heap.size w w' := by
  obtain ⟨rfl, hr⟩ := hr
  have HKN := Lib.hid (fun w => known_any w)
  have HRT := Lib.hid (fun w => right_any c w)
  have HFW := Lib.hid (fun w1 (hb : Below w.heap.size w w1) => few_any (c := lc) w1 (hr.below hb (fun b q => q)) hn)
  have HR := Lib.hid hr
  clear hr
  by_cases hrt : 1 ≤ c ∧ c ≤ 16777216
  case neg =>
    have HNW := Lib.hid (new_no c w (by omega))
    rw [show (decide (1 ≤ c) && decide (c ≤ 16777216)) = false by
      by_cases h1 : 1 ≤ c
      · rw [decide_eq_false (by omega : ¬ c ≤ 16777216), Bool.and_false]
      · rw [decide_eq_false h1, Bool.false_and]] at HRT
    clear hrt
    go_enter Try.func3, Try.ntmps3
    go_wp2_with fail
    with_reducible refine HNW.out.mono ?_
    rintro e w1 ⟨rfl, hb1⟩
    have HB1 := Lib.hid hb1
    clear hb1
    go_wp2_with fail
    refine (HRT.out _).mono ?_
    rintro e w' ⟨rfl, rfl⟩
    go_wp2_with fail
    refine (HRT.out _).mono ?_
    rintro e w' ⟨rfl, rfl⟩
    go_wp2_with fail
    refine (HRT.out _).mono ?_
    rintro e w' ⟨rfl, rfl⟩
    go_wp2_with fail
    refine (HKN.out _).mono ?_
    rintro e w2 ⟨rfl, hb⟩
    have HBE := Lib.hid (HB1.out.trans (hb.mono HB1.out.size))
    clear hb
    go_wp2_with fail
    go_ret
    exact ⟨rfl, HBE.out⟩
  obtain ⟨hr1, hr2⟩ := hrt
  rw [decide_eq_true hr1, decide_eq_true hr2, Bool.and_self] at HRT
  obtain ⟨c, rfl⟩ : ∃ n : Nat, c = n := ⟨c.toNat, by omega⟩
  have h3 : 1 ≤ c := by omega
  have h4 : c ≤ 16777216 := by omega
  have HNW := Lib.hid (new_any (fun _ => False) c w h3 h4)
  clear hc1 hc2 hr1 hr2
  go_enter Try.func3, Try.ntmps3
  go_wp2_with fail
  with_reducible refine HNW.out.mono ?_
  rintro e w1 ⟨rfl, hp1, hb1⟩
  have HF1 := Lib.hid (HFW.out w1 hb1)
  have HB1 := Lib.hid hb1
  have HP1 := Lib.hid hp1
  clear hb1 hp1
  go_wp2_with fail
  refine (HRT.out _).mono ?_
  rintro e w' ⟨rfl, rfl⟩
  by_cases hf : fewB l = true
  case neg =>
    have hf : fewB l = false := by simpa using hf
    rw [hf] at HF1
    clear hf
    go_wp2_with fail
    with_reducible refine HF1.out.mono ?_
    rintro e w' ⟨rfl, rfl⟩
    go_wp2_with fail
    refine (HRT.out _).mono ?_
    rintro e w' ⟨rfl, rfl⟩
    go_wp2_with fail
    refine (HRT.out _).mono ?_
    rintro e w' ⟨rfl, rfl⟩
    go_wp2_with fail
    refine (HKN.out _).mono ?_
    rintro e w2 ⟨rfl, hb⟩
    have HBE := Lib.hid (HB1.out.trans (hb.mono HB1.out.size))
    clear hb
    go_wp2_with fail
    go_ret
    exact ⟨rfl, HBE.out⟩
  rw [hf] at HF1
  obtain ⟨hlen, hlens⟩ := fewB_get hf
  have HLS := Lib.hid hlens
  clear hf hlens
  go_wp2_with fail
  with_reducible refine HF1.out.mono ?_
  rintro e w' ⟨rfl, rfl⟩
  have hbW1 : Below w1.heap.size w1 (w1.alloc (.cells #[.int .i64 c, .slice none 0 0, .int .i64 0] RH)) := (Below.refl w1.heap.size w1).alloc (Nat.le_refl _) _
  have hxW1 : Box (w1.alloc (.cells #[.int .i64 c, .slice none 0 0, .int .i64 0] RH)) w1.heap.size RH #[.int .i64 c, .slice none 0 0, .int .i64 0] := Box.new _ _ _
  have HL := Lib.hid (show L1 w w1.heap.size c l l.length (.int .i64 0) (w1.alloc (.cells #[.int .i64 c, .slice none 0 0, .int .i64 0] RH)) from
    ⟨⟨0, Hp.start c, [], none, 0, by omega, rfl, ⟨HP1.out.below hbW1, Pl.start h4, OwnC.nil _ _, sim_start c, Nat.le_trans HB1.out.size hbW1.size⟩, hxW1⟩, (KG.of_below HB1.out (Nat.le_refl _) : KH w.heap.size w w1).trans (KG.of_below hbW1 (Nat.le_refl _))⟩)
  have hgw : w.heap.size ≤ w1.heap.size := HB1.out.size
  clear hbW1 hxW1
  go_wp2_with fail
  go_loopg [8] l.length (fun d i wr => L1 w w1.heap.size c l d i wr)
  case atStart => exact HL.out
  case round =>
    obtain ⟨⟨k, S, L, ra, rc, hd, rfl, ht, hx⟩, hkh⟩ := hrel
    have HD := Lib.hid hd
    have HT := Lib.hid ht
    have HX := Lib.hid hx
    have HKH := Lib.hid hkh
    have hkl : k ≤ l.length := by omega
    have hgr : w1.heap.size < wr.heap.size := hx.lt
    have hll : L.length ≤ 400 := ht.llen (by omega)
    obtain ⟨x0, x1, x2⟩ : wr.cell? ⟨w1.heap.size, 0, none⟩ = some (.int .i64 c) ∧ wr.cell? ⟨w1.heap.size, 1, none⟩ = some (.slice ra L.length rc) ∧ wr.cell? ⟨w1.heap.size, 2, none⟩ = some (.int .i64 S.allocs) := ⟨hx.cell 0, hx.cell 1, hx.cell 2⟩
    by_cases hlt : k < l.length
    case neg =>
      have hge : ¬ (k : Int) < l.length := by omega
      clear hd ht hx hkh
      go_wp2_with fail
      clear x0 x1 x2
      obtain ⟨wq, hwq⟩ : ∃ q, q = wr := ⟨_, rfl⟩
      subst hwq
      go_loopg [11] L.length (fun d i wz => ∃ m : Nat, m + d = L.length ∧ i = .int .i64 m ∧ Below wq.heap.size wq wz)
      case atStart => exact ⟨0, by omega, rfl, Below.refl _ _⟩
      case round =>
        obtain ⟨m, hdm, rfl, hbz⟩ := hrel
        have HDM := Lib.hid hdm
        have HBZ := Lib.hid hbz
        have hml : m ≤ L.length := by omega
        obtain ⟨x0, x1, x2⟩ : wr.cell? ⟨w1.heap.size, 0, none⟩ = some (.int .i64 c) ∧ wr.cell? ⟨w1.heap.size, 1, none⟩ = some (.slice ra L.length rc) ∧ wr.cell? ⟨w1.heap.size, 2, none⟩ = some (.int .i64 S.allocs) := by
          have hx := HX.out.below hbz HX.out.lt
          exact ⟨hx.cell 0, hx.cell 1, hx.cell 2⟩
        by_cases hm : m < L.length
        · have htz := HT.out.below hbz
          obtain ⟨r, hr⟩ : ∃ r, L[m]? = some r := ⟨_, List.getElem?_eq_getElem hm⟩
          obtain ⟨g, la, lcc, rfl, _, c0, -, -, -, -, -⟩ := htz.own.at_ hr
          have HSM := Lib.hid (by
            have ht3 := htz.below (Below.refl wr.heap.size wr).drew
            exact lsame_any (cap := c) (allocs := S.allocs) r.at_ wr.drew ht3.hp ht3.own ht3.le (by omega) ht3.sim)
          clear hdm hbz htz hr
          go_wp2_with fail
          refine Sq.region_reads 8 (by kernel_rfl) (by kernel_rfl) ?_
          simp only [List.take_succ_cons, List.take_zero, List.drop_succ_cons, List.drop_zero]
          repeat (go_big_quiet_step (fail))
          refine wpQuiet_nil ?_
          go_wp2_with fail
          with_reducible refine HSM.out.mono ?_
          rintro e w3 ⟨rfl, hb3⟩
          have HB3 := Lib.hid (HBZ.out.trans (((Below.refl wr.heap.size wr).drew.trans hb3).mono HBZ.out.size))
          clear hb3
          go_wp2_with fail
          go_roundg (L.length - (m + 1))
          case measure => have := HDM.out; omega
          case rel => exact ⟨m + 1, by omega, by go_num, HB3.out⟩
        · have hge2 : ¬ (m : Int) < L.length := by omega
          clear hdm hbz
          go_wp2_with fail
          refine (HKN.out _).mono ?_
          rintro e w2 ⟨rfl, hb⟩
          have HBE := Lib.hid (((HKH.out.trans (KG.of_below HBZ.out (Nat.le_refl _))).trans (KG.of_below hb (Nat.le_refl _))).below (Nat.le_refl _))
          clear hb
          go_wp2_with fail
          go_ret
          exact ⟨rfl, HBE.out⟩
    have hrw := (HR.out).below (HKH.out.below (Nat.le_refl _)) (fun b q => q)
    obtain ⟨ad, la, lc', ha, hz, c0, c1, c2, c3, c4, hrl, _⟩ := hrw k _ (List.getElem?_eq_getElem hlt)
    have hol := HLS.out _ (List.getElem_mem hlt)
    generalize hoo : l[k] = o at *
    subst ha
    have hzb : (ad.add (k * 5)).block < w.heap.size := by rw [Tm.add_block]; exact hz
    have hwr : w.heap.size ≤ wr.heap.size := HKH.out.size
    have HSTEP := Lib.hid (show ∀ wz : World, Below wr.heap.size wr wz → Calls Try.prog 13 #[.pointer (some ⟨w.heap.size, 0, none⟩), hpV c (.slice ra L.length rc) S.allocs, .agg #[.int .i64 o.kind, .int .i64 o.a, .int .i64 o.x.tag, .int .i64 o.x.n, .slice la o.x.l.length lc']] wz (StP w.heap.size w.heap.size c k wz) from fun wz hbz =>
      step_any wz (HT.out.below hbz) (by omega) (hrl.below hbz fun b q => Nat.lt_of_lt_of_le q hwr) hol)
    obtain ⟨kd, oa, ⟨tag, nn, ol⟩⟩ := o
    simp only at c0 c1 c2 c3 c4 hol HSTEP
    have HOC := Lib.hid (show ∀ wz : World, KH w.heap.size wr wz → wz.cell? (ad.add (k * 5)) = some (.int .i64 kd) ∧ wz.cell? ⟨(ad.add (k * 5)).block, (ad.add (k * 5)).off + 1, none⟩ = some (.int .i64 oa) ∧ wz.cell? ⟨(ad.add (k * 5)).block, (ad.add (k * 5)).off + 2, none⟩ = some (.int .i64 tag) ∧ wz.cell? ⟨(ad.add (k * 5)).block, (ad.add (k * 5)).off + 3, none⟩ = some (.int .i64 nn) ∧ wz.cell? ⟨(ad.add (k * 5)).block, (ad.add (k * 5)).off + 4, none⟩ = some (.slice la ol.length lc') from fun wz hk =>
      ⟨(KG.cell hk hzb (Nat.lt_of_lt_of_le hzb hwr)).trans c0, (KG.cell hk (ad := ⟨(ad.add (k * 5)).block, (ad.add (k * 5)).off + 1, none⟩) hzb (Nat.lt_of_lt_of_le hzb hwr)).trans c1, (KG.cell hk (ad := ⟨(ad.add (k * 5)).block, (ad.add (k * 5)).off + 2, none⟩) hzb (Nat.lt_of_lt_of_le hzb hwr)).trans c2, (KG.cell hk (ad := ⟨(ad.add (k * 5)).block, (ad.add (k * 5)).off + 3, none⟩) hzb (Nat.lt_of_lt_of_le hzb hwr)).trans c3, (KG.cell hk (ad := ⟨(ad.add (k * 5)).block, (ad.add (k * 5)).off + 4, none⟩) hzb (Nat.lt_of_lt_of_le hzb hwr)).trans c4⟩)
    have hwo : (ad.add (k * 5)).block < wr.heap.size := Nat.lt_of_lt_of_le hzb hwr
    clear hrw hrl hoo hd ht hx hkh hz hol hzb
    go_wp2_with fail
    go_cut [9, 10] (fun v9 v10 wx => CutB w.heap.size w.heap.size c (k + 1) wr v9 v10 wx)
    case first =>
      go_region_held3 (fun w' => (w'.cell? ⟨w1.heap.size, 0, none⟩ = some (.int .i64 c) ∧ w'.cell? ⟨w1.heap.size, 1, none⟩ = some (.slice ra L.length rc) ∧ w'.cell? ⟨w1.heap.size, 2, none⟩ = some (.int .i64 S.allocs)) ∧ w'.cell? (ad.add (k * 5)) = some (.int .i64 kd) ∧ w'.cell? ⟨(ad.add (k * 5)).block, (ad.add (k * 5)).off + 1, none⟩ = some (.int .i64 oa) ∧ w'.cell? ⟨(ad.add (k * 5)).block, (ad.add (k * 5)).off + 2, none⟩ = some (.int .i64 tag) ∧ w'.cell? ⟨(ad.add (k * 5)).block, (ad.add (k * 5)).off + 3, none⟩ = some (.int .i64 nn) ∧ w'.cell? ⟨(ad.add (k * 5)).block, (ad.add (k * 5)).off + 4, none⟩ = some (.slice la ol.length lc'))
        (first
          | exact ⟨⟨x0, x1, x2⟩, c0, c1, c2, c3, c4⟩
          | exact ⟨⟨m0, m1, m2⟩, o0, o1, o2, o3, o4⟩
          | exact ⟨⟨q0, q1, q2⟩, p0, p1, p2, p3, p4⟩
          | exact ⟨⟨(hA _ ⟨w1.heap.size, 0, none⟩ hg5).trans m0, (hA _ ⟨w1.heap.size, 1, none⟩ hg5).trans m1, (hA _ ⟨w1.heap.size, 2, none⟩ hg5).trans m2⟩, (hA _ _ ho5).trans o0, (hA _ ⟨(ad.add (k * 5)).block, (ad.add (k * 5)).off + 1, none⟩ ho5).trans o1, (hA _ ⟨(ad.add (k * 5)).block, (ad.add (k * 5)).off + 2, none⟩ ho5).trans o2, (hA _ ⟨(ad.add (k * 5)).block, (ad.add (k * 5)).off + 3, none⟩ ho5).trans o3, (hA _ ⟨(ad.add (k * 5)).block, (ad.add (k * 5)).off + 4, none⟩ ho5).trans o4⟩
          | (have hA0 : ∀ o (p : Addr), p.block < wr.heap.size → (wr.alloc o).drew.cell? p = wr.cell? p := fun o p h => World.cell?_alloc_lt wr o p h; exact ⟨⟨(hA0 _ ⟨w1.heap.size, 0, none⟩ hgr).trans x0, (hA0 _ ⟨w1.heap.size, 1, none⟩ hgr).trans x1, (hA0 _ ⟨w1.heap.size, 2, none⟩ hgr).trans x2⟩, (hA0 _ _ hwo).trans c0, (hA0 _ ⟨(ad.add (k * 5)).block, (ad.add (k * 5)).off + 1, none⟩ hwo).trans c1, (hA0 _ ⟨(ad.add (k * 5)).block, (ad.add (k * 5)).off + 2, none⟩ hwo).trans c2, (hA0 _ ⟨(ad.add (k * 5)).block, (ad.add (k * 5)).off + 3, none⟩ hwo).trans c3, (hA0 _ ⟨(ad.add (k * 5)).block, (ad.add (k * 5)).off + 4, none⟩ hwo).trans c4⟩)
          | go_keep)
        (first
          | (go_at_call 13; refine (HSTEP.out _ ((Below.refl wr.heap.size wr).drew)).mono ?_; rintro e w5 ⟨S', l', v', rfl, ht5, hk5⟩; replace hk5 : KH w.heap.size wr w5 := (KG.of_below (Below.refl wr.heap.size wr).drew (Nat.le_refl _)).trans hk5; obtain ⟨a', cc', rfl⟩ := ht5.own.slice; have hx5 := box_kh HX.out hk5 not_TP_RH; have m0 : w5.cell? ⟨w1.heap.size, 0, none⟩ = some (.int .i64 c) := hx5.cell 0; have m1 : w5.cell? ⟨w1.heap.size, 1, none⟩ = some (.slice ra L.length rc) := hx5.cell 1; have m2 : w5.cell? ⟨w1.heap.size, 2, none⟩ = some (.int .i64 S.allocs) := hx5.cell 2; obtain ⟨o0, o1, o2, o3, o4⟩ := HOC.out w5 hk5; have hA : ∀ o (p : Addr), p.block < w5.heap.size → (w5.alloc o).cell? p = w5.cell? p := fun o p h => World.cell?_alloc_lt w5 o p h; have hg5 : w1.heap.size < w5.heap.size := Nat.lt_of_lt_of_le hgr hk5.size; have ho5 : (ad.add (k * 5)).block < w5.heap.size := Nat.lt_of_lt_of_le hwo hk5.size; have HFI := Lib.hid (CutB.here (wr := wr) ht5 hk5); clear ht5 hk5 hx5)
          | (go_at_call 13; refine (HSTEP.out _ (((Below.refl wr.heap.size wr).alloc (Nat.le_refl _) _).drew)).mono ?_; rintro e w5 ⟨S', l', v', rfl, ht5, hk5⟩; have hn5 := box_kh (Box.new wr #[.int .i64 0, .slice none 0 0, .int .i64 0] RH).drew hk5 not_TP_RH; replace hk5 : KH w.heap.size wr w5 := (KG.of_below (((Below.refl wr.heap.size wr).alloc (Nat.le_refl _) _).drew) (Nat.le_refl _)).trans hk5; obtain ⟨a', cc', rfl⟩ := ht5.own.slice; have hx5 := box_kh HX.out hk5 not_TP_RH; have m0 : w5.cell? ⟨w1.heap.size, 0, none⟩ = some (.int .i64 c) := hx5.cell 0; have m1 : w5.cell? ⟨w1.heap.size, 1, none⟩ = some (.slice ra L.length rc) := hx5.cell 1; have m2 : w5.cell? ⟨w1.heap.size, 2, none⟩ = some (.int .i64 S.allocs) := hx5.cell 2; obtain ⟨o0, o1, o2, o3, o4⟩ := HOC.out w5 hk5; have hq : ∀ p : Addr, p.block ≠ wr.heap.size → (((w5.setCell ⟨wr.heap.size, 0, none⟩ (.int .i64 c)).setCell ⟨wr.heap.size, 1, none⟩ (.slice a' l'.length cc')).setCell ⟨wr.heap.size, 2, none⟩ (.int .i64 S'.allocs)).cell? p = w5.cell? p := fun p h => ((((Wrote.refl w5 _).set 0 _).set 1 _).set 2 _).cell p h; have q0 := (hq ⟨w1.heap.size, 0, none⟩ (Nat.ne_of_lt hgr)).trans m0; have q1 := (hq ⟨w1.heap.size, 1, none⟩ (Nat.ne_of_lt hgr)).trans m1; have q2 := (hq ⟨w1.heap.size, 2, none⟩ (Nat.ne_of_lt hgr)).trans m2; have p0 := (hq (ad.add (k * 5)) (Nat.ne_of_lt hwo)).trans o0; have p1 := (hq ⟨(ad.add (k * 5)).block, (ad.add (k * 5)).off + 1, none⟩ (Nat.ne_of_lt hwo)).trans o1; have p2 := (hq ⟨(ad.add (k * 5)).block, (ad.add (k * 5)).off + 2, none⟩ (Nat.ne_of_lt hwo)).trans o2; have p3 := (hq ⟨(ad.add (k * 5)).block, (ad.add (k * 5)).off + 3, none⟩ (Nat.ne_of_lt hwo)).trans o3; have p4 := (hq ⟨(ad.add (k * 5)).block, (ad.add (k * 5)).off + 4, none⟩ (Nat.ne_of_lt hwo)).trans o4; clear hq; have z0 := hn5.cell 0; have z1 := hn5.cell 1; have z2 := hn5.cell 2; have f0 := hn5.free 0; have f1 := hn5.free 1; have f2 := hn5.free 2; have HFI := Lib.hid (CutB.there (wr := wr) ht5 hk5 hwr hn5); clear ht5 hk5 hx5 hn5))
      all_goals
        go_wp2_with fail
        go_meet
        exact HFI.out
    case rest =>
      obtain ⟨nb, S', l', a', cc', rfl, rfl, hnb, hxn, htc, hkc⟩ := hcut
      have hxg := box_kh HX.out hkc not_TP_RH
      have s0 : wc.cell? ⟨nb, 0, none⟩ = some (.int .i64 c) := hxn.cell 0
      have s1 : wc.cell? ⟨nb, 1, none⟩ = some (.slice a' l'.length cc') := hxn.cell 1
      have s2 : wc.cell? ⟨nb, 2, none⟩ = some (.int .i64 S'.allocs) := hxn.cell 2
      have z0 : wc.cell? ⟨w1.heap.size, 0, none⟩ = some (.int .i64 c) := hxg.cell 0
      have z1 : wc.cell? ⟨w1.heap.size, 1, none⟩ = some (.slice ra L.length rc) := hxg.cell 1
      have z2 : wc.cell? ⟨w1.heap.size, 2, none⟩ = some (.int .i64 S.allocs) := hxg.cell 2
      have f0 := hxg.free 0
      have f1 := hxg.free 1
      have f2 := hxg.free 2
      obtain ⟨W2, hW2, hX2, hT2, hK2⟩ := put3 (al := S'.allocs) htc (Nat.le_refl w.heap.size) hgw (HKH.out.trans hkc) hxg
      have hX2 := hX2 rfl
      have HT2 := Lib.hid hT2
      have HX2 := Lib.hid hX2
      have HK2 := Lib.hid hK2
      have HLV := Lib.hid (show ∀ m, Calls Try.prog 14 #[.pointer (some ⟨w.heap.size, 0, none⟩)] (W2.drewN m) (IsV (.int .i64 l'.length) (W2.drewN m)) from fun m => by
        rw [hT2.len]
        exact live_any _ (hT2.hp.below (below_drewN (Below.refl _ _) m)))
      have HCP := Lib.hid (show ∀ m, Calls Try.prog 15 #[.pointer (some ⟨w.heap.size, 0, none⟩)] (W2.drewN m) (IsV (.int .i64 c) (W2.drewN m)) from fun m => by
        rw [← hT2.pl.cap]
        exact cap_any _ (hT2.hp.below (below_drewN (Below.refl _ _) m)))
      have HAL := Lib.hid (show ∀ m, Calls Try.prog 16 #[.pointer (some ⟨w.heap.size, 0, none⟩)] (W2.drewN m) (IsV (.int .i64 S'.allocs) (W2.drewN m)) from fun m =>
        allocs_any _ (hT2.hp.below (below_drewN (Below.refl _ _) m)))
      have HE := Lib.hid (show ∀ m, L1 w w1.heap.size c l (l.length - (k + 1)) (.int .i64 ((k : Int) + 1)) (W2.drewN m) from fun m =>
        ⟨⟨k + 1, S', l', a', cc', by omega, rfl, HT2.out.below (below_drewN (Below.refl _ _) m), HX2.out.drewN m, ⟩, HK2.out.trans (KG.of_below (below_drewN (Below.refl _ _) m) (Nat.le_refl _))⟩)
      have y0 : W2.cell? ⟨w1.heap.size, 0, none⟩ = some (.int .i64 c) := hX2.cell 0
      have y1 : W2.cell? ⟨w1.heap.size, 1, none⟩ = some (.slice a' l'.length cc') := hX2.cell 1
      have y2 : W2.cell? ⟨w1.heap.size, 2, none⟩ = some (.int .i64 S'.allocs) := hX2.cell 2
      clear hnb hxn htc hkc hxg hX2 hT2 hK2 x0 x1 x2 c0 c1 c2 c3 c4
      go_wp2_with fail
      clear hW2
      go_quiet (first
        | (go_at_call 14; exact quietV (HLV.out _))
        | (go_at_call 15; exact quietV (HCP.out _))
        | (go_at_call 16; exact quietV (HAL.out _)))
      go_wp2_with fail
      go_roundg (l.length - (k + 1))
      case measure => have := HD.out; omega
      case rel => exact HE.out _
end Go.Proofs.Ytbkklnihgejeoaa.HeapPlays
