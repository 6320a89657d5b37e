/-
  The walk of the law changelinglaw11.GroupsBoth: two things are in one group just if they are the same, or each needs the other one.
-/
import Derived.Test.YtephmagficbdeaaGroupsOnceW
namespace Go.Proofs.Ytephmagficbdeaa.GroupsBoth
open Go.RowKit Go.Shelf Go.Sort Mm Sp Gr GroupsBehind
set_option linter.unusedVariables false
set_option linter.unusedSimpArgs false
/-- is it among the first ones of a list -/
def hasB (l : List Nat) (k x : Nat) : Bool := decide (x ∈ l.take k)
theorem hasB_zero (l : List Nat) (x : Nat) : hasB l 0 x = false := by simp [hasB]
theorem hasB_succ {l : List Nat} {k : Nat} (x : Nat) (hk : k < l.length) : hasB l (k + 1) x = (hasB l k x || decide (l[k] = x)) := by
  unfold hasB
  rw [← Bool.decide_or]
  refine decide_eq_decide.2 ?_
  rw [List.take_add_one, List.getElem?_eq_getElem hk, Option.toList_some, List.mem_append, List.mem_singleton]
  exact ⟨fun h => h.imp id Eq.symm, fun h => h.imp id Eq.symm⟩
theorem hasB_all (l : List Nat) (x : Nat) : hasB l l.length x = decide (x ∈ l) := by simp [hasB]
/-- are two among one of the first groups -/
def inB (l : List (List Nat)) (k x y : Nat) : Bool := decide (∃ D ∈ l.take k, x ∈ D ∧ y ∈ D)
theorem inB_zero (l : List (List Nat)) (x y : Nat) : inB l 0 x y = false := by simp [inB]
theorem inB_succ {l : List (List Nat)} {k : Nat} (x y : Nat) (hk : k < l.length) : inB l (k + 1) x y = (inB l k x y || (decide (x ∈ U l k) && decide (y ∈ U l k))) := by
  have e : U l k = l[k] := by unfold U; rw [List.getD_eq_getElem?_getD, List.getElem?_eq_getElem hk]; rfl
  unfold inB
  rw [← Bool.decide_and, ← Bool.decide_or]
  refine decide_eq_decide.2 ?_
  rw [e]
  constructor
  · rintro ⟨D, hD, h⟩
    rcases (mem_take_succ hk).1 hD with h1 | h1
    · exact .inl ⟨D, h1, h⟩
    · subst h1; exact .inr h
  · rintro (⟨D, hD, h⟩ | h)
    · exact ⟨D, (mem_take_succ hk).2 (.inl hD), h⟩
    · exact ⟨_, (mem_take_succ hk).2 (.inr rfl), h⟩
theorem inB_all {g l : List (List Nat)} (h : Parted g l) {x y : Nat} (hx : x < g.length) : inB l l.length x y = true ↔ Mut g x y := by
  unfold inB
  rw [List.take_length, decide_eq_true_eq]
  refine ⟨?_, fun hm => ?_⟩
  · rintro ⟨D, hD, h1, h2⟩
    exact ((h.sc D hD).2.2 x h1 y).1 h2
  · obtain ⟨D, hD, h1⟩ := h.cov x hx
    exact ⟨D, hD, h1, ((h.sc D hD).2.2 x h1 y).2 hm⟩
theorem rd_at {w : World} {p : Option Addr} {l : List Nat} (h : ReadsV w w.heap.size p l.length (intV fun i => (ni l).getD i 0)) {k : Nat} (hk : k < l.length) : ∃ ad, p = some ad ∧ w.cell? (ad.add k) = some (.int .i64 ((l[k] : Nat) : Int)) := by
  obtain ⟨ad, h1, _, h3⟩ := h k hk
  refine ⟨ad, h1, h3.trans ?_⟩
  show some (Value.int .i64 ((ni l).getD k 0)) = _
  rw [ni_getD, List.getD_eq_getElem?_getD, List.getElem?_eq_getElem hk]
  rfl
set_option maxRecDepth 100000 in
set_option maxHeartbeats 8000000 in
theorem both_ok {ua : Option Addr} {uc : Nat} {g : List (List Nat)} (na nb : Nat) (w : World) (hrr : RR w.heap.size w (.slice ua g.length uc) (gi g)) (h0 : wrongC (gi g) = 0) (ha : na < g.length) (hb : nb < g.length) (hN : g.length ≤ 2048) :
    Calls Try.prog 6 #[.slice ua g.length uc, .int .i64 na, .int .i64 nb] w fun e w' => e = .returned (.bool true) ∧ Below w.heap.size w w' := by
  have HRR := Lib.hid hrr
  have HGR := Lib.hid (groups_any sortOK sortFOK w hrr)
  have H0 := Lib.hid h0
  have ha1 : (na : Int) < g.length := by omega
  have hb1 : (nb : Int) < g.length := by omega
  clear hrr h0
  go_enter Try.func6, Try.ntmps6
  go_wp2_with fail
  refine HGR.out.mono ?_
  rintro e w1 ⟨v, l, he, hrd, hb1, _, hz⟩
  rw [H0.out] at he
  subst he
  obtain ⟨g', hg', _, _, hc⟩ := hz H0.out
  obtain rfl := gi_inj hg'
  obtain ⟨a1, c1, rfl, hll, hl⟩ := hrd
  have HL := Lib.hid hl
  have HC := Lib.hid hc
  have HB1 := Lib.hid hb1
  have HR1 := Lib.hid ((HRR.out.below hb1 (Nat.le_refl _)).mono hb1.size)
  clear hz hc hl hb1 hg'
  go_wp2_with fail
  refine (reach_any sortOK na w1 HR1.out).mono ?_
  rintro e w2 ⟨v2, lx, cx, he, ⟨px, qx, hvx, hlx, hrx⟩, hb2, hor⟩
  subst hvx
  rcases hor with ⟨_, _, _, hno⟩ | ⟨rfl, _, _, _, hallx⟩
  · exact absurd ⟨H0.out, by omega, by rw [gi_length]; omega⟩ hno
  subst he
  have HX := Lib.hid (hallx g rfl).2
  have HRX := Lib.hid hrx
  have HB2 := Lib.hid hb2
  have HR2 := Lib.hid ((HR1.out.below hb2 (Nat.le_refl _)).mono hb2.size)
  clear hallx hrx hb2
  go_wp2_with fail
  refine (reach_any sortOK nb w2 HR2.out).mono ?_
  rintro e w3 ⟨v3, ly, cy, he, ⟨py, qy, hvy, hly, hry⟩, hb3, hor⟩
  subst hvy
  rcases hor with ⟨_, _, _, hno⟩ | ⟨rfl, _, _, _, hally⟩
  · exact absurd ⟨H0.out, by omega, by rw [gi_length]; omega⟩ hno
  subst he
  have HY := Lib.hid (hally g rfl).2
  have HRY := Lib.hid hry
  have HB3 := Lib.hid hb3
  have HRX3 := Lib.hid ((HRX.out.below hb3 (Nat.le_refl _)).mono hb3.size)
  have HL3 := Lib.hid (((HL.out.below HB2.out (Nat.le_refl _)).below hb3 (by exact HB2.out.size)).mono2 (Nat.le_trans HB2.out.size hb3.size))
  have HBW := Lib.hid ((HB1.out.trans (HB2.out.mono HB1.out.size)).trans (hb3.mono (Nat.le_trans HB1.out.size HB2.out.size)))
  clear hally hry hb3
  go_wp2_with fail
  go_loopg [13, 15] lx.length (fun d v13 v wr => ∃ k : Nat, k + d = lx.length ∧ v = .int .i64 k ∧ v13 = .bool (hasB lx k nb) ∧ w3 = wr)
  case atStart => exact ⟨0, by omega, rfl, by rw [hasB_zero], rfl⟩
  case round =>
    obtain ⟨k, hk, rfl, rfl, rfl⟩ := hrel
    have HK := Lib.hid hk
    have hkle : k ≤ lx.length := by omega
    clear hk
    by_cases hlt : k < lx.length
    · have hlt' : (k : Int) < lx.length := by omega
      obtain ⟨ad, rfl, c0⟩ := rd_at HRX3.out hlt
      have HS := Lib.hid (hasB_succ nb hlt)
      generalize lx[k] = x at c0 HS
      obtain ⟨t, ht⟩ : ∃ t, hasB lx k nb = t := ⟨_, rfl⟩
      rw [ht] at HS ⊢
      clear ht
      by_cases e : x = nb
      · have e0 : ((x : Int) == (nb : Int)) = true := by simp [e]
        have HS2 := Lib.hid (show hasB lx (k + 1) nb = true by rw [HS.out]; simp [e])
        clear e
        cases t
        all_goals
          go_wp2_with fail
          go_roundg (lx.length - (k + 1))
          case measure => have := HK.out; omega
          case rel => exact ⟨k + 1, by have := HK.out; omega, by go_num, by rw [HS2.out], rfl⟩
      · have e0 : ((x : Int) == (nb : Int)) = false := by simp only [beq_eq_false_iff_ne, ne_eq]; omega
        have HS2 := Lib.hid (show hasB lx (k + 1) nb = t by rw [HS.out]; simp [e])
        clear e
        cases t
        all_goals
          go_wp2_with fail
          go_roundg (lx.length - (k + 1))
          case measure => have := HK.out; omega
          case rel => exact ⟨k + 1, by have := HK.out; omega, by go_num, by rw [HS2.out], rfl⟩
    · have hge : ¬ (k : Int) < lx.length := by omega
      have hkn : k = lx.length := by omega
      have HTO := Lib.hid (show hasB lx k nb = decide (nb ∈ lx) by rw [hkn]; exact hasB_all _ _)
      obtain ⟨tto, htto⟩ : ∃ t, hasB lx k nb = t := ⟨_, rfl⟩
      rw [htto] at HTO ⊢
      clear hkn htto
      go_wp2_with fail
      go_loopg [14, 16] ly.length (fun d v14 v wr => ∃ k : Nat, k + d = ly.length ∧ v = .int .i64 k ∧ v14 = .bool (hasB ly k na) ∧ w3 = wr)
      case atStart => exact ⟨0, by omega, rfl, by rw [hasB_zero], rfl⟩
      case round =>
        obtain ⟨k2, hk2, rfl, rfl, rfl⟩ := hrel
        have HK2 := Lib.hid hk2
        have hkle2 : k2 ≤ ly.length := by omega
        clear hk2
        by_cases hlt2 : k2 < ly.length
        · have hlt2' : (k2 : Int) < ly.length := by omega
          obtain ⟨ad, rfl, c0⟩ := rd_at HRY.out hlt2
          have HS := Lib.hid (hasB_succ na hlt2)
          generalize ly[k2] = x at c0 HS
          obtain ⟨t, ht⟩ : ∃ t, hasB ly k2 na = t := ⟨_, rfl⟩
          rw [ht] at HS ⊢
          clear ht
          by_cases e : x = na
          · have e0 : ((x : Int) == (na : Int)) = true := by simp [e]
            have HS2 := Lib.hid (show hasB ly (k2 + 1) na = true by rw [HS.out]; simp [e])
            clear e
            cases t
            all_goals
              go_wp2_with fail
              go_roundg (ly.length - (k2 + 1))
              case measure => have := HK2.out; omega
              case rel => exact ⟨k2 + 1, by have := HK2.out; omega, by go_num, by rw [HS2.out], rfl⟩
          · have e0 : ((x : Int) == (na : Int)) = false := by simp only [beq_eq_false_iff_ne, ne_eq]; omega
            have HS2 := Lib.hid (show hasB ly (k2 + 1) na = t by rw [HS.out]; simp [e])
            clear e
            cases t
            all_goals
              go_wp2_with fail
              go_roundg (ly.length - (k2 + 1))
              case measure => have := HK2.out; omega
              case rel => exact ⟨k2 + 1, by have := HK2.out; omega, by go_num, by rw [HS2.out], rfl⟩
        · have hge2 : ¬ (k2 : Int) < ly.length := by omega
          have hkn : k2 = ly.length := by omega
          have HBK := Lib.hid (show hasB ly k2 na = decide (na ∈ ly) by rw [hkn]; exact hasB_all _ _)
          obtain ⟨tbk, htbk⟩ : ∃ t, hasB ly k2 na = t := ⟨_, rfl⟩
          rw [htbk] at HBK ⊢
          clear hkn htbk
          go_wp2_with fail
          go_loopg [17, 18] l.length (fun d v17 v wr => ∃ i : Nat, i + d = l.length ∧ v = .int .i64 i ∧ v17 = .bool (inB l i na nb) ∧ w3 = wr)
          case atStart => exact ⟨0, by omega, rfl, by rw [inB_zero], rfl⟩
          case round =>
            obtain ⟨i, hi, rfl, rfl, rfl⟩ := hrel
            have HI := Lib.hid hi
            have hile : i ≤ l.length := by omega
            clear hi
            by_cases hil : i < l.length
            · have hil' : (i : Int) < l.length := by omega
              obtain ⟨ad, a2, c2, rfl, had, y0, hUl, hUj⟩ := HL3.out i hil
              have HUJ := Lib.hid hUj
              have HIS := Lib.hid (inB_succ na nb hil)
              obtain ⟨tin, htin⟩ : ∃ t, inB l i na nb = t := ⟨_, rfl⟩
              rw [htin] at HIS ⊢
              clear hUj htin
              go_wp2_with fail
              go_loopg [19, 20, 21] (U l i).length (fun d v19 v20 v wr => ∃ r : Nat, r + d = (U l i).length ∧ v = .int .i64 r ∧ v19 = .bool (hasB (U l i) r na) ∧ v20 = .bool (hasB (U l i) r nb) ∧ w3 = wr)
              case atStart => exact ⟨0, by omega, rfl, by rw [hasB_zero], by rw [hasB_zero], rfl⟩
              case round =>
                obtain ⟨r, hr, rfl, rfl, rfl, rfl⟩ := hrel
                have HR := Lib.hid hr
                have hrle : r ≤ (U l i).length := by omega
                clear hr
                by_cases hrt : r < (U l i).length
                · have hrt' : (r : Int) < (U l i).length := by omega
                  obtain ⟨ad2, rfl, had2, c0⟩ := HUJ.out r hrt
                  have HA := Lib.hid (hasB_succ na hrt)
                  have HB := Lib.hid (hasB_succ nb hrt)
                  generalize (U l i)[r] = x at c0 HA HB
                  obtain ⟨t1, ht1⟩ : ∃ t, hasB (U l i) r na = t := ⟨_, rfl⟩
                  obtain ⟨t2, ht2⟩ : ∃ t, hasB (U l i) r nb = t := ⟨_, rfl⟩
                  rw [ht1] at HA ⊢
                  rw [ht2] at HB ⊢
                  obtain ⟨d1, hd1⟩ : ∃ d, decide (x = na) = d := ⟨_, rfl⟩
                  obtain ⟨d2, hd2⟩ : ∃ d, decide (x = nb) = d := ⟨_, rfl⟩
                  have e1 : ((x : Int) == (na : Int)) = d1 := by rw [← hd1, Bool.eq_iff_iff]; simp; omega
                  have e2 : ((x : Int) == (nb : Int)) = d2 := by rw [← hd2, Bool.eq_iff_iff]; simp; omega
                  rw [hd1] at HA
                  rw [hd2] at HB
                  clear ht1 ht2 hd1 hd2
                  cases t1 <;> cases t2 <;> cases d1 <;> cases d2
                  all_goals
                    go_wp2_with fail
                    go_roundg ((U l i).length - (r + 1))
                    case measure => have := HR.out; omega
                    case rel => exact ⟨r + 1, by have := HR.out; omega, by go_num, by rw [HA.out]; rfl, by rw [HB.out]; rfl, rfl⟩
                · have hge3 : ¬ (r : Int) < (U l i).length := by omega
                  have hrn : r = (U l i).length := by omega
                  have HIS2 := Lib.hid (show inB l (i + 1) na nb = (tin || (hasB (U l i) r na && hasB (U l i) r nb)) by rw [HIS.out, hrn, hasB_all, hasB_all])
                  obtain ⟨t1, ht1⟩ : ∃ t, hasB (U l i) r na = t := ⟨_, rfl⟩
                  obtain ⟨t2, ht2⟩ : ∃ t, hasB (U l i) r nb = t := ⟨_, rfl⟩
                  rw [ht1, ht2] at HIS2 ⊢
                  clear hrn ht1 ht2
                  cases t1 <;> cases t2 <;> cases tin
                  all_goals
                    go_wp2_with fail
                    go_roundg (l.length - (i + 1))
                    case measure => have := HI.out; omega
                    case rel => exact ⟨i + 1, by have := HI.out; omega, by go_num, by rw [HIS2.out]; rfl, rfl⟩
            · have hge3 : ¬ (i : Int) < l.length := by omega
              have hin : i = l.length := by omega
              have hfin : inB l i na nb = (decide (na = nb) || (tto && tbk)) := by
                rw [hin, Bool.eq_iff_iff, inB_all HC.out.part ha, HTO.out, HBK.out, mut_iff]
                simp only [Bool.or_eq_true, Bool.and_eq_true, decide_eq_true_eq]
                rw [HX.out, HY.out]
                rfl
              rw [hfin]
              have HK9 := known_any w3
              obtain ⟨dd, hdd⟩ : ∃ d, decide (na = nb) = d := ⟨_, rfl⟩
              have e1 : ((na : Int) == (nb : Int)) = dd := by rw [← hdd, Bool.eq_iff_iff]; simp; omega
              rw [hdd]
              clear hin hfin hdd
              cases dd <;> cases tto <;> cases tbk
              all_goals
                go_wp2_with fail
                refine HK9.mono ?_
                rintro e w9 ⟨rfl, hb9⟩
                go_wp2_with fail
                go_ret
                exact ⟨rfl, HBW.out.trans (hb9.mono HBW.out.size)⟩
set_option maxRecDepth 100000 in
set_option maxHeartbeats 8000000 in
theorem law (b : Option Addr) (n c : Nat) (hn : n ≤ 9223372036854775807) (G : List (List Int)) (x1 : Int) (h11 : -9223372036854775808 ≤ x1) (h12 : x1 ≤ 9223372036854775807) (x2 : Int) (h21 : -9223372036854775808 ≤ x2) (h22 : x2 ≤ 9223372036854775807) (w : World) (hr : RowR w w.heap.size b n G) :
    Calls Try.prog 6 #[.slice b n c, .int .i64 x1, .int .i64 x2] w fun e w' => e = .returned (.bool true) ∧ Below w.heap.size w w' := by
  obtain ⟨rfl, hrr⟩ := hr
  by_cases h0 : wrongC G = 0
  · by_cases hin : 0 ≤ x1 ∧ 0 ≤ x2 ∧ x1 < G.length ∧ x2 < G.length
    · obtain ⟨hlen, g, rfl, hg⟩ := wrongC_zero h0
      rw [gi_length] at hin hlen
      have hrr2 := hrr c
      rw [gi_length] at hrr2 ⊢
      obtain ⟨m1, rfl⟩ : ∃ m : Nat, x1 = m := ⟨x1.toNat, by omega⟩
      obtain ⟨m2, rfl⟩ : ∃ m : Nat, x2 = m := ⟨x2.toNat, by omega⟩
      exact both_ok m1 m2 w hrr2 h0 (by omega) (by omega) hlen
    · have HGR := Lib.hid (groups_any sortOK sortFOK w (hrr c))
      have H0 := Lib.hid h0
      have hor : x1 < 0 ∨ (0 ≤ x1 ∧ x2 < 0) ∨ (0 ≤ x1 ∧ 0 ≤ x2 ∧ (G.length : Int) ≤ x1) ∨ (0 ≤ x1 ∧ 0 ≤ x2 ∧ x1 < G.length ∧ (G.length : Int) ≤ x2) := by omega
      clear hin hrr h0
      rcases hor with q1 | ⟨q1, q2⟩ | ⟨q1, q2, q3⟩ | ⟨q1, q2, q3, q4⟩
      all_goals
        go_enter Try.func6, Try.ntmps6
        go_wp2_with fail
        refine HGR.out.mono ?_
        rintro e w1 ⟨v, l, he, hrd, hb1, _, _⟩
        rw [H0.out] at he
        subst he
        obtain ⟨a1, c1, rfl, _, _⟩ := hrd
        have HB1 := Lib.hid hb1
        have HK := known_any w1
        clear hb1
        go_wp2_with fail
        refine HK.mono ?_
        rintro e w9 ⟨rfl, hb9⟩
        have HB9 := Lib.hid hb9
        clear HK hb9
        go_wp2_with fail
        go_ret
        exact ⟨rfl, HB1.out.trans (HB9.out.mono HB1.out.size)⟩
  · have HGR := Lib.hid (groups_any sortOK sortFOK w (hrr c))
    obtain ⟨cc, hcc⟩ : ∃ cc, wrongC G = cc := ⟨_, rfl⟩
    have e0 : (cc != 0) = true := by rw [← hcc]; simpa using h0
    have HCC := Lib.hid hcc
    clear h0 hcc hrr
    go_enter Try.func6, Try.ntmps6
    go_wp2_with fail
    refine HGR.out.mono ?_
    rintro e w1 ⟨v, l, he, hrd, hb1, _, _⟩
    rw [HCC.out] at he
    subst he
    obtain ⟨a1, c1, rfl, _, _⟩ := hrd
    have HB1 := Lib.hid hb1
    have HK := known_any w1
    clear hb1
    go_wp2_with fail
    refine HK.mono ?_
    rintro e w9 ⟨rfl, hb9⟩
    have HB9 := Lib.hid hb9
    clear HK hb9
    go_wp2_with fail
    go_ret
    exact ⟨rfl, HB1.out.trans (HB9.out.mono HB1.out.size)⟩
end Go.Proofs.Ytephmagficbdeaa.GroupsBoth
