/-
  The walk of the law changelinglaw11.GroupsOnce: each thing is in one group.
-/
import Derived.Test.YtephmagficbdeaaGroupsBehindW
namespace Go.Proofs.Ytephmagficbdeaa.GroupsOnce
open Go.RowKit Go.Shelf Go.Sort Mm Sp Gr GroupsBehind
set_option linter.unusedVariables false
set_option linter.unusedSimpArgs false
theorem rwrong_any {B : Nat} {v : Value} {G : List (List Int)} (w : World) (h : RR B w v G) : Calls Try.prog 16 #[v] w fun e w' => e = .returned (.int .i64 (wrongC G)) ∧ w = w' := by
  obtain ⟨a, c, rfl, hN, hr⟩ := h
  have HR := Lib.hid hr
  clear hr
  by_cases h0 : 2048 < G.length
  · have HC := Lib.hid (wrongC_long h0)
    go_enter Try.func16, Try.ntmps16
    go_wp2_with fail
    go_ret
    exact ⟨by rw [HC.out]; rfl, rfl⟩
  · have H0 := Lib.hid h0
    have hle : G.length ≤ 2048 := by omega
    go_enter Try.func16, Try.ntmps16
    go_wp2_with fail
    go_loopg [3] G.length (fun d i wr => ∃ k : Nat, k + d = G.length ∧ i = .int .i64 k ∧ Hid (RowsOK G.length (G.take k)) ∧ w = wr)
    case atStart => exact ⟨0, by omega, rfl, Lib.hid (by intro l hl; simp at hl), rfl⟩
    case round =>
      obtain ⟨k, hk, rfl, HK, rfl⟩ := hrel
      have HKD := Lib.hid hk
      have hkle : k ≤ G.length := by omega
      clear hk
      by_cases hlt : k < G.length
      · have hlt' : (k : Int) < G.length := by omega
        obtain ⟨ad, u, rfl, had, c0, a2, c2, rfl, hL, hr2⟩ := HR.out k hlt
        obtain ⟨L, hLe⟩ : ∃ L, G.getD k [] = L := ⟨_, rfl⟩
        rw [hLe] at c0 hL hr2
        have HL := Lib.hid hLe
        have HR2 := Lib.hid hr2
        clear hLe hr2
        go_wp2_with fail
        go_loopg [4] L.length (fun d i wr => ∃ j : Nat, j + d = L.length ∧ i = .int .i64 j ∧ Hid (RowOK G.length (L.take j)) ∧ w = wr)
        case atStart => exact ⟨0, by omega, rfl, Lib.hid (by intro l hl; simp at hl), rfl⟩
        case round =>
          obtain ⟨j, hj, rfl, HJ, rfl⟩ := hrel
          have HJD := Lib.hid hj
          have hjle : j ≤ L.length := by omega
          clear hj
          by_cases hjt : j < L.length
          · have hjt' : (j : Int) < L.length := by omega
            obtain ⟨ad2, rfl, had2, c1⟩ := HR2.out j hjt
            obtain ⟨n, hn⟩ : ∃ n, L.getD j 0 = n := ⟨_, rfl⟩
            replace c1 : w.cell? (ad2.add j) = some (.int .i64 n) := by rw [← hn]; exact c1
            have HN := Lib.hid hn
            clear hn
            by_cases hb : 0 ≤ n ∧ n < (G.length : Int)
            · obtain ⟨b1, b2⟩ := hb
              go_wp2_with fail
              go_roundg (L.length - (j + 1))
              case measure => have := HJD.out; omega
              case rel => exact ⟨j + 1, by have := HJD.out; omega, by go_num, Lib.hid (HJ.out.take_snoc hjt (by rw [HN.out]; exact b1) (by rw [HN.out]; exact b2)), rfl⟩
            · have HC := Lib.hid (wrongC_bad H0.out hlt (by rw [HL.out]; exact hjt) (by rw [HL.out, HN.out]; exact hb))
              by_cases hneg : n < 0
              · clear hb
                go_wp2_with fail
                go_ret
                exact ⟨by rw [HC.out]; rfl, rfl⟩
              · have hge : (G.length : Int) ≤ n := by omega
                clear hb
                go_wp2_with fail
                go_ret
                exact ⟨by rw [HC.out]; rfl, rfl⟩
          · have hge : ¬ (j : Int) < L.length := by omega
            have hjn : j = L.length := by omega
            have HJN := Lib.hid hjn
            clear hjn
            go_wp2_with fail
            go_roundg (G.length - (k + 1))
            case measure => have := HKD.out; omega
            case rel => exact ⟨k + 1, by have := HKD.out; omega, by go_num, Lib.hid (HK.out.take_snoc hlt (by rw [HL.out]; have := HJ.out; rw [HJN.out, List.take_length] at this; exact this)), rfl⟩
      · have hge : ¬ (k : Int) < G.length := by omega
        have hkn : k = G.length := by omega
        have HC := Lib.hid (wrongC_ok H0.out (by have := HK.out; rw [hkn, List.take_length] at this; exact this))
        clear hkn
        go_wp2_with fail
        go_ret
        exact ⟨by rw [HC.out]; rfl, rfl⟩
/-- what was met ahead of the k-th of the i-th group -/
def dn (l : List (List Nat)) (i k : Nat) : List Nat := (l.take i).flatten ++ (U l i).take k
theorem dn_more (l : List (List Nat)) {i k : Nat} (hk : k < (U l i).length) : dn l i (k + 1) = dn l i k ++ [(U l i)[k]] := by
  unfold dn
  rw [List.take_add_one, List.getElem?_eq_getElem hk, Option.toList_some, List.append_assoc]
theorem dn_next (l : List (List Nat)) {i : Nat} (hi : i < l.length) : dn l (i + 1) 0 = dn l i (U l i).length := by
  unfold dn
  rw [List.take_add_one, List.getElem?_eq_getElem hi, Option.toList_some, List.flatten_append, List.take_length]
  have : U l i = l[i] := by unfold U; rw [List.getD_eq_getElem?_getD, List.getElem?_eq_getElem hi]; rfl
  rw [this]
  simp
theorem flat_nodup {g l : List (List Nat)} (h : Parted g l) : l.flatten.Nodup := by
  unfold List.Nodup
  rw [List.pairwise_flatten]
  refine ⟨fun C hC => (h.sc C hC).1.imp fun hlt e => by omega, ?_⟩
  refine (List.Pairwise.and_mem.1 h.nd).imp fun {C D} hcd x hx y hy e => ?_
  subst e
  exact hcd.2.2 (h.eq hcd.1 hcd.2.1 hx hy)
theorem dn_sub (l : List (List Nat)) (i k : Nat) : (dn l i k).Sublist l.flatten := by
  unfold dn
  by_cases hi : i < l.length
  · have e : U l i = l[i] := by unfold U; rw [List.getD_eq_getElem?_getD, List.getElem?_eq_getElem hi]; rfl
    have h1 : (l.take i).flatten ++ l[i] = (l.take (i + 1)).flatten := by
      rw [List.take_add_one, List.getElem?_eq_getElem hi, Option.toList_some, List.flatten_append]
      simp
    have h2 : ((l.take i).flatten ++ (U l i).take k).Sublist ((l.take i).flatten ++ l[i]) := by
      rw [e]; exact List.Sublist.append (List.Sublist.refl _) (List.take_sublist _ _)
    rw [h1] at h2
    refine h2.trans ?_
    have : l.flatten = (l.take (i + 1)).flatten ++ (l.drop (i + 1)).flatten := by rw [← List.flatten_append, List.take_append_drop]
    rw [this]
    exact List.sublist_append_left _ _
  · have e : U l i = [] := by unfold U; rw [List.getD_eq_getElem?_getD, List.getElem?_eq_none (by omega)]; rfl
    rw [e, List.take_of_length_le (l := l) (by omega)]
    simp
theorem flat_len {g l : List (List Nat)} (h : Parted g l) : l.flatten.length = g.length := by
  have h1 := nodup_le (k := g.length) (flat_nodup h) (fun x hx => by
    obtain ⟨C, hC, hx⟩ := List.mem_flatten.1 hx
    exact h.rng C hC x hx)
  have h2 := nodup_le2 (D := List.range g.length) List.nodup_range (R := l.flatten) (fun x hx => by
    obtain ⟨C, hC, hx⟩ := h.cov x (by simpa using hx)
    exact List.mem_flatten.2 ⟨C, hC, hx⟩)
  rw [List.length_range] at h2
  omega
set_option maxRecDepth 100000 in
set_option maxHeartbeats 8000000 in
theorem once_law (b : Option Addr) (n c : Nat) (hn : n ≤ 9223372036854775807) (G : List (List Int)) (w : World) (hr : RowR w w.heap.size b n G) :
    Calls Try.prog 4 #[.slice b n c] w fun e w' => e = .returned (.bool true) ∧ Below w.heap.size w w' := by
  obtain ⟨rfl, hrr⟩ := hr
  have HRR := Lib.hid (hrr c)
  have HGR := Lib.hid (groups_any sortOK sortFOK w (hrr c))
  clear hrr
  by_cases h0 : wrongC G = 0
  · have H0 := Lib.hid h0
    clear h0
    obtain ⟨l0', hl1, hl2, hl3, hl4⟩ := info_parts Tbool
    go_enter Try.func4, Try.ntmps4
    go_wp2_with fail
    refine HGR.out.mono ?_
    rintro e w1 ⟨v, l, he, hrd, hb1, _, hz⟩
    rw [H0.out] at he
    subst he
    obtain ⟨g, rfl, hg, hN, hc⟩ := hz H0.out
    obtain ⟨a1, c1, rfl, hll, hl⟩ := hrd
    have HL := Lib.hid hl
    have HC := Lib.hid hc
    have HB1 := Lib.hid hb1
    rw [gi_length]
    have HFL := Lib.hid (flat_len hc.part)
    have HFN := Lib.hid (flat_nodup hc.part)
    clear hz hg hc hl hb1
    go_wp2_with (at_make; refine wpList_make_full _ rfl _ _ 35 rfl w1.heap.size 4 l0' _ 1 Try.underlying35 hl1 hl2 hl3 _ _ _ _ g.length rfl rfl rfl rfl (by rw [hl4]; omega) (by unfold maxLen; omega) (Nat.le_refl _) ?_)
    intro w2 hown hgrow
    have hm2 : MarkAt w1.heap.size w1.heap.size g.length (fun _ => false) w1 w2 := by
      refine ⟨?_, (Below.refl _ w1).grown hgrow (Nat.le_refl _) (fun k h => by cases h)⟩
      rw [← fv_made]
      simpa using hown
    have M2 := Lib.hid hm2
    clear hm2 hown hgrow
    go_wp2_with fail
    go_loopg [6, 7] l.length (fun d v6 v wr => ∃ (i : Nat) (M : Nat → Bool), i + d = l.length ∧ v = .int .i64 i ∧ v6 = .int .i64 (dn l i 0).length ∧ MarkAt w1.heap.size w1.heap.size g.length M w1 wr ∧ ∀ x, M x = true ↔ x ∈ dn l i 0)
    case atStart => exact ⟨0, _, by omega, rfl, by simp [dn], M2.out, by simp [dn]⟩
    case round =>
      obtain ⟨i, M, hi, rfl, rfl, hm, hM⟩ := hrel
      have HI := Lib.hid hi
      have HM := Lib.hid hm
      have HMM := Lib.hid hM
      have hile : i ≤ l.length := by omega
      clear hi hM
      by_cases hlt : i < l.length
      · have hlt' : (i : Int) < l.length := by omega
        have hCm : l[i] ∈ l := List.getElem_mem hlt
        have eC : U l i = l[i] := by unfold U; rw [List.getD_eq_getElem?_getD, List.getElem?_eq_getElem hlt]; rfl
        have HRG := Lib.hid (show ∀ x ∈ U l i, x < g.length from fun x hx => HC.out.part.rng _ hCm x (eC ▸ hx))
        have HRS := Lib.hid (show Rising (U l i) from eC ▸ (HC.out.part.sc _ hCm).1)
        obtain ⟨ad, a2, c2, rfl, had, y0, hUl, hUj⟩ := HL.out i hlt
        have HY0 := Lib.hid y0
        have HUJ := Lib.hid hUj
        clear hm hCm eC y0 hUj
        go_wp2_with fail
        go_loopg [6, 8] (U l i).length (fun d v6 v wr => ∃ (j : Nat) (M : Nat → Bool), j + d = (U l i).length ∧ v = .int .i64 j ∧ v6 = .int .i64 (dn l i j).length ∧ MarkAt w1.heap.size w1.heap.size g.length M w1 wr ∧ ∀ x, M x = true ↔ x ∈ dn l i j)
        case atStart => exact ⟨0, M, by omega, rfl, rfl, HM.out, HMM.out⟩
        case round =>
          obtain ⟨j, M3, hj, rfl, rfl, hm3, hM3⟩ := hrel
          have HJ := Lib.hid hj
          have HM3 := Lib.hid hm3
          have HMM3 := Lib.hid hM3
          have hjle : j ≤ (U l i).length := by omega
          have y0 := (hm3.2.cell (p := ad.add i) (by rw [block_of_add]; exact had)).trans HY0.out
          have hdl : (dn l i j).length ≤ 2048 := by
            have := (dn_sub l i j).length_le
            rw [HFL.out] at this
            omega
          clear hj hM3
          by_cases hjt : j < (U l i).length
          · have hjt' : (j : Int) < (U l i).length := by omega
            obtain ⟨ad2, rfl, had2, c0⟩ := HUJ.out j hjt
            replace c0 := (hm3.2.cell (p := ad2.add j) (by rw [block_of_add]; exact had2)).trans c0
            have hxN := HRG.out _ (List.getElem_mem hjt)
            have HD := Lib.hid (dn_more l hjt)
            have hnot : (U l i)[j] ∉ dn l i j := fun e => by
              have := HFN.out.sublist (dn_sub l i (j + 1))
              rw [dn_more l hjt, List.nodup_append] at this
              exact this.2.2 _ e _ (by simp) rfl
            have hM3x : M3 (U l i)[j] = false := by
              cases e : M3 (U l i)[j] with
              | false => rfl
              | true => exact absurd ((HMM3.out _).1 e) hnot
            have HPR : Hid (∀ hj0 : 0 < j, ∀ hq : j - 1 < (U l i).length, (((U l i)[j - 1] : Nat) : Int) < (((U l i)[j] : Nat) : Int)) := Lib.hid fun hj0 hq => by
              have := (List.pairwise_iff_getElem.1 HRS.out) (j - 1) j hq hjt (by omega)
              omega
            generalize (U l i)[j] = x at c0 hxN HD hnot hM3x HPR
            have hxN' : (x : Int) < g.length := by omega
            have s0 := (World.ownsRow.cellAt HM3.out.1 x (by omega)).trans (fv_get hxN)
            have s1 := World.ownsRow.frozenAt HM3.out.1 x
            rw [hM3x] at s0
            have HREL := Lib.hid (show ∀ y, upd M3 x true y = true ↔ y ∈ dn l i (j + 1) from fun y => by
              rw [HD.out, List.mem_append, List.mem_singleton, ← HMM3.out y]
              unfold upd
              by_cases e : y = x <;> simp [e])
            have HLEN := Lib.hid (show (dn l i (j + 1)).length = (dn l i j).length + 1 by rw [HD.out]; simp)
            clear hnot hM3x
            rcases Nat.eq_zero_or_pos j with hj0 | hj0
            · have hng : ¬ (0 : Int) < j := by omega
              clear hm3 hj0
              go_wp2_with fail
              go_roundg ((U l i).length - (j + 1))
              case measure => have := HJ.out; omega
              case rel => exact ⟨j + 1, upd M3 x true, by have := HJ.out; omega, by go_num, by rw [HLEN.out]; go_num, HM3.out.put hxN (Nat.le_refl _), HREL.out⟩
            · have hq : j - 1 < (U l i).length := by omega
              obtain ⟨ad3, had3e, had3, c1⟩ := HUJ.out (j - 1) hq
              obtain rfl : ad2 = ad3 := by simpa using had3e
              replace c1 := (hm3.2.cell (p := ad2.add (j - 1)) (by rw [block_of_add]; exact had2)).trans c1
              have hpr := HPR.out hj0 hq
              generalize (U l i)[j - 1] = y at c1 hpr
              have hj0' : (0 : Int) < j := by omega
              clear hm3 had3e
              go_wp2_with fail
              go_roundg ((U l i).length - (j + 1))
              case measure => have := HJ.out; omega
              case rel => exact ⟨j + 1, upd M3 x true, by have := HJ.out; omega, by go_num, by rw [HLEN.out]; go_num, HM3.out.put hxN (Nat.le_refl _), HREL.out⟩
          · have hge : ¬ (j : Int) < (U l i).length := by omega
            have hjn : j = (U l i).length := by omega
            have HN := Lib.hid (show dn l (i + 1) 0 = dn l i j by rw [hjn]; exact dn_next l hlt)
            clear hjn hm3
            go_wp2_with fail
            go_roundg (l.length - (i + 1))
            case measure => have := HI.out; omega
            case rel => exact ⟨i + 1, M3, by have := HI.out; omega, by go_num, by rw [HN.out], HM3.out, fun x => by rw [HN.out]; exact HMM3.out x⟩
      · have hge : ¬ (i : Int) < l.length := by omega
        have hin : i = l.length := by omega
        have hd : (dn l i 0).length = g.length := by
          unfold dn
          rw [hin, List.take_length, List.take_zero, List.append_nil]
          exact HFL.out
        rw [hd]
        have HK := known_any wr
        have hz1 := HB1.out.size
        have hz2 := HM.out.2.size
        clear hm hin hd
        go_wp2_with fail
        refine HK.mono ?_
        rintro e w9 ⟨rfl, hb9⟩
        have HB9 := Lib.hid hb9
        clear HK hb9
        go_wp2_with fail
        go_ret
        exact ⟨rfl, (HB1.out.trans (HM.out.2.mono hz1)).trans (HB9.out.mono (by omega))⟩
  · have H0 := Lib.hid h0
    obtain ⟨cc, hcc⟩ : ∃ cc, wrongC G = cc := ⟨_, rfl⟩
    have e0 : (cc != 0) = true := by rw [← hcc]; simpa using h0
    have e1 : (cc == cc) = true := by simp
    have HCC := Lib.hid hcc
    clear h0 hcc
    go_enter Try.func4, Try.ntmps4
    go_wp2_with fail
    refine HGR.out.mono ?_
    rintro e w1 ⟨v, l, he, hrd, hb1, hl0, _⟩
    rw [HCC.out] at he
    subst he
    obtain rfl := hl0 H0.out
    obtain ⟨a1, c1, rfl, _, _⟩ := hrd
    have HB1 := Lib.hid hb1
    have HK := known_any w1
    have HW := rwrong_any w1 (HRR.out.below hb1 (Nat.le_refl _))
    rw [HCC.out] at HW
    clear hl0 hb1
    go_wp2_with fail
    refine HW.mono ?_
    rintro e w2 ⟨rfl, rfl⟩
    clear HW
    go_wp2_with fail
    refine HK.mono ?_
    rintro e w9 ⟨rfl, hb9⟩
    have HB9 := Lib.hid hb9
    clear HK hb9
    go_wp2_with fail
    go_ret
    exact ⟨rfl, HB1.out.trans (HB9.out.mono HB1.out.size)⟩
theorem law (b : Option Addr) (n c : Nat) (hn : n ≤ 9223372036854775807) (G : List (List Int)) (w : World) (hr : RowR w w.heap.size b n G) :
    Calls Try.prog 4 #[.slice b n c] w fun e w' => e = .returned (.bool true) ∧ Below w.heap.size w w' := once_law b n c hn G w hr
end Go.Proofs.Ytephmagficbdeaa.GroupsOnce
