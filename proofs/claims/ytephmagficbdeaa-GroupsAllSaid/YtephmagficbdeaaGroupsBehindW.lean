/-
  The walk of the law changelinglaw11.GroupsBehind: what a group needs stands in it, or ahead of it.
-/
import Derived.Test.YtephmagficbdeaaGrO
namespace Go.Proofs.Ytephmagficbdeaa.GroupsBehind
open Go.RowKit Go.Shelf Go.Sort Mm Sp Gr
set_option linter.unusedVariables false
set_option linter.unusedSimpArgs false
/-- marks of the call's own -/
def MarkAt (B sb N : Nat) (M : Nat → Bool) (w1 wr : World) : Prop := wr.ownsRow B TB 1 (.slice (some ⟨sb, 0, none⟩) N N) N (fv N fun i => .bool (M i)) ∧ Below B w1 wr
theorem MarkAt.put {B sb N : Nat} {M : Nat → Bool} {w1 wr : World} (h : MarkAt B sb N M w1 wr) {n : Nat} (hn : n < N) (hB : B ≤ sb) : MarkAt B sb N (upd M n true) w1 (wr.setCell ⟨sb, n, none⟩ (.bool true)) := by
  refine ⟨?_, h.2.setCell (p := ⟨sb, n, none⟩) hB _⟩
  have := (World.ownsRow.stored h.1 n (.bool true)).1
  rw [fv_set _ hn, upd_map Value.bool M n true] at this
  exact this
theorem mem_take_succ {α : Type} {l : List α} {i : Nat} (hi : i < l.length) {x : α} : x ∈ l.take (i + 1) ↔ x ∈ l.take i ∨ x = l[i] := by
  rw [List.take_add_one, List.getElem?_eq_getElem hi, Option.toList_some, List.mem_append, List.mem_singleton]
set_option maxRecDepth 100000 in
set_option maxHeartbeats 8000000 in
theorem behind_law (b : Option Addr) (n c : Nat) (hn : n ≤ 9223372036854775807) (G : List (List Int)) (w : World) (hr : RowR w w.heap.size b n G) :
    Calls Try.prog 5 #[.slice b n c] w fun e w' => e = .returned (.bool true) ∧ Below w.heap.size w w' := by
  obtain ⟨rfl, hrr⟩ := hr
  have HRR := Lib.hid (hrr c)
  have HGR := Lib.hid (groups_any sortOK sortFOK w (hrr c))
  clear hrr
  by_cases h0 : wrongC G = 0
  · have H0 := Lib.hid h0
    clear h0
    obtain ⟨l0', hl1, hl2, hl3⟩ : ∃ i, Try.prog.info? 4 = some i ∧ i.zero = some (.bool false) ∧ i.size = 1 := by
      obtain ⟨i, a1, a2, a3, _⟩ := info_parts Tbool
      exact ⟨i, a1, a2, a3⟩
    have hl4 : l0'.bytes = 1 := by
      obtain ⟨i, a1, a2, a3, a4⟩ := info_parts Tbool
      rw [hl1] at a1
      injection a1 with e
      rw [e]; exact a4
    go_enter Try.func5, Try.ntmps5
    go_wp2_with fail
    refine HGR.out.mono ?_
    rintro e w1 ⟨v, l, he, hrd, hb1, _, hz⟩
    rw [H0.out] at he
    subst he
    obtain ⟨g, rfl, hg, hN, hc⟩ := hz H0.out
    obtain ⟨ua, uc, hv, hu⟩ := HRR.out.nat
    rw [gi_length] at hv
    simp only [Value.slice.injEq] at hv
    obtain ⟨rfl, _, rfl⟩ := hv
    obtain ⟨a1, c1, rfl, hll, hl⟩ := hrd
    have HU := Lib.hid ((hu.below hb1 (Nat.le_refl _)).mono2 hb1.size)
    have HL := Lib.hid hl
    have HC := Lib.hid hc
    have HG := Lib.hid hg
    have HB1 := Lib.hid hb1
    rw [gi_length]
    clear hz hg hc hu hl hb1
    go_wp2_with (at_make; refine wpList_make_full _ rfl _ _ 35 rfl w1.heap.size 4 l0' _ 1 Try.underlying35 hl1 hl2 hl3 _ _ _ _ g.length rfl rfl rfl rfl (by rw [hl4]; omega) (by unfold maxLen; omega) (Nat.le_refl _) ?_)
    intro w2 hown hgrow
    have hm2 : MarkAt w1.heap.size w1.heap.size g.length (fun _ => false) w1 w2 := by
      refine ⟨?_, (Below.refl _ w1).grown hgrow (Nat.le_refl _) (fun k h => by cases h)⟩
      rw [← fv_made]
      simpa using hown
    have M2 := Lib.hid hm2
    clear hm2 hown hgrow
    go_wp2_with fail
    go_loopg [6] l.length (fun d v wr => ∃ (i : Nat) (M : Nat → Bool), i + d = l.length ∧ v = .int .i64 i ∧ MarkAt w1.heap.size w1.heap.size g.length M w1 wr ∧ ∀ D ∈ l.take i, ∀ x ∈ D, M x = true)
    case atStart => exact ⟨0, _, by omega, rfl, M2.out, by simp⟩
    case round =>
      obtain ⟨i, M, hi, rfl, hm, hM⟩ := hrel
      have HI := Lib.hid hi
      have HM := Lib.hid hm
      have HMM := Lib.hid hM
      have hile : i ≤ l.length := by omega
      clear hi hM
      by_cases hlt : i < l.length
      · have hlt' : (i : Int) < l.length := by omega
        have hCm : l[i] ∈ l := List.getElem_mem hlt
        have eC : U l i = l[i] := by unfold U; rw [List.getD_eq_getElem?_getD, List.getElem?_eq_getElem hlt]; rfl
        have HRG := Lib.hid (show ∀ x ∈ U l i, x < g.length from fun x hx => HC.out.part.rng _ hCm x (eC ▸ hx))
        have HRDY := Lib.hid (show ∀ x ∈ U l i, ∀ u ∈ U g x, u ∈ U l i ∨ ∃ D ∈ l.take i, u ∈ D from fun x hx u hu => by
          have := HC.out.rdy i _ (List.getElem?_eq_getElem hlt) x (eC ▸ hx) u hu
          rwa [← eC] at this)
        have HEC := Lib.hid eC
        obtain ⟨ad, a2, c2, rfl, had, y0, hUl, hUj⟩ := HL.out i hlt
        have HY0 := Lib.hid y0
        have HUJ := Lib.hid hUj
        clear hm hCm eC y0 hUj
        go_wp2_with fail
        go_loopg [7] (U l i).length (fun d v wr => ∃ (j : Nat) (M : Nat → Bool), j + d = (U l i).length ∧ v = .int .i64 j ∧ MarkAt w1.heap.size w1.heap.size g.length M w1 wr ∧ (∀ D ∈ l.take i, ∀ x ∈ D, M x = true) ∧ ∀ x ∈ (U l i).take j, M x = true)
        case atStart => exact ⟨0, M, by omega, rfl, HM.out, HMM.out, by simp⟩
        case round =>
          obtain ⟨j, M3, hj, rfl, hm3, hM3, hM4⟩ := hrel
          have HJ := Lib.hid hj
          have HM3 := Lib.hid hm3
          have HMM3 := Lib.hid hM3
          have HMM4 := Lib.hid hM4
          have hjle : j ≤ (U l i).length := by omega
          have y0 := (hm3.2.cell (p := ad.add i) (by rw [block_of_add]; exact had)).trans HY0.out
          clear hj hM3 hM4
          by_cases hjt : j < (U l i).length
          · have hjt' : (j : Int) < (U l i).length := by omega
            obtain ⟨ad2, rfl, had2, c0⟩ := HUJ.out j hjt
            replace c0 := (hm3.2.cell (p := ad2.add j) (by rw [block_of_add]; exact had2)).trans c0
            have hxN := HRG.out _ (List.getElem_mem hjt)
            have HT := Lib.hid (show (U l i).take (j + 1) = (U l i).take j ++ [(U l i)[j]] by rw [List.take_add_one, List.getElem?_eq_getElem hjt]; rfl)
            generalize (U l i)[j] = x at c0 hxN HT
            have hxN' : (x : Int) < g.length := by omega
            have s0 := (World.ownsRow.cellAt HM3.out.1 x (by omega)).trans (fv_get hxN)
            have s1 := World.ownsRow.frozenAt HM3.out.1 x
            clear hm3
            go_wp2_with fail
            go_roundg ((U l i).length - (j + 1))
            case measure => have := HJ.out; omega
            case rel =>
              refine ⟨j + 1, upd M3 x true, by have := HJ.out; omega, by go_num, HM3.out.put hxN (Nat.le_refl _), fun D hD y hy => ?_, fun y hy => ?_⟩
              · unfold upd; split
                · rfl
                · exact HMM3.out D hD y hy
              · unfold upd; split
                · rfl
                · next hne =>
                  rw [HT.out] at hy
                  exact HMM4.out y ((List.mem_append.1 hy).resolve_right (by simpa using hne))
          · have hge : ¬ (j : Int) < (U l i).length := by omega
            have hjn : j = (U l i).length := by omega
            have HALL := Lib.hid (show ∀ x ∈ U l i, M3 x = true by
              have := HMM4.out
              rw [hjn, List.take_length] at this
              exact this)
            clear hjn hm3
            go_wp2_with fail
            go_loopg [8] (U l i).length (fun d v wr => ∃ (r : Nat), r + d = (U l i).length ∧ v = .int .i64 r ∧ MarkAt w1.heap.size w1.heap.size g.length M3 w1 wr)
            case atStart => exact ⟨0, by omega, rfl, HM3.out⟩
            case round =>
              obtain ⟨r, hr, rfl, hm5⟩ := hrel
              have HR := Lib.hid hr
              have HM5 := Lib.hid hm5
              have hrle : r ≤ (U l i).length := by omega
              have y0 := (hm5.2.cell (p := ad.add i) (by rw [block_of_add]; exact had)).trans HY0.out
              clear hr
              by_cases hrt : r < (U l i).length
              · have hrt' : (r : Int) < (U l i).length := by omega
                obtain ⟨ad2, rfl, had2, c0⟩ := HUJ.out r hrt
                replace c0 := (hm5.2.cell (p := ad2.add r) (by rw [block_of_add]; exact had2)).trans c0
                have hxm := List.getElem_mem hrt
                generalize (U l i)[r] = x at c0 hxm
                have hxN := HRG.out _ hxm
                have hxN' : (x : Int) < g.length := by omega
                obtain ⟨ad3, a3, c3, rfl, had3, y3, hVl, hVj⟩ := (HU.out.below hm5.2 (Nat.le_refl _)) x hxN
                have HVJ := Lib.hid hVj
                have HRX := Lib.hid (HRDY.out x hxm)
                have HB5 := Lib.hid hm5.2
                clear hVj hxm hm5
                go_wp2_with fail
                clear c0 y0 y3
                go_loopg [10] (U g x).length (fun d v wr => ∃ (q : Nat), q + d = (U g x).length ∧ v = .int .i64 q ∧ MarkAt w1.heap.size w1.heap.size g.length M3 w1 wr)
                case atStart => exact ⟨0, by omega, rfl, HM5.out⟩
                case round =>
                  obtain ⟨q, hq, rfl, hm6⟩ := hrel
                  have HQ := Lib.hid hq
                  have HM6 := Lib.hid hm6
                  have hqle : q ≤ (U g x).length := by omega
                  clear hq
                  by_cases hqt : q < (U g x).length
                  · have hqt' : (q : Int) < (U g x).length := by omega
                    obtain ⟨ad4, rfl, had4, c4⟩ := HVJ.out q hqt
                    have hbl4 : (ad4.add q).block < w1.heap.size := by rw [block_of_add]; exact had4
                    replace c4 := (hm6.2.cell hbl4).trans ((HB5.out.cell hbl4).symm.trans c4)
                    have hum := List.getElem_mem hqt
                    have huN := HG.out x hxN _ hum
                    generalize (U g x)[q] = u at c4 huN hum
                    have huN' : (u : Int) < g.length := by omega
                    have s0 := (World.ownsRow.cellAt HM6.out.1 u (by omega)).trans (fv_get huN)
                    have hMu : M3 u = true := by
                      rcases HRX.out u hum with e | ⟨D, hD, e⟩
                      · exact HALL.out u e
                      · exact HMM3.out D hD u e
                    rw [hMu] at s0
                    clear hMu hum hbl4 hm6
                    go_wp2_with fail
                    go_roundg ((U g x).length - (q + 1))
                    case measure => have := HQ.out; omega
                    case rel => exact ⟨q + 1, by have := HQ.out; omega, by go_num, HM6.out⟩
                  · have hge : ¬ (q : Int) < (U g x).length := by omega
                    clear hm6
                    go_wp2_with fail
                    go_roundg ((U l i).length - (r + 1))
                    case measure => have := HR.out; omega
                    case rel => exact ⟨r + 1, by have := HR.out; omega, by go_num, HM6.out⟩
              · have hge : ¬ (r : Int) < (U l i).length := by omega
                clear hm5
                go_wp2_with fail
                go_roundg (l.length - (i + 1))
                case measure => have := HI.out; omega
                case rel =>
                  refine ⟨i + 1, M3, by have := HI.out; omega, by go_num, HM5.out, fun D hD y hy => ?_⟩
                  rcases (mem_take_succ hlt).1 hD with e | e
                  · exact HMM3.out D e y hy
                  · subst e; exact HALL.out y (HEC.out ▸ hy)
      · have hge : ¬ (i : Int) < l.length := by omega
        have HK := known_any wr
        have hz1 := HB1.out.size
        have hz2 := HM.out.2.size
        clear hm
        go_wp2_with fail
        refine HK.mono ?_
        rintro e w9 ⟨rfl, hb9⟩
        have HB9 := Lib.hid hb9
        clear HK hb9
        go_wp2_with fail
        go_ret
        exact ⟨rfl, (HB1.out.trans (HM.out.2.mono hz1)).trans (HB9.out.mono (by omega))⟩
  · have H0 := Lib.hid h0
    obtain ⟨cc, hcc⟩ : ∃ cc, wrongC G = cc := ⟨_, rfl⟩
    have e0 : (cc != 0) = true := by rw [← hcc]; simpa using h0
    have HCC := Lib.hid hcc
    clear h0 hcc
    go_enter Try.func5, Try.ntmps5
    go_wp2_with fail
    refine HGR.out.mono ?_
    rintro e w1 ⟨v, l, he, hrd, hb1, hl0, _⟩
    rw [HCC.out] at he
    subst he
    obtain rfl := hl0 H0.out
    obtain ⟨a1, c1, rfl, _, _⟩ := hrd
    have HB1 := Lib.hid hb1
    have HK := known_any w1
    clear hl0 hb1
    go_wp2_with fail
    refine HK.mono ?_
    rintro e w9 ⟨rfl, hb9⟩
    have HB9 := Lib.hid hb9
    clear HK hb9
    go_wp2_with fail
    go_ret
    exact ⟨rfl, HB1.out.trans (HB9.out.mono HB1.out.size)⟩
theorem law (b : Option Addr) (n c : Nat) (hn : n ≤ 9223372036854775807) (G : List (List Int)) (w : World) (hr : RowR w w.heap.size b n G) :
    Calls Try.prog 5 #[.slice b n c] w fun e w' => e = .returned (.bool true) ∧ Below w.heap.size w w' := behind_law b n c hn G w hr
end Go.Proofs.Ytephmagficbdeaa.GroupsBehind
