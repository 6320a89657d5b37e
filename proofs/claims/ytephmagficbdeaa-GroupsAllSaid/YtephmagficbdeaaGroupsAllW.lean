/-
  The walk of the law changelinglaw11.GroupsAll: any rows of uses are parted into the document's groups, or refused; what one reaches is the document's.
-/
import Derived.Test.YtephmagficbdeaaGrRefD
namespace Go.Proofs.Ytephmagficbdeaa.GroupsAll
open Go.RowKit Go.Shelf Go.Sort Mm Sp Gr GroupsOnce
set_option linter.unusedVariables false
set_option linter.unusedSimpArgs false
theorem reach_eq {G : List (List Int)} {a c c' : Int} {l l' : List Nat}
    (h : (c ≠ 0 ∧ l = [] ∧ c = (if wrongC G = 0 then 1 else wrongC G) ∧ ¬ (wrongC G = 0 ∧ 0 ≤ a ∧ a < G.length)) ∨ (c = 0 ∧ wrongC G = 0 ∧ 0 ≤ a ∧ a < G.length ∧ ∀ g, G = gi g → Rising l ∧ ∀ y, y ∈ l ↔ Needs g a.toNat y))
    (h' : (c' ≠ 0 ∧ l' = [] ∧ c' = (if wrongC G = 0 then 1 else wrongC G) ∧ ¬ (wrongC G = 0 ∧ 0 ≤ a ∧ a < G.length)) ∨ (c' = 0 ∧ wrongC G = 0 ∧ 0 ≤ a ∧ a < G.length ∧ ∀ g, G = gi g → Rising l' ∧ ∀ y, y ∈ l' ↔ Needs g a.toNat y)) : l = l' ∧ c = c' := by
  rcases h with ⟨_, rfl, e, hn⟩ | ⟨e, h1, h2, h3, h4⟩ <;> rcases h' with ⟨_, rfl, e', hn'⟩ | ⟨e', h1', h2', h3', h4'⟩
  · exact ⟨rfl, e.trans e'.symm⟩
  · exact absurd ⟨h1', h2', h3'⟩ hn
  · exact absurd ⟨h1, h2, h3⟩ hn'
  · obtain ⟨_, g, hg, _⟩ := wrongC_zero h1
    have q := h4 g hg
    have q' := h4' g hg
    exact ⟨rising_ext q.1 q'.1 fun x => (q.2 x).trans (q'.2 x).symm, e.trans e'.symm⟩
theorem groups_eq {G : List (List Int)} {l l' : List (List Nat)} (h0 : wrongC G ≠ 0 → l = []) (h1 : wrongC G = 0 → ∃ g, G = gi g ∧ (∀ x < g.length, ∀ y ∈ U g x, y < g.length) ∧ g.length ≤ 2048 ∧ Canon g l)
    (k0 : wrongC G ≠ 0 → l' = []) (k1 : wrongC G = 0 → ∃ g, G = gi g ∧ (∀ x < g.length, ∀ y ∈ U g x, y < g.length) ∧ g.length ≤ 2048 ∧ Canon g l') : l = l' := by
  by_cases e : wrongC G = 0
  · obtain ⟨g, rfl, _, _, c⟩ := h1 e
    obtain ⟨g', hg, _, _, c'⟩ := k1 e
    obtain rfl := gi_inj hg
    exact c.unique c'
  · rw [h0 e, k0 e]
set_option maxRecDepth 100000 in
set_option maxHeartbeats 8000000 in
theorem law (b : Option Addr) (n c : Nat) (hn : n ≤ 9223372036854775807) (G : List (List Int)) (x1 : Int) (h11 : -9223372036854775808 ≤ x1) (h12 : x1 ≤ 9223372036854775807) (w : World) (hr : RowR w w.heap.size b n G) :
    Calls Try.prog 3 #[.slice b n c, .int .i64 x1] w fun e w' => e = .returned (.bool true) ∧ Below w.heap.size w w' := by
  obtain ⟨rfl, hrr⟩ := hr
  have HRR := Lib.hid (hrr c)
  have HFW := Lib.hid (few_any w (hrr c))
  have HGR := Lib.hid (groups_any sortOK sortFOK w (hrr c))
  clear hrr
  go_enter Try.func3, Try.ntmps3
  go_wp2_with fail
  refine HFW.out.mono ?_
  rintro e w0 ⟨t, rfl, rfl⟩
  cases t with
  | false =>
    have HK := known_any w0
    clear HGR HFW
    go_wp2_with fail
    refine HK.mono ?_
    rintro e w9 ⟨rfl, hb9⟩
    have HB9 := Lib.hid hb9
    clear HK hb9
    go_wp2_with fail
    go_ret
    exact ⟨rfl, HB9.out⟩
  | true =>
    go_wp2_with fail
    refine HGR.out.mono ?_
    rintro e w1 ⟨v, l, rfl, hrd, hb1, he1, hz1⟩
    obtain ⟨cc, hcc⟩ : ∃ cc, wrongC G = cc := ⟨_, rfl⟩
    obtain ⟨a1, c1, rfl, hll, hl⟩ := hrd
    have HL := Lib.hid (show ReadG w1 (.slice a1 l.length c1) l from ⟨a1, c1, rfl, hll, hl⟩)
    have HB1 := Lib.hid hb1
    have HR1 := Lib.hid ((HRR.out.below hb1 (Nat.le_refl _)).mono hb1.size)
    have HE1 := Lib.hid he1
    have HZ1 := Lib.hid hz1
    have HRG := Lib.hid (rgroups_any w1 HR1.out (fun e g hg => by
      obtain ⟨g', hg', _, _, hc⟩ := HZ1.out e
      obtain rfl := gi_inj (hg.symm.trans hg')
      exact ⟨l, hc.part⟩))
    have HC := Lib.hid hcc
    clear hl hb1 he1 hz1 HFW HGR
    rw [hcc]
    clear hcc
    go_wp2_with fail
    refine HRG.out.mono ?_
    rintro e w2 ⟨v2, l2, rfl, hrd2, hb2, he2, hz2⟩
    obtain rfl : l = l2 := groups_eq HE1.out HZ1.out he2 hz2
    rw [HC.out]
    obtain ⟨a2, c2, rfl, hll2, hl2⟩ := hrd2
    have HL2 := Lib.hid (show ReadG w2 (.slice a2 l.length c2) l from ⟨a2, c2, rfl, hll2, hl2⟩)
    have HLL := Lib.hid (HL.out.below hb2)
    have HR2 := Lib.hid ((HR1.out.below hb2 (Nat.le_refl _)).mono hb2.size)
    have HB2 := Lib.hid (HB1.out.trans (hb2.mono HB1.out.size))
    have HX := Lib.hid (reach_any sortOK x1 w2 HR2.out)
    clear hl2 hb2 he2 hz2 HRG HL HE1 HZ1
    go_wp2_with fail
    refine HX.out.mono ?_
    rintro e w3 ⟨v3, lx, cx, rfl, ⟨px, qx, rfl, hlx, hrx⟩, hb3, hox⟩
    have HOX := Lib.hid hox
    have HRX := Lib.hid (show RdI w3 (.slice px lx.length qx) (ni lx) from ⟨px, qx, by rw [ni_length], by rw [ni_length]; omega, by rw [ni_length]; exact hrx⟩)
    have HL3 := Lib.hid (HL2.out.below hb3)
    have HLL3 := Lib.hid (HLL.out.below hb3)
    have HR3 := Lib.hid ((HR2.out.below hb3 (Nat.le_refl _)).mono hb3.size)
    have HB3 := Lib.hid (HB2.out.trans (hb3.mono HB2.out.size))
    have HY := Lib.hid (rreach_any x1 w3 HR3.out)
    clear hox hrx hb3 HX HL2 HLL
    go_wp2_with fail
    refine HY.out.mono ?_
    rintro e w4 ⟨v4, ly, cy, rfl, ⟨py, qy, rfl, hly, hry⟩, hb4, hoy⟩
    obtain ⟨rfl, rfl⟩ := reach_eq HOX.out hoy
    have HRY := Lib.hid (show RdI w4 (.slice py lx.length qy) (ni lx) from ⟨py, qy, by rw [ni_length], by rw [ni_length]; omega, by rw [ni_length]; exact hry⟩)
    have HRX4 := Lib.hid (HRX.out.below hb4)
    have HL4 := Lib.hid (HL3.out.below hb4)
    have HLL4 := Lib.hid (HLL3.out.below hb4)
    have HB4 := Lib.hid (HB3.out.trans (hb4.mono HB3.out.size))
    clear hoy hry hb4 HY HOX HRX HL3 HLL3 HR3 HR2 HR1
    go_wp2_with fail
    refine (same_any w4 HLL4.out HL4.out).mono ?_
    rintro e w5 ⟨rfl, n5, rfl⟩
    go_wp2_with fail
    refine (samei_any _ (HRX4.out.drewN n5) (HRY.out.drewN n5)).mono ?_
    rintro e w6 ⟨rfl, n6, rfl⟩
    have HK := known_any (w4.drewN (n5 + n6))
    have HB6 := Lib.hid (show Below w0.heap.size w0 (w4.drewN (n5 + n6)) from ⟨HB4.out.os, HB4.out.tape, HB4.out.output, HB4.out.size, HB4.out.block⟩)
    clear HL4 HLL4 HRX4 HRY
    go_wp2_with fail
    refine HK.mono ?_
    rintro e w9 ⟨rfl, hb9⟩
    have HB9 := Lib.hid (HB6.out.trans (hb9.mono HB6.out.size))
    clear HK hb9
    go_wp2_with fail
    go_ret
    exact ⟨rfl, HB9.out⟩
end Go.Proofs.Ytephmagficbdeaa.GroupsAll
