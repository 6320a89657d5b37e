/-
  CONTRACT: the groups of things.
-/
import Derived.Test.YtephmagficbdeaaGrK
namespace Go.Proofs.Ytephmagficbdeaa.Gr
open Go.RowKit Go.Shelf Go.Sort Mm Sp
set_option linter.unusedVariables false
set_option linter.unusedSimpArgs false
/-- what Groups answers -/
def GroupsPost (G : List (List Int)) (w : World) (e : Ending) (w' : World) : Prop :=
  ∃ v l, e = .returned (.tuple #[v, .int .i64 (wrongC G)]) ∧ ReadG w' v l ∧ Below w.heap.size w w' ∧ (wrongC G ≠ 0 → l = []) ∧ (wrongC G = 0 → ∃ g, G = gi g ∧ (∀ x < g.length, ∀ y ∈ U g x, y < g.length) ∧ g.length ≤ 2048 ∧ Canon g l)
theorem wrongC_zero {G : List (List Int)} (h : wrongC G = 0) : G.length ≤ 2048 ∧ ∃ g, G = gi g ∧ ∀ x < g.length, ∀ y ∈ U g x, y < g.length := by
  unfold wrongC at h
  split at h
  · simp at h
  · split at h
    · next h1 h2 => exact ⟨by omega, nat_rows h2⟩
    · simp at h
theorem RRN.mono2 {B B' : Nat} {w : World} {ua : Option Addr} {g : List (List Nat)} (h : RRN B w ua g) (hle : B ≤ B') : RRN B' w ua g := by
  intro i hi
  obtain ⟨ad, a2, c2, h1, h2, h3, h4, h5⟩ := h i hi
  refine ⟨ad, a2, c2, h1, by omega, h3, h4, fun j hj => ?_⟩
  obtain ⟨ad2, k1, k2, k3⟩ := h5 j hj
  exact ⟨ad2, k1, by omega, k3⟩
theorem ReadG.nil (w : World) : ReadG w (.slice none 0 0) [] := ⟨none, 0, rfl, by simp, fun i hi => by simp at hi⟩
theorem groups_any (hS : SortOK) (hF : SortFOK) {v : Value} {G : List (List Int)} (w : World) (h : RR w.heap.size w v G) : Calls Try.prog 10 #[v] w (GroupsPost G w) := by
  have hW := wrong_any w h
  by_cases h0 : wrongC G = 0
  · obtain ⟨hlen, g, rfl, hg⟩ := wrongC_zero h0
    obtain ⟨ua, uc, rfl, hu⟩ := h.nat
    rw [gi_length] at hlen
    have HF := found_any (uc := uc) hS hF w hu hg hlen
    have HU := Lib.hid hu
    have HG := Lib.hid hg
    have H0 := Lib.hid h0
    rw [h0] at hW
    clear h hu hg h0
    go_enter Try.func10, Try.ntmps10
    go_wp2_with fail
    refine hW.mono ?_
    rintro e w' ⟨rfl, rfl⟩
    go_wp2_with fail
    refine HF.mono ?_
    rintro e w2 ⟨v2, gs, rfl, hown, hpt, hby, hb2⟩
    have hown' := hown
    obtain ⟨vs, ho, hr⟩ := hown'
    obtain ⟨a2, c2, rfl⟩ := own_slice ho
    have hrd := hown.reads rfl
    have HO := ordered_any (uc := uc) (gc := c2) w2 ((HU.out.below hb2 (Nat.le_refl _)).mono2 hb2.size) hrd HG.out hpt hby hlen
    have HB2 := Lib.hid hb2
    clear hown hpt hby hb2 ho hr hrd hW HF
    go_wp2_with fail
    refine HO.mono ?_
    rintro e w3 ⟨v3, l, rfl, hc, hrd3, hb3⟩
    obtain ⟨a3, c3, rfl, hl3, hr3⟩ := hrd3
    have HC := Lib.hid hc
    have HR3 := Lib.hid hr3
    have HB3 := Lib.hid hb3
    have HL3 := Lib.hid hl3
    clear HO hc hr3 hb3 hl3
    go_wp2_with fail
    go_ret2
    refine ⟨_, l, by rw [H0.out]; rfl, ⟨a3, c3, rfl, HL3.out, HR3.out⟩, HB2.out.trans (HB3.out.mono HB2.out.size), fun e => absurd H0.out e, fun _ => ⟨g, rfl, HG.out, hlen, HC.out⟩⟩
  · have H0 := Lib.hid h0
    obtain ⟨c, hc⟩ : ∃ c, wrongC G = c := ⟨_, rfl⟩
    rw [hc] at hW
    have e0 : (c != 0) = true := by rw [← hc]; simpa using h0
    have HC := Lib.hid hc
    clear hc h0 h
    go_enter Try.func10, Try.ntmps10
    go_wp2_with fail
    refine hW.mono ?_
    rintro e w' ⟨rfl, rfl⟩
    go_wp2_with fail
    go_ret2
    refine ⟨_, [], by rw [HC.out]; rfl, ReadG.nil _, Below.refl _ _, fun _ => rfl, fun e => absurd e H0.out⟩
end Go.Proofs.Ytephmagficbdeaa.Gr
