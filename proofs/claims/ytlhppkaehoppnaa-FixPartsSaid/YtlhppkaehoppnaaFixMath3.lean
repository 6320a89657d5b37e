/-
  PLAIN MATHEMATICS for layer fix: what Resolve comes to of a row that an operator of the lowest level parts. No program in sight.
-/
import Derived.Test.YtlhppkaehoppnaaFixMath2
namespace Go.Proofs.Ytlhppkaehoppnaa.Fm
set_option linter.unusedVariables false

theorem parts_res {A L A1 L1 A2 L2 : Nat → Int} {a b : Nat} (e1 : ∀ j, j < a → A j = A1 j ∧ L j = L1 j) (e2 : ∀ j, j < b → A (a + 1 + j) = A2 j ∧ L (a + 1 + j) = L2 j)
    (l1 : ∀ j, j < a → L a < L1 j) (l2 : ∀ j, j < b → L a < L2 j) (hf : Fine A L a) (ha : a ≤ 300) (hb : b ≤ 300)
    {F T F1 T1 F2 T2 : Nat → Nat} {i i1 i2 x y z : Nat} (h1 : Res A1 L1 a F1 T1 i1 x) (h2 : Res A2 L2 b F2 T2 i2 y) (h : Res A L (a + 1 + b) F T i z) :
    (x ≠ 0 ∨ y ≠ 0 → z ≠ 0) ∧ (x = 0 → y = 0 → z = 0 ∧ (∀ k, k < a → F k = F1 k ∧ T k = T1 k) ∧ (∀ k, k < b → F (a + 1 + k) = a + 1 + F2 k ∧ T (a + 1 + k) = a + 1 + T2 k) ∧ F a = 0 ∧ T a = a + 1 + b) := by
  have f1 : ∀ j, j < a → (Fine A L j ↔ Fine A1 L1 j) := fun j hj => by unfold Fine; rw [(e1 j hj).1, (e1 j hj).2]
  have f2 : ∀ j, j < b → (Fine A L (a + 1 + j) ↔ Fine A2 L2 j) := fun j hj => by unfold Fine; rw [(e2 j hj).1, (e2 j hj).2]
  constructor
  · rintro hxy rfl
    rcases h.out with ⟨h0, _⟩ | ⟨h0, _⟩ | ⟨h0, _⟩ | ⟨_, _, _, hg, _⟩
    · exact absurd h0 (by decide)
    · exact absurd h0 (by decide)
    · exact absurd h0 (by decide)
    rcases hxy with hx | hy
    · rcases h1.out with ⟨_, _, g⟩ | ⟨_, _, g1, g2, _⟩ | ⟨_, _, g1, _, g2, _⟩ | ⟨g, _⟩
      · omega
      · exact g2 ((f1 i1 g1).1 (hg.1 i1 (by omega)))
      · exact hg.2 i1 (by omega) ((clash1 e1 g1).2 g2)
      · exact hx g
    · rcases h2.out with ⟨_, _, g⟩ | ⟨_, _, g1, g2, _⟩ | ⟨_, _, g1, _, g2, _⟩ | ⟨g, _⟩
      · omega
      · exact g2 ((f2 i2 g1).1 (hg.1 (a + 1 + i2) (by omega)))
      · exact hg.2 (a + 1 + i2) (by omega) ((clash2 e2 l2 g1).2 g2)
      · exact hy g
  · rintro rfl rfl
    have g1 : Good A1 L1 a ∧ ∀ k, k < a → IsFrom A1 L1 k (F1 k) ∧ IsTo A1 L1 a k (T1 k) := by
      rcases h1.out with ⟨h0, _⟩ | ⟨h0, _⟩ | ⟨h0, _⟩ | ⟨_, _, _, hg, hs⟩
      · exact absurd h0 (by decide)
      · exact absurd h0 (by decide)
      · exact absurd h0 (by decide)
      · exact ⟨hg, hs⟩
    have g2 : Good A2 L2 b ∧ ∀ k, k < b → IsFrom A2 L2 k (F2 k) ∧ IsTo A2 L2 b k (T2 k) := by
      rcases h2.out with ⟨h0, _⟩ | ⟨h0, _⟩ | ⟨h0, _⟩ | ⟨_, _, _, hg, hs⟩
      · exact absurd h0 (by decide)
      · exact absurd h0 (by decide)
      · exact absurd h0 (by decide)
      · exact ⟨hg, hs⟩
    have hpart : ∀ k, k < a + 1 + b → k < a ∨ k = a ∨ ∃ j, j < b ∧ k = a + 1 + j := fun k hk => by
      by_cases h3 : k < a
      · exact .inl h3
      by_cases h4 : k = a
      · exact .inr (.inl h4)
      · exact .inr (.inr ⟨k - a - 1, by omega, by omega⟩)
    have hfine : ∀ k, k < a + 1 + b → Fine A L k := fun k hk => by
      rcases hpart k hk with h3 | rfl | ⟨j, hj, rfl⟩
      · exact (f1 k h3).2 (g1.1.1 k h3)
      · exact hf
      · exact (f2 j hj).2 (g2.1.1 j hj)
    have hclash : ∀ k, k < a + 1 + b → ¬ Clash A L k := fun k hk => by
      rcases hpart k hk with h3 | rfl | ⟨j, hj, rfl⟩
      · exact fun h5 => g1.1.2 k h3 ((clash1 e1 h3).1 h5)
      · exact clash0 e1 l1
      · exact fun h5 => g2.1.2 j hj ((clash2 e2 l2 hj).1 h5)
    rcases h.out with ⟨_, _, h0⟩ | ⟨_, _, h3, h4, _⟩ | ⟨_, _, h3, _, h4, _⟩ | ⟨h3, _, _, _, hs⟩
    · omega
    · exact absurd (hfine i h3) h4
    · exact absurd h4 (hclash i h3)
    · refine ⟨h3, fun k hk => ⟨?_, ?_⟩, fun k hk => ⟨?_, ?_⟩, ?_, ?_⟩
      · exact from_one (hs k (by omega)).1 (from1 e1 hk (g1.2 k hk).1)
      · exact to_one (hs k (by omega)).2 (to1 e1 l1 (by omega) hk (g1.2 k hk).2)
      · exact from_one (hs _ (by omega)).1 (from2 e2 l2 hk (g2.2 k hk).1)
      · exact to_one (hs _ (by omega)).2 (to2 e2 hk (g2.2 k hk).2)
      · exact from_one (hs a (by omega)).1 (mid_spans e1 e2 l1 l2).1
      · exact to_one (hs a (by omega)).2 (mid_spans e1 e2 l1 l2).2
end Go.Proofs.Ytlhppkaehoppnaa.Fm
