/-
  TWO STORES IN STEP, plainly: both in bounds, behind i pairs. No memory in sight.
-/
import Derived.Test.YtcaioffdcbjbjaaGPrD
import Derived.Test.YtcaioffdcbjbjaaGSmE
import Derived.Test.YtcaioffdcbjbjaaGTu

namespace Go.Proofs.Ytcaioffdcbjbjaa.Un
open Go.RowKit Mm Tm Ua
set_option linter.unusedVariables false
theorem KBi.more {i c : Nat} {K : PS} (h : KBi i c K) : KBi (i + 1) c K := by
  obtain ⟨⟨⟨⟨rk, r1, r2⟩, r3, r4⟩, V, h1, h2⟩, h3⟩ := h
  exact ⟨⟨⟨⟨rk, r1, fun n => by have := r2 n; omega⟩, r3, r4⟩, V, h1, by omega⟩, by omega⟩
structure TwoK (i c : Nat) (K1 K2 : PS) : Prop where
  k1 : KBi i c K1
  k2 : KBi i c K2
  rl : Rl K1 K2
  f1 : Fr ⟨K1, c, []⟩
  f2 : Fr ⟨K2, c, []⟩
theorem TwoK.zero : TwoK 0 0 (fun _ => none) (fun _ => none) := ⟨KBi.zero, KBi.zero, Rl.empty, fr_empty, fr_empty⟩
theorem TwoK.more {i c : Nat} {K1 K2 : PS} (h : TwoK i c K1 K2) : TwoK (i + 1) c K1 K2 := ⟨h.k1.more, h.k2.more, h.rl, h.f1, h.f2⟩
theorem unifyQ_er {q d k : Nat} {K : PS} {c : Nat} {x y : Ty} {e : Int} {K' : PS} {c' : Nat} (h : unifyQ q d k K c x y = some (e, K', c')) (he : e ≠ 0) : K' = K ∧ c' = c := by
  obtain ⟨r, _, h2⟩ := Option.map_eq_some_iff.1 h
  split at h2
  · injection h2 with h2; exact absurd h2.symm he
  · injection h2 with _ h2
    injection h2 with h2 h3
    exact ⟨h2.symm, h3.symm⟩
theorem TwoK.unify {q d k : Nat} (hN : Nums q d k) {i c : Nat} {K1 K2 : PS} (h : TwoK i c K1 K2) (hi : i ≤ 40) {x y : Ty} (hx : okTy x = true) (hy : okTy y = true) (nx : x.args.nodes < 60) (ny : y.args.nodes < 60) :
    ∃ e K1' K2' c', unifyQ q d k K1 c x y = some (e, K1', c') ∧ unifyQ q d k K2 c y x = some (e, K2', c') ∧ TwoK (i + 1) c' K1' K2' := by
  obtain ⟨e1, K1', c1', g1, z1⟩ := h.k1.unify hN hi hx hy nx ny
  obtain ⟨e2, K2', c2', g2, z2⟩ := h.k2.unify hN hi hy hx ny nx
  obtain ⟨rfl, rfl, hr, hf1, hf2⟩ := turn_unify h.rl h.f1 h.f2 (neg_ok hx) (neg_ok hy) (neg_ok hx) (neg_ok hy) g1 g2
  refine ⟨e1, K1', K2', c1', g1, g2, ?_, ?_, hr, hf1, hf2⟩
  · by_cases he : e1 = 0
    · exact z1 he
    · obtain ⟨rfl, rfl⟩ := unifyQ_er g1 he
      exact h.k1.more
  · by_cases he : e1 = 0
    · exact z2 he
    · obtain ⟨rfl, rfl⟩ := unifyQ_er g2 he
      exact h.k2.more
theorem TwoK.whole {q d k : Nat} (hN : Nums q d k) {i c : Nat} {K1 K2 : PS} (h : TwoK i c K1 K2) (hi : i ≤ 41) (kk room : Nat) (x : Ty) : wholeP q K1 kk room x = wholeP q K2 kk room x :=
  turn_whole h.rl (h.k1.ends hN hi).1 (h.k2.ends hN hi).1 kk room x
end Go.Proofs.Ytcaioffdcbjbjaa.Un
