/-
  PAIRS MADE THE SAME, one behind the other, plainly; the store stays in bounds. No memory in sight.
-/
import Derived.Test.YtcaioffdcbjbjaaGPrB
import Derived.Test.YtcaioffdcbjbjaaGT

namespace Go.Proofs.Ytcaioffdcbjbjaa.Un
open Go.RowKit Mm Tm Ua
set_option linter.unusedVariables false
theorem wT_nodes : ∀ t : Tys, wT t + t.len ≤ 2 * t.nodes
  | .nil => Nat.le_refl _
  | .cons kd n nm args rest => by
    have h1 := wT_nodes args
    have h2 := wT_nodes rest
    rw [wT, Tys.len, Tys.nodes]
    omega
theorem wY_nodes (x : Ty) : wY x ≤ 2 * x.args.nodes + 1 := by
  have := wT_nodes x.args
  unfold wY
  omega
theorem nvT_wT : ∀ t : Tys, nvT t ≤ wT t
  | .nil => Nat.le_refl _
  | .cons kd n nm args rest => by
    have h1 := nvT_wT args
    have h2 := nvT_wT rest
    rw [nvT, wT]
    split <;> omega
theorem nvY_nodes (x : Ty) : nvY x ≤ 2 * x.args.nodes + 1 := by
  have h1 := wY_nodes x
  have h2 := nvT_wT x.args
  unfold wY at h1
  unfold nvY
  split <;> omega
theorem len_nodes (t : Tys) : t.len ≤ t.nodes := by
  induction t with
  | nil => exact Nat.le_refl _
  | cons kd n nm args rest _ h => rw [Tys.len, Tys.nodes]; omega
theorem arT_nodes {A : Nat} : ∀ t : Tys, t.nodes ≤ A → arT A t
  | .nil, _ => trivial
  | .cons kd n nm args rest, h => by
    rw [Tys.nodes] at h
    exact ⟨by have := len_nodes args; omega, arT_nodes args (by omega), arT_nodes rest (by omega)⟩
theorem arY_nodes {A : Nat} {x : Ty} (h : x.args.nodes ≤ A) : arY A x := ⟨Nat.le_trans (len_nodes _) h, arT_nodes _ h⟩
theorem good_okT : ∀ t : Tys, okT t = true → goodT t = true
  | .nil, _ => rfl
  | .cons kd n nm args rest, h => by
    rw [okT, Bool.and_eq_true] at h
    rw [goodT]
    by_cases hk : kd = 1
    · rw [if_pos hk] at h ⊢
      unfold headV at h
      simp only [Bool.and_eq_true, decide_eq_true_eq] at h
      obtain ⟨⟨h1, h2, h3, h4⟩, h5⟩ := h
      have hi : inI n = true := inI_iff.2 ⟨by omega, by omega⟩
      simp only [hi, h3, h4, good_okT rest h5]
      rfl
    · rw [if_neg hk, Bool.and_eq_true] at h
      have h0 : kd ≠ 0 := by
        have := h.1.1
        unfold headC at this
        simp only [Bool.and_eq_true, Bool.or_eq_true, decide_eq_true_eq] at this
        omega
      rw [if_neg hk]
      simp [h0, good_okT args h.1.2, good_okT rest h.2]
theorem good_ok {x : Ty} (h : okTy x = true) : goodTy x = true := by
  have := good_okT (.cons x.kd x.n x.nm x.args .nil) (by rw [okT]; unfold okTy at h; rw [h]; rfl)
  rw [goodT] at this
  unfold goodTy
  by_cases hk : x.kd = 1
  · rw [if_pos hk] at this ⊢
    simpa [goodT] using this
  · rw [if_neg hk] at this ⊢
    simpa [goodT] using this
theorem okY_small {x : Ty} (h : okTy x = true) (hn : x.args.nodes < 60) : okY 60 x := ⟨good_ok h, arY_nodes (by omega)⟩
/-- pairs that were made the same, one behind the other, in a store that was empty: what is known then -/
inductive JoinR (q d k : Nat) : List Pr → PS → Nat → Prop
  | nil : JoinR q d k [] (fun _ => none) 0
  | snoc {l : List Pr} {K : PS} {c : Nat} {p : Pr} {K' : PS} {c' : Nat} : JoinR q d k l K c → okTy p.1 = true → okTy p.2 = true → unifyQ q d k K c p.1 p.2 = some (0, K', c') → JoinR q d k (l ++ [p]) K' c'
/-- the first pair that can't be made so -/
def JoinNo (q d k : Nat) (l : List Pr) : Prop := ¬ fewP l ∨ ∃ i p K c, l[i]? = some p ∧ JoinR q d k (l.take i) K c ∧ ((okTy p.1 && okTy p.2) = false ∨ ∃ e r, e ≠ 0 ∧ unifyQ q d k K c p.1 p.2 = some (e, r))
/-- the numbers of the laws: how many steps a call may take -/
structure Nums (q d k : Nat) : Prop where
  q : 10000000000 ≤ q
  d : d = 1000000000
  k : k = 999999999
/-- a store in bounds, behind i pairs -/
def KBi (i c : Nat) (K : PS) : Prop := KB 60 (240 * i) (200000000 * i) c K ∧ c ≤ 200000000 * i
theorem KBi.zero : KBi 0 0 (fun _ => none) := ⟨⟨linkOK_empty, [], fun n kd nm xs e => (by cases e), Nat.le_refl _⟩, Nat.le_refl _⟩
theorem KBi.unify {q d k : Nat} (hN : Nums q d k) {i c : Nat} {K : PS} (h : KBi i c K) (hi : i ≤ 40) {x y : Ty} (hx : okTy x = true) (hy : okTy y = true) (nx : x.args.nodes < 60) (ny : y.args.nodes < 60) :
    ∃ e K' c', unifyQ q d k K c x y = some (e, K', c') ∧ (e = 0 → KBi (i + 1) c' K') := by
  have w1 := wY_nodes x
  have w2 := wY_nodes y
  have v1 := nvY_nodes x
  have v2 := nvY_nodes y
  obtain ⟨b, hb⟩ : ∃ b, b = 200000000 := ⟨_, rfl⟩
  obtain ⟨N, hNN⟩ : ∃ N, N = 240 * (i + 1) := ⟨_, rfl⟩
  have hm : N * N ≤ 9840 * 9840 := Nat.mul_le_mul (by omega) (by omega)
  have e1 : 240 * i + (nvY x + nvY y) ≤ N := by omega
  have e2 : 2 * (N * N) + (wY x + wY y) ≤ b := by omega
  have e3 : c + b ≤ lim := by have := h.2; have : lim = 100000000000 := rfl; omega
  have e4 : b ≤ 900000000 := by omega
  have e5 : 200000000 * i + b < q := by have := hN.q; omega
  have e6 : N * 60 + b ≤ d := by have := hN.d; omega
  have e7 : d ≤ limT := by have := hN.d; have : limT = 1000000000 := rfl; omega
  have e8 : b ≤ k := by have := hN.k; omega
  obtain ⟨e, K', c', h1, h2⟩ := h.1.unify (okY_small hx nx) (okY_small hy ny) e1 e2 e3 e4 e5 e6 e7 e8
  rw [show 200000000 * i + b = 200000000 * (i + 1) by omega, hNN] at h2
  exact ⟨e, K', c', h1, fun he => ⟨(h2 he).1, by have := (h2 he).2; have := h.2; omega⟩⟩
theorem JoinR.kb {q d k : Nat} (hN : Nums q d k) {l : List Pr} {K : PS} {c : Nat} (h : JoinR q d k l K c) : l.length ≤ 41 → (∀ p ∈ l, smallP p) → KBi l.length c K := by
  induction h with
  | nil => exact fun _ _ => KBi.zero
  | snoc h ox oy hu ih =>
    intro hl hs
    rw [List.length_append] at hl ⊢
    simp only [List.length_cons, List.length_nil, Nat.zero_add] at hl ⊢
    have hp := hs _ (List.mem_append_right _ (List.mem_singleton.2 rfl))
    obtain ⟨e, K', c', h1, h2⟩ := (ih (by omega) fun p hp => hs p (List.mem_append_left _ hp)).unify hN (by omega) ox oy hp.1 hp.2
    rw [hu] at h1
    injection h1 with h1
    injection h1 with h1 h3
    injection h3 with h3 h4
    subst h1 h3 h4
    exact h2 rfl
theorem JoinR.ok {q d k : Nat} {l : List Pr} {K : PS} {c : Nat} (h : JoinR q d k l K c) : ∀ p ∈ l, okTy p.1 = true ∧ okTy p.2 = true := by
  induction h with
  | nil => exact fun p hp => by cases hp
  | snoc h ox oy hu ih =>
    intro p hp
    rcases List.mem_append.1 hp with hp | hp
    · exact ih p hp
    · rw [List.mem_singleton.1 hp]; exact ⟨ox, oy⟩
/-- Resolve answers in a store in bounds -/
theorem KBi.whole {q d k : Nat} (hN : Nums q d k) {i c : Nat} {K : PS} (h : KBi i c K) (hi : i ≤ 41) {x : Ty} (hx : okTy x = true) : ∃ r, wholeP q K 256 256 x = some r := by
  obtain ⟨r, hr, _⟩ := LinkOK.whole h.1.ok (q := q) (by have := hN.q; omega) 256 256 x (Nat.le_refl _) (good_ok hx)
  exact ⟨r, hr⟩
end Go.Proofs.Ytcaioffdcbjbjaa.Un
