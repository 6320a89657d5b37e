/-
  CONTRACTS of the document's own spool: something is taken from it; it is drained.
-/
import Derived.Test.YtolfldjiejeboaaSpRefA
namespace Go.Proofs.Ytolfldjiejeboaa.Sp
open Go.RowKit Go.Conc Mm Ln
set_option linter.unusedVariables false
set_option linter.unusedSimpArgs false
theorem add_add (a : Addr) (m i : Nat) : (a.add m).add i = a.add (m + i) := by
  unfold Addr.add
  by_cases hm : m = 0
  · subst hm; simp
  · by_cases hi : i = 0
    · subst hi; simp
    · simp [hm, hi, Nat.add_assoc]
theorem RL.drop {w : World} {ad : Addr} {l : List Int} {c k : Nat} (h : RL w (.slice (some ad) l.length c) l) (hk : k ≤ l.length) : RL w (.slice (some (ad.add k)) (l.length - k) (c - k)) (l.drop k) := by
  obtain ⟨a, c', e, h1, h2, h3, h5⟩ := h
  simp only [Value.slice.injEq] at e
  obtain ⟨rfl, _, rfl⟩ := e
  refine ⟨some (ad.add k), c - k, by rw [List.length_drop], by rw [List.length_drop]; omega, by omega, ?_, fun hl ad' e => ?_⟩
  case refine_2 =>
    simp only [Option.some.injEq] at e
    subst e
    rw [block_of_add]
    exact h5 (by rw [List.length_drop] at hl; omega) _ rfl
  intro i hi
  rw [List.length_drop] at hi
  obtain ⟨ad', e, g1, g2⟩ := h3 (k + i) (by omega)
  simp only [Option.some.injEq] at e
  subst e
  refine ⟨_, rfl, by rw [block_of_add]; exact g1, ?_⟩
  rw [add_add, g2]
  simp [intV, List.getD_eq_getElem?_getD, List.getElem?_drop]
theorem RL.takes {w : World} {a : Option Addr} {l : List Int} {c k : Nat} (h : RL w (.slice a l.length c) l) (hk : k ≤ l.length) : RL w (.slice a k c) (l.take k) := by
  obtain ⟨a', c', e, h1, h2, h3, h5⟩ := h
  simp only [Value.slice.injEq] at e
  obtain ⟨rfl, _, rfl⟩ := e
  have hl : (l.take k).length = k := by rw [List.length_take]; omega
  refine ⟨a, c, by rw [hl], by rw [hl]; omega, h2, ?_, fun hl0 => h5 (by rw [hl] at hl0; omega)⟩
  intro i hi
  rw [hl] at hi
  obtain ⟨ad', e, g1, g2⟩ := h3 i (by omega)
  refine ⟨ad', e, g1, g2.trans ?_⟩
  simp [intV, List.getD_eq_getElem?_getD, List.getElem?_take, hi]
theorem RL.nil (w : World) (a : Option Addr) {c : Nat} (hc : c ≤ 9223372036854775807) : RL w (.slice a 0 c) [] := ⟨a, c, rfl, by simp, hc, fun i hi => absurd hi (by simp), fun h => absurd h (by simp)⟩
/-- What a call of the document's Take ends with. -/
def RTakePost (l : List Int) (room : Nat) (shut : Bool) (w : World) (e : Ending) (w' : World) : Prop :=
  ∃ v', e = .returned (.tuple #[refV v' room shut, .int .i64 (l.headD 0), .bool (!l.isEmpty)]) ∧ RL w' v' l.tail ∧ Below w.heap.size w w'
set_option maxRecDepth 100000 in
set_option maxHeartbeats 2000000 in
theorem rtake_any {v : Value} {l : List Int} {room : Nat} {shut : Bool} (w : World) (hv : RL w v l) (hlen : l.length ≤ 1024) :
    Calls Try.prog 13 #[refV v room shut] w (RTakePost l room shut w) := by
  have HV := Lib.hid hv
  have kk : ∀ o1 o2, Below w.heap.size w ((w.alloc o1).alloc o2) := fun o1 o2 => ((Below.refl w.heap.size w).alloc (Nat.le_refl _) o1).alloc (by simp) o2
  match l, hv, HV with
  | [], hv, HV =>
    obtain ⟨a, c, rfl, hlc, hc63, hr, _⟩ := hv
    clear hr hlen
    go_enter Try.func13, Try.ntmps13
    go_wp2_with fail
    go_returns
    exact ⟨_, rfl, HV.out.below (kk _ _), kk _ _⟩
  | x :: tl, hv, HV =>
    obtain ⟨a, c, rfl, hlc, hc63, hr, _⟩ := hv
    obtain ⟨ad, rfl, had, c0⟩ := hr 0 (by simp)
    replace c0 : w.cell? (ad.add 0) = some (.int .i64 x) := c0
    have c1 : w.cell? ad = some (.int .i64 x) := by simpa [Addr.add] using c0
    have had2 : ad.block < w.heap.size := had
    have hlc2 : (1 : Int) ≤ c := by simp at hlc; omega
    have hlc3 : 1 ≤ c := by simp at hlc; omega
    have HLC := Lib.hid hlc
    have hl1 : (x :: tl).length = tl.length + 1 := rfl
    rw [hl1] at *
    clear hr c0 had
    go_enter Try.func13, Try.ntmps13
    go_wp2_with fail
    · have htl : tl = [] := by
        have h1 : (x :: tl).length ≤ c := HLC.out
        have h2 : c = 1 := by omega
        rw [h2, List.length_cons] at h1
        exact List.length_eq_zero_iff.1 (by omega)
      subst htl
      go_returns
      exact ⟨_, rfl, RL.nil _ _ (by omega), kk _ _⟩
    · have hd := HV.out.drop (k := 1) (by simp)
      go_returns
      exact ⟨_, rfl, hd.below (kk _ _), kk _ _⟩
/-- What a call of the document's Drain ends with. -/
def RDrainPost (most : Int) (l : List Int) (room : Nat) (shut : Bool) (w : World) (e : Ending) (w' : World) : Prop :=
  ∃ v' u, e = .returned (.tuple #[refV v' room shut, u]) ∧ RL w' u (l.take (fewer most l.length)) ∧ RL w' v' (l.drop (fewer most l.length)) ∧ Below w.heap.size w w'
theorem drainEnd {most : Int} {l : List Int} {room k : Nat} {shut : Bool} {w w' : World} {u v' : Value} (hk : fewer most l.length = k) (hu : RL w u (l.take k)) (hv : RL w v' (l.drop k)) (hb : Below w.heap.size w w') :
    RDrainPost most l room shut w (.returned (.tuple #[refV v' room shut, u])) w' := by
  subst hk
  exact ⟨v', u, rfl, hu.below hb, hv.below hb, hb⟩
theorem RL.cap {w : World} {a : Option Addr} {l : List Int} {c c' : Nat} (h : RL w (.slice a l.length c) l) (h1 : l.length ≤ c') (h2 : c' ≤ 9223372036854775807) : RL w (.slice a l.length c') l := by
  obtain ⟨a', c2, e, _, _, h3, h5⟩ := h
  simp only [Value.slice.injEq] at e
  obtain ⟨rfl, _, _⟩ := e
  exact ⟨_, _, rfl, h1, h2, h3, h5⟩
theorem RL.dropO {w : World} {a : Option Addr} {l : List Int} {c k : Nat} (h : RL w (.slice a l.length c) l) (hk : k ≤ l.length) : RL w (.slice (a.map fun x => x.add k) (l.length - k) (c - k)) (l.drop k) := by
  cases a with
  | some ad => exact h.drop hk
  | none =>
    obtain ⟨a', c', e, h1, h2, h3, _⟩ := h
    simp only [Value.slice.injEq] at e
    obtain ⟨rfl, _, rfl⟩ := e
    have hl : l = [] := by
      cases l with
      | nil => rfl
      | cons x tl =>
        obtain ⟨ad, e, _⟩ := h3 0 (by simp)
        simp at e
    subst hl
    simp only [List.length_nil, Nat.le_zero_eq] at hk
    subst hk
    exact RL.nil _ _ h2
set_option maxRecDepth 100000 in
set_option maxHeartbeats 2000000 in
theorem rdrain_any {v : Value} {l : List Int} {room : Nat} {shut : Bool} (most : Int) (w : World) (hv : RL w v l) (hlen : l.length ≤ 1024) :
    Calls Try.prog 15 #[refV v room shut, .int .i64 most] w (RDrainPost most l room shut w) := by
  have HV := Lib.hid hv
  have kk : ∀ o1 o2, Below w.heap.size w ((w.alloc o1).alloc o2) := fun o1 o2 => ((Below.refl w.heap.size w).alloc (Nat.le_refl _) o1).alloc (by simp) o2
  obtain ⟨a, c, rfl, hlc, hc63, hr, _⟩ := hv
  obtain ⟨k, hk⟩ : ∃ k, fewer most l.length = k := ⟨_, rfl⟩
  have hkl : k ≤ l.length := by rw [← hk]; unfold fewer; omega
  have HF := Lib.hid hk
  have hn : (k : Int) = most ∧ most < l.length ∧ 0 ≤ most ∨ most < 0 ∧ k = 0 ∨ (l.length : Int) ≤ most ∧ k = l.length := by
    rw [← hk]; unfold fewer; omega
  have hkc : (k : Int) ≤ c := by omega
  have hkc' : k ≤ c := by omega
  have hlci : (l.length : Int) ≤ c := by omega
  clear hr hk
  rcases hn with ⟨h1, h2, h3⟩ | ⟨h1, rfl⟩ | ⟨h1, rfl⟩
  · subst h1
    have h4 : ¬ (k : Int) < 0 := by omega
    go_enter Try.func15, Try.ntmps15
    go_wp2_with fail
    go_returns
    exact drainEnd HF.out (HV.out.takes hkl) (HV.out.dropO hkl) (kk _ _)
  · have h2 : most < l.length := by omega
    go_enter Try.func15, Try.ntmps15
    go_wp2_with fail
    go_returns
    exact drainEnd HF.out (HV.out.takes hkl) (show RL w _ (List.drop 0 l) from HV.out) (kk _ _)
  · have h2 : ¬ most < l.length := by omega
    have h3 : ¬ (l.length : Int) < 0 := by omega
    go_enter Try.func15, Try.ntmps15
    go_wp2_with fail
    all_goals (go_returns; exact drainEnd HF.out (by rw [List.take_length]; exact HV.out.cap (by omega) (by omega)) (by rw [List.drop_length]; exact RL.nil _ _ (by omega)) (kk _ _))
end Go.Proofs.Ytolfldjiejeboaa.Sp
