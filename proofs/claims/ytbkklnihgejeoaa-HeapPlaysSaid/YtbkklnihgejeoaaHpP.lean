/-
  CONTRACTS of layer heap: the laws' few, played.
-/
import Derived.Test.YtbkklnihgejeoaaHpO
import Derived.Test.YtbkklnihgejeoaaHpArg
namespace Go.Proofs.Ytbkklnihgejeoaa.Hp
open Go.RowKit Mm Tm Ha
set_option linter.unusedVariables false
set_option linter.unusedSimpArgs false
/-- heaps behind some calls -/
structure Pl (c n : Nat) (S : Hs) : Prop where
  good : Good S
  cap : S.cap = c
  allocs : S.allocs ≤ n
  lens : ∀ a, S.is a ≠ 0 → (S.nd a).l.length ≤ 20
  liv : S.live ≤ S.allocs
theorem Pl.more {c n m : Nat} {S : Hs} (h : Pl c n S) (hm : n ≤ m) : Pl c m S := ⟨h.good, h.cap, Nat.le_trans h.allocs hm, h.lens, h.liv⟩
theorem Pl.start {c : Nat} (h : c ≤ 16777216) : Pl c 0 (Hp.start c) := ⟨start_good h, rfl, Nat.le_refl _, fun a h => absurd rfl h, Nat.le_refl _⟩
theorem Pl.put {c n k : Nat} {S : Hs} {x : Nd} (h : Pl c n S) (hv : IsVac S k) (hl : S.live < S.cap) (hh : S.holds x.l = true) (hx : x.l.length ≤ 20) : Pl c (n + 1) (S.put k x) := by
  refine ⟨put_good h.good hv hl (fun y hy => List.all_eq_true.1 hh y hy), h.cap, Nat.succ_le_succ h.allocs, fun a ha => ?_, Nat.succ_le_succ h.liv⟩
  have ha : upd S.is k 1 a ≠ 0 := ha
  show (upd S.nd k x a).l.length ≤ 20
  unfold upd at ha ⊢
  split at ha
  · rw [if_pos ‹_›]; exact hx
  · rw [if_neg ‹_›]; exact h.lens a ha
theorem Pl.set {c n k : Nat} {S : Hs} {x : Nd} (h : Pl c n S) (hh : S.holds x.l = true) (hx : x.l.length ≤ 20) : Pl c n (S.set k x) := by
  refine ⟨set_good h.good (fun y hy => List.all_eq_true.1 hh y hy), h.cap, h.allocs, fun a ha => ?_, h.liv⟩
  show (upd S.nd k x a).l.length ≤ 20
  unfold upd
  split
  · exact hx
  · exact h.lens a ha
theorem coll_is {S S' : Hs} {roots : List Int} (g : Good S) (hr : S.holds roots = true) (h : Coll S roots S') {a : Nat} (ha : S'.is a ≠ 0) : Rch S roots a ∧ S.is a ≠ 0 := by
  have h1 : Rch S roots a := Classical.byContradiction fun q => ha (h.no a q)
  have := (Hs.held_iff.1 (h1.held g (fun x hx => List.all_eq_true.1 hr x hx))).2.2
  exact ⟨h1, this⟩
theorem Pl.coll {c n : Nat} {S S' : Hs} {roots : List Int} (h : Pl c n S) (hr : S.holds roots = true) (hc : Coll S roots S') : Pl c n S' :=
  ⟨hc.good, hc.cap.trans h.cap, by rw [hc.allocs]; exact h.allocs, fun a ha => by rw [hc.nd]; exact h.lens a (coll_is h.good hr hc ha).2, by rw [hc.allocs]; exact Nat.le_trans hc.live h.liv⟩
theorem Pl.rest {c n : Nat} {S : Hs} (h : Pl c n S) : Hp.rest S S.is S.used ≤ 352321536 := by
  have h1 := rest_le (S := S) (m := S.is) (k := 20) S.used (fun a ha e => h.lens a (by omega))
  have h2 := h.good.fits
  have h3 := h.good.lim
  omega
def StepP (B h c n : Nat) (w : World) (e : Ending) (w' : World) : Prop := ∃ v S', e = .returned v ∧ HpI B (fun _ => False) w' h S' ∧ Pl c n S' ∧ KH B w w'
theorem alloc_step {B h c n : Nat} {S : Hs} {x : Nd} {a : Option Addr} {lc : Nat} (w : World) (hm : HpI B (fun _ => False) w h S) (hp : Pl c n S) (hx : NdA B w x a) (hl : x.l.length ≤ 20) (hn : n ≤ 1000000) :
    Calls Try.prog 23 #[.pointer (some ⟨h, 0, none⟩), .agg #[.int .i64 x.tag, .int .i64 x.n, .slice a x.l.length lc]] w (StepP B h c (n + 1) w) := by
  by_cases hh : S.holds x.l = true
  · by_cases hf : S.live < S.cap
    · refine (alloc_ok w hm hp.good hx hh hf (by have := hp.allocs; omega) (fun b q => q.elim)).mono ?_
      rintro e w' ⟨k, hv, rfl, h1, h2⟩
      exact ⟨_, _, rfl, h1, hp.put hv hf hh hl, h2⟩
    · refine (alloc_full w hm hx hh (by have := hp.good.cap; omega)).mono ?_
      rintro e w' ⟨rfl, hb⟩
      exact ⟨_, _, rfl, hm.below hb, hp.more (Nat.le_succ _), KG.of_below hb (Nat.le_refl _)⟩
  · refine (alloc_addr w hm hx (by simpa using hh)).mono ?_
    rintro e w' ⟨rfl, hb⟩
    exact ⟨_, _, rfl, hm.below hb, hp.more (Nat.le_succ _), KG.of_below hb (Nat.le_refl _)⟩
theorem set_step {B h c n : Nat} {S : Hs} {x : Nd} {p : Int} {a : Option Addr} {lc : Nat} (w : World) (hm : HpI B (fun _ => False) w h S) (hp : Pl c n S) (hx : NdA B w x a) (hl : x.l.length ≤ 20) :
    Calls Try.prog 24 #[.pointer (some ⟨h, 0, none⟩), .int .i64 p, .agg #[.int .i64 x.tag, .int .i64 x.n, .slice a x.l.length lc]] w (StepP B h c (n + 1) w) := by
  by_cases hh : S.held p = true ∧ S.holds x.l = true
  · obtain ⟨k, rfl⟩ : ∃ k : Nat, p = k := ⟨p.toNat, by have := (Hs.held_iff.1 hh.1).1; omega⟩
    refine (set_ok w hm hx hh.1 hh.2 (fun b q => q.elim)).mono ?_
    rintro e w' ⟨rfl, h1, h2⟩
    exact ⟨_, _, rfl, h1, (hp.set hh.2 hl).more (Nat.le_succ _), h2⟩
  · refine (set_no w hm hx ?_).mono ?_
    · by_cases h1 : S.held p = true
      · exact .inr (by simpa using fun q => hh ⟨h1, q⟩)
      · exact .inl (by simpa using h1)
    · rintro e w' ⟨rfl, hb⟩
      exact ⟨_, _, rfl, hm.below hb, hp.more (Nat.le_succ _), KG.of_below hb (Nat.le_refl _)⟩
theorem collect_step {B h c n : Nat} {S : Hs} {l : List Int} {a : Option Addr} {lc : Nat} (w : World) (hm : HpI B (fun _ => False) w h S) (hp : Pl c n S) (hr : RdI (ZA B w) w a l) (hl : l.length ≤ 20) :
    Calls Try.prog 20 #[.pointer (some ⟨h, 0, none⟩), .slice a l.length lc] w (StepP B h c (n + 1) w) := by
  by_cases hh : S.holds l = true
  · refine (collect_ok w hm hp.good hr hh (by omega) (by have := hp.rest; omega)).mono ?_
    rintro e w' ⟨S', hc, rfl, h1, h2⟩
    exact ⟨_, _, rfl, h1, (hp.coll hh hc).more (Nat.le_succ _), h2⟩
  · refine (collect_no w hm hr (by omega) (by simpa using hh)).mono ?_
    rintro e w' ⟨rfl, rfl⟩
    exact ⟨_, _, rfl, hm, hp.more (Nat.le_succ _), KG.refl _ _ _ _⟩
def fewB (l : List HOp) : Bool := decide (l.length ≤ 400) && l.all fun o => decide (o.x.l.length ≤ 20)
set_option maxRecDepth 100000 in
set_option maxHeartbeats 4000000 in
theorem few_any {Z : Nat → Prop} {a : Option Addr} {c : Nat} {l : List HOp} (w : World) (hr : RdO Z w a l) (hl : l.length ≤ 9223372036854775807) : Calls Try.prog 11 #[.slice a l.length c] w (IsV (.bool (fewB l)) w) := by
  have HR := Lib.hid hr
  clear hr
  go_enter Try.func11, Try.ntmps11
  by_cases h1 : 400 < l.length
  · have HE := Lib.hid (show fewB l = false by unfold fewB; rw [decide_eq_false (by omega)]; rfl)
    have q1 : decide (400 < l.length) = true := decide_eq_true h1
    have q2 : decide ((400 : Int) < l.length) = true := decide_eq_true (by omega)
    go_wp2_with fail
    go_ret
    exact ⟨by rw [HE.out]; rfl, rfl⟩
  have q1 : decide (400 < l.length) = false := decide_eq_false h1
  have q2 : decide ((400 : Int) < l.length) = false := decide_eq_false (by omega)
  go_wp2_with fail
  go_loop [3] (fun i => ∃ k : Nat, k ≤ l.length ∧ i = .int .i64 k ∧ Hid (∀ j o, j < k → l[j]? = some o → o.x.l.length ≤ 20)) (fun i => l.length - (intOf i).toNat)
  case atStart => exact ⟨0, Nat.zero_le _, rfl, Lib.hid fun j o hj => by omega⟩
  case round =>
    obtain ⟨k, hk, rfl, HU⟩ := hrel
    by_cases hlt : k < l.length
    · have ho := List.getElem?_eq_getElem hlt
      obtain ⟨ad, la, lc, ha, _, _, _, _, _, c4, _, hle⟩ := HR.out k _ ho
      have HO := Lib.hid ho
      have HMEM := Lib.hid (List.getElem_mem hlt)
      generalize hoo : l[k] = o at *
      subst ha
      clear ho hoo
      by_cases h2 : 20 < o.x.l.length
      · have q3 : decide (20 < o.x.l.length) = true := decide_eq_true h2
        have q4 : decide ((20 : Int) < o.x.l.length) = true := decide_eq_true (by omega)
        have HE := Lib.hid (show fewB l = false by
          unfold fewB
          have : (l.all fun o => decide (o.x.l.length ≤ 20)) = false := by
            rw [List.all_eq_false]
            exact ⟨o, HMEM.out, by simp; omega⟩
          rw [this, Bool.and_false])
        go_wp2_with fail
        go_ret
        exact ⟨by rw [HE.out]; rfl, rfl⟩
      · have q3 : decide (20 < o.x.l.length) = false := decide_eq_false h2
        have q4 : decide ((20 : Int) < o.x.l.length) = false := decide_eq_false (by omega)
        have HU' := Lib.hid (show ∀ j o, j < k + 1 → l[j]? = some o → o.x.l.length ≤ 20 from fun j o' hj hjo => by
          by_cases e : j = k
          · subst e
            rw [HO.out] at hjo
            injection hjo with hjo
            subst hjo
            omega
          · exact HU.out j o' (by omega) hjo)
        go_wp2_with fail
        go_round
        case rel => exact ⟨k + 1, by omega, by go_num, HU'⟩
        case measure => simp [intOf]; omega
    · have HE := Lib.hid (show fewB l = true by
        unfold fewB
        rw [decide_eq_true (by omega), Bool.true_and]
        refine List.all_eq_true.2 fun o ho => ?_
        obtain ⟨j, hj, rfl⟩ := List.getElem_of_mem ho
        exact decide_eq_true (HU.out j _ (by omega) (List.getElem?_eq_getElem hj)))
      have hge : ¬ (k : Int) < l.length := by omega
      go_wp2_with fail
      go_ret
      exact ⟨by rw [HE.out]; rfl, rfl⟩
theorem fewB_get {l : List HOp} (h : fewB l = true) : l.length ≤ 400 ∧ ∀ o ∈ l, o.x.l.length ≤ 20 := by
  unfold fewB at h
  simp only [Bool.and_eq_true, decide_eq_true_eq, List.all_eq_true] at h
  exact h
end Go.Proofs.Ytbkklnihgejeoaa.Hp
