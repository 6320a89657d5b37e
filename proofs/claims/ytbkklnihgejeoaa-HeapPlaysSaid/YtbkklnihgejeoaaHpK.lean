/-
  CONTRACTS of layer heap: pages that are let go.
-/
import Derived.Test.YtbkklnihgejeoaaHpJ
import Derived.Lib.SliceRun
namespace Go.Proofs.Ytbkklnihgejeoaa.Hp
open Go.RowKit Mm Tm
set_option linter.unusedVariables false
set_option linter.unusedSimpArgs false
theorem kept_setCells {g : Nat} : ∀ (vs : List Value) (o : Nat) (w : World), Kept (fun b => b = g) w (w.setCells g o vs)
  | [], _, w => Kept.refl _ w
  | v :: vs, o, w => (kept_set (Kept.refl (fun b => b = g) w) o v).trans (kept_setCells vs (o + 1) _)
theorem box_setCells {g : Nat} {t : TypeId} : ∀ (vs : List Value) (o : Nat) (w : World) (cur : Array Value), Box w g t cur → ∃ cur', Box (w.setCells g o vs) g t cur' ∧ cur'.size = cur.size ∧ ∀ i, i < o → cur'[i]? = cur[i]?
  | [], _, _, cur, h => ⟨cur, h, rfl, fun _ _ => rfl⟩
  | v :: vs, o, w, cur, h => by
    obtain ⟨cur', h1, h2, h3⟩ := box_setCells vs (o + 1) _ _ (h.put o v)
    exact ⟨cur', h1, by rw [h2]; simp, fun i hi => by rw [h3 i (by omega), get_set (by omega)]⟩
theorem own_setCells {B g c n m : Nat} {t : TypeId} {w : World} {xs : List Value} (vs : List Value) (h : w.ownsRow B t 1 (.slice (some ⟨g, 0, none⟩) n c) n xs) (hm : m ≤ n) :
    (w.setCells g m vs).ownsRow B t 1 (.slice (some ⟨g, 0, none⟩) m c) m (xs.take m) := by
  rcases h.2 with ⟨h', _⟩ | ⟨g', cap', cur, h', hb, hg, hnc, hcm, hcs, htake⟩
  · simp at h'
  · simp only [Value.slice.injEq, Option.some.injEq, Addr.mk.injEq, and_true, true_and] at h'
    obtain ⟨rfl, rfl⟩ := h'
    obtain ⟨cur', h1, h2, h3⟩ := box_setCells vs m w cur hg
    refine ⟨by rw [List.length_take, h.1]; omega, .inr ⟨g, c, cur', rfl, hb, h1, by omega, hcm, by rw [h2]; exact hcs, ?_⟩⟩
    rw [← htake, List.take_take, Nat.mul_one, Nat.mul_one, Nat.min_eq_left hm]
    apply List.ext_getElem?
    intro i
    rw [List.getElem?_take, List.getElem?_take]
    by_cases hi : i < m
    · rw [if_pos hi, if_pos hi]
      have := h3 i hi
      simpa using this
    · rw [if_neg hi, if_neg hi]
section
variable {B : Nat} {X : Nat → Prop} {w : World} {h : Nat} {S : Hs} {v : Value} {n : Nat} {pb : Nat → Nat}
/-- a heap's pages are cut, those behind are forgotten -/
theorem HpM.trim {g c q : Nat} (hm : HpM B X w h S (.slice (some ⟨g, 0, none⟩) n c) n pb) (hq : q ≤ n) (hu : S.used ≤ q * 256) (vs : List Value) :
    HpM B X ((w.setCells g q vs).setCell ⟨h, 0, none⟩ (.slice (some ⟨g, 0, none⟩) q c)) h S (.slice (some ⟨g, 0, none⟩) q c) q pb ∧ KH B w ((w.setCells g q vs).setCell ⟨h, 0, none⟩ (.slice (some ⟨g, 0, none⟩) q c)) := by
  obtain ⟨cur, hcur⟩ := own_block hm.pages.own
  have hgB : B ≤ g := (hm.pages.own.lt g rfl).1
  have hk1 := kept_setCells (g := g) vs q w
  have hne : ∀ t, t ≠ TR → ¬ TyB t w g := fun t ht e => ht (tyB_ne e hcur)
  have hbx1 : Box (w.setCells g q vs) h TH _ := (hk1.block h hm.box.lt (fun e => hne TH (by decide) (by rw [← e]; exact ⟨_, hm.box⟩))).trans hm.box
  have hbx2 := hbx1.put 0 (.slice (some ⟨g, 0, none⟩) q c)
  have hK : Kept (fun b => b = h ∨ b = g) w ((w.setCells g q vs).setCell ⟨h, 0, none⟩ (.slice (some ⟨g, 0, none⟩) q c)) :=
    Kept.setCell (hk1.mono fun k _ e => .inr e) (fun _ => .inl rfl) _
  have hP : ∀ b, (b = h ∨ b = g) → ¬ TyB TC w b ∧ ¬ TyB TI w b := by
    rintro b (rfl | rfl)
    · exact ⟨(box_not hm.box _ rfl).1, (box_not hm.box _ rfl).2.2⟩
    · exact ⟨hne TC (by decide), hne TI (by decide)⟩
  have ho := own_setCells vs hm.pages.own hq
  have ho2 := own_far ho hbx1 (by decide) 0 (.slice (some ⟨g, 0, none⟩) q c)
  refine ⟨⟨hm.base, hbx2, ⟨?_, fun k hk => ?_, fun i j hi hj => hm.pages.apart i j (by omega) (by omega)⟩, hu, fun a ha => ?_, Nat.le_trans hq hm.few⟩, ?_⟩
  · have e : ((List.range n).map fun k => Value.slice (some ⟨pb k, 0, none⟩) 256 256).take q = (List.range q).map fun k => Value.slice (some ⟨pb k, 0, none⟩) 256 256 := by
      rw [← List.map_take, List.take_range, Nat.min_eq_left hq]
    rw [← e]
    exact ho2
  · obtain ⟨h1, cs, h2, h3⟩ := hm.pages.page k (by omega)
    exact ⟨h1, cs, (hK.block _ h2.lt (fun e => (hP _ e).1 ⟨cs, h2⟩)).trans h2, h3⟩
  · have ha' : a < n * 256 := Nat.lt_of_lt_of_le ha (Nat.mul_le_mul_right 256 hq)
    obtain ⟨_, cs, hb, _⟩ := hm.page ha'
    exact (hm.cells a ha').keep hK (fun b e => (hP b e).2) (hK.block _ hb.lt (fun e => (hP _ e).1 ⟨cs, hb⟩))
  · exact Kept.mono hK fun k _ e => e.elim (fun e => ⟨by rw [e]; exact hm.base, .inr ⟨TH, .inl rfl, by rw [e]; exact ⟨_, hm.box⟩⟩⟩) fun e => ⟨by rw [e]; exact hgB, .inr ⟨TR, .inr (.inr rfl), by rw [e]; exact ⟨_, hcur⟩⟩⟩
end
end Go.Proofs.Ytbkklnihgejeoaa.Hp
