/-
  CONTRACTS of layer heap: what a heap in memory keeps; vacant's loop.
-/
import Derived.Test.YtbkklnihgejeoaaHpC
namespace Go.Proofs.Ytbkklnihgejeoaa.Hp
open Go.RowKit Mm Tm
set_option linter.unusedVariables false
set_option linter.unusedSimpArgs false
/-- the types of what a heap's calls write -/
def TP (t : TypeId) : Prop := t = TH ∨ t = TC ∨ t = TR
abbrev KH (B : Nat) (w w' : World) : Prop := KG B TP (fun _ => False) w w'
theorem tyB_ne {e t : TypeId} {w : World} {b : Nat} {cs : Array Value} (h : TyB e w b) (hb : Box w b t cs) : e = t := by
  obtain ⟨c, hc⟩ := h
  exact Box.same (show Box w b e c from hc) hb
section
variable {B : Nat} {X : Nat → Prop} {w w' : World} {h : Nat} {S S' : Hs} {v : Value} {n : Nat} {pb : Nat → Nat} {P : Nat → Prop}
theorem rd_keep {a : Option Addr} {l : List Int} (hr : RdI (ZL B X w) w a l) (hk : Kept P w w') (hP : ∀ b, P b → ¬ TyB TI w b) : RdI (ZL B X w') w' a l := by
  intro i x hx
  obtain ⟨ad, h1, ⟨h2, h3, h4⟩, h5⟩ := hr i x hx
  have hb := hk.block ad.block h3.lt (fun q => hP _ q h3)
  refine ⟨ad, h1, ⟨h2, h3.same hb, h4⟩, ?_⟩
  exact (World.cell?_of_block (w := w) (w' := w') (by rw [Tm.add_block]; exact hb)).trans h5
theorem CellM.keep {p o is : Nat} {x : Nd} (hc : CellM B X w p o is x) (hk : Kept P w w') (hP : ∀ b, P b → ¬ TyB TI w b) (hp : w'.heap[p]? = w.heap[p]?) : CellM B X w' p o is x := by
  have hcell : ∀ j, w'.cell? ⟨p, j, none⟩ = w.cell? ⟨p, j, none⟩ := fun j => World.cell?_of_block hp
  refine ⟨by rw [hcell]; exact hc.mark, fun hne => ?_⟩
  obtain ⟨a, c, h1, h2, h3, h4, h5⟩ := hc.node hne
  exact ⟨a, c, by rw [hcell]; exact h1, by rw [hcell]; exact h2, by rw [hcell]; exact h3, rd_keep h4 hk hP, h5⟩
theorem Pages.keep (hp : Pages B w v n pb) (hk : Kept P w w') (hP : ∀ b, P b → ¬ TyB TC w b ∧ ¬ TyB TR w b) : Pages B w' v n pb := by
  refine ⟨⟨hp.own.1, ?_⟩, fun k hkn => ?_, hp.apart⟩
  · rcases hp.own.2 with h2 | ⟨g, cap, cur, rfl, hg, hh, r⟩
    · exact .inl h2
    · exact .inr ⟨g, cap, cur, rfl, hg, (hk.block g (lt_of_block hh) (fun q => (hP g q).2 ⟨cur, hh⟩)).trans hh, r⟩
  · obtain ⟨h1, cs, h2, h3⟩ := hp.page k hkn
    exact ⟨h1, cs, (hk.block _ h2.lt (fun q => (hP _ q).1 ⟨cs, h2⟩)).trans h2, h3⟩
theorem HpM.page (hm : HpM B X w h S v n pb) {a : Nat} (ha : a < n * 256) : B ≤ pb (a / 256) ∧ ∃ cs, Box w (pb (a / 256)) TC cs ∧ cs.size = 1024 := hm.pages.page _ (by omega)
theorem HpM.keep (hm : HpM B X w h S v n pb) (hk : Kept P w w') (hP : ∀ b, P b → ¬ TyB TC w b ∧ ¬ TyB TR w b ∧ ¬ TyB TI w b)
    (hx : Box w' h TH #[v, .int .i64 S'.cap, .int .i64 S'.used, .int .i64 S'.least, .int .i64 S'.live, .int .i64 S'.allocs, .pointer (some ⟨h, 0, none⟩)]) (hu : S'.used ≤ n * 256) (h1 : S'.is = S.is) (h2 : S'.nd = S.nd) : HpM B X w' h S' v n pb := by
  refine ⟨hm.base, hx, hm.pages.keep hk (fun b q => ⟨(hP b q).1, (hP b q).2.1⟩), hu, fun a ha => ?_, hm.few⟩
  obtain ⟨_, cs, hb, _⟩ := hm.page ha
  rw [h1, h2]
  exact (hm.cells a ha).keep hk (fun b q => (hP b q).2.2) (hk.block _ hb.lt (fun q => (hP _ q).1 ⟨cs, hb⟩))
theorem box_not {cs : Array Value} (hx : Box w h TH cs) : ∀ b, b = h → ¬ TyB TC w b ∧ ¬ TyB TR w b ∧ ¬ TyB TI w b := by
  rintro b rfl
  exact ⟨fun q => absurd (tyB_ne q hx) (by decide), fun q => absurd (tyB_ne q hx) (by decide), fun q => absurd (tyB_ne q hx) (by decide)⟩
theorem HpM.below (hm : HpM B X w h S v n pb) (hb : Below w.heap.size w w') : HpM B X w' h S v n pb :=
  hm.keep (Kept.of_below hb (Nat.le_refl _) (fun _ => False)) (fun b q => q.elim) (hm.box.below hb hm.box.lt) hm.room rfl rfl
theorem HpM.field (hm : HpM B X w h S v n pb) (hk : Kept (fun b => b = h) w w')
    (hx : Box w' h TH #[v, .int .i64 S'.cap, .int .i64 S'.used, .int .i64 S'.least, .int .i64 S'.live, .int .i64 S'.allocs, .pointer (some ⟨h, 0, none⟩)]) (hu : S'.used ≤ n * 256) (h1 : S'.is = S.is) (h2 : S'.nd = S.nd) : HpM B X w' h S' v n pb :=
  hm.keep hk (box_not hm.box) hx hu h1 h2
theorem kh_field (hm : HpM B X w h S v n pb) (hk : Kept (fun b => b = h) w w') : KH B w w' :=
  Kept.mono hk fun k _ e => ⟨by rw [e]; exact hm.base, .inr ⟨TH, .inl rfl, by rw [e]; exact ⟨_, hm.box⟩⟩⟩
end
end Go.Proofs.Ytbkklnihgejeoaa.Hp
