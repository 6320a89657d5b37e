/-
  CONTRACTS of layer heap: a cell of a heap is written.
-/
import Derived.Test.YtbkklnihgejeoaaHpE
namespace Go.Proofs.Ytbkklnihgejeoaa.Hp
open Go.RowKit Mm Tm
set_option linter.unusedVariables false
set_option linter.unusedSimpArgs false
section
variable {B : Nat} {X : Nat → Prop} {w W : World} {h : Nat} {S : Hs} {v : Value} {n : Nat} {pb : Nat → Nat}
theorem kept_wrote {p : Nat} (hw : Wrote w W p) (ht : W.tape = w.tape) (ho : W.os = w.os) (hu : W.output = w.output) : Kept (fun b => b = p) w W :=
  ⟨ho, ht, hu, Nat.le_of_eq hw.size.symm, fun k _ hne => hw.block k hne⟩
theorem kept_set {p : Nat} (hk : Kept (fun b => b = p) w W) (j : Nat) (u : Value) : Kept (fun b => b = p) w (W.setCell ⟨p, j, none⟩ u) := Kept.setCell (X := fun b => b = p) (a := ⟨p, j, none⟩) hk (fun _ => rfl) u
/-- one cell of a heap is turned -/
theorem HpM.turn (hm : HpM B X w h S v n pb) {a : Nat} (ha : a < n * 256) {is : Nat} {x : Nd} (hk : Kept (fun b => b = pb (a / 256)) w W) {cs : Array Value} (hb : Box W (pb (a / 256)) TC cs) (hsz : cs.size = 1024)
    (hsame : ∀ i, (i < a % 256 * 4 ∨ a % 256 * 4 + 4 ≤ i) → W.cell? ⟨pb (a / 256), i, none⟩ = w.cell? ⟨pb (a / 256), i, none⟩)
    (hc : CellM B X W (pb (a / 256)) (a % 256 * 4) is x) : HpM B X W h { S with is := upd S.is a is, nd := upd S.nd a x } v n pb := by
  obtain ⟨hp1, cs0, hb0, hs0⟩ := hm.page ha
  have hP : ∀ b, b = pb (a / 256) → ¬ TyB TI w b ∧ ¬ TyB TR w b ∧ ¬ TyB TH w b := by
    rintro b rfl
    exact ⟨fun q => absurd (tyB_ne q hb0) (by decide), fun q => absurd (tyB_ne q hb0) (by decide), fun q => absurd (tyB_ne q hb0) (by decide)⟩
  refine ⟨hm.base, (hk.block h hm.box.lt (fun e => (hP h e).2.2 ⟨_, hm.box⟩)).trans hm.box, ⟨⟨hm.pages.own.1, ?_⟩, fun k hkn => ?_, hm.pages.apart⟩, hm.room, fun a' ha' => ?_, hm.few⟩
  · rcases hm.pages.own.2 with h2 | ⟨g, cap, cur, rfl, hg, hh, r⟩
    · exact .inl h2
    · exact .inr ⟨g, cap, cur, rfl, hg, (hk.block g (lt_of_block hh) (fun q => (hP g q).2.1 ⟨cur, hh⟩)).trans hh, r⟩
  · obtain ⟨h1, cs1, h2, h3⟩ := hm.pages.page k hkn
    refine ⟨h1, ?_⟩
    by_cases e : pb k = pb (a / 256)
    · rw [e]; exact ⟨cs, hb, hsz⟩
    · exact ⟨cs1, (hk.block _ h2.lt e).trans h2, h3⟩
  · by_cases e : a' = a
    · subst e
      show CellM B X W _ _ (upd S.is a' is a') (upd S.nd a' x a')
      rw [upd_same, upd_same]
      exact hc
    · show CellM B X W _ _ (upd S.is a is a') (upd S.nd a x a')
      rw [upd_other _ _ e, upd_other _ _ e]
      have hold := hm.cells a' ha'
      by_cases ep : pb (a' / 256) = pb (a / 256)
      · have eq : a' / 256 = a / 256 := hm.pages.apart _ _ (by omega) (by omega) ep
        have hcell : ∀ j, j < 4 → W.cell? ⟨pb (a' / 256), a' % 256 * 4 + j, none⟩ = w.cell? ⟨pb (a' / 256), a' % 256 * 4 + j, none⟩ := fun j hj => by
          rw [ep]
          refine hsame _ ?_
          have : a' % 256 ≠ a % 256 := by omega
          omega
        refine ⟨by rw [hcell 3 (by omega)]; exact hold.mark, fun hne => ?_⟩
        obtain ⟨la, lc, h1, h2, h3, h4, h5⟩ := hold.node hne
        exact ⟨la, lc, by have := hcell 0 (by omega); rw [Nat.add_zero] at this; rw [this]; exact h1, by rw [hcell 1 (by omega)]; exact h2, by rw [hcell 2 (by omega)]; exact h3, rd_keep h4 hk (fun b q => (hP b q).1), h5⟩
      · obtain ⟨_, cs1, hb1, _⟩ := hm.page ha'
        exact hold.keep hk (fun b q => (hP b q).1) (hk.block _ hb1.lt ep)
theorem kh_page (hm : HpM B X w h S v n pb) {a : Nat} (ha : a < n * 256) (hk : Kept (fun b => b = pb (a / 256)) w W) : KH B w W := by
  obtain ⟨hp1, cs0, hb0, hs0⟩ := hm.page ha
  exact Kept.mono hk fun k _ e => ⟨by rw [e]; exact hp1, .inr ⟨TC, .inr (.inl rfl), by rw [e]; exact ⟨_, hb0⟩⟩⟩
/-- a cell's own cells are there, and may be written -/
theorem HpM.there (hm : HpM B X w h S v n pb) {a : Nat} (ha : a < n * 256) : ∃ c0 c1 c2, w.cell? ⟨pb (a / 256), a % 256 * 4, none⟩ = some c0 ∧ w.cell? ⟨pb (a / 256), a % 256 * 4 + 1, none⟩ = some c1 ∧ w.cell? ⟨pb (a / 256), a % 256 * 4 + 2, none⟩ = some c2 ∧ ∀ j, w.frozen? ⟨pb (a / 256), j, none⟩ = false := by
  obtain ⟨hp1, cs, hb, hs⟩ := hm.page ha
  have hlt : a % 256 < 256 := Nat.mod_lt _ (by omega)
  have h0 : ∀ j, j < 4 → ∃ c, w.cell? ⟨pb (a / 256), a % 256 * 4 + j, none⟩ = some c := fun j hj => ⟨cs[a % 256 * 4 + j]'(by omega), by rw [hb.cell]; exact Array.getElem?_eq_getElem (by omega)⟩
  obtain ⟨c0, q0⟩ := h0 0 (by omega)
  obtain ⟨c1, q1⟩ := h0 1 (by omega)
  obtain ⟨c2, q2⟩ := h0 2 (by omega)
  exact ⟨c0, c1, c2, q0, q1, q2, fun j => hb.free j⟩
theorem get_set {cs : Array Value} {i j : Nat} {u : Value} (h : i ≠ j) : (cs.setIfInBounds i u)[j]? = cs[j]? := by
  rw [Array.getElem?_setIfInBounds]
  rw [if_neg h]
theorem get_self {cs : Array Value} {i : Nat} {u : Value} (h : i < cs.size) : (cs.setIfInBounds i u)[i]? = some u := by
  rw [Array.getElem?_setIfInBounds, if_pos rfl, if_pos h]
/-- a cell gets a mark -/
theorem HpM.mark (hm : HpM B X w h S v n pb) {a : Nat} (ha : a < n * 256) (is : Nat) (hne : S.is a ≠ 0) : HpM B X (w.setCell ⟨pb (a / 256), a % 256 * 4 + 3, none⟩ (.int .u8 is)) h { S with is := upd S.is a is } v n pb ∧ Kept (fun b => b = pb (a / 256)) w (w.setCell ⟨pb (a / 256), a % 256 * 4 + 3, none⟩ (.int .u8 is)) := by
  obtain ⟨hp1, cs, hb, hs⟩ := hm.page ha
  have hlt : a % 256 < 256 := Nat.mod_lt _ (by omega)
  have hk := kept_set (Kept.refl (fun b => b = pb (a / 256)) w) (a % 256 * 4 + 3) (.int .u8 is)
  have hbw := hb.put (a % 256 * 4 + 3) (.int .u8 is)
  obtain ⟨la, lc, h1, h2, h3, h4, h5⟩ := (hm.cells a ha).node hne
  have hsame : ∀ i, i ≠ a % 256 * 4 + 3 → (w.setCell ⟨pb (a / 256), a % 256 * 4 + 3, none⟩ (.int .u8 is)).cell? ⟨pb (a / 256), i, none⟩ = w.cell? ⟨pb (a / 256), i, none⟩ := fun i hi => by
    rw [hbw.cell, hb.cell, get_set (Ne.symm hi)]
  have hnd : S.nd = upd S.nd a (S.nd a) := by
    funext b
    unfold upd
    split
    · rename_i e; rw [e]
    · rfl
  have ht := hm.turn (x := S.nd a) (is := is) ha hk hbw (by simp [hs]) (fun i hi => hsame i (by omega)) ⟨by rw [hbw.cell, get_self (by omega)], fun _ => ⟨la, lc, by rw [hsame _ (by omega)]; exact h1, by rw [hsame _ (by omega)]; exact h2, by rw [hsame _ (by omega)]; exact h3, rd_keep h4 hk (by
    rintro b rfl q
    exact absurd (tyB_ne q hb) (by decide)), h5⟩⟩
  rw [← hnd] at ht
  exact ⟨ht, hk⟩
/-- a node is put into a cell -/
theorem HpM.node3 (hm : HpM B X w h S v n pb) {a : Nat} (ha : a < n * 256) {x : Nd} {la : Option Addr} {lc : Nat} (hr : RdI (ZL B X w) w la x.l) (hl : x.l.length * 8 ≤ 140737488355328 ∧ (la = none → lc = 0)) :
    HpM B X (((w.setCell ⟨pb (a / 256), a % 256 * 4, none⟩ (.int .i64 x.tag)).setCell ⟨pb (a / 256), a % 256 * 4 + 1, none⟩ (.int .i64 x.n)).setCell ⟨pb (a / 256), a % 256 * 4 + 2, none⟩ (.slice la x.l.length lc)) h { S with nd := upd S.nd a x } v n pb ∧
    Kept (fun b => b = pb (a / 256)) w (((w.setCell ⟨pb (a / 256), a % 256 * 4, none⟩ (.int .i64 x.tag)).setCell ⟨pb (a / 256), a % 256 * 4 + 1, none⟩ (.int .i64 x.n)).setCell ⟨pb (a / 256), a % 256 * 4 + 2, none⟩ (.slice la x.l.length lc)) := by
  obtain ⟨hp1, cs, hb, hs⟩ := hm.page ha
  have hlt : a % 256 < 256 := Nat.mod_lt _ (by omega)
  have hk := kept_set (kept_set (kept_set (Kept.refl (fun b => b = pb (a / 256)) w) (a % 256 * 4) (.int .i64 x.tag)) (a % 256 * 4 + 1) (.int .i64 x.n)) (a % 256 * 4 + 2) (.slice la x.l.length lc)
  have hbw := ((hb.put (a % 256 * 4) (.int .i64 x.tag)).put (a % 256 * 4 + 1) (.int .i64 x.n)).put (a % 256 * 4 + 2) (.slice la x.l.length lc)
  generalize hW : ((w.setCell ⟨pb (a / 256), a % 256 * 4, none⟩ (.int .i64 x.tag)).setCell ⟨pb (a / 256), a % 256 * 4 + 1, none⟩ (.int .i64 x.n)).setCell ⟨pb (a / 256), a % 256 * 4 + 2, none⟩ (.slice la x.l.length lc) = W at hk hbw
  have his : S.is = upd S.is a (S.is a) := by
    funext b
    unfold upd
    split
    · rename_i e; rw [e]
    · rfl
  have ht := hm.turn (x := x) (is := S.is a) ha hk hbw (by simp [hs]) (fun i hi => by rw [hbw.cell, hb.cell, get_set (by omega), get_set (by omega), get_set (by omega)]) ⟨by rw [hbw.cell, get_set (by omega), get_set (by omega), get_set (by omega), ← hb.cell]; exact (hm.cells a ha).mark, fun _ => ⟨la, lc, by rw [hbw.cell, get_set (by omega), get_set (by omega), get_self (by omega)], by rw [hbw.cell, get_set (by omega), get_self (by simp; omega)], by rw [hbw.cell, get_self (by simp; omega)], rd_keep hr hk (by
    rintro b rfl q
    exact absurd (tyB_ne q hb) (by decide)), hl⟩⟩
  rw [← his] at ht
  exact ⟨ht, hk⟩
/-- a cell is written whole -/
theorem HpM.node4 (hm : HpM B X w h S v n pb) {a : Nat} (ha : a < n * 256) {x : Nd} {la : Option Addr} {lc : Nat} {is : Nat} (hr : is ≠ 0 → RdI (ZL B X w) w la x.l) (hl : x.l.length * 8 ≤ 140737488355328 ∧ (la = none → lc = 0)) :
    HpM B X ((((w.setCell ⟨pb (a / 256), a % 256 * 4, none⟩ (.int .i64 x.tag)).setCell ⟨pb (a / 256), a % 256 * 4 + 1, none⟩ (.int .i64 x.n)).setCell ⟨pb (a / 256), a % 256 * 4 + 2, none⟩ (.slice la x.l.length lc)).setCell ⟨pb (a / 256), a % 256 * 4 + 3, none⟩ (.int .u8 is)) h { S with is := upd S.is a is, nd := upd S.nd a x } v n pb ∧
    Kept (fun b => b = pb (a / 256)) w ((((w.setCell ⟨pb (a / 256), a % 256 * 4, none⟩ (.int .i64 x.tag)).setCell ⟨pb (a / 256), a % 256 * 4 + 1, none⟩ (.int .i64 x.n)).setCell ⟨pb (a / 256), a % 256 * 4 + 2, none⟩ (.slice la x.l.length lc)).setCell ⟨pb (a / 256), a % 256 * 4 + 3, none⟩ (.int .u8 is)) := by
  obtain ⟨hp1, cs, hb, hs⟩ := hm.page ha
  have hlt : a % 256 < 256 := Nat.mod_lt _ (by omega)
  have hk := kept_set (kept_set (kept_set (kept_set (Kept.refl (fun b => b = pb (a / 256)) w) (a % 256 * 4) (.int .i64 x.tag)) (a % 256 * 4 + 1) (.int .i64 x.n)) (a % 256 * 4 + 2) (.slice la x.l.length lc)) (a % 256 * 4 + 3) (.int .u8 is)
  have hbw := (((hb.put (a % 256 * 4) (.int .i64 x.tag)).put (a % 256 * 4 + 1) (.int .i64 x.n)).put (a % 256 * 4 + 2) (.slice la x.l.length lc)).put (a % 256 * 4 + 3) (.int .u8 is)
  generalize hW : (((w.setCell ⟨pb (a / 256), a % 256 * 4, none⟩ (.int .i64 x.tag)).setCell ⟨pb (a / 256), a % 256 * 4 + 1, none⟩ (.int .i64 x.n)).setCell ⟨pb (a / 256), a % 256 * 4 + 2, none⟩ (.slice la x.l.length lc)).setCell ⟨pb (a / 256), a % 256 * 4 + 3, none⟩ (.int .u8 is) = W at hk hbw
  have ht := hm.turn (x := x) (is := is) ha hk hbw (by simp [hs]) (fun i hi => by rw [hbw.cell, hb.cell, get_set (by omega), get_set (by omega), get_set (by omega), get_set (by omega)]) ⟨by rw [hbw.cell, get_self (by simp; omega)], fun hne => ⟨la, lc, by rw [hbw.cell, get_set (by omega), get_set (by omega), get_set (by omega), get_self (by omega)], by rw [hbw.cell, get_set (by omega), get_set (by omega), get_self (by simp; omega)], by rw [hbw.cell, get_set (by omega), get_self (by simp; omega)], rd_keep (hr hne) hk (by
    rintro b rfl q
    exact absurd (tyB_ne q hb) (by decide)), hl⟩⟩
  exact ⟨ht, hk⟩
end
end Go.Proofs.Ytbkklnihgejeoaa.Hp
