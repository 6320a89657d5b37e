/-
  TWO SPOOLS AND THE DOCUMENT's TWO, side by side: what turns where, as steps of plain rows.
-/
import Derived.Test.YtolfldjiejeboaaSpSame
import Derived.Test.YtolfldjiejeboaaSpRefC
namespace Go.Proofs.Ytolfldjiejeboaa.Sp
open Go.RowKit Go.Conc Mm Ln
set_option linter.unusedVariables false
set_option linter.unusedSimpArgs false
structure Game (W w : World) (p c room p2 c2 room2 qa qb : Nat) (l : List Int) (sh : Bool) (l2 : List Int) (sh2 : Bool) (v : Value) (la : List Int) (sa : Bool) (v2 : Value) (lb : List Int) (sb : Bool) : Prop where
  two : Two W w p c room l sh p2 c2 room2 l2 sh2
  ba : Box w qa TR #[v, .int .i64 room, .bool sa]
  ra : RL w v la
  bb : Box w qb TR #[v2, .int .i64 room2, .bool sb]
  rb : RL w v2 lb
  na : W.heap.size ≤ qa
  nb : W.heap.size ≤ qb
  ne : qa ≠ qb
section
variable {W w w' : World} {p c room p2 c2 room2 qa qb : Nat} {l l' l2 l2' la lb la' : List Int} {sh sh' sh2 sh2' sa sb sa' : Bool} {v v' v2 : Value}
theorem Two.noTR (h : Two W w p c room l sh p2 c2 room2 l2 sh2) {q : Nat} {cs : Array Value} (hb : Box w q TR cs) : ∀ i, at4 p c p2 c2 i → ¬ (i = q) := by
  rintro i hi rfl
  rcases hi with e | e | e | e
  · obtain ⟨s, r, hc⟩ := h.s1.chan
    rw [← e] at hc
    unfold Box at hb
    rw [hb] at hc
    simp at hc
  · rw [e] at hb
    exact absurd (Box.same hb h.s1.box) (by decide)
  · obtain ⟨s, r, hc⟩ := h.s2.chan
    rw [← e] at hc
    unfold Box at hb
    rw [hb] at hc
    simp at hc
  · rw [e] at hb
    exact absurd (Box.same hb h.s2.box) (by decide)
theorem Two.noInt (h : Two W w p c room l sh p2 c2 room2 l2 sh2) : ∀ g cs, at4 p c p2 c2 g → ¬ Box w g 3 cs := by
  intro i cs hi hb
  rcases hi with e | e | e | e
  · obtain ⟨s, r, hc⟩ := h.s1.chan
    rw [← e] at hc
    unfold Box at hb
    rw [hb] at hc
    simp at hc
  · rw [e] at hb
    exact absurd (Box.same hb h.s1.box) (by decide)
  · obtain ⟨s, r, hc⟩ := h.s2.chan
    rw [← e] at hc
    unfold Box at hb
    rw [hb] at hc
    simp at hc
  · rw [e] at hb
    exact absurd (Box.same hb h.s2.box) (by decide)
theorem Game.swap (h : Game W w p c room p2 c2 room2 qa qb l sh l2 sh2 v la sa v2 lb sb) : Game W w p2 c2 room2 p c room qb qa l2 sh2 l sh v2 lb sb v la sa :=
  ⟨h.two.swap, h.bb, h.rb, h.ba, h.ra, h.nb, h.na, fun e => h.ne e.symm⟩
theorem Game.kept0 (h : Game W w p c room p2 c2 room2 qa qb l sh l2 sh2 v la sa v2 lb sb) (k : Kept none0 w w') : Game W w' p c room p2 c2 room2 qa qb l sh l2 sh2 v la sa v2 lb sb :=
  ⟨h.two.kept k (fun _ hx => hx.elim) (fun _ _ hx => hx), k.box h.ba (fun hx => hx), h.ra.kept k, k.box h.bb (fun hx => hx), h.rb.kept k, h.na, h.nb, h.ne⟩
/-- the spools have turned -/
theorem Game.turn (h : Game W w p c room p2 c2 room2 qa qb l sh l2 sh2 v la sa v2 lb sb) (k : Kept (at4 p c p2 c2) w w') (t : Two W w' p c room l' sh' p2 c2 room2 l2' sh2') : Game W w' p c room p2 c2 room2 qa qb l' sh' l2' sh2' v la sa v2 lb sb :=
  ⟨t, k.box h.ba (fun hx => h.two.noTR h.ba _ hx rfl), h.ra.keptX k h.two.noInt, k.box h.bb (fun hx => h.two.noTR h.bb _ hx rfl), h.rb.keptX k h.two.noInt, h.na, h.nb, h.ne⟩
/-- the document's first one has turned -/
theorem Game.setA (h : Game W w p c room p2 c2 room2 qa qb l sh l2 sh2 v la sa v2 lb sb) (hr : RL w v' la') (s' : Bool) :
    Game W (((w.setCell ⟨qa, 0, none⟩ v').setCell ⟨qa, 1, none⟩ (.int .i64 room)).setCell ⟨qa, 2, none⟩ (.bool s')) p c room p2 c2 room2 qa qb l sh l2 sh2 v' la' s' v2 lb sb := by
  have k := kept3 (Kept.refl (at0 qa) w) qa rfl v' (.int .i64 room) (.bool s')
  have hX : ∀ g cs, at0 qa g → ¬ Box w g 3 cs := fun g cs e hb => by
    have e : g = qa := e
    subst e
    exact absurd (Box.same hb h.ba) (by decide)
  exact ⟨h.two.kept k (fun i e => by have e : i = qa := e; rw [e]; exact h.na) (fun i hi e => h.two.noTR h.ba i hi e), put3 h.ba _ _ _, hr.keptX k hX, far3 h.bb h.ne _ _ _, h.rb.keptX k hX, h.na, h.nb, h.ne⟩
theorem Game.carryA (h : Game W w p c room p2 c2 room2 qa qb l sh l2 sh2 v la sa v2 lb sb) {u : Value} {lu : List Int} (hu : RL w u lu) (v' : Value) (s' : Bool) :
    RL (((w.setCell ⟨qa, 0, none⟩ v').setCell ⟨qa, 1, none⟩ (.int .i64 room)).setCell ⟨qa, 2, none⟩ (.bool s')) u lu :=
  hu.keptX (kept3 (Kept.refl (at0 qa) w) qa rfl v' (.int .i64 room) (.bool s')) (fun g cs e hb => by
    have e : g = qa := e
    subst e
    exact absurd (Box.same hb h.ba) (by decide))
theorem Game.shutA (h : Game W w p c room p2 c2 room2 qa qb l sh l2 sh2 v la sa v2 lb sb) (s' : Bool) :
    Game W (w.setCell ⟨qa, 2, none⟩ (.bool s')) p c room p2 c2 room2 qa qb l sh l2 sh2 v la s' v2 lb sb := by
  have k := (Kept.refl (at0 qa) w).setCell (a := ⟨qa, 2, none⟩) (fun _ => rfl) (.bool s')
  have hX : ∀ g cs, at0 qa g → ¬ Box w g 3 cs := fun g cs e hb => by
    have e : g = qa := e
    subst e
    exact absurd (Box.same hb h.ba) (by decide)
  exact ⟨h.two.kept k (fun i e => by have e : i = qa := e; rw [e]; exact h.na) (fun i hi e => h.two.noTR h.ba i hi e), h.ba.put 2 (.bool s'), h.ra.keptX k hX, h.bb.far (a := ⟨qa, 2, none⟩) h.ne _, h.rb.keptX k hX, h.na, h.nb, h.ne⟩
theorem Game.cells (h : Game W w p c room p2 c2 room2 qa qb l sh l2 sh2 v la sa v2 lb sb) :
    (w.cell? ⟨qa, 0, none⟩ = some v ∧ w.cell? ⟨qa, 1, none⟩ = some (.int .i64 room) ∧ w.cell? ⟨qa, 2, none⟩ = some (.bool sa)) ∧ (w.frozen? ⟨qa, 0, none⟩ = false ∧ w.frozen? ⟨qa, 1, none⟩ = false ∧ w.frozen? ⟨qa, 2, none⟩ = false) ∧ qa < w.heap.size :=
  ⟨⟨h.ba.cell 0, h.ba.cell 1, h.ba.cell 2⟩, ⟨h.ba.free 0, h.ba.free 1, h.ba.free 2⟩, h.ba.lt⟩
/-- each is as the document's -/
def PlaysI (W : World) (p c room p2 c2 room2 qa qb n d : Nat) (i : Value) (wr : World) : Prop :=
  ∃ (k : Nat) (l l2 : List Int) (sh sh2 : Bool) (a : Option Addr) (ca : Nat) (b : Option Addr) (cb : Nat), d + k = n ∧ i = .int .i64 k ∧ Game W wr p c room p2 c2 room2 qa qb l sh l2 sh2 (.slice a l.length ca) l sh (.slice b l2.length cb) l2 sh2
theorem RL.reads {a : Option Addr} {n c : Nat} (h : RL w (.slice a n c) l) (hn : l.length = n) : ReadsV w w.heap.size a n (intV (fun i => l.getD i 0)) := by
  obtain ⟨a', c', e, _, _, h3, _⟩ := h
  simp only [Value.slice.injEq] at e
  obtain ⟨rfl, rfl, rfl⟩ := e
  exact h3
theorem RL.form (h : RL w v l) : ∃ a c, v = .slice a l.length c := by
  obtain ⟨a, c, e, _⟩ := h
  exact ⟨a, c, e⟩
end
/-- A row of calls that came in, below block B. -/
def ReadsO (w : World) (B : Nat) (v : Option Addr) (n : Nat) (K X : Nat → Int) : Prop := ∀ i, i < n → ∃ ad, v = some ad ∧ ad.block < B ∧ w.cell? (ad.add (i * 2)) = some (.int .i64 (K i)) ∧ w.cell? ⟨(ad.add (i * 2)).block, (ad.add (i * 2)).off + 1, none⟩ = some (.int .i64 (X i))
theorem ReadsO.below {w w' : World} {B B' : Nat} {v : Option Addr} {n : Nat} {K X : Nat → Int} (h : ReadsO w B v n K X) (hb : Below B' w w') (hle : B ≤ B') : ReadsO w' B v n K X := by
  intro i hi
  obtain ⟨ad, h1, h2, h3, h4⟩ := h i hi
  exact ⟨ad, h1, h2, by rw [hb.cell (by rw [block_of_add]; omega)]; exact h3, by rw [hb.cell (by show (ad.add (i * 2)).block < B'; rw [block_of_add]; omega)]; exact h4⟩
end Go.Proofs.Ytolfldjiejeboaa.Sp
