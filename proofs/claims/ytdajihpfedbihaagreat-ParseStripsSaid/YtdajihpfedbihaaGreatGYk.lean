/-
  WORDS: boxes that are made ahead of calls, between them, or behind them. CONTRACTS: Strip, Bare in any world behind one.
-/
import Derived.Test.YtdajihpfedbihaaGreatGYe
import Derived.Test.YtdajihpfedbihaaGreatGYj

namespace Go.Proofs.YtdajihpfedbihaaGreat.St
open Go.RowKit Mm Tm
set_option linter.unusedVariables false
abbrev TPg : TypeId := 26
abbrev TXp : TypeId := 33
abbrev zPg : Array Value := #[.slice none 0 0, .slice none 0 0, .slice none 0 0]
abbrev zXp : Array Value := #[.int .i64 0, .string ⟨#[]⟩, .int .i64 0, .slice none 0 0, .slice none 0 0, .slice none 0 0, .slice none 0 0, .int .i64 0, .int .i64 0]
theorem cell_al {w : World} {o : Obj} {p : Addr} {v : Value} (h : w.cell? p = some v) : (w.alloc o).cell? p = some v := cellb h ((Below.refl _ _).alloc (Nat.le_refl _) _)
theorem cell_dr {w : World} {p : Addr} {v : Value} (h : w.cell? p = some v) : w.drew.cell? p = some v := h
theorem cell_set {w : World} {a p : Addr} {u v : Value} (hne : p.block ≠ a.block) (h : w.cell? p = some v) : (w.setCell a u).cell? p = some v := (World.cell?_of_block (Below.heap_setCell w a u p.block hne)).trans h
theorem bd0 (w : World) : Below w.heap.size w w.drew := todrew (Below.refl _ _)
theorem bd1 (w : World) (o : Obj) : Below w.heap.size w (w.alloc o).drew := todrew ((Below.refl _ _).alloc (Nat.le_refl _) _)
theorem be0 (w : World) : Below w.heap.size w w := Below.refl _ _
theorem be1 (w : World) (o : Obj) : Below w.heap.size w (w.alloc o) := (Below.refl _ _).alloc (Nat.le_refl _) _
theorem be2 (w : World) (o1 o2 : Obj) : Below w.heap.size w ((w.alloc o1).alloc o2) := ((Below.refl _ _).alloc (Nat.le_refl _) _).alloc (by simp) _
theorem boxN (w : World) (cs : Array Value) (t : TypeId) : Box (w.alloc (.cells cs t)).drew w.heap.size t cs := Box.new w _ _
theorem boxA' (w : World) (cs : Array Value) (t : TypeId) (o : Obj) : Box ((w.alloc (.cells cs t)).alloc o) w.heap.size t cs := (Box.new w _ _).alloc _
theorem boxB' (w : World) (cs : Array Value) (t : TypeId) (o : Obj) : Box ((w.alloc o).alloc (.cells cs t)) (w.heap.size + 1) t cs := (Box.at_ (w := w.alloc o) _ _ (by simp) : Box _ _ _ _)
/-- what is known behind both copies, and their boxes: the boxes lie in blocks that none of the copies needs -/
structure Two (d S : Nat) (w0 : World) (ps xs pd xd : List Value) (V : World) : Prop where
  pm : ∃ N, w0.heap.size ≤ N ∧ MF (M (Zs S N V) V d) (Zs S N V) V [.row .dt, .row .fx, .row .bd] ps pd
  xm : ∃ N, w0.heap.size ≤ N ∧ M (Zs S N V) V d .ex xs xd
  below : Below w0.heap.size w0 V
/-- the copy of a program, of an expression stays, where blocks are written that lie between what was there and it -/
theorem mf_keep {d S N : Nat} {w w' : World} {X : Nat → Prop} {l : List Fd} {cs ds : List Value} (h : MF (M (Zs S N w) w d) (Zs S N w) w l cs ds) (hk : Kept X w w') (hX : ∀ x, X x → S ≤ x ∧ x < N) : MF (M (Zs S N w') w' d) (Zs S N w') w' l cs ds :=
  MF.frame (fun x hz => hk.block x hz.2 fun e => by have := hX x e; have := hz.1; omega) (fun x hz => hz.kept hk) (fun κ cs ds hm => M.kept hm hk hX) h
end Go.Proofs.YtdajihpfedbihaaGreat.St
/-
  WORDS: what is known behind Strip and Bare, wherever the boxes of their results were made. Written by gen_stlaw.py.
-/
namespace Go.Proofs.YtdajihpfedbihaaGreat.St
open Go.RowKit Mm Tm
set_option linter.unusedVariables false
theorem neA {a b c : Nat} (h : b = a + 2) (g : b ≤ c) : a ≠ c := by omega
theorem neB {a b c : Nat} (h : b = a + 2) (g : b ≤ c) : a ≠ c + 1 := by omega
theorem neC {a b c : Nat} (h : b = a + 2) (g : b ≤ c) : a + 1 ≠ c := by omega
theorem neD {a b c : Nat} (h : b = a + 2) (g : b ≤ c) : a + 1 ≠ c + 1 := by omega
abbrev pgF : List Fd := [.row .dt, .row .fx, .row .bd]
/-- behind both calls -/
structure Bth (d S : Nat) (W2 : World) (ps xs pd xd : List Value) (N0 E0 N1 : Nat) (V : World) : Prop where
  pm : MF (M (fun x => (x < S ∨ N0 ≤ x) ∧ x < E0) V d) (fun x => (x < S ∨ N0 ≤ x) ∧ x < E0) V pgF ps pd
  xm : M (Zs S N1 V) V d .ex xs xd
  bl : Below W2.heap.size W2 V
  hs : S ≤ W2.heap.size ∧ W2.heap.size ≤ N0 ∧ N0 ≤ E0 ∧ E0 ≤ N1 ∧ N1 ≤ V.heap.size
/-- what the cut behind both results says -/
def Cut (d : Nat) (W2 : World) (ps xs : List Value) (v5 v6 : Value) (wx : World) : Prop :=
  ∃ b5 b6 pd xd, v5 = .pointer (some ⟨b5, 0, none⟩) ∧ v6 = .pointer (some ⟨b6, 0, none⟩) ∧ Box wx b5 TPg (List.toArray pd) ∧ Box wx b6 TXp (List.toArray xd) ∧ MF (M (· < wx.heap.size) wx d) (· < wx.heap.size) wx pgF ps pd ∧ M (· < wx.heap.size) wx d .ex xs xd ∧ Below W2.heap.size W2 wx
/-- a box of one's own that was made ahead of a call -/
def Bd (W2 : World) (N0 E0 N1 : Nat) (V : World) (b : Nat) (t : TypeId) (z : Array Value) : Prop := Box V b t z ∧ W2.heap.size ≤ b ∧ (b < N0 ∨ E0 ≤ b) ∧ b < N1
theorem Bd.first {W2 W V0 Wc V : World} {b : Nat} {t : TypeId} {z : Array Value} (h0 : Below W.heap.size W V0) (hc : Below V0.heap.size V0 Wc) (h1 : Below Wc.heap.size Wc V) (h : Box W b t z) (hg : W2.heap.size ≤ b) : Bd W2 W.heap.size V0.heap.size Wc.heap.size V b t z :=
  ⟨((h.below h0 h.lt).below (hc.trans (h1.mono hc.size)) (Nat.lt_of_lt_of_le h.lt h0.size)), hg, .inl h.lt, Nat.lt_of_lt_of_le h.lt (Nat.le_trans h0.size hc.size)⟩
theorem Bd.then_ {W2 W V0 Wc V : World} {b : Nat} {t : TypeId} {z : Array Value} (h0 : Below W.heap.size W V0) (h1 : Below Wc.heap.size Wc V) (hw : W2.heap.size ≤ V0.heap.size) (h : Box Wc b t z) (hg : V0.heap.size ≤ b) : Bd W2 W.heap.size V0.heap.size Wc.heap.size V b t z :=
  ⟨h.below h1 h.lt, Nat.le_trans hw hg, .inr hg, h.lt⟩
theorem Bd.ne {W2 V : World} {N0 E0 N1 b5 b6 : Nat} {z5 z6 : Array Value} (g5 : Bd W2 N0 E0 N1 V b5 TPg z5) (g6 : Bd W2 N0 E0 N1 V b6 TXp z6) : b5 ≠ b6 ∧ b6 ≠ b5 :=
  have h : b5 ≠ b6 := fun e => by subst e; exact absurd (g5.1.same g6.1) (by decide)
  ⟨h, fun e => h e.symm⟩
section
variable {d S : Nat} {W2 : World} {ps xs : List Value} {u0 u1 u2 y0 y1 y2 y3 y4 y5 y6 y7 y8 : Value} {N0 E0 N1 : Nat} {V : World}
theorem Bth.cut (h : Bth d S W2 ps xs [u0, u1, u2] [y0, y1, y2, y3, y4, y5, y6, y7, y8] N0 E0 N1 V) {wx : World} {b5 b6 : Nat} (hx5 : Box wx b5 TPg #[u0, u1, u2]) (hx6 : Box wx b6 TXp #[y0, y1, y2, y3, y4, y5, y6, y7, y8]) (hk : Kept (fun x => x = b5 ∨ x = b6) V wx)
    (h5 : W2.heap.size ≤ b5 ∧ (b5 < N0 ∨ E0 ≤ b5) ∧ (b5 < N1 ∨ V.heap.size ≤ b5)) (h6 : W2.heap.size ≤ b6 ∧ (b6 < N0 ∨ E0 ≤ b6) ∧ (b6 < N1 ∨ V.heap.size ≤ b6)) : Cut d W2 ps xs (.pointer (some ⟨b5, 0, none⟩)) (.pointer (some ⟨b6, 0, none⟩)) wx := by
  have hs := h.hs
  have hsz := hk.size
  have hp : ∀ x, ((x < S ∨ N0 ≤ x) ∧ x < E0) → wx.heap[x]? = V.heap[x]? := fun x hx => hk.block x (by omega) (by rintro (rfl | rfl) <;> omega)
  have hx : ∀ x, Zs S N1 V x → wx.heap[x]? = V.heap[x]? := fun x hx => hk.block x hx.2 (by have := hx.1; have := hx.2; rintro (rfl | rfl) <;> omega)
  exact ⟨b5, b6, _, _, rfl, rfl, hx5, hx6, MF.frame hp (fun x hx => by show x < _; omega) (fun κ cs ds hm => hm.frame hp fun x hx => by show x < _; omega) h.pm, h.xm.frame hx fun x hx => Nat.lt_of_lt_of_le hx.2 hsz,
    ⟨hk.os.trans h.bl.os, hk.tape.trans h.bl.tape, hk.output.trans h.bl.output, Nat.le_trans h.bl.size hsz, fun k hl => (hk.block k (Nat.lt_of_lt_of_le hl h.bl.size) (by rintro (rfl | rfl) <;> omega)).trans (h.bl.block k hl)⟩⟩
theorem Bth.lA (h : Bth d S W2 ps xs [u0, u1, u2] [y0, y1, y2, y3, y4, y5, y6, y7, y8] N0 E0 N1 V) : Cut d W2 ps xs (.pointer (some ⟨V.heap.size, 0, none⟩)) (.pointer (some ⟨V.heap.size + 1, 0, none⟩)) ((V.alloc (.cells #[u0, u1, u2] TPg)).alloc (.cells #[y0, y1, y2, y3, y4, y5, y6, y7, y8] TXp)) := h.cut ((Box.new _ _ _).alloc _) (Box.at_ _ _ (by simp)) ((Kept.refl _ _).alloc _ |>.alloc _) ⟨by have := h.hs; omega, .inr (by have := h.hs; omega), .inr (by omega)⟩ ⟨by have := h.hs; omega, .inr (by have := h.hs; omega), .inr (by omega)⟩
theorem Bth.lB (h : Bth d S W2 ps xs [u0, u1, u2] [y0, y1, y2, y3, y4, y5, y6, y7, y8] N0 E0 N1 V) : Cut d W2 ps xs (.pointer (some ⟨V.heap.size + 1, 0, none⟩)) (.pointer (some ⟨V.heap.size, 0, none⟩)) ((V.alloc (.cells #[y0, y1, y2, y3, y4, y5, y6, y7, y8] TXp)).alloc (.cells #[u0, u1, u2] TPg)) := h.cut (Box.at_ _ _ (by simp)) ((Box.new _ _ _).alloc _) ((Kept.refl _ _).alloc _ |>.alloc _) ⟨by have := h.hs; omega, .inr (by have := h.hs; omega), .inr (by omega)⟩ ⟨by have := h.hs; omega, .inr (by have := h.hs; omega), .inr (by omega)⟩
theorem Bth.lC1 (h : Bth d S W2 ps xs [u0, u1, u2] [y0, y1, y2, y3, y4, y5, y6, y7, y8] N0 E0 N1 V) {b5 : Nat} {z0 z1 z2 : Value} (g5 : Bd W2 N0 E0 N1 V b5 TPg #[z0, z1, z2]) : Cut d W2 ps xs (.pointer (some ⟨b5, 0, none⟩)) (.pointer (some ⟨V.heap.size, 0, none⟩)) ((((V.setCell ⟨b5, 0, none⟩ u0).setCell ⟨b5, 1, none⟩ u1).setCell ⟨b5, 2, none⟩ u2).alloc (.cells #[y0, y1, y2, y3, y4, y5, y6, y7, y8] TXp)) := by
  obtain ⟨W', hW', hb, hw⟩ := bw3 g5.1 u0 u1 u2
  rw [hW']
  exact h.cut (hb.alloc _) (Box.at_ _ _ hw.size) ((kept_of_wrote (Kept.refl (fun x => x = b5 ∨ x = V.heap.size) V) hw (fun _ => .inl rfl)).alloc _) ⟨g5.2.1, g5.2.2.1, .inl g5.2.2.2⟩ ⟨by have := h.hs; omega, .inr (by have := h.hs; omega), .inr (by omega)⟩
theorem Bth.lC2 (h : Bth d S W2 ps xs [u0, u1, u2] [y0, y1, y2, y3, y4, y5, y6, y7, y8] N0 E0 N1 V) {b5 : Nat} {z0 z1 z2 : Value} (g5 : Bd W2 N0 E0 N1 V b5 TPg #[z0, z1, z2]) : Cut d W2 ps xs (.pointer (some ⟨b5, 0, none⟩)) (.pointer (some ⟨V.heap.size, 0, none⟩)) ((((V.alloc (.cells #[y0, y1, y2, y3, y4, y5, y6, y7, y8] TXp)).setCell ⟨b5, 0, none⟩ u0).setCell ⟨b5, 1, none⟩ u1).setCell ⟨b5, 2, none⟩ u2) := by
  obtain ⟨W', hW', hb, hw⟩ := bw3 (g5.1.alloc _) u0 u1 u2
  rw [hW']
  exact h.cut hb ((Box.new V _ _).wrote hw (Nat.ne_of_gt g5.1.lt)) (kept_of_wrote ((Kept.refl (fun x => x = b5 ∨ x = V.heap.size) V).alloc _) hw (fun _ => .inl rfl)) ⟨g5.2.1, g5.2.2.1, .inl g5.2.2.2⟩ ⟨by have := h.hs; omega, .inr (by have := h.hs; omega), .inr (by omega)⟩
theorem Bth.lD1 (h : Bth d S W2 ps xs [u0, u1, u2] [y0, y1, y2, y3, y4, y5, y6, y7, y8] N0 E0 N1 V) {b6 : Nat} {q0 q1 q2 q3 q4 q5 q6 q7 q8 : Value} (g6 : Bd W2 N0 E0 N1 V b6 TXp #[q0, q1, q2, q3, q4, q5, q6, q7, q8]) : Cut d W2 ps xs (.pointer (some ⟨V.heap.size, 0, none⟩)) (.pointer (some ⟨b6, 0, none⟩)) ((((((((((V.setCell ⟨b6, 0, none⟩ y0).setCell ⟨b6, 1, none⟩ y1).setCell ⟨b6, 2, none⟩ y2).setCell ⟨b6, 3, none⟩ y3).setCell ⟨b6, 4, none⟩ y4).setCell ⟨b6, 5, none⟩ y5).setCell ⟨b6, 6, none⟩ y6).setCell ⟨b6, 7, none⟩ y7).setCell ⟨b6, 8, none⟩ y8).alloc (.cells #[u0, u1, u2] TPg)) := by
  obtain ⟨W', hW', hb, hw⟩ := bw9 g6.1 y0 y1 y2 y3 y4 y5 y6 y7 y8
  rw [hW']
  exact h.cut (Box.at_ _ _ hw.size) (hb.alloc _) ((kept_of_wrote (Kept.refl (fun x => x = V.heap.size ∨ x = b6) V) hw (fun _ => .inr rfl)).alloc _) ⟨by have := h.hs; omega, .inr (by have := h.hs; omega), .inr (by omega)⟩ ⟨g6.2.1, g6.2.2.1, .inl g6.2.2.2⟩
theorem Bth.lD2 (h : Bth d S W2 ps xs [u0, u1, u2] [y0, y1, y2, y3, y4, y5, y6, y7, y8] N0 E0 N1 V) {b6 : Nat} {q0 q1 q2 q3 q4 q5 q6 q7 q8 : Value} (g6 : Bd W2 N0 E0 N1 V b6 TXp #[q0, q1, q2, q3, q4, q5, q6, q7, q8]) : Cut d W2 ps xs (.pointer (some ⟨V.heap.size, 0, none⟩)) (.pointer (some ⟨b6, 0, none⟩)) ((((((((((V.alloc (.cells #[u0, u1, u2] TPg)).setCell ⟨b6, 0, none⟩ y0).setCell ⟨b6, 1, none⟩ y1).setCell ⟨b6, 2, none⟩ y2).setCell ⟨b6, 3, none⟩ y3).setCell ⟨b6, 4, none⟩ y4).setCell ⟨b6, 5, none⟩ y5).setCell ⟨b6, 6, none⟩ y6).setCell ⟨b6, 7, none⟩ y7).setCell ⟨b6, 8, none⟩ y8) := by
  obtain ⟨W', hW', hb, hw⟩ := bw9 (g6.1.alloc _) y0 y1 y2 y3 y4 y5 y6 y7 y8
  rw [hW']
  exact h.cut ((Box.new V _ _).wrote hw (Nat.ne_of_gt g6.1.lt)) hb (kept_of_wrote ((Kept.refl (fun x => x = V.heap.size ∨ x = b6) V).alloc _) hw (fun _ => .inr rfl)) ⟨by have := h.hs; omega, .inr (by have := h.hs; omega), .inr (by omega)⟩ ⟨g6.2.1, g6.2.2.1, .inl g6.2.2.2⟩
theorem Bth.lE1 (h : Bth d S W2 ps xs [u0, u1, u2] [y0, y1, y2, y3, y4, y5, y6, y7, y8] N0 E0 N1 V) {b5 b6 : Nat} {z0 z1 z2 : Value} {q0 q1 q2 q3 q4 q5 q6 q7 q8 : Value} (g5 : Bd W2 N0 E0 N1 V b5 TPg #[z0, z1, z2]) (g6 : Bd W2 N0 E0 N1 V b6 TXp #[q0, q1, q2, q3, q4, q5, q6, q7, q8]) : Cut d W2 ps xs (.pointer (some ⟨b5, 0, none⟩)) (.pointer (some ⟨b6, 0, none⟩)) ((((((((((((V.setCell ⟨b5, 0, none⟩ u0).setCell ⟨b5, 1, none⟩ u1).setCell ⟨b5, 2, none⟩ u2).setCell ⟨b6, 0, none⟩ y0).setCell ⟨b6, 1, none⟩ y1).setCell ⟨b6, 2, none⟩ y2).setCell ⟨b6, 3, none⟩ y3).setCell ⟨b6, 4, none⟩ y4).setCell ⟨b6, 5, none⟩ y5).setCell ⟨b6, 6, none⟩ y6).setCell ⟨b6, 7, none⟩ y7).setCell ⟨b6, 8, none⟩ y8) := by
  have hne : b5 ≠ b6 := fun e => by subst e; exact absurd (g5.1.same g6.1) (by decide)
  obtain ⟨W', hW', hb, hw⟩ := bw3 g5.1 u0 u1 u2
  rw [hW']
  obtain ⟨W2', hW2', hb2, hw2⟩ := bw9 (g6.1.wrote hw (fun e => hne e.symm)) y0 y1 y2 y3 y4 y5 y6 y7 y8
  rw [hW2']
  exact h.cut (hb.wrote hw2 hne) hb2 (kept_of_wrote (kept_of_wrote (Kept.refl (fun x => x = b5 ∨ x = b6) V) hw (fun _ => .inl rfl)) hw2 (fun _ => .inr rfl)) ⟨g5.2.1, g5.2.2.1, .inl g5.2.2.2⟩ ⟨g6.2.1, g6.2.2.1, .inl g6.2.2.2⟩
theorem Bth.lE2 (h : Bth d S W2 ps xs [u0, u1, u2] [y0, y1, y2, y3, y4, y5, y6, y7, y8] N0 E0 N1 V) {b5 b6 : Nat} {z0 z1 z2 : Value} {q0 q1 q2 q3 q4 q5 q6 q7 q8 : Value} (g5 : Bd W2 N0 E0 N1 V b5 TPg #[z0, z1, z2]) (g6 : Bd W2 N0 E0 N1 V b6 TXp #[q0, q1, q2, q3, q4, q5, q6, q7, q8]) : Cut d W2 ps xs (.pointer (some ⟨b5, 0, none⟩)) (.pointer (some ⟨b6, 0, none⟩)) ((((((((((((V.setCell ⟨b6, 0, none⟩ y0).setCell ⟨b6, 1, none⟩ y1).setCell ⟨b6, 2, none⟩ y2).setCell ⟨b6, 3, none⟩ y3).setCell ⟨b6, 4, none⟩ y4).setCell ⟨b6, 5, none⟩ y5).setCell ⟨b6, 6, none⟩ y6).setCell ⟨b6, 7, none⟩ y7).setCell ⟨b6, 8, none⟩ y8).setCell ⟨b5, 0, none⟩ u0).setCell ⟨b5, 1, none⟩ u1).setCell ⟨b5, 2, none⟩ u2) := by
  have hne : b5 ≠ b6 := fun e => by subst e; exact absurd (g5.1.same g6.1) (by decide)
  obtain ⟨W', hW', hb, hw⟩ := bw9 g6.1 y0 y1 y2 y3 y4 y5 y6 y7 y8
  rw [hW']
  obtain ⟨W2', hW2', hb2, hw2⟩ := bw3 (g5.1.wrote hw hne) u0 u1 u2
  rw [hW2']
  exact h.cut hb2 (hb.wrote hw2 (fun e => hne e.symm)) (kept_of_wrote (kept_of_wrote (Kept.refl (fun x => x = b5 ∨ x = b6) V) hw (fun _ => .inr rfl)) hw2 (fun _ => .inl rfl)) ⟨g5.2.1, g5.2.2.1, .inl g5.2.2.2⟩ ⟨g6.2.1, g6.2.2.1, .inl g6.2.2.2⟩
end
end Go.Proofs.YtdajihpfedbihaaGreat.St
