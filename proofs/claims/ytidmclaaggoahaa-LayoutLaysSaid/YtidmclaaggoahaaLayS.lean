/-
  CONTRACTS of layer layout: a token is laid.
-/
import Derived.Test.YtidmclaaggoahaaLayR
import Derived.Deep.DeepCutAuto
import Derived.Deep.Cut
namespace Go.Proofs.Ytidmclaaggoahaa.Ly
open Go.RowKit Pl Ar Mm
set_option linter.unusedVariables false
set_option linter.unusedSimpArgs false
structure LS where
  T : List TokM
  F : List Fr
  fst : Bool
def ph1 (due first : Bool) (t : TokM) (T : List TokM) (F : List Fr) : LS :=
  if due = true then (if (innerF F F.length).2 < t.col then ⟨T ++ [mkM [123] t.line t.col], F ++ [⟨1, t.col⟩], false⟩ else ⟨T ++ [mkM [123] t.line t.col] ++ [mkM [125] t.line t.col], F, first⟩) else ⟨T, F, first⟩
def ph2 (t : TokM) (s : LS) : List TokM × List Fr :=
  if s.fst = true then (lineT s.T s.F t.col t.line t.col (lineQ s.F t.col s.F.length s.F.length), s.F.take (lineQ s.F t.col s.F.length s.F.length)) else (s.T, s.F)
def ph3 (t : TokM) (s : List TokM × List Fr) : List TokM × List Fr :=
  if closedK t.kind t.text.data.toList = 0 then s else (closedT s.1 s.2 (findF s.2 (closedK t.kind t.text.data.toList) s.2.length).toNat t.line t.col, s.2.take (findF s.2 (closedK t.kind t.text.data.toList) s.2.length).toNat)
def ph4 (t : TokM) (s : List TokM × List Fr) : List TokM × List Fr :=
  (s.1 ++ [t], if openedK t.kind t.text.data.toList = 0 then s.2 else s.2 ++ [⟨openedK t.kind t.text.data.toList, 0⟩])
abbrev tokVal (t : TokM) : Value := tkV t.kind t.text t.num t.line t.col t.made
abbrev tokBox (t : TokM) : Array Value := #[.int .i64 t.kind, .string t.text, .int .i64 t.num, .int .i64 t.line, .int .i64 t.col, .bool t.made]
/-- Z, and the block of the token that is laid -/
def Zq (Z : Nat → Prop) (q : Nat) (k : Nat) : Prop := Z k ∨ k = q
/-- the sheet, and the token that is laid, which lies at block q -/
structure At4 (Z : Nat → Prop) (p q : Nat) (t : TokM) (T : List TokM) (F : List Fr) (due : Bool) (w wx : World) : Prop where
  sheet : ∃ vt vf, Sheet (Zq Z q) wx p T F due t.line t.col vt vf
  tok : Box wx q TT (tokBox t)
  kept : Holds (Zq Z q) w wx
section
variable {Z : Nat → Prop} {p q : Nat} {t : TokM} {T T2 : List TokM} {F F2 : List Fr} {due due2 : Bool} {w w1 w2 : World}
theorem At4.next (h : At4 Z p q t T F due w w1) (hs : ∃ vt vf, Sheet (Zq Z q) w2 p T2 F2 due2 t.line t.col vt vf) (hb : Holds (Zq Z q) w1 w2) : At4 Z p q t T2 F2 due2 w w2 :=
  ⟨hs, hb.box h.tok (.inr rfl), h.kept.trans hb⟩
theorem At4.toks (h : At4 Z p q t T F due w w1) : w1.cell? ⟨q, 0, none⟩ = some (.int .i64 t.kind) ∧ w1.cell? ⟨q, 1, none⟩ = some (.string t.text) ∧ w1.cell? ⟨q, 2, none⟩ = some (.int .i64 t.num) ∧ w1.cell? ⟨q, 3, none⟩ = some (.int .i64 t.line) ∧ w1.cell? ⟨q, 4, none⟩ = some (.int .i64 t.col) ∧ w1.cell? ⟨q, 5, none⟩ = some (.bool t.made) ∧ q < w1.heap.size :=
  ⟨h.tok.cell 0, h.tok.cell 1, h.tok.cell 2, h.tok.cell 3, h.tok.cell 4, h.tok.cell 5, h.tok.lt⟩
theorem Sheet.due_off {ln col : Int} {vt vf : Value} (d : Bool) (h : Sheet Z w p T F due ln col vt vf) : Sheet Z (w.setCell ⟨p, 2, none⟩ (.bool d)) p T F d ln col vt vf :=
  ⟨h.box.put 2 (.bool d), own_far h.toks h.box (by decide) 2 _, own_far h.frames h.box (by decide) 2 _, h.zp, h.zt, h.zf, fun k hk => by simpa using h.zl k hk⟩
theorem At4.off (h : At4 Z p q t T F due w w1) (d : Bool) : At4 Z p q t T F d w (w1.setCell ⟨p, 2, none⟩ (.bool d)) := by
  obtain ⟨vt, vf, hs⟩ := h.sheet
  exact h.next ⟨vt, vf, hs.due_off d⟩ ((Holds.refl _ _).setCell hs.zp _)
theorem ownsBlock_lt {ty : TypeId} {n : Nat} {v : Value} {L : List Value} {k m : Nat} (h : w.ownsRow 0 ty n v m L) (hk : v.ownBlock = some k) : k < w.heap.size := by
  exact (h.lt k hk).2
end
theorem At4.start {Z : Nat → Prop} {p : Nat} {t : TokM} {T : List TokM} {F : List Fr} {due : Bool} {vt vf : Value} {w : World} (h : Sheet Z w p T F due t.line t.col vt vf) :
    At4 Z p w.heap.size t T F due (w.alloc (.cells (tokBox t) TT)) (w.alloc (.cells (tokBox t) TT)) := by
  refine ⟨⟨vt, vf, h.box.alloc _, h.toks.alloc _, h.frames.alloc _, ?_, ?_, ?_, ?_⟩, ?_, .refl _ _⟩
  · rintro (e | e)
    · exact h.zp e
    · have := h.box.lt; omega
  · intro k hk
    rintro (e | e)
    · exact h.zt k hk e
    · have := ownsBlock_lt h.toks hk; omega
  · intro k hk
    rintro (e | e)
    · exact h.zf k hk e
    · have := ownsBlock_lt h.frames hk; omega
  · rintro k (e | e)
    · have := h.zl k e; simp; omega
    · simp; omega
  · exact Box.new w _ _
section
variable {Z : Nat → Prop} {p q : Nat} {t : TokM} {T : List TokM} {F : List Fr} {due : Bool} {w w1 w2 : World}
theorem At4.here (h : At4 Z p q t T F due w w1) (k : Below w1.heap.size w1 w2) : At4 Z p q t T F due w w2 := by
  obtain ⟨vt, vf, hs⟩ := h.sheet
  exact h.next ⟨vt, vf, hs.here k⟩ ⟨k.os, k.tape, k.output, k.size, fun i hi => k.block i (hs.zl i hi)⟩
theorem At4.drewN (h : At4 Z p q t T F due w w1) (n : Nat) : At4 Z p q t T F due w (w1.drewN n) := by
  obtain ⟨vt, vf, hs⟩ := h.sheet
  exact h.next ⟨vt, vf, hs.drewN n⟩ ((Holds.refl _ _).drewN n)
theorem At4.mark (h : At4 Z p q t T F due w w1) (text : ByteArray) (hn : T.length ≤ 1000000000) :
    Calls Try.prog 41 #[.pointer (some ⟨p, 0, none⟩), .string text] w1 fun e w2 => e = .returned (.tuple #[]) ∧ At4 Z p q t (T ++ [⟨5, text, 0, t.line, t.col, true⟩]) F due w w2 := by
  obtain ⟨vt, vf, hs⟩ := h.sheet
  exact (mark_any text w1 hs hn).mono fun e w2 ⟨he, hs2, hb⟩ => ⟨he, h.next hs2 hb⟩
theorem At4.put (h : At4 Z p q t T F due w w1) (kind c : Int) (hn : F.length ≤ 1000000000) :
    Calls Try.prog 40 #[.pointer (some ⟨p, 0, none⟩), .int .i64 kind, .int .i64 c] w1 fun e w2 => e = .returned (.tuple #[]) ∧ At4 Z p q t T (F ++ [⟨kind, c⟩]) due w w2 := by
  obtain ⟨vt, vf, hs⟩ := h.sheet
  exact (putS_any kind c w1 hs hn).mono fun e w2 ⟨he, hs2, hb⟩ => ⟨he, h.next hs2 hb⟩
theorem At4.close (h : At4 Z p q t T F due w w1) (place : Nat) (hn : T.length + F.length ≤ 999999999) (hp : place ≤ 9223372036854775807) :
    Calls Try.prog 44 #[.pointer (some ⟨p, 0, none⟩), .int .i64 place] w1 fun e w2 => e = .returned (.tuple #[]) ∧ At4 Z p q t (closedT T F place t.line t.col) (F.take place) due w w2 := by
  obtain ⟨vt, vf, hs⟩ := h.sheet
  exact (close_any place w1 hs hn hp).mono fun e w2 ⟨he, hs2, hb⟩ => ⟨he, h.next hs2 hb⟩
theorem At4.line (h : At4 Z p q t T F due w w1) (hn : T.length + F.length ≤ 999999990) {R : Nat} (hR : lineQ F t.col F.length F.length = R) :
    Calls Try.prog 42 #[.pointer (some ⟨p, 0, none⟩), .int .i64 t.col] w1 fun e w2 => e = .returned (.tuple #[]) ∧ At4 Z p q t (lineT T F t.col t.line t.col R) (F.take R) due w w2 := by
  obtain ⟨vt, vf, hs⟩ := h.sheet
  exact (line_any t.col w1 hs hn hR).mono fun e w2 ⟨he, hs2, hb⟩ => ⟨he, h.next hs2 hb⟩
theorem At4.inner (h : At4 Z p q t T F due w w1) (hn : F.length ≤ 1000000000) {i c : Int} (hi : innerF F F.length = (i, c)) :
    Calls Try.prog 38 #[.pointer (some ⟨p, 0, none⟩)] w1 fun e w2 => e = .returned (.tuple #[.int .i64 i, .int .i64 c]) ∧ At4 Z p q t T F due w w2 := by
  obtain ⟨vt, vf, hs⟩ := h.sheet
  exact (inner_is w1 hs hn hi).mono fun e w2 ⟨he, hs2, hb⟩ => ⟨he, h.next ⟨vt, vf, hs2⟩ hb⟩
theorem At4.closed (h : At4 Z p q t T F due w w1) {k : Int} (hk : closedK t.kind t.text.data.toList = k) : Calls Try.prog 43 #[tokVal t] w1 fun e w2 => e = .returned (.int .i64 k) ∧ At4 Z p q t T F due w w2 :=
  (closed_any t.kind t.text t.num t.line t.col t.made w1).mono fun e w2 ⟨he, hb⟩ => ⟨by rw [he, hk], h.here hb⟩
theorem At4.opened (h : At4 Z p q t T F due w w1) {k : Int} (hk : openedK t.kind t.text.data.toList = k) : Calls Try.prog 39 #[tokVal t] w1 fun e w2 => e = .returned (.int .i64 k) ∧ At4 Z p q t T F due w w2 :=
  (opened_any t.kind t.text t.num t.line t.col t.made w1).mono fun e w2 ⟨he, hb⟩ => ⟨by rw [he, hk], h.here hb⟩
theorem At4.behind (h : At4 Z p q t T F due w w1) {k : Bool} (hk : dueK t.kind t.text.data.toList = k) : Calls Try.prog 46 #[tokVal t] w1 fun e w2 => e = .returned (.bool k) ∧ At4 Z p q t T F due w w2 :=
  (due_any t.kind t.text t.num t.line t.col t.made w1).mono fun e w2 ⟨he, hb⟩ => ⟨by rw [he, hk], h.here hb⟩
theorem At4.cells (h : At4 Z p q t T F due w w1) : ∃ vt vf, (w1.cell? ⟨p, 0, none⟩ = some vt ∧ w1.cell? ⟨p, 1, none⟩ = some vf ∧ w1.cell? ⟨p, 2, none⟩ = some (.bool due) ∧ w1.cell? ⟨p, 3, none⟩ = some (.int .i64 t.line) ∧ w1.cell? ⟨p, 4, none⟩ = some (.int .i64 t.col)) ∧
    (w1.frozen? ⟨p, 0, none⟩ = false ∧ w1.frozen? ⟨p, 1, none⟩ = false ∧ w1.frozen? ⟨p, 2, none⟩ = false ∧ w1.frozen? ⟨p, 3, none⟩ = false ∧ w1.frozen? ⟨p, 4, none⟩ = false) ∧ p < w1.heap.size := by
  obtain ⟨vt, vf, hs⟩ := h.sheet
  exact ⟨vt, vf, hs.cells⟩
end
theorem At4.stop {Z : Nat → Prop} {p : Nat} {t : TokM} {T T2 : List TokM} {F F2 : List Fr} {due due2 : Bool} {vt vf : Value} {w w2 : World} {o : Obj} (h : Sheet Z w p T F due t.line t.col vt vf) (h2 : At4 Z p w.heap.size t T2 F2 due2 (w.alloc o) w2) :
    SheetPost Z p T2 F2 due2 t.line t.col w (.returned (.tuple #[])) w2 := by
  obtain ⟨vt2, vf2, hs⟩ := h2.sheet
  refine ⟨rfl, ⟨vt2, vf2, hs.box, hs.toks, hs.frames, fun e => hs.zp (.inl e), fun k hk e => hs.zt k hk (.inl e), fun k hk e => hs.zf k hk (.inl e), fun k e => hs.zl k (.inl e)⟩, ?_⟩
  have hk := h2.kept
  have h1 : Holds Z w (w.alloc o) := (Holds.refl Z w).alloc h.zl o
  exact h1.trans ⟨hk.os, hk.tape, hk.output, hk.size, fun k e => hk.block k (.inl e)⟩
end Go.Proofs.Ytidmclaaggoahaa.Ly
