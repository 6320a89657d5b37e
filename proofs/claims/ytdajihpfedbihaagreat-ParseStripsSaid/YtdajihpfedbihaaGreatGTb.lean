/-
  CONTRACTS of layer layout: a token is laid.
-/
import Derived.Test.YtdajihpfedbihaaGreatGTa
import Derived.Deep.DeepCutAuto
import Derived.Deep.Cut
namespace Go.Proofs.YtdajihpfedbihaaGreat.Ly
open Go.RowKit Pl Ar Mm
set_option linter.unusedVariables false
set_option linter.unusedSimpArgs false
structure LS where
  T : List TokM
  F : List Fr
  fst : Bool
def ph1 (due first : Bool) (t : TokM) (T : List TokM) (F : List Fr) : LS :=
  if due = true then (if (innerF F F.length).2 < t.col then ⟨T ++ [mkM [123] t.line t.col], F ++ [⟨1, t.col⟩], false⟩ else ⟨T ++ [mkM [123] t.line t.col] ++ [mkM [125] t.line t.col], F, first⟩) else ⟨T, F, first⟩
def ph2 (t : TokM) (s : LS) : List TokM × List Fr :=
  if s.fst = true then (lineT s.T s.F t.col t.line t.col (lineQ s.F t.col s.F.length s.F.length), s.F.take (lineQ s.F t.col s.F.length s.F.length)) else (s.T, s.F)
def ph3 (t : TokM) (s : List TokM × List Fr) : List TokM × List Fr :=
  if closedK t.kind t.text.data.toList = 0 then s else (closedT s.1 s.2 (findF s.2 (closedK t.kind t.text.data.toList) s.2.length).toNat t.line t.col, s.2.take (findF s.2 (closedK t.kind t.text.data.toList) s.2.length).toNat)
def ph4 (t : TokM) (s : List TokM × List Fr) : List TokM × List Fr :=
  (s.1 ++ [t], if openedK t.kind t.text.data.toList = 0 then s.2 else s.2 ++ [⟨openedK t.kind t.text.data.toList, 0⟩])
abbrev tokVal (t : TokM) : Value := tkV t.kind t.text t.num t.line t.col t.made
abbrev tokBox (t : TokM) : Array Value := #[.int .i64 t.kind, .string t.text, .int .i64 t.num, .int .i64 t.line, .int .i64 t.col, .bool t.made]
/-- Z, and the block of the token that is laid -/
def Zq (Z : Nat → Prop) (q : Nat) (k : Nat) : Prop := Z k ∨ k = q
/-- the sheet, and the token that is laid, which lies at block q -/
structure At4 (Z : Nat → Prop) (p q : Nat) (t : TokM) (T : List TokM) (F : List Fr) (due : Bool) (w wx : World) : Prop where
  sheet : ∃ vt vf, Sheet (Zq Z q) wx p T F due t.line t.col vt vf
  tok : Box wx q TT (tokBox t)
  kept : Holds (Zq Z q) w wx
section
variable {Z : Nat → Prop} {p q : Nat} {t : TokM} {T T2 : List TokM} {F F2 : List Fr} {due due2 : Bool} {w w1 w2 : World}
theorem At4.next (h : At4 Z p q t T F due w w1) (hs : ∃ vt vf, Sheet (Zq Z q) w2 p T2 F2 due2 t.line t.col vt vf) (hb : Holds (Zq Z q) w1 w2) : At4 Z p q t T2 F2 due2 w w2 :=
  ⟨hs, hb.box h.tok (.inr rfl), h.kept.trans hb⟩
theorem At4.toks (h : At4 Z p q t T F due w w1) : w1.cell? ⟨q, 0, none⟩ = some (.int .i64 t.kind) ∧ w1.cell? ⟨q, 1, none⟩ = some (.string t.text) ∧ w1.cell? ⟨q, 2, none⟩ = some (.int .i64 t.num) ∧ w1.cell? ⟨q, 3, none⟩ = some (.int .i64 t.line) ∧ w1.cell? ⟨q, 4, none⟩ = some (.int .i64 t.col) ∧ w1.cell? ⟨q, 5, none⟩ = some (.bool t.made) ∧ q < w1.heap.size :=
  ⟨h.tok.cell 0, h.tok.cell 1, h.tok.cell 2, h.tok.cell 3, h.tok.cell 4, h.tok.cell 5, h.tok.lt⟩
theorem Sheet.due_off {ln col : Int} {vt vf : Value} (d : Bool) (h : Sheet Z w p T F due ln col vt vf) : Sheet Z (w.setCell ⟨p, 2, none⟩ (.bool d)) p T F d ln col vt vf :=
  ⟨h.box.put 2 (.bool d), own_far h.toks h.box (by decide) 2 _, own_far h.frames h.box (by decide) 2 _, h.zp, h.zt, h.zf, fun k hk => by simpa using h.zl k hk⟩
theorem At4.off (h : At4 Z p q t T F due w w1) (d : Bool) : At4 Z p q t T F d w (w1.setCell ⟨p, 2, none⟩ (.bool d)) := by
  obtain ⟨vt, vf, hs⟩ := h.sheet
  exact h.next ⟨vt, vf, hs.due_off d⟩ ((Holds.refl _ _).setCell hs.zp _)
theorem ownsBlock_lt {ty : TypeId} {n : Nat} {v : Value} {L : List Value} {k m : Nat} (h : w.ownsRow 0 ty n v m L) (hk : v.ownBlock = some k) : k < w.heap.size := by
  exact (h.lt k hk).2
end
theorem At4.start {Z : Nat → Prop} {p : Nat} {t : TokM} {T : List TokM} {F : List Fr} {due : Bool} {vt vf : Value} {w : World} (h : Sheet Z w p T F due t.line t.col vt vf) :
    At4 Z p w.heap.size t T F due (w.alloc (.cells (tokBox t) TT)) (w.alloc (.cells (tokBox t) TT)) := by
  refine ⟨⟨vt, vf, h.box.alloc _, h.toks.alloc _, h.frames.alloc _, ?_, ?_, ?_, ?_⟩, ?_, .refl _ _⟩
  · rintro (e | e)
    · exact h.zp e
    · have := h.box.lt; omega
  · intro k hk
    rintro (e | e)
    · exact h.zt k hk e
    · have := ownsBlock_lt h.toks hk; omega
  · intro k hk
    rintro (e | e)
    · exact h.zf k hk e
    · have := ownsBlock_lt h.frames hk; omega
  · rintro k (e | e)
    · have := h.zl k e; simp; omega
    · simp; omega
  · exact Box.new w _ _
section
variable {Z : Nat → Prop} {p q : Nat} {t : TokM} {T : List TokM} {F : List Fr} {due : Bool} {w w1 w2 : World}
theorem At4.here (h : At4 Z p q t T F due w w1) (k : Below w1.heap.size w1 w2) : At4 Z p q t T F due w w2 := by
  obtain ⟨vt, vf, hs⟩ := h.sheet
  exact h.next ⟨vt, vf, hs.here k⟩ ⟨k.os, k.tape, k.output, k.size, fun i hi => k.block i (hs.zl i hi)⟩
theorem At4.drewN (h : At4 Z p q t T F due w w1) (n : Nat) : At4 Z p q t T F due w (w1.drewN n) := by
  obtain ⟨vt, vf, hs⟩ := h.sheet
  exact h.next ⟨vt, vf, hs.drewN n⟩ ((Holds.refl _ _).drewN n)
theorem At4.mark (h : At4 Z p q t T F due w w1) (text : ByteArray) (hn : T.length ≤ 1000000000) :
    Calls Tryz.prog 107 #[.pointer (some ⟨p, 0, none⟩), .string text] w1 fun e w2 => e = .returned (.tuple #[]) ∧ At4 Z p q t (T ++ [⟨5, text, 0, t.line, t.col, true⟩]) F due w w2 := by
  obtain ⟨vt, vf, hs⟩ := h.sheet
  exact (mark_any text w1 hs hn).mono fun e w2 ⟨he, hs2, hb⟩ => ⟨he, h.next hs2 hb⟩
theorem At4.put (h : At4 Z p q t T F due w w1) (kind c : Int) (hn : F.length ≤ 1000000000) :
    Calls Tryz.prog 106 #[.pointer (some ⟨p, 0, none⟩), .int .i64 kind, .int .i64 c] w1 fun e w2 => e = .returned (.tuple #[]) ∧ At4 Z p q t T (F ++ [⟨kind, c⟩]) due w w2 := by
  obtain ⟨vt, vf, hs⟩ := h.sheet
  exact (putS_any kind c w1 hs hn).mono fun e w2 ⟨he, hs2, hb⟩ => ⟨he, h.next hs2 hb⟩
theorem At4.close (h : At4 Z p q t T F due w w1) (place : Nat) (hn : T.length + F.length ≤ 999999999) (hp : place ≤ 9223372036854775807) :
    Calls Tryz.prog 110 #[.pointer (some ⟨p, 0, none⟩), .int .i64 place] w1 fun e w2 => e = .returned (.tuple #[]) ∧ At4 Z p q t (closedT T F place t.line t.col) (F.take place) due w w2 := by
  obtain ⟨vt, vf, hs⟩ := h.sheet
  exact (close_any place w1 hs hn hp).mono fun e w2 ⟨he, hs2, hb⟩ => ⟨he, h.next hs2 hb⟩
theorem At4.line (h : At4 Z p q t T F due w w1) (hn : T.length + F.length ≤ 999999990) {R : Nat} (hR : lineQ F t.col F.length F.length = R) :
    Calls Tryz.prog 108 #[.pointer (some ⟨p, 0, none⟩), .int .i64 t.col] w1 fun e w2 => e = .returned (.tuple #[]) ∧ At4 Z p q t (lineT T F t.col t.line t.col R) (F.take R) due w w2 := by
  obtain ⟨vt, vf, hs⟩ := h.sheet
  exact (line_any t.col w1 hs hn hR).mono fun e w2 ⟨he, hs2, hb⟩ => ⟨he, h.next hs2 hb⟩
theorem At4.inner (h : At4 Z p q t T F due w w1) (hn : F.length ≤ 1000000000) {i c : Int} (hi : innerF F F.length = (i, c)) :
    Calls Tryz.prog 104 #[.pointer (some ⟨p, 0, none⟩)] w1 fun e w2 => e = .returned (.tuple #[.int .i64 i, .int .i64 c]) ∧ At4 Z p q t T F due w w2 := by
  obtain ⟨vt, vf, hs⟩ := h.sheet
  exact (inner_is w1 hs hn hi).mono fun e w2 ⟨he, hs2, hb⟩ => ⟨he, h.next ⟨vt, vf, hs2⟩ hb⟩
theorem At4.closed (h : At4 Z p q t T F due w w1) {k : Int} (hk : closedK t.kind t.text.data.toList = k) : Calls Tryz.prog 109 #[tokVal t] w1 fun e w2 => e = .returned (.int .i64 k) ∧ At4 Z p q t T F due w w2 :=
  (closed_any t.kind t.text t.num t.line t.col t.made w1).mono fun e w2 ⟨he, hb⟩ => ⟨by rw [he, hk], h.here hb⟩
theorem At4.opened (h : At4 Z p q t T F due w w1) {k : Int} (hk : openedK t.kind t.text.data.toList = k) : Calls Tryz.prog 105 #[tokVal t] w1 fun e w2 => e = .returned (.int .i64 k) ∧ At4 Z p q t T F due w w2 :=
  (opened_any t.kind t.text t.num t.line t.col t.made w1).mono fun e w2 ⟨he, hb⟩ => ⟨by rw [he, hk], h.here hb⟩
theorem At4.behind (h : At4 Z p q t T F due w w1) {k : Bool} (hk : dueK t.kind t.text.data.toList = k) : Calls Tryz.prog 112 #[tokVal t] w1 fun e w2 => e = .returned (.bool k) ∧ At4 Z p q t T F due w w2 :=
  (due_any t.kind t.text t.num t.line t.col t.made w1).mono fun e w2 ⟨he, hb⟩ => ⟨by rw [he, hk], h.here hb⟩
theorem At4.cells (h : At4 Z p q t T F due w w1) : ∃ vt vf, (w1.cell? ⟨p, 0, none⟩ = some vt ∧ w1.cell? ⟨p, 1, none⟩ = some vf ∧ w1.cell? ⟨p, 2, none⟩ = some (.bool due) ∧ w1.cell? ⟨p, 3, none⟩ = some (.int .i64 t.line) ∧ w1.cell? ⟨p, 4, none⟩ = some (.int .i64 t.col)) ∧
    (w1.frozen? ⟨p, 0, none⟩ = false ∧ w1.frozen? ⟨p, 1, none⟩ = false ∧ w1.frozen? ⟨p, 2, none⟩ = false ∧ w1.frozen? ⟨p, 3, none⟩ = false ∧ w1.frozen? ⟨p, 4, none⟩ = false) ∧ p < w1.heap.size := by
  obtain ⟨vt, vf, hs⟩ := h.sheet
  exact ⟨vt, vf, hs.cells⟩
end
theorem At4.stop {Z : Nat → Prop} {p : Nat} {t : TokM} {T T2 : List TokM} {F F2 : List Fr} {due due2 : Bool} {vt vf : Value} {w w2 : World} {o : Obj} (h : Sheet Z w p T F due t.line t.col vt vf) (h2 : At4 Z p w.heap.size t T2 F2 due2 (w.alloc o) w2) :
    SheetPost Z p T2 F2 due2 t.line t.col w (.returned (.tuple #[])) w2 := by
  obtain ⟨vt2, vf2, hs⟩ := h2.sheet
  refine ⟨rfl, ⟨vt2, vf2, hs.box, hs.toks, hs.frames, fun e => hs.zp (.inl e), fun k hk e => hs.zt k hk (.inl e), fun k hk e => hs.zf k hk (.inl e), fun k e => hs.zl k (.inl e)⟩, ?_⟩
  have hk := h2.kept
  have h1 : Holds Z w (w.alloc o) := (Holds.refl Z w).alloc h.zl o
  exact h1.trans ⟨hk.os, hk.tape, hk.output, hk.size, fun k e => hk.block k (.inl e)⟩
end Go.Proofs.YtdajihpfedbihaaGreat.Ly
/-
  CONTRACTS of layer layout: a token is laid.
-/
namespace Go.Proofs.YtdajihpfedbihaaGreat.Ly
open Go.RowKit Pl Ar Mm
set_option linter.unusedVariables false
set_option linter.unusedSimpArgs false
theorem innerC (F : List Fr) : ∃ i, innerF F F.length = (i, (innerF F F.length).2) := ⟨_, rfl⟩
theorem lineQ_le (F : List Fr) (c : Int) : ∀ n q, lineQ F c n q ≤ q
  | 0, q => Nat.le_refl _
  | n + 1, q => by
    unfold lineQ
    split
    · have h1 := lineQ_le F c n (innerF F q).1.toNat
      have h2 := (innerF_lt F q).1
      omega
    · exact Nat.le_refl _
theorem findF_le (F : List Fr) (kind : Int) : ∀ i, i ≤ F.length → 0 ≤ findF F kind i ∧ findF F kind i ≤ (F.length : Int)
  | 0, _ => by unfold findF; omega
  | i + 1, h => by
    unfold findF
    have := findF_le F kind i (by omega)
    split
    · omega
    · split <;> omega
theorem ph1_len (due first : Bool) (t : TokM) (T : List TokM) (F : List Fr) : (ph1 due first t T F).T.length + (ph1 due first t T F).F.length ≤ T.length + F.length + 2 := by
  unfold ph1
  split
  · split <;> simp <;> omega
  · simp
theorem ph2_len (t : TokM) (s : LS) : (ph2 t s).1.length + (ph2 t s).2.length ≤ s.T.length + s.F.length + 1 := by
  unfold ph2
  split
  · have h1 := closedT_len2 s.T s.F (lineQ_le s.F t.col s.F.length s.F.length) t.line t.col
    unfold lineT
    rw [List.length_append]
    split <;> simp only [List.length_singleton, List.length_nil] <;> omega
  · simp
theorem ph3_len (t : TokM) (s : List TokM × List Fr) : (ph3 t s).1.length + (ph3 t s).2.length ≤ s.1.length + s.2.length := by
  unfold ph3
  split
  · exact Nat.le_refl _
  · have h1 := findF_le s.2 (closedK t.kind t.text.data.toList) s.2.length (Nat.le_refl _)
    exact closedT_len2 s.1 s.2 (by omega) t.line t.col
theorem At4.find {Z : Nat → Prop} {p q : Nat} {t : TokM} {T : List TokM} {F : List Fr} {due : Bool} {w w1 : World} (h : At4 Z p q t T F due w w1) (hn : F.length ≤ 1000000000) (kind : Int) {m : Int} (hm : findF F kind F.length = m) :
    Calls Tryz.prog 111 #[.pointer (some ⟨p, 0, none⟩), .int .i64 kind] w1 fun e w2 => e = .returned (.int .i64 m) ∧ At4 Z p q t T F due w w2 := by
  obtain ⟨vt, vf, hs⟩ := h.sheet
  refine (find_any p vf F kind hn w1 hs.cells.1.2.1 hs.shows).mono ?_
  rintro e w2 ⟨he, n, rfl⟩
  exact ⟨by rw [he, hm], h.drewN n⟩
set_option maxRecDepth 100000 in
set_option maxHeartbeats 4000000 in
theorem lay_any {Z : Nat → Prop} {p : Nat} (t : TokM) {T : List TokM} {F : List Fr} {vt vf : Value} (due first : Bool) (hbr : ¬ (due = true ∧ openedK t.kind t.text.data.toList = 7)) (w : World) (h : Sheet Z w p T F due t.line t.col vt vf) (hn : T.length + F.length ≤ 999999000) :
    Calls Tryz.prog 81 #[.pointer (some ⟨p, 0, none⟩), tokVal t, .bool first] w (SheetPost Z p (ph4 t (ph3 t (ph2 t (ph1 due first t T F)))).1 (ph4 t (ph3 t (ph2 t (ph1 due first t T F)))).2 (dueK t.kind t.text.data.toList) t.line t.col w) := by
  obtain ⟨⟨x0, x1, x2, x3, x4⟩, ⟨f0, f1, f2, f3, f4⟩, zx⟩ := h.cells
  have HS := Lib.hid h
  have H4 := Lib.hid (At4.start h)
  obtain ⟨S1, hS1⟩ : ∃ S, ph1 due first t T F = S := ⟨_, rfl⟩
  have HS1 := Lib.hid hS1
  have hn1 : S1.T.length + S1.F.length ≤ 999999002 := by have := ph1_len due first t T F; rw [hS1] at this; omega
  have HBR := Lib.hid hbr
  rw [hS1]
  clear hS1 h hbr
  obtain ⟨S2, hS2⟩ : ∃ S, ph2 t S1 = S := ⟨_, rfl⟩
  have HS2 := Lib.hid hS2
  have hn2 : S2.1.length + S2.2.length ≤ 999999003 := by have := ph2_len t S1; rw [hS2] at this; omega
  obtain ⟨cl, hcl⟩ : ∃ k, closedK t.kind t.text.data.toList = k := ⟨_, rfl⟩
  have HCL := Lib.hid hcl
  obtain ⟨S3, hS3⟩ : ∃ S, ph3 t S2 = S := ⟨_, rfl⟩
  have HS3 := Lib.hid hS3
  have hn3 : S3.1.length + S3.2.length ≤ 999999003 := by have := ph3_len t S2; rw [hS3] at this; omega
  rw [hS2, hS3]
  clear hS2 hS3 hcl
  go_enter Tryz.func81, Tryz.ntmps81
  go_upto_if 13 with fail
  obtain ⟨W0, hW0⟩ : ∃ W0, w.alloc (.cells #[.int .i64 t.kind, .string t.text, .int .i64 t.num, .int .i64 t.line, .int .i64 t.col, .bool t.made] TT) = W0 := ⟨_, rfl⟩
  obtain ⟨q, hq⟩ : ∃ q, w.heap.size = q := ⟨_, rfl⟩
  have h40 := H4.out
  simp only [tokBox, hW0, hq] at h40
  simp only [hW0, hq]
  clear H4
  have H4 := Lib.hid h40
  have HW0 := Lib.hid hW0
  have HQ := Lib.hid hq
  clear hW0 hq h40 x0 x1 x2 x3 x4 f0 f1 f2 f3 f4 zx
  go_cut [2] (fun s2 wx => s2 = .bool S1.fst ∧ At4 Z p q t S1.T S1.F false W0 wx)
  case first =>
    cases due with
    | false =>
      go_wp2_with fail
      go_meet
      case rel =>
        have e : S1 = ⟨T, F, first⟩ := HS1.out.symm
        subst e
        exact ⟨rfl, H4.out⟩
    | true =>
      have h4 := H4.out
      have H5 := H4
      obtain ⟨i0, hi0⟩ := innerC F
      obtain ⟨c0, hc0⟩ : ∃ c, (innerF F F.length).2 = c := ⟨_, rfl⟩
      rw [hc0] at hi0
      have HI := Lib.hid hi0
      have HC := Lib.hid hc0
      obtain ⟨k, hk⟩ : ∃ k, openedK t.kind t.text.data.toList = k := ⟨_, rfl⟩
      have hk7 : ¬ k = 7 := fun e => HBR.out ⟨rfl, hk.trans e⟩
      have HK := Lib.hid hk
      clear hi0 hc0 hk
      obtain ⟨vt0, vf0, ⟨x0, x1, x2, x3, x4⟩, ⟨f0, f1, f2, f3, f4⟩, zx⟩ := h4.cells
      obtain ⟨y0, y1, y2, y3, y4, y5, zq⟩ := h4.toks
      clear h4
      go_wp2_with fail
      refine ((H5.out.off false).inner (by omega) HI.out).mono ?_
      rintro e w1 ⟨rfl, h4⟩
      have H6 := Lib.hid h4
      clear x0 x1 x2 x3 x4 f0 f1 f2 f3 f4 zx y0 y1 y2 y3 y4 y5 zq
      obtain ⟨vt1, vf1, ⟨x0, x1, x2, x3, x4⟩, ⟨f0, f1, f2, f3, f4⟩, zx⟩ := h4.cells
      obtain ⟨y0, y1, y2, y3, y4, y5, zq⟩ := h4.toks
      clear h4
      go_wp2_with fail
      refine (H6.out.opened HK.out).mono ?_
      rintro e w2 ⟨rfl, h4⟩
      have H7 := Lib.hid h4
      clear x0 x1 x2 x3 x4 f0 f1 f2 f3 f4 zx y0 y1 y2 y3 y4 y5 zq
      obtain ⟨vt2, vf2, ⟨x0, x1, x2, x3, x4⟩, ⟨f0, f1, f2, f3, f4⟩, zx⟩ := h4.cells
      obtain ⟨y0, y1, y2, y3, y4, y5, zq⟩ := h4.toks
      clear h4
      by_cases hc : c0 < t.col
      · have e : S1 = ⟨T ++ [mkM [123] t.line t.col], F ++ [⟨1, t.col⟩], false⟩ := by rw [← HS1.out]; unfold ph1; rw [if_pos rfl, HC.out, if_pos hc]
        subst e
        go_wp2_with fail
        refine (H7.out.mark ⟨#[123]⟩ (by omega)).mono ?_
        rintro e w3 ⟨rfl, h4⟩
        have H8 := Lib.hid h4
        clear x0 x1 x2 x3 x4 f0 f1 f2 f3 f4 zx y0 y1 y2 y3 y4 y5 zq
        obtain ⟨vt3, vf3, ⟨x0, x1, x2, x3, x4⟩, ⟨f0, f1, f2, f3, f4⟩, zx⟩ := h4.cells
        obtain ⟨y0, y1, y2, y3, y4, y5, zq⟩ := h4.toks
        clear h4
        go_wp2_with fail
        refine (H8.out.put 1 t.col (by omega)).mono ?_
        rintro e w4 ⟨rfl, h4⟩
        have H9 := Lib.hid h4
        clear h4
        go_wp2_with fail
        go_meet
        case rel => exact ⟨rfl, H9.out⟩
      · have e : S1 = ⟨T ++ [mkM [123] t.line t.col] ++ [mkM [125] t.line t.col], F, first⟩ := by rw [← HS1.out]; unfold ph1; rw [if_pos rfl, HC.out, if_neg hc]
        subst e
        go_wp2_with fail
        refine (H7.out.mark ⟨#[123]⟩ (by omega)).mono ?_
        rintro e w3 ⟨rfl, h4⟩
        have H8 := Lib.hid h4
        clear h4
        go_wp2_with fail
        refine (H8.out.mark ⟨#[125]⟩ (by simp; omega)).mono ?_
        rintro e w4 ⟨rfl, h4⟩
        have H9 := Lib.hid h4
        clear h4
        go_wp2_with fail
        go_meet
        case rel => exact ⟨rfl, H9.out⟩
  case rest =>
    clear H4
    obtain ⟨e, h4⟩ := hcut
    subst e
    have H5 := Lib.hid h4
    obtain ⟨vt0, vf0, ⟨x0, x1, x2, x3, x4⟩, ⟨f0, f1, f2, f3, f4⟩, zx⟩ := h4.cells
    obtain ⟨y0, y1, y2, y3, y4, y5, zq⟩ := h4.toks
    clear h4
    go_upto_if 55 with fail
    go_cut [] (fun wx => At4 Z p q t S2.1 S2.2 false W0 wx)
    case first =>
      obtain ⟨T1, F1, fst⟩ := S1
      cases fst with
      | false =>
        go_wp2_with fail
        go_meet
        case rel =>
          have e : S2 = (T1, F1) := HS2.out.symm
          subst e
          exact H5.out
      | true =>
        obtain ⟨R, hR⟩ : ∃ R, lineQ F1 t.col F1.length F1.length = R := ⟨_, rfl⟩
        have HR := Lib.hid hR
        have hlen1 : T1.length + F1.length ≤ 999999990 := Nat.le_trans hn1 (by omega)
        clear hR
        go_wp2_with fail
        refine (H5.out.line hlen1 HR.out).mono ?_
        rintro e w1 ⟨rfl, h4⟩
        have H6 := Lib.hid h4
        clear h4
        go_wp2_with fail
        go_meet
        case rel =>
          have e : S2 = (lineT T1 F1 t.col t.line t.col R, F1.take R) := by rw [← HS2.out, ← HR.out]; rfl
          subst e
          exact H6.out
    case rest =>
      clear H5 x0 x1 x2 x3 x4 f0 f1 f2 f3 f4 zx y0 y1 y2 y3 y4 y5 zq
      have h4 := hcut
      have H5 := Lib.hid h4
      clear hcut
      obtain ⟨vt0, vf0, ⟨x0, x1, x2, x3, x4⟩, ⟨f0, f1, f2, f3, f4⟩, zx⟩ := h4.cells
      obtain ⟨y0, y1, y2, y3, y4, y5, zq⟩ := h4.toks
      clear h4
      go_wp2_with fail
      refine (H5.out.closed HCL.out).mono ?_
      rintro e w1 ⟨rfl, h4⟩
      have H6 := Lib.hid h4
      clear x0 x1 x2 x3 x4 f0 f1 f2 f3 f4 zx y0 y1 y2 y3 y4 y5 zq
      obtain ⟨vt1, vf1, ⟨x0, x1, x2, x3, x4⟩, ⟨f0, f1, f2, f3, f4⟩, zx⟩ := h4.cells
      obtain ⟨y0, y1, y2, y3, y4, y5, zq⟩ := h4.toks
      clear h4
      go_upto_if 64 with fail
      go_cut [] (fun wx => At4 Z p q t S3.1 S3.2 false W0 wx)
      case first =>
        by_cases hc0 : cl = 0
        · subst hc0
          go_wp2_with fail
          go_meet
          case rel =>
            have e : S3 = S2 := by rw [← HS3.out]; unfold ph3; rw [if_pos HCL.out]
            subst e
            exact H6.out
        · obtain ⟨m, hm⟩ : ∃ m, findF S2.2 cl S2.2.length = m := ⟨_, rfl⟩
          have hm2 := findF_le S2.2 cl S2.2.length (Nat.le_refl _)
          rw [hm] at hm2
          obtain ⟨m, rfl⟩ : ∃ k : Nat, m = k := ⟨m.toNat, by omega⟩
          have HM := Lib.hid hm
          obtain ⟨hm0, hm1⟩ := hm2
          clear hm
          go_wp2_with fail
          refine (H6.out.find (by omega) cl HM.out).mono ?_
          rintro e w2 ⟨rfl, h4⟩
          have H7 := Lib.hid h4
          clear h4
          go_wp2_with fail
          refine (H7.out.close m (by omega) (by omega)).mono ?_
          rintro e w3 ⟨rfl, h4⟩
          have H8 := Lib.hid h4
          clear h4
          go_wp2_with fail
          go_meet
          case rel =>
            have e : S3 = (closedT S2.1 S2.2 m t.line t.col, S2.2.take m) := by rw [← HS3.out]; unfold ph3; rw [HCL.out, if_neg hc0, HM.out]; rfl
            subst e
            exact H8.out
      case rest =>
        clear H5 H6 x0 x1 x2 x3 x4 f0 f1 f2 f3 f4 zx y0 y1 y2 y3 y4 y5 zq
        have h4 := hcut
        have H5 := Lib.hid h4
        clear hcut
        obtain ⟨i1, hi, hz0, hz1, hz2'⟩ := info_parts Ttok
        obtain ⟨vt0, vf0, hs⟩ := h4.sheet
        obtain ⟨a, c, rfl⟩ := own_slice hs.toks
        obtain ⟨⟨x0, x1, x2, x3, x4⟩, ⟨f0, f1, f2, f3, f4⟩, zx⟩ := hs.cells
        obtain ⟨y0, y1, y2, y3, y4, y5, zq⟩ := h4.toks
        have HSS := Lib.hid hs
        clear h4 hs
        go_upto_region 18 with fail
        go_cut [] (fun wx => At4 Z p q t (S3.1 ++ [t]) S3.2 false W0 wx)
        case first =>
          go_region_law (refine step_append_lies _ ?_ (.tmp 74) (.tmp 76) 104 ?_ 0 54 i1 _ 6 56 Tryz.underlying104 hi hz0 hz1 hz2' rfl (by decide) (.slice a S3.1.length c) S3.1.length (tmsCells S3.1) ?_ (own_drew (HSS.out.toks.alloc _)) ⟨wc.heap.size, 0, none⟩ 1 1 [.int .i64 t.kind, .string t.text, .int .i64 t.num, .int .i64 t.line, .int .i64 t.col, .bool t.made] ?_ rfl ?_ ?_ (by decide) ?_ ?_ ?_ _ rfl ?_; exact rfl; exact rfl; exact rfl; exact rfl; exact news6 wc _ _ _ _ _ _ _; (intro u hu; simp only [List.mem_cons, List.not_mem_nil, or_false] at hu; rcases hu with rfl | rfl | rfl | rfl | rfl | rfl <;> rfl); (unfold maxLen; omega); omega; (first | (simp; done) | omega); intro g cap w2 hown hgrow hg hlt; have bx := (HSS.out.box.alloc (.cells #[.int .i64 t.kind, .string t.text, .int .i64 t.num, .int .i64 t.line, .int .i64 t.col, .bool t.made] TT)).drew.grown hgrow (own_ne (HSS.out.toks) HSS.out.box (by decide)); have z0 := bx.cell 0; have g0 := bx.free 0; have zy := bx.lt; have HX := Lib.hid bx; have HO := Lib.hid hown; have HG := Lib.hid hgrow; have HW := Lib.hid hg; clear bx hown hgrow hg)
          all_goals
            have hw2 : Value.ownBlock (.slice a S3.1.length c) = some g ∨ wc.heap.size ≤ g := HW.out.imp id (fun e => by rw [e]; simp)
            obtain ⟨q1, q2⟩ := toldEnd (t := t) HSS.out HO.out (drewG HG.out) hw2
            have H7 := Lib.hid (H5.out.next ⟨_, _, q1⟩ q2)
            clear q1 q2 hw2
            go_wp2_with fail
            go_meet
            case rel => exact H7.out
        case rest =>
          clear H5 HSS x0 x1 x2 x3 x4 f0 f1 f2 f3 f4 zx y0 y1 y2 y3 y4 y5 zq
          obtain ⟨ko, hko⟩ : ∃ k, openedK t.kind t.text.data.toList = k := ⟨_, rfl⟩
          have HKO := Lib.hid hko
          obtain ⟨kd, hkd⟩ : ∃ k, dueK t.kind t.text.data.toList = k := ⟨_, rfl⟩
          have HKD := Lib.hid hkd
          clear hko hkd
          have h4 := hcut
          have H5 := Lib.hid h4
          clear hcut
          obtain ⟨vt0, vf0, ⟨x0, x1, x2, x3, x4⟩, ⟨f0, f1, f2, f3, f4⟩, zx⟩ := h4.cells
          obtain ⟨y0, y1, y2, y3, y4, y5, zq⟩ := h4.toks
          clear h4
          go_wp2_with fail
          refine (H5.out.opened HKO.out).mono ?_
          rintro e w1 ⟨rfl, h4⟩
          have H6 := Lib.hid h4
          clear x0 x1 x2 x3 x4 f0 f1 f2 f3 f4 zx y0 y1 y2 y3 y4 y5 zq
          obtain ⟨vt1, vf1, ⟨x0, x1, x2, x3, x4⟩, ⟨f0, f1, f2, f3, f4⟩, zx⟩ := h4.cells
          obtain ⟨y0, y1, y2, y3, y4, y5, zq⟩ := h4.toks
          clear h4
          go_upto_if 83 with fail
          go_cut [] (fun wx => At4 Z p q t (ph4 t S3).1 (ph4 t S3).2 false W0 wx)
          case first =>
            by_cases hc0 : ko = 0
            · subst hc0
              go_wp2_with fail
              go_meet
              case rel =>
                have e : ph4 t S3 = (S3.1 ++ [t], S3.2) := by unfold ph4; rw [if_pos HKO.out]
                rw [e]
                exact H6.out
            · go_wp2_with fail
              refine (H6.out.put ko 0 (by omega)).mono ?_
              rintro e w2 ⟨rfl, h4⟩
              have H7 := Lib.hid h4
              clear h4
              go_wp2_with fail
              go_meet
              case rel =>
                have e : ph4 t S3 = (S3.1 ++ [t], S3.2 ++ [⟨ko, 0⟩]) := by unfold ph4; rw [HKO.out, if_neg hc0]
                rw [e]
                exact H7.out
          case rest =>
            clear H5 H6 x0 x1 x2 x3 x4 f0 f1 f2 f3 f4 zx y0 y1 y2 y3 y4 y5 zq
            have h4 := hcut
            have H5 := Lib.hid h4
            clear hcut
            obtain ⟨vt0, vf0, ⟨x0, x1, x2, x3, x4⟩, ⟨f0, f1, f2, f3, f4⟩, zx⟩ := h4.cells
            obtain ⟨y0, y1, y2, y3, y4, y5, zq⟩ := h4.toks
            clear h4
            go_wp2_with fail
            refine (H5.out.behind HKD.out).mono ?_
            rintro e w1 ⟨rfl, h4⟩
            have H6 := Lib.hid h4
            clear x0 x1 x2 x3 x4 f0 f1 f2 f3 f4 zx y0 y1 y2 y3 y4 y5 zq
            obtain ⟨vt1, vf1, ⟨x0, x1, x2, x3, x4⟩, ⟨f0, f1, f2, f3, f4⟩, zx⟩ := h4.cells
            clear h4
            go_wp2_with fail
            refine bodyPost_end (by simp [results, Tryz.results81, go_sem]; rfl) rfl ?_
            rw [HKD.out]
            have h8 := H6.out.off kd
            rw [← HW0.out, ← HQ.out] at h8
            exact At4.stop HS.out h8
end Go.Proofs.YtdajihpfedbihaaGreat.Ly
