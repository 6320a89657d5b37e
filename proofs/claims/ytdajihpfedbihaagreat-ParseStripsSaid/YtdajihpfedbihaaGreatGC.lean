/-
  WORDS on layer parse: the parser's state in memory; its tokens. CONTRACTS: the next token is looked at.
-/
import Derived.Test.YtdajihpfedbihaaGreatGA
import Derived.Test.YtdajihpfedbihaaGreatGB
import Derived.Test.YtdajihpfedbihaaGreatChecked
import Derived.Handy
import Derived.WalkSpells
import Derived.WalkLawsBesides
import Derived.Outline
import Derived.Deep.QuietTactic
import Derived.BigQuiet
import Derived.Deep.RegionHeld3
import Derived.Deep.RegionWith
import Derived.RegionTactic
import Derived.BigRegion
import Derived.IntWalk
import Derived.Deep.LoopGhost
namespace Go.Proofs.YtdajihpfedbihaaGreat.Pa
open Go.RowKit Mm Tm Pm
set_option linter.unusedVariables false
set_option linter.unusedSimpArgs false
abbrev TPar : TypeId := 106
abbrev TTok : TypeId := 54
abbrev TPos : TypeId := 31
abbrev tokV (t : Tk) : Value := .agg #[.int .i64 t.kind, .string (toB t.text), .int .i64 t.n, .int .i64 t.ln, .int .i64 t.col, .bool t.made]
/-- tokens that are read, in blocks of Z -/
def RdTk (Z : Nat → Prop) (w : World) (a : Option Addr) (l : List Tk) : Prop := ∀ (i : Nat) t, l[i]? = some t → ∃ g o, a = some ⟨g, o, none⟩ ∧ Z g ∧
  w.cell? ⟨g, o + i * 6, none⟩ = some (.int .i64 t.kind) ∧ w.cell? ⟨g, o + i * 6 + 1, none⟩ = some (.string (toB t.text)) ∧ w.cell? ⟨g, o + i * 6 + 2, none⟩ = some (.int .i64 t.n) ∧
  w.cell? ⟨g, o + i * 6 + 3, none⟩ = some (.int .i64 t.ln) ∧ w.cell? ⟨g, o + i * 6 + 4, none⟩ = some (.int .i64 t.col) ∧ w.cell? ⟨g, o + i * 6 + 5, none⟩ = some (.bool t.made) ∧ t.text.length ≤ 9223372036854775807
theorem RdTk.frame {Z Z' : Nat → Prop} {w w' : World} {a : Option Addr} {l : List Tk} (h : RdTk Z w a l) (hc : ∀ b o, Z b → w'.cell? ⟨b, o, none⟩ = w.cell? ⟨b, o, none⟩) (hz : ∀ b, Z b → Z' b) : RdTk Z' w' a l := by
  intro i t ht
  obtain ⟨g, o, h1, h2, h3, h4, h5, h6, h7, h8, h9⟩ := h i t ht
  exact ⟨g, o, h1, hz _ h2, (hc _ _ h2).trans h3, (hc _ _ h2).trans h4, (hc _ _ h2).trans h5, (hc _ _ h2).trans h6, (hc _ _ h2).trans h7, (hc _ _ h2).trans h8, h9⟩
theorem RdTk.tail {Z : Nat → Prop} {w : World} {g o : Nat} {t : Tk} {l : List Tk} (h : RdTk Z w (some ⟨g, o, none⟩) (t :: l)) : RdTk Z w (some ⟨g, o + 6, none⟩) l := by
  intro i u hu
  obtain ⟨g', o', h1, h2, h3, h4, h5, h6, h7, h8, h9⟩ := h (i + 1) u (by simpa using hu)
  injection h1 with h1
  injection h1 with h1 h1'
  subst h1 h1'
  have e : o + (i + 1) * 6 = o + 6 + i * 6 := by omega
  rw [e] at h3 h4 h5 h6 h7 h8
  exact ⟨g, o + 6, rfl, h2, h3, h4, h5, h6, h7, h8, h9⟩
/-- the parser's state lies at block pb; its tokens lie in blocks below N -/
structure PS (N : Nat) (w : World) (pb : Nat) (p : Pp) (fv : Value) : Prop where
  ex : ∃ ra rc, Box w pb TPar #[.slice ra p.rest.length rc, .int .i64 p.last.1, .int .i64 p.last.2, fv, .int .i64 p.err, .int .i64 p.at_.1, .int .i64 p.at_.2] ∧ p.rest.length ≤ rc ∧ RdTk (fun b => b < N ∧ b ≠ pb) w ra p.rest
  lt : pb < N
  size : N ≤ w.heap.size
  len : p.rest.length ≤ 100000000
/-- what is turned: the parser's state alone -/
abbrev KP (pb : Nat) (w w' : World) : Prop := Kept (fun b => b = pb) w w'
theorem PS.frame {N : Nat} {w w' : World} {pb : Nat} {p : Pp} {fv : Value} {X : Nat → Prop} (h : PS N w pb p fv) (hk : Kept X w w') (hX : ∀ b, X b → N ≤ b) : PS N w' pb p fv := by
  obtain ⟨⟨ra, rc, h1, h2, h3⟩, h4, h5, h6⟩ := h
  have hn : ∀ b, b < N → ¬ X b := fun b hb q => by have := hX b q; omega
  exact ⟨⟨ra, rc, hk.box h1 (hn _ h4), h2, h3.frame (fun b o hz => World.cell?_of_block (hk.block b (by omega) (hn b hz.1))) fun b hz => hz⟩, h4, Nat.le_trans h5 hk.size, h6⟩
theorem PS.below {N : Nat} {w w' : World} {pb : Nat} {p : Pp} {fv : Value} (h : PS N w pb p fv) (hb : Below w.heap.size w w') : PS N w' pb p fv := h.frame (X := fun _ => False) (Kept.of_below hb (Nat.le_refl _) _) fun b q => q.elim
theorem KP.here {pb : Nat} {w w' w'' : World} (h : KP pb w w') (hb : Below w'.heap.size w' w'') : KP pb w w'' := h.trans (Kept.of_below hb (Nat.le_refl _) _)
/-- the six cells of a token's box -/
theorem cells6 {w : World} {g : Nat} {t : TypeId} {a0 a1 a2 a3 a4 a5 : Value} (h : Box w g t #[a0, a1, a2, a3, a4, a5]) : w.cell? ⟨g, 0, none⟩ = some a0 ∧ w.cell? ⟨g, 1, none⟩ = some a1 ∧ w.cell? ⟨g, 2, none⟩ = some a2 ∧ w.cell? ⟨g, 3, none⟩ = some a3 ∧ w.cell? ⟨g, 4, none⟩ = some a4 ∧ w.cell? ⟨g, 5, none⟩ = some a5 :=
  ⟨h.cell 0, h.cell 1, h.cell 2, h.cell 3, h.cell 4, h.cell 5⟩
theorem free6 {w : World} {g : Nat} {t : TypeId} {a0 a1 a2 a3 a4 a5 : Value} (h : Box w g t #[a0, a1, a2, a3, a4, a5]) : w.frozen? ⟨g, 0, none⟩ = false ∧ w.frozen? ⟨g, 1, none⟩ = false ∧ w.frozen? ⟨g, 2, none⟩ = false ∧ w.frozen? ⟨g, 3, none⟩ = false ∧ w.frozen? ⟨g, 4, none⟩ = false ∧ w.frozen? ⟨g, 5, none⟩ = false :=
  ⟨h.free 0, h.free 1, h.free 2, h.free 3, h.free 4, h.free 5⟩
theorem write6 {w : World} {g : Nat} {t : TypeId} {a0 a1 a2 a3 a4 a5 : Value} (h : Box w g t #[a0, a1, a2, a3, a4, a5]) (v0 v1 v2 v3 v4 v5 : Value) : ∃ W, ((((((w.setCell ⟨g, 0, none⟩ v0).setCell ⟨g, 1, none⟩ v1).setCell ⟨g, 2, none⟩ v2).setCell ⟨g, 3, none⟩ v3).setCell ⟨g, 4, none⟩ v4).setCell ⟨g, 5, none⟩ v5) = W ∧ Box W g t #[v0, v1, v2, v3, v4, v5] ∧ Wrote w W g :=
  ⟨_, rfl, (((((h.put 0 v0).put 1 v1).put 2 v2).put 3 v3).put 4 v4).put 5 v5, ((((((Wrote.refl w g).set 0 v0).set 1 v1).set 2 v2).set 3 v3).set 4 v4).set 5 v5⟩
theorem kept_wrote {X : Nat → Prop} {w w' W : World} {g : Nat} (h : Kept X w w') (hw : Wrote w' W g) (hg : g < w.heap.size → X g) : Kept X w W := by
  have hb := hw.below (Below.refl 0 w') (Nat.zero_le _)
  exact ⟨hb.os.trans h.os, hb.tape.trans h.tape, hb.output.trans h.output, by rw [hw.size]; exact h.size, fun k hk hx => (hw.block k (fun e => hx (by subst e; exact hg hk))).trans (h.block k hk hx)⟩
def NextPost (p : Pp) (w : World) (e : Ending) (w' : World) : Prop := e = .returned (tokV p.next) ∧ Below w.heap.size w w'
set_option maxRecDepth 100000 in
set_option maxHeartbeats 4000000 in
theorem next_any {N pb : Nat} {p : Pp} {fv : Value} (w : World) (h : PS N w pb p fv) : Calls Tryz.prog 63 #[.pointer (some ⟨pb, 0, none⟩)] w (NextPost p w) := by
  obtain ⟨⟨ra, rc, h1, h2, h3⟩, h4, h5, h6⟩ := h
  have hlt := h1.lt
  have x0 := h1.cell 0
  obtain ⟨n, hn⟩ : ∃ n, p.rest.length = n := ⟨_, rfl⟩
  cases hr : p.rest with
  | nil =>
    have e0 : n = 0 := by rw [← hn, hr]; rfl
    rw [hn, e0] at x0
    have HN := Lib.hid (show p.next = noTk by unfold Pp.next; rw [hr]; rfl)
    have HB := Lib.hid ((Below.refl w.heap.size w).alloc (Nat.le_refl _) (.cells #[.int .i64 0, .string ByteArray.empty, .int .i64 0, .int .i64 0, .int .i64 0, .bool false] TTok))
    have HX := Lib.hid (Box.new w #[.int .i64 0, .string ByteArray.empty, .int .i64 0, .int .i64 0, .int .i64 0, .bool false] TTok)
    clear h1 h2 h3 h4 h5 h6 hn hr
    go_enter Tryz.func63, Tryz.ntmps63
    go_wp2_with fail
    obtain ⟨z0, z1, z2, z3, z4, z5⟩ := cells6 HX.out
    refine bodyPost_ret (v := tokV noTk) (by simp [results, Tryz.results63, go_sem, z0, z1, z2, z3, z4, z5, noTk, toB]) rfl ?_
    exact ⟨by rw [HN.out], HB.out⟩
  | cons t r =>
    have e0 : n = r.length + 1 := by rw [← hn, hr]; rfl
    obtain ⟨g, o, rfl, hz, k0, k1, k2, k3, k4, k5, _⟩ := h3 0 t (by rw [hr]; rfl)
    have hg : g < w.heap.size := Nat.lt_of_lt_of_le hz.1 h5
    rw [hn] at x0
    have q1 : ((n : Int) == 0) = false := by simpa using (show ¬ (n : Int) = 0 by omega)
    have q2 : (0 : Int) < n := by omega
    have HN := Lib.hid (show p.next = t by unfold Pp.next; rw [hr]; rfl)
    have HB := Lib.hid ((Below.refl w.heap.size w).alloc (Nat.le_refl _) (.cells #[.int .i64 t.kind, .string (toB t.text), .int .i64 t.n, .int .i64 t.ln, .int .i64 t.col, .bool t.made] TTok))
    have HX := Lib.hid (Box.new w #[.int .i64 t.kind, .string (toB t.text), .int .i64 t.n, .int .i64 t.ln, .int .i64 t.col, .bool t.made] TTok)
    simp only [Nat.zero_mul, Nat.add_zero] at k0 k1 k2 k3 k4 k5
    clear h1 h2 h3 h4 h5 h6 hn hr e0 hz
    go_enter Tryz.func63, Tryz.ntmps63
    go_wp2_with fail
    obtain ⟨z0, z1, z2, z3, z4, z5⟩ := cells6 HX.out
    refine bodyPost_ret (v := tokV t) (by simp [results, Tryz.results63, go_sem, z0, z1, z2, z3, z4, z5]) rfl ?_
    exact ⟨by rw [HN.out], HB.out⟩
end Go.Proofs.YtdajihpfedbihaaGreat.Pa
/-
  CONTRACTS of layer parse: a token is taken; a fault is told.
-/
namespace Go.Proofs.YtdajihpfedbihaaGreat.Pa
open Go.RowKit Mm Tm Pm
set_option linter.unusedVariables false
set_option linter.unusedSimpArgs false
abbrev zTok : Obj := .cells #[.int .i64 0, .string ByteArray.empty, .int .i64 0, .int .i64 0, .int .i64 0, .bool false] TTok
abbrev oTok (t : Tk) : Obj := .cells #[.int .i64 t.kind, .string (toB t.text), .int .i64 t.n, .int .i64 t.ln, .int .i64 t.col, .bool t.made] TTok
def TakePost (N pb : Nat) (fv : Value) (r : Tk × Pp) (w : World) (e : Ending) (w' : World) : Prop := e = .returned (tokV r.1) ∧ PS N w' pb r.2 fv ∧ KP pb w w'
set_option maxRecDepth 100000 in
set_option maxHeartbeats 4000000 in
theorem take_any {N pb : Nat} {p : Pp} {fv : Value} (w : World) (h : PS N w pb p fv) : Calls Tryz.prog 84 #[.pointer (some ⟨pb, 0, none⟩)] w (TakePost N pb fv p.take w) := by
  have HP := Lib.hid h
  have HB0 := Lib.hid ((Below.refl w.heap.size w).alloc (Nat.le_refl _) zTok)
  have HX0 := Lib.hid (Box.new w #[.int .i64 0, .string ByteArray.empty, .int .i64 0, .int .i64 0, .int .i64 0, .bool false] TTok)
  have HN := Lib.hid (next_any (w.alloc zTok) (h.below HB0.out))
  obtain ⟨n, hn⟩ : ∃ n, p.rest.length = n := ⟨_, rfl⟩
  cases hr : p.rest with
  | nil =>
    have HE := Lib.hid (show p.take = (noTk, p) by unfold Pp.take; rw [hr])
    have HNX := Lib.hid (show p.next = noTk by unfold Pp.next; rw [hr]; rfl)
    have HR := Lib.hid hr
    clear h hn hr
    go_enter Tryz.func84, Tryz.ntmps84
    go_wp2_with fail
    refine HN.out.mono ?_
    rintro e w1 ⟨rfl, hb1⟩
    have hP1 := HP.out.below (HB0.out.trans (hb1.mono (by simp)))
    obtain ⟨⟨ra, rc, g1, g2, g3⟩, g4, g5, g6⟩ := hP1
    have x0 := g1.cell 0
    rw [HR.out] at x0
    have hl1 := g1.lt
    have hX1 := (HX0.out.below hb1 (by simp)).alloc (oTok p.next)
    obtain ⟨z0, z1, z2, z3, z4, z5⟩ := cells6 hX1
    obtain ⟨y0, y1, y2, y3, y4, y5⟩ := free6 hX1
    obtain ⟨W, hW, hbx, hwr⟩ := write6 hX1 (.int .i64 p.next.kind) (.string (toB p.next.text)) (.int .i64 p.next.n) (.int .i64 p.next.ln) (.int .i64 p.next.col) (.bool p.next.made)
    have HB1 := Lib.hid (hwr.below ((HB0.out.trans (hb1.mono (by simp))).alloc (by have := hb1.size; simp at this; omega) (oTok p.next)) (Nat.le_refl _))
    have HX := Lib.hid hbx
    clear g1 g2 g3 g4 g5 g6 hb1 hX1 hbx hwr
    go_wp2_with fail
    obtain ⟨z0, z1, z2, z3, z4, z5⟩ := cells6 HX.out
    refine bodyPost_ret (v := tokV p.next) (by simp [results, Tryz.results84, go_sem, z0, z1, z2, z3, z4, z5]) rfl ?_
    rw [HE.out]
    exact ⟨by rw [HNX.out], HP.out.below HB1.out, Kept.of_below HB1.out (Nat.le_refl _) _⟩
  | cons t r =>
    have HE := Lib.hid (show p.take = (t, { p with rest := r, last := (t.ln, t.col) }) by unfold Pp.take; rw [hr])
    have HNX := Lib.hid (show p.next = t by unfold Pp.next; rw [hr]; rfl)
    have HR := Lib.hid hr
    clear h hn hr
    go_enter Tryz.func84, Tryz.ntmps84
    go_wp2_with fail
    refine HN.out.mono ?_
    rintro e w1 ⟨rfl, hb1⟩
    rw [HNX.out]
    have hsz1 := hb1.size
    rw [World.size_alloc] at hsz1
    have hB1 := (HB0.out.trans (hb1.mono (by simp))).alloc (by omega) (oTok t)
    have hP1 := HP.out.below hB1
    obtain ⟨⟨ra, rc, g1, g2, g3⟩, g4, g5, g6⟩ := hP1
    obtain ⟨g, o, rfl, hz, _⟩ := g3 0 t (by rw [HR.out]; rfl)
    rw [HR.out] at g1 g2 g3
    have hX1 := (HX0.out.below hb1 (by simp)).alloc (oTok t)
    have hXt : Box (w1.alloc (oTok t)) w1.heap.size TTok #[.int .i64 t.kind, .string (toB t.text), .int .i64 t.n, .int .i64 t.ln, .int .i64 t.col, .bool t.made] := Box.new w1 _ _
    obtain ⟨x0, x1, x2, x3, x4, x5, x6⟩ := g1.cells7
    obtain ⟨f0, f1, f2, f3, f4, f5, f6⟩ := g1.free7
    obtain ⟨u0, u1, u2, u3, u4, u5⟩ := cells6 hXt
    have q1 : (0 : Int) < ((t :: r).length : Int) := by rw [List.length_cons]; omega
    have q2 : decide ((0 : Int) < ((t :: r).length : Int)) = true := decide_eq_true q1
    have q3 : (0 : Int) < (r.length : Int) + 1 := by omega
    have hlr : r.length + 1 ≤ rc := g2
    have HB1 := Lib.hid hB1
    have HG3 := Lib.hid g3
    have HLN := Lib.hid g6
    have HXr := Lib.hid hX1
    have HXp := Lib.hid g1
    have HXt := Lib.hid hXt
    have HZ := Lib.hid (show (w1.alloc (oTok t)).heap.size = w1.heap.size + 1 by simp)
    have HZw := Lib.hid (show w.heap.size + 1 ≤ w1.heap.size from hsz1)
    have hnp : w1.heap.size ≠ pb := by have := HP.out.size; have := HP.out.lt; omega
    have hnr : w.heap.size ≠ pb := by have := HP.out.size; have := HP.out.lt; omega
    have hnt : w1.heap.size ≠ w.heap.size := by omega
    clear g1 g2 g3 g5 g6 hb1 hB1 hX1 hXt hz
    rcases (show rc = 1 ∨ ∃ k, rc = k + 2 from (Nat.lt_or_ge rc 2).elim (fun q => .inl (by omega)) fun q => .inr ⟨rc - 2, by omega⟩) with rfl | ⟨k, rfl⟩
    · have hr0 : r = [] := by cases r with | nil => rfl | cons _ _ => simp at hlr
      subst hr0
      obtain ⟨W, hW, hwb, hww⟩ : ∃ W, (((w1.alloc (oTok t)).setCell ⟨pb, 1, none⟩ (.int .i64 t.ln)).setCell ⟨pb, 2, none⟩ (.int .i64 t.col)).setCell ⟨pb, 0, none⟩ (.slice (some ⟨g, o, none⟩) 0 0) = W ∧ Box W pb TPar #[.slice (some ⟨g, o, none⟩) 0 0, .int .i64 t.ln, .int .i64 t.col, fv, .int .i64 p.err, .int .i64 p.at_.1, .int .i64 p.at_.2] ∧ Wrote (w1.alloc (oTok t)) W pb :=
        ⟨_, rfl, ((HXp.out.put 1 _).put 2 _).put 0 _, (((Wrote.refl _ pb).set 1 _).set 2 _).set 0 _⟩
      have HWB := Lib.hid hwb
      have HWW := Lib.hid hww
      have hXt2 := HXt.out.wrote hww hnp
      have hXr2 := HXr.out.wrote hww hnr
      obtain ⟨t0, t1, t2, t3, t4, t5⟩ := cells6 hXt2
      obtain ⟨z0, z1, z2, z3, z4, z5⟩ := cells6 hXr2
      obtain ⟨y0, y1, y2, y3, y4, y5⟩ := free6 hXr2
      obtain ⟨V, hV, hvb, hvw⟩ := write6 hXr2 (.int .i64 t.kind) (.string (toB t.text)) (.int .i64 t.n) (.int .i64 t.ln) (.int .i64 t.col) (.bool t.made)
      have HVB := Lib.hid hvb
      have HVW := Lib.hid hvw
      clear hwb hww hXt2 hXr2 hvb hvw hlr
      go_wp2_with fail
      go_region
      go_wp2_with fail
      obtain ⟨v0, v1, v2, v3, v4, v5⟩ := cells6 HVB.out.drew
      refine bodyPost_ret (v := tokV t) (by simp [results, Tryz.results84, go_sem, v0, v1, v2, v3, v4, v5]) rfl ?_
      rw [HE.out]
      have hk : KP pb w V.drew := (kept_wrote (kept_wrote (Kept.of_below HB1.out (Nat.le_refl _) (fun b => b = pb)) HWW.out (fun _ => rfl)) HVW.out (fun q => absurd q (Nat.lt_irrefl _))).drew
      exact ⟨rfl, ⟨⟨some ⟨g, o, none⟩, 0, (HWB.out.wrote HVW.out (Ne.symm hnr)).drew, Nat.le_refl _, fun i u hu => by simp at hu⟩, HP.out.lt, Nat.le_trans HP.out.size hk.size, Nat.zero_le _⟩, hk⟩
    · have q4 : (k + 2 : Nat) ≠ 1 := by omega
      obtain ⟨W, hW, hwb, hww⟩ : ∃ W, (((w1.alloc (oTok t)).setCell ⟨pb, 1, none⟩ (.int .i64 t.ln)).setCell ⟨pb, 2, none⟩ (.int .i64 t.col)).setCell ⟨pb, 0, none⟩ (.slice (some ⟨g, o + 6, none⟩) r.length (k + 1)) = W ∧ Box W pb TPar #[.slice (some ⟨g, o + 6, none⟩) r.length (k + 1), .int .i64 t.ln, .int .i64 t.col, fv, .int .i64 p.err, .int .i64 p.at_.1, .int .i64 p.at_.2] ∧ Wrote (w1.alloc (oTok t)) W pb :=
        ⟨_, rfl, ((HXp.out.put 1 _).put 2 _).put 0 _, (((Wrote.refl _ pb).set 1 _).set 2 _).set 0 _⟩
      have HWB := Lib.hid hwb
      have HWW := Lib.hid hww
      have hXt2 := HXt.out.wrote hww hnp
      have hXr2 := HXr.out.wrote hww hnr
      obtain ⟨t0, t1, t2, t3, t4, t5⟩ := cells6 hXt2
      obtain ⟨z0, z1, z2, z3, z4, z5⟩ := cells6 hXr2
      obtain ⟨y0, y1, y2, y3, y4, y5⟩ := free6 hXr2
      obtain ⟨V, hV, hvb, hvw⟩ := write6 hXr2 (.int .i64 t.kind) (.string (toB t.text)) (.int .i64 t.n) (.int .i64 t.ln) (.int .i64 t.col) (.bool t.made)
      have HVB := Lib.hid hvb
      have HVW := Lib.hid hvw
      clear hwb hww hXt2 hXr2 hvb hvw
      go_wp2_with fail
      go_region
      go_wp2_with fail
      obtain ⟨v0, v1, v2, v3, v4, v5⟩ := cells6 HVB.out.drew
      refine bodyPost_ret (v := tokV t) (by simp [results, Tryz.results84, go_sem, v0, v1, v2, v3, v4, v5]) rfl ?_
      rw [HE.out]
      have hk2 : Kept (fun b => b = pb ∨ b = w.heap.size) (w1.alloc (oTok t)) V.drew := (kept_wrote (kept_wrote (Kept.refl _ _) HWW.out (fun _ => .inl rfl)) HVW.out (fun _ => .inr rfl)).drew
      have hk : KP pb w V.drew := (kept_wrote (kept_wrote (Kept.of_below HB1.out (Nat.le_refl _) (fun b => b = pb)) HWW.out (fun _ => rfl)) HVW.out (fun q => absurd q (Nat.lt_irrefl _))).drew
      exact ⟨rfl, ⟨⟨some ⟨g, o + 6, none⟩, k + 1, (HWB.out.wrote HVW.out (Ne.symm hnr)).drew, by show r.length ≤ k + 1; omega, HG3.out.tail.frame (fun b o hz => World.cell?_of_block (hk2.block b (by rw [HZ.out]; have := hz.1; have := HP.out.size; have := HZw.out; omega) (fun q => q.elim hz.2 (fun e => by have := hz.1; have := HP.out.size; omega)))) fun b hz => hz⟩, HP.out.lt, Nat.le_trans HP.out.size hk.size, by have := HLN.out; rw [HR.out] at this; exact Nat.le_trans (Nat.le_succ _) this⟩, hk⟩

end Go.Proofs.YtdajihpfedbihaaGreat.Pa
/-
  CONTRACTS of layer parse: whether a token is one of some marks, of some words.
-/
namespace Go.Proofs.YtdajihpfedbihaaGreat.Pa
open Go.RowKit Mm Tm Pm
set_option linter.unusedVariables false
set_option linter.unusedSimpArgs false
/-- texts that are read, in blocks of Z -/
def RdB (Z : Nat → Prop) (w : World) (a : Option Addr) (l : List (List UInt8)) : Prop := ∀ (i : Nat) s, l[i]? = some s → ∃ g o, a = some ⟨g, o, none⟩ ∧ Z g ∧ w.cell? ⟨g, o + i, none⟩ = some (.string (toB s))
theorem RdB.frame {Z Z' : Nat → Prop} {w w' : World} {a : Option Addr} {l : List (List UInt8)} (h : RdB Z w a l) (hc : ∀ b o, Z b → w'.cell? ⟨b, o, none⟩ = w.cell? ⟨b, o, none⟩) (hz : ∀ b, Z b → Z' b) : RdB Z' w' a l := by
  intro i t ht
  obtain ⟨g, o, h1, h2, h3⟩ := h i t ht
  exact ⟨g, o, h1, hz _ h2, (hc _ _ h2).trans h3⟩
theorem RdB.below {w w' : World} {a : Option Addr} {l : List (List UInt8)} (h : RdB (· < w.heap.size) w a l) (hb : Below w.heap.size w w') : RdB (· < w.heap.size) w' a l := h.frame (fun b o hz => hb.cell (p := ⟨b, o, none⟩) hz) fun b hz => hz
theorem toB_toList (s : List UInt8) : (toB s).toList = s := by rw [ByteArray.toList_eq]; rfl
def IdxPost (l : List (List UInt8)) (s : List UInt8) (w : World) (e : Ending) (w' : World) : Prop := ∃ r : Int, e = .returned (.int .i64 r) ∧ decide (0 ≤ r) = decide (s ∈ l) ∧ Below w.heap.size w w'
def BoolPost (b : Bool) (w : World) (e : Ending) (w' : World) : Prop := e = .returned (.bool b) ∧ Below w.heap.size w w'
set_option maxRecDepth 100000 in
set_option maxHeartbeats 4000000 in
theorem index_any {a : Option Addr} {c : Nat} {l : List (List UInt8)} (s : List UInt8) (w : World) (h : RdB (· < w.heap.size) w a l) (hl : l.length ≤ 1000000) :
    Calls Tryz.prog 113 #[.slice a l.length c, .string (toB s)] w (IdxPost l s w) := by
  have HR := Lib.hid h
  have HL := Lib.hid hl
  clear h hl
  go_enter Tryz.func113, Tryz.ntmps113
  go_wp2_with fail
  go_loopg [8] l.length (fun d v wr => ∃ k : Nat, k + d = l.length ∧ v = .int .i64 k ∧ s ∉ l.take k ∧ Below w.heap.size w wr)
  case atStart => exact ⟨0, by omega, rfl, by simp, Below.refl _ _⟩
  case round =>
    obtain ⟨k, hk, rfl, hs, hb⟩ := hrel
    have HK := Lib.hid hk
    have HS := Lib.hid hs
    have HB := Lib.hid hb
    have hkle : k ≤ l.length := by omega
    have hll := HL.out
    clear hk hs hb
    by_cases hlt : k < l.length
    · have hlt' : (k : Int) < l.length := by omega
      have HT := Lib.hid (show l.take (k + 1) = l.take k ++ [l[k]] by rw [List.take_add_one, List.getElem?_eq_getElem hlt]; rfl)
      obtain ⟨g, o, rfl, hz, x0⟩ := HR.out.below (HB.out) k l[k] (List.getElem?_eq_getElem hlt)
      have HM := Lib.hid (List.getElem_mem hlt)
      generalize l[k] = u at x0 HT HM
      by_cases he : s = u
      · have q : ((toB s).toList == (toB u).toList) = true := by rw [toB_toList, toB_toList, he]; simp
        have HE := Lib.hid he
        clear he
        go_wp2_with fail
        go_ret
        exact ⟨k, rfl, by rw [decide_eq_true (show s ∈ l by rw [HE.out]; exact HM.out)]; simp, HB.out⟩
      · have q : ((toB s).toList == (toB u).toList) = false := by rw [toB_toList, toB_toList]; simpa using he
        have HE := Lib.hid he
        clear he
        go_wp2_with fail
        go_roundg (l.length - (k + 1))
        case measure => have := HK.out; omega
        case rel => exact ⟨k + 1, by have := HK.out; omega, by go_num, by rw [HT.out]; simp [HS.out, HE.out], HB.out⟩
    · have hge : ¬ (k : Int) < l.length := by omega
      have HN := Lib.hid (show s ∉ l by have := HS.out; rwa [show k = l.length by omega, List.take_length] at this)
      go_wp2_with fail
      go_ret
      exact ⟨-1, rfl, by rw [decide_eq_false HN.out]; simp, HB.out⟩
theorem contains_any {a : Option Addr} {c : Nat} {l : List (List UInt8)} (s : List UInt8) (w : World) (h : RdB (· < w.heap.size) w a l) (hl : l.length ≤ 1000000) :
    Calls Tryz.prog 86 #[.slice a l.length c, .string (toB s)] w (BoolPost (decide (s ∈ l)) w) := by
  have HI := Lib.hid (index_any (c := c) s w h hl)
  clear h hl
  go_enter Tryz.func86, Tryz.ntmps86
  go_wp2_with fail
  refine HI.out.mono ?_
  rintro e w1 ⟨r, rfl, hr, hb⟩
  have HB := Lib.hid hb
  clear hb
  go_wp2_with fail
  go_ret
  exact ⟨by rw [← hr]; rfl, HB.out⟩
/-- a token of a kind whose text is one of some -/
def isOne (kd : Int) (t : Tk) (l : List (List UInt8)) : Bool := decide (t.kind = kd) && decide (t.text ∈ l)
set_option maxRecDepth 100000 in
set_option maxHeartbeats 4000000 in
theorem ismark_any {a : Option Addr} {c : Nat} {l : List (List UInt8)} (t : Tk) (w : World) (h : RdB (· < w.heap.size) w a l) (hl : l.length ≤ 1000000) :
    Calls Tryz.prog 83 #[tokV t, .slice a l.length c] w (BoolPost (isOne 5 t l) w) := by
  have HB0 := Lib.hid ((Below.refl w.heap.size w).alloc (Nat.le_refl _) (.cells #[.int .i64 t.kind, .string (toB t.text), .int .i64 t.n, .int .i64 t.ln, .int .i64 t.col, .bool t.made] TTok))
  have HC := Lib.hid (contains_any (c := c) t.text (w.alloc (.cells #[.int .i64 t.kind, .string (toB t.text), .int .i64 t.n, .int .i64 t.ln, .int .i64 t.col, .bool t.made] TTok)) ((h.below HB0.out).frame (fun _ _ _ => rfl) fun b hz => by rw [World.size_alloc]; omega) hl)
  clear h hl
  by_cases hk : t.kind = 5
  · have q : (t.kind == 5) = true := by simpa using hk
    have HQ := Lib.hid (show decide (t.kind = 5) = true from decide_eq_true hk)
    clear hk
    go_enter Tryz.func83, Tryz.ntmps83
    go_wp2_with fail
    refine HC.out.mono ?_
    rintro e w1 ⟨rfl, hb⟩
    have HB := Lib.hid hb
    clear hb
    go_wp2_with fail
    go_ret
    exact ⟨by unfold isOne; rw [HQ.out, Bool.true_and]; rfl, HB0.out.trans (HB.out.mono (by simp))⟩
  · have q : (t.kind == 5) = false := by simpa using hk
    have HQ := Lib.hid (show decide (t.kind = 5) = false from decide_eq_false hk)
    clear hk
    go_enter Tryz.func83, Tryz.ntmps83
    go_wp2_with fail
    go_ret
    exact ⟨by unfold isOne; rw [HQ.out]; rfl, HB0.out⟩
set_option maxRecDepth 100000 in
set_option maxHeartbeats 4000000 in
theorem isword_any {a : Option Addr} {c : Nat} {l : List (List UInt8)} (t : Tk) (w : World) (h : RdB (· < w.heap.size) w a l) (hl : l.length ≤ 1000000) :
    Calls Tryz.prog 64 #[tokV t, .slice a l.length c] w (BoolPost (isOne 6 t l) w) := by
  have HB0 := Lib.hid ((Below.refl w.heap.size w).alloc (Nat.le_refl _) (.cells #[.int .i64 t.kind, .string (toB t.text), .int .i64 t.n, .int .i64 t.ln, .int .i64 t.col, .bool t.made] TTok))
  have HC := Lib.hid (contains_any (c := c) t.text (w.alloc (.cells #[.int .i64 t.kind, .string (toB t.text), .int .i64 t.n, .int .i64 t.ln, .int .i64 t.col, .bool t.made] TTok)) ((h.below HB0.out).frame (fun _ _ _ => rfl) fun b hz => by rw [World.size_alloc]; omega) hl)
  clear h hl
  by_cases hk : t.kind = 6
  · have q : (t.kind == 6) = true := by simpa using hk
    have HQ := Lib.hid (show decide (t.kind = 6) = true from decide_eq_true hk)
    clear hk
    go_enter Tryz.func64, Tryz.ntmps64
    go_wp2_with fail
    refine HC.out.mono ?_
    rintro e w1 ⟨rfl, hb⟩
    have HB := Lib.hid hb
    clear hb
    go_wp2_with fail
    go_ret
    exact ⟨by unfold isOne; rw [HQ.out, Bool.true_and]; rfl, HB0.out.trans (HB.out.mono (by simp))⟩
  · have q : (t.kind == 6) = false := by simpa using hk
    have HQ := Lib.hid (show decide (t.kind = 6) = false from decide_eq_false hk)
    clear hk
    go_enter Tryz.func64, Tryz.ntmps64
    go_wp2_with fail
    go_ret
    exact ⟨by unfold isOne; rw [HQ.out]; rfl, HB0.out⟩
end Go.Proofs.YtdajihpfedbihaaGreat.Pa
/-
  CONTRACT of layer parse: a fault is told.
-/
namespace Go.Proofs.YtdajihpfedbihaaGreat.Pa
open Go.RowKit Mm Tm Pm
set_option linter.unusedVariables false
set_option linter.unusedSimpArgs false
def VoidPost (N pb : Nat) (fv : Value) (p : Pp) (w : World) (e : Ending) (w' : World) : Prop := e = .returned (.tuple #[]) ∧ PS N w' pb p fv ∧ KP pb w w'
abbrev oPos (a b : Int) : Obj := .cells #[.int .i64 a, .int .i64 b] TPos
set_option maxRecDepth 100000 in
set_option maxHeartbeats 4000000 in
theorem fail_any {N pb : Nat} {p : Pp} {fv : Value} (x : Int) (w : World) (h : PS N w pb p fv) : Calls Tryz.prog 59 #[.pointer (some ⟨pb, 0, none⟩), .int .i64 x] w (VoidPost N pb fv (p.fail x) w) := by
  have HP := Lib.hid h
  obtain ⟨⟨ra, rc, g1, g2, g3⟩, g4, g5, g6⟩ := h
  have hlt := g1.lt
  by_cases hE : p.err = 0
  · have q0 : (p.err != 0) = false := by simpa using hE
    have HW0 := Lib.hid (Box.new w #[.int .i64 p.last.1, .int .i64 p.last.2] TPos)
    have HB0 := Lib.hid ((Below.refl w.heap.size w).alloc (Nat.le_refl _) (oPos p.last.1 p.last.2))
    have hX1 := g1.alloc (oPos p.last.1 p.last.2)
    have HX1 := Lib.hid hX1
    have hne : w.heap.size ≠ pb := by omega
    have HNE := Lib.hid hne
    cases hr : p.rest with
    | nil =>
      rw [hr] at g1
      obtain ⟨x0, x1, x2, x3, x4, x5, x6⟩ := g1.cells7
      obtain ⟨f0, f1, f2, f3, f4, f5, f6⟩ := g1.free7
      have HE := Lib.hid (show p.fail x = { p with rest := [], err := x, at_ := p.last } by unfold Pp.fail; rw [if_neg (by simpa using hE), hr])
      obtain ⟨W, hW, hwb, hww⟩ : ∃ W, (((w.setCell ⟨pb, 4, none⟩ (.int .i64 x)).setCell ⟨pb, 5, none⟩ (.int .i64 p.last.1)).setCell ⟨pb, 6, none⟩ (.int .i64 p.last.2)).setCell ⟨pb, 0, none⟩ (.slice none 0 0) = W ∧ Box W pb TPar #[.slice none 0 0, .int .i64 p.last.1, .int .i64 p.last.2, fv, .int .i64 x, .int .i64 p.last.1, .int .i64 p.last.2] ∧ Wrote w W pb :=
        ⟨_, rfl, (((g1.put 4 _).put 5 _).put 6 _).put 0 _, ((((Wrote.refl _ pb).set 4 _).set 5 _).set 6 _).set 0 _⟩
      have HWB := Lib.hid hwb
      have HWW := Lib.hid hww
      clear hwb hww hX1 g1 g2 g3 g4 g5 g6 hE hr
      go_enter Tryz.func59, Tryz.ntmps59
      go_wp2_with fail
      refine bodyPost_ret (v := .tuple #[]) (by simp [results, Tryz.results59, go_sem]) rfl ?_
      rw [HE.out]
      have hk : KP pb w (W.alloc (oPos p.last.1 p.last.2)) := (kept_wrote (Kept.refl (fun b => b = pb) w) HWW.out (fun _ => rfl)).alloc _
      exact ⟨rfl, ⟨⟨none, 0, HWB.out.alloc _, Nat.le_refl _, fun i u hu => by simp at hu⟩, HP.out.lt, Nat.le_trans HP.out.size hk.size, Nat.zero_le _⟩, hk⟩
    | cons t r =>
      obtain ⟨g, o, rfl, hz, k0, k1, k2, k3, k4, k5, _⟩ := g3 0 t (by rw [hr]; rfl)
      have hg : g < w.heap.size := Nat.lt_of_lt_of_le hz.1 g5
      rw [hr] at g1
      obtain ⟨x0, x1, x2, x3, x4, x5, x6⟩ := g1.cells7
      obtain ⟨f0, f1, f2, f3, f4, f5, f6⟩ := g1.free7
      simp only [Nat.zero_mul, Nat.add_zero] at k0 k1 k2 k3 k4 k5
      have HE := Lib.hid (show p.fail x = { p with rest := [], err := x, at_ := (t.ln, t.col) } by unfold Pp.fail; rw [if_neg (by simpa using hE), hr])
      have q1 : (0 : Int) < ((t :: r).length : Int) := by rw [List.length_cons]; omega
      have q3 : (0 : Int) < (r.length : Int) + 1 := by omega
      obtain ⟨W, hW, hwb, hww⟩ : ∃ W, (((w.setCell ⟨pb, 4, none⟩ (.int .i64 x)).setCell ⟨pb, 5, none⟩ (.int .i64 t.ln)).setCell ⟨pb, 6, none⟩ (.int .i64 t.col)).setCell ⟨pb, 0, none⟩ (.slice none 0 0) = W ∧ Box W pb TPar #[.slice none 0 0, .int .i64 p.last.1, .int .i64 p.last.2, fv, .int .i64 x, .int .i64 t.ln, .int .i64 t.col] ∧ Wrote w W pb :=
        ⟨_, rfl, (((g1.put 4 _).put 5 _).put 6 _).put 0 _, ((((Wrote.refl _ pb).set 4 _).set 5 _).set 6 _).set 0 _⟩
      have HWB := Lib.hid hwb
      have HWW := Lib.hid hww
      clear hwb hww hX1 g1 g2 g3 g4 g5 g6 hE hr hz
      go_enter Tryz.func59, Tryz.ntmps59
      go_wp2_with fail
      refine bodyPost_ret (v := .tuple #[]) (by simp [results, Tryz.results59, go_sem]) rfl ?_
      rw [HE.out]
      have hk : KP pb w (W.alloc (oPos t.ln t.col)) := (kept_wrote (Kept.refl (fun b => b = pb) w) HWW.out (fun _ => rfl)).alloc _
      exact ⟨rfl, ⟨⟨none, 0, HWB.out.alloc _, Nat.le_refl _, fun i u hu => by simp at hu⟩, HP.out.lt, Nat.le_trans HP.out.size hk.size, Nat.zero_le _⟩, hk⟩
  · have q0 : (p.err != 0) = true := by simpa using hE
    have HE := Lib.hid (show p.fail x = p by unfold Pp.fail; rw [if_pos hE])
    obtain ⟨x0, x1, x2, x3, x4, x5, x6⟩ := g1.cells7
    clear g1 g2 g3 g4 g5 g6 hE
    go_enter Tryz.func59, Tryz.ntmps59
    go_wp2_with fail
    refine bodyPost_ret (v := .tuple #[]) (by simp [results, Tryz.results59, go_sem]) rfl ?_
    rw [HE.out]
    exact ⟨rfl, HP.out, Kept.refl _ _⟩
end Go.Proofs.YtdajihpfedbihaaGreat.Pa
/-
  CONTRACTS of layer parse: a token of a kind, a mark, a word, a number is taken that must be there.
-/
namespace Go.Proofs.YtdajihpfedbihaaGreat.Pa
open Go.RowKit Mm Tm Pm
set_option linter.unusedVariables false
set_option linter.unusedSimpArgs false
abbrev TStr : TypeId := 9
abbrev oStr (s : List UInt8) : Obj := .cells #[.string (toB s)] TStr
theorem isMark_one (t : Tk) (s : String) : isMark t s = isOne 5 t [str s] := by unfold isMark isOne; simp
theorem isWord_one (t : Tk) (s : String) : isWord t s = isOne 6 t [str s] := by unfold isWord isOne; simp
/-- one text in a row of the call's own -/
theorem rdB_one (w : World) (s : List UInt8) : RdB (· < (w.alloc (oStr s)).heap.size) (w.alloc (oStr s)) (some ⟨w.heap.size, 0, none⟩) [s] := by
  intro i u hu
  cases i with
  | succ i => simp at hu
  | zero =>
    simp at hu
    subst hu
    exact ⟨_, _, rfl, by simp, (Box.new w #[.string (toB s)] TStr).cell 0⟩
theorem tok_kind (t : Tk) (w : World) : (Instr.field TTok (tokV t) 0).run Tryz.prog w = .ok (.int .i64 t.kind) w := by kernel_rfl
theorem tok_n (t : Tk) (w : World) : (Instr.field TTok (tokV t) 2).run Tryz.prog w = .ok (.int .i64 t.n) w := by kernel_rfl
theorem zbox (w : World) : Box (w.alloc zTok) w.heap.size TTok #[.int .i64 0, .string ByteArray.empty, .int .i64 0, .int .i64 0, .int .i64 0, .bool false] := Box.new w _ _
set_option maxRecDepth 100000 in
set_option maxHeartbeats 4000000 in
theorem kind_any {N pb : Nat} {p : Pp} {fv : Value} (k : Int) (w : World) (h : PS N w pb p fv) : Calls Tryz.prog 87 #[.pointer (some ⟨pb, 0, none⟩), .int .i64 k] w (TakePost N pb fv (p.kind k) w) := by
  have HP := Lib.hid h
  have HB0 := Lib.hid ((Below.refl w.heap.size w).alloc (Nat.le_refl _) zTok)
  have HX0 := Lib.hid (zbox w)
  have HN := Lib.hid (next_any (w.alloc zTok) (h.below HB0.out))
  have HNE := Lib.hid (show w.heap.size ≠ pb by have := h.lt; have := h.size; omega)
  clear h
  by_cases hk : p.next.kind = k
  · have q : (p.next.kind != k) = false := by simpa using hk
    have HE := Lib.hid (show p.kind k = p.take by unfold Pp.kind; rw [if_neg (by simpa using hk)])
    clear hk
    go_enter Tryz.func87, Tryz.ntmps87
    go_wp2_with fail
    refine HN.out.mono ?_
    rintro e w1 ⟨rfl, hb1⟩
    have HB1 := Lib.hid (HB0.out.trans (hb1.mono (by simp)))
    have HX1 := Lib.hid (HX0.out.below hb1 (by simp))
    have HT := Lib.hid (take_any w1 (HP.out.below HB1.out))
    have hf := tok_kind p.next w1
    clear hb1
    go_wp2_with fail
    refine HT.out.mono ?_
    rintro e w2 ⟨rfl, hp2, hk2⟩
    have hX2 := hk2.box HX1.out HNE.out
    obtain ⟨z0, z1, z2, z3, z4, z5⟩ := cells6 hX2
    obtain ⟨y0, y1, y2, y3, y4, y5⟩ := free6 hX2
    have HP2 := Lib.hid hp2
    have HK2 := Lib.hid ((Kept.of_below HB1.out (Nat.le_refl _) (fun b => b = pb)).trans hk2)
    generalize p.take = r at HP2 HE
    obtain ⟨t, p2⟩ := r
    obtain ⟨V, hV, hvb, hvw⟩ := write6 hX2 (.int .i64 t.kind) (.string (toB t.text)) (.int .i64 t.n) (.int .i64 t.ln) (.int .i64 t.col) (.bool t.made)
    have HVB := Lib.hid hvb
    have HVW := Lib.hid hvw
    clear hp2 hk2 hX2 hvb hvw
    go_wp2_with fail
    obtain ⟨v0, v1, v2, v3, v4, v5⟩ := cells6 HVB.out
    refine bodyPost_ret (v := tokV t) (by simp [results, Tryz.results87, go_sem, v0, v1, v2, v3, v4, v5]) rfl ?_
    rw [HE.out]
    exact ⟨rfl, HP2.out.frame (X := fun b => b = w.heap.size) (kept_wrote (Kept.refl (fun b => b = w.heap.size) _) HVW.out fun _ => rfl) (fun b e => by have := HP.out.size; omega), kept_wrote HK2.out HVW.out (fun q => absurd q (Nat.lt_irrefl _))⟩
  · have q : (p.next.kind != k) = true := by simpa using hk
    have HE := Lib.hid (show p.kind k = (p.fail 60).take by unfold Pp.kind; rw [if_pos (by simpa using hk)])
    clear hk
    go_enter Tryz.func87, Tryz.ntmps87
    go_wp2_with fail
    refine HN.out.mono ?_
    rintro e w1 ⟨rfl, hb1⟩
    have HB1 := Lib.hid (HB0.out.trans (hb1.mono (by simp)))
    have HX1 := Lib.hid (HX0.out.below hb1 (by simp))
    have HF := Lib.hid (fail_any 60 w1 (HP.out.below HB1.out))
    have hf := tok_kind p.next w1
    clear hb1
    go_wp2_with fail
    refine HF.out.mono ?_
    rintro e w1' ⟨rfl, hp1, hk1⟩
    have HT := Lib.hid (take_any w1' hp1)
    have HX1' := Lib.hid (hk1.box HX1.out HNE.out)
    have HK1 := Lib.hid ((Kept.of_below HB1.out (Nat.le_refl _) (fun b => b = pb)).trans hk1)
    clear hp1 hk1
    go_wp2_with fail
    refine HT.out.mono ?_
    rintro e w2 ⟨rfl, hp2, hk2⟩
    have hX2 := hk2.box HX1'.out HNE.out
    obtain ⟨z0, z1, z2, z3, z4, z5⟩ := cells6 hX2
    obtain ⟨y0, y1, y2, y3, y4, y5⟩ := free6 hX2
    have HP2 := Lib.hid hp2
    have HK2 := Lib.hid (HK1.out.trans hk2)
    generalize (p.fail 60).take = r at HP2 HE
    obtain ⟨t, p2⟩ := r
    obtain ⟨V, hV, hvb, hvw⟩ := write6 hX2 (.int .i64 t.kind) (.string (toB t.text)) (.int .i64 t.n) (.int .i64 t.ln) (.int .i64 t.col) (.bool t.made)
    have HVB := Lib.hid hvb
    have HVW := Lib.hid hvw
    clear hp2 hk2 hX2 hvb hvw
    go_wp2_with fail
    obtain ⟨v0, v1, v2, v3, v4, v5⟩ := cells6 HVB.out
    refine bodyPost_ret (v := tokV t) (by simp [results, Tryz.results87, go_sem, v0, v1, v2, v3, v4, v5]) rfl ?_
    rw [HE.out]
    exact ⟨rfl, HP2.out.frame (X := fun b => b = w.heap.size) (kept_wrote (Kept.refl (fun b => b = w.heap.size) _) HVW.out fun _ => rfl) (fun b e => by have := HP.out.size; omega), kept_wrote HK2.out HVW.out (fun q => absurd q (Nat.lt_irrefl _))⟩
set_option maxRecDepth 100000 in
set_option maxHeartbeats 4000000 in
theorem number_any {N pb : Nat} {p : Pp} {fv : Value} (w : World) (h : PS N w pb p fv) : Calls Tryz.prog 138 #[.pointer (some ⟨pb, 0, none⟩)] w (TakePost N pb fv p.number w) := by
  have HP := Lib.hid h
  have HB0 := Lib.hid ((Below.refl w.heap.size w).alloc (Nat.le_refl _) zTok)
  have HX0 := Lib.hid (zbox w)
  have HN := Lib.hid (next_any (w.alloc zTok) (h.below HB0.out))
  have HNE := Lib.hid (show w.heap.size ≠ pb by have := h.lt; have := h.size; omega)
  clear h
  by_cases hk : p.next.n < 0
  · have HE := Lib.hid (show p.number = (p.fail 11).take by unfold Pp.number; rw [if_pos hk])
    have q : decide (p.next.n < 0) = true := decide_eq_true hk
    go_enter Tryz.func138, Tryz.ntmps138
    go_wp2_with fail
    refine HN.out.mono ?_
    rintro e w1 ⟨rfl, hb1⟩
    have HB1 := Lib.hid (HB0.out.trans (hb1.mono (by simp)))
    have HX1 := Lib.hid (HX0.out.below hb1 (by simp))
    have HF := Lib.hid (fail_any 11 w1 (HP.out.below HB1.out))
    have hf := tok_n p.next w1
    clear hb1
    go_wp2_with fail
    refine HF.out.mono ?_
    rintro e w1' ⟨rfl, hp1, hk1⟩
    have HT := Lib.hid (take_any w1' hp1)
    have HX1' := Lib.hid (hk1.box HX1.out HNE.out)
    have HK1 := Lib.hid ((Kept.of_below HB1.out (Nat.le_refl _) (fun b => b = pb)).trans hk1)
    clear hp1 hk1
    go_wp2_with fail
    refine HT.out.mono ?_
    rintro e w2 ⟨rfl, hp2, hk2⟩
    have hX2 := hk2.box HX1'.out HNE.out
    obtain ⟨z0, z1, z2, z3, z4, z5⟩ := cells6 hX2
    obtain ⟨y0, y1, y2, y3, y4, y5⟩ := free6 hX2
    have HP2 := Lib.hid hp2
    have HK2 := Lib.hid (HK1.out.trans hk2)
    generalize (p.fail 11).take = r at HP2 HE
    obtain ⟨t, p2⟩ := r
    obtain ⟨V, hV, hvb, hvw⟩ := write6 hX2 (.int .i64 t.kind) (.string (toB t.text)) (.int .i64 t.n) (.int .i64 t.ln) (.int .i64 t.col) (.bool t.made)
    have HVB := Lib.hid hvb
    have HVW := Lib.hid hvw
    clear hp2 hk2 hX2 hvb hvw
    go_wp2_with fail
    obtain ⟨v0, v1, v2, v3, v4, v5⟩ := cells6 HVB.out
    refine bodyPost_ret (v := tokV t) (by simp [results, Tryz.results138, go_sem, v0, v1, v2, v3, v4, v5]) rfl ?_
    rw [HE.out]
    exact ⟨rfl, HP2.out.frame (X := fun b => b = w.heap.size) (kept_wrote (Kept.refl (fun b => b = w.heap.size) _) HVW.out fun _ => rfl) (fun b e => by have := HP.out.size; omega), kept_wrote HK2.out HVW.out (fun q => absurd q (Nat.lt_irrefl _))⟩
  · have HE := Lib.hid (show p.number = p.take by unfold Pp.number; rw [if_neg hk])
    have q : decide (p.next.n < 0) = false := decide_eq_false hk
    go_enter Tryz.func138, Tryz.ntmps138
    go_wp2_with fail
    refine HN.out.mono ?_
    rintro e w1 ⟨rfl, hb1⟩
    have HB1 := Lib.hid (HB0.out.trans (hb1.mono (by simp)))
    have HX1 := Lib.hid (HX0.out.below hb1 (by simp))
    have HT := Lib.hid (take_any w1 (HP.out.below HB1.out))
    have hf := tok_n p.next w1
    clear hb1
    go_wp2_with fail
    refine HT.out.mono ?_
    rintro e w2 ⟨rfl, hp2, hk2⟩
    have hX2 := hk2.box HX1.out HNE.out
    obtain ⟨z0, z1, z2, z3, z4, z5⟩ := cells6 hX2
    obtain ⟨y0, y1, y2, y3, y4, y5⟩ := free6 hX2
    have HP2 := Lib.hid hp2
    have HK2 := Lib.hid ((Kept.of_below HB1.out (Nat.le_refl _) (fun b => b = pb)).trans hk2)
    generalize p.take = r at HP2 HE
    obtain ⟨t, p2⟩ := r
    obtain ⟨V, hV, hvb, hvw⟩ := write6 hX2 (.int .i64 t.kind) (.string (toB t.text)) (.int .i64 t.n) (.int .i64 t.ln) (.int .i64 t.col) (.bool t.made)
    have HVB := Lib.hid hvb
    have HVW := Lib.hid hvw
    clear hp2 hk2 hX2 hvb hvw
    go_wp2_with fail
    obtain ⟨v0, v1, v2, v3, v4, v5⟩ := cells6 HVB.out
    refine bodyPost_ret (v := tokV t) (by simp [results, Tryz.results138, go_sem, v0, v1, v2, v3, v4, v5]) rfl ?_
    rw [HE.out]
    exact ⟨rfl, HP2.out.frame (X := fun b => b = w.heap.size) (kept_wrote (Kept.refl (fun b => b = w.heap.size) _) HVW.out fun _ => rfl) (fun b e => by have := HP.out.size; omega), kept_wrote HK2.out HVW.out (fun q => absurd q (Nat.lt_irrefl _))⟩
end Go.Proofs.YtdajihpfedbihaaGreat.Pa
/-
  CONTRACTS of layer parse: a mark, a word is taken that must be there.
-/
namespace Go.Proofs.YtdajihpfedbihaaGreat.Pa
open Go.RowKit Mm Tm Pm
set_option linter.unusedVariables false
set_option linter.unusedSimpArgs false
/-- a mark was looked for: whether it was there; what is left -/
def MarkPost (N pb : Nat) (fv : Value) (r : Bool × Pp) (w : World) (e : Ending) (w' : World) : Prop := e = .returned (.bool r.1) ∧ PS N w' pb r.2 fv ∧ KP pb w w'
set_option maxRecDepth 100000 in
set_option maxHeartbeats 4000000 in
theorem mark_any {N pb : Nat} {p : Pp} {fv : Value} (s : String) (w : World) (h : PS N w pb p fv) : Calls Tryz.prog 76 #[.pointer (some ⟨pb, 0, none⟩), .string (toB (str s))] w (MarkPost N pb fv (p.mark s) w) := by
  have HP := Lib.hid h
  have HN := Lib.hid (next_any w h)
  clear h
  cases hm : isOne 5 p.next [str s] with
  | true =>
    have HM := Lib.hid hm
    have HE := Lib.hid (show p.mark s = (true, p.take.2) by unfold Pp.mark; rw [isMark_one, hm, if_pos rfl])
    clear hm
    go_enter Tryz.func76, Tryz.ntmps76
    go_wp2_with fail
    refine HN.out.mono ?_
    rintro e w1 ⟨rfl, hb1⟩
    have HB1 := Lib.hid (hb1.alloc hb1.size (oStr (str s)))
    have HI := Lib.hid (ismark_any (c := 1) (l := [str s]) p.next (w1.alloc (oStr (str s))) (rdB_one w1 (str s)) (by simp))
    rw [HM.out] at HI
    clear hb1
    go_wp2_with fail
    refine HI.out.mono ?_
    rintro e w2 ⟨rfl, hb2⟩
    have HB2 := Lib.hid (HB1.out.trans (hb2.mono HB1.out.size))
    have HT := Lib.hid (take_any w2 (HP.out.below HB2.out))
    clear hb2
    go_wp2_with fail
    refine HT.out.mono ?_
    rintro e w3 ⟨rfl, hp3, hk3⟩
    have HP3 := Lib.hid hp3
    have HK3 := Lib.hid ((Kept.of_below HB2.out (Nat.le_refl _) (fun b => b = pb)).trans hk3)
    clear hp3 hk3
    go_wp2_with fail
    go_ret
    rw [HE.out]
    exact ⟨rfl, HP3.out, HK3.out⟩
  | false =>
    have HM := Lib.hid hm
    have HE := Lib.hid (show p.mark s = (false, (p.fail 60).take.2) by unfold Pp.mark; rw [isMark_one, hm, if_neg (by simp)])
    clear hm
    go_enter Tryz.func76, Tryz.ntmps76
    go_wp2_with fail
    refine HN.out.mono ?_
    rintro e w1 ⟨rfl, hb1⟩
    have HB1 := Lib.hid (hb1.alloc hb1.size (oStr (str s)))
    have HI := Lib.hid (ismark_any (c := 1) (l := [str s]) p.next (w1.alloc (oStr (str s))) (rdB_one w1 (str s)) (by simp))
    rw [HM.out] at HI
    clear hb1
    go_wp2_with fail
    refine HI.out.mono ?_
    rintro e w2 ⟨rfl, hb2⟩
    have HB2 := Lib.hid (HB1.out.trans (hb2.mono HB1.out.size))
    have HF := Lib.hid (fail_any 60 w2 (HP.out.below HB2.out))
    clear hb2
    go_wp2_with fail
    refine HF.out.mono ?_
    rintro e w2' ⟨rfl, hp2, hk2⟩
    have HT := Lib.hid (take_any w2' hp2)
    have HK2 := Lib.hid ((Kept.of_below HB2.out (Nat.le_refl _) (fun b => b = pb)).trans hk2)
    clear hp2 hk2
    go_wp2_with fail
    refine HT.out.mono ?_
    rintro e w3 ⟨rfl, hp3, hk3⟩
    have HP3 := Lib.hid hp3
    have HK3 := Lib.hid (HK2.out.trans hk3)
    clear hp3 hk3
    go_wp2_with fail
    go_ret
    rw [HE.out]
    exact ⟨rfl, HP3.out, HK3.out⟩
set_option maxRecDepth 100000 in
set_option maxHeartbeats 4000000 in
theorem word_any {N pb : Nat} {p : Pp} {fv : Value} (s : String) (w : World) (h : PS N w pb p fv) : Calls Tryz.prog 144 #[.pointer (some ⟨pb, 0, none⟩), .string (toB (str s))] w (VoidPost N pb fv (p.word s) w) := by
  have HP := Lib.hid h
  have HN := Lib.hid (next_any w h)
  clear h
  cases hm : isOne 6 p.next [str s] with
  | true =>
    have HM := Lib.hid hm
    have HE := Lib.hid (show p.word s = p.take.2 by unfold Pp.word; rw [isWord_one, hm, if_pos rfl])
    clear hm
    go_enter Tryz.func144, Tryz.ntmps144
    go_wp2_with fail
    refine HN.out.mono ?_
    rintro e w1 ⟨rfl, hb1⟩
    have HB1 := Lib.hid (hb1.alloc hb1.size (oStr (str s)))
    have HI := Lib.hid (isword_any (c := 1) (l := [str s]) p.next (w1.alloc (oStr (str s))) (rdB_one w1 (str s)) (by simp))
    rw [HM.out] at HI
    clear hb1
    go_wp2_with fail
    refine HI.out.mono ?_
    rintro e w2 ⟨rfl, hb2⟩
    have HB2 := Lib.hid (HB1.out.trans (hb2.mono HB1.out.size))
    have HT := Lib.hid (take_any w2 (HP.out.below HB2.out))
    clear hb2
    go_wp2_with fail
    refine HT.out.mono ?_
    rintro e w3 ⟨rfl, hp3, hk3⟩
    have HP3 := Lib.hid hp3
    have HK3 := Lib.hid ((Kept.of_below HB2.out (Nat.le_refl _) (fun b => b = pb)).trans hk3)
    clear hp3 hk3
    go_wp2_with fail
    refine bodyPost_ret (v := .tuple #[]) (by simp [results, Tryz.results144, go_sem]) rfl ?_
    rw [HE.out]
    exact ⟨rfl, HP3.out, HK3.out⟩
  | false =>
    have HM := Lib.hid hm
    have HE := Lib.hid (show p.word s = (p.fail 60).take.2 by unfold Pp.word; rw [isWord_one, hm, if_neg (by simp)])
    clear hm
    go_enter Tryz.func144, Tryz.ntmps144
    go_wp2_with fail
    refine HN.out.mono ?_
    rintro e w1 ⟨rfl, hb1⟩
    have HB1 := Lib.hid (hb1.alloc hb1.size (oStr (str s)))
    have HI := Lib.hid (isword_any (c := 1) (l := [str s]) p.next (w1.alloc (oStr (str s))) (rdB_one w1 (str s)) (by simp))
    rw [HM.out] at HI
    clear hb1
    go_wp2_with fail
    refine HI.out.mono ?_
    rintro e w2 ⟨rfl, hb2⟩
    have HB2 := Lib.hid (HB1.out.trans (hb2.mono HB1.out.size))
    have HF := Lib.hid (fail_any 60 w2 (HP.out.below HB2.out))
    clear hb2
    go_wp2_with fail
    refine HF.out.mono ?_
    rintro e w2' ⟨rfl, hp2, hk2⟩
    have HT := Lib.hid (take_any w2' hp2)
    have HK2 := Lib.hid ((Kept.of_below HB2.out (Nat.le_refl _) (fun b => b = pb)).trans hk2)
    clear hp2 hk2
    go_wp2_with fail
    refine HT.out.mono ?_
    rintro e w3 ⟨rfl, hp3, hk3⟩
    have HP3 := Lib.hid hp3
    have HK3 := Lib.hid (HK2.out.trans hk3)
    clear hp3 hk3
    go_wp2_with fail
    refine bodyPost_ret (v := .tuple #[]) (by simp [results, Tryz.results144, go_sem]) rfl ?_
    rw [HE.out]
    exact ⟨rfl, HP3.out, HK3.out⟩
end Go.Proofs.YtdajihpfedbihaaGreat.Pa
/-
  CONTRACTS of layer parse: marks by their texts; a number behind its sign; what begins a pattern, a clause.
-/
namespace Go.Proofs.YtdajihpfedbihaaGreat.Pa
open Go.RowKit Mm Tm Pm
set_option linter.unusedVariables false
set_option linter.unusedSimpArgs false
theorem lit_lp : toB (str "(") = ⟨#[40]⟩ := by kernel_rfl
theorem lit_rp : toB (str ")") = ⟨#[41]⟩ := by kernel_rfl
theorem lit_ar : toB (str "->") = ⟨#[45, 62]⟩ := by kernel_rfl
theorem lit_us : toB (str "_") = ⟨#[95]⟩ := by kernel_rfl
theorem lit_bar : toB (str "|") = ⟨#[124]⟩ := by kernel_rfl
theorem lit_eq : toB (str "=") = ⟨#[61]⟩ := by kernel_rfl
theorem lit_lb : toB (str "{") = ⟨#[123]⟩ := by kernel_rfl
theorem lit_rb : toB (str "}") = ⟨#[125]⟩ := by kernel_rfl
theorem lit_semi : toB (str ";") = ⟨#[59]⟩ := by kernel_rfl
theorem lit_bs : toB (str "\\") = ⟨#[92]⟩ := by kernel_rfl
theorem lit_let : toB (str "let") = ⟨#[108, 101, 116]⟩ := by kernel_rfl
theorem lit_in : toB (str "in") = ⟨#[105, 110]⟩ := by kernel_rfl
theorem lit_if : toB (str "if") = ⟨#[105, 102]⟩ := by kernel_rfl
theorem lit_then : toB (str "then") = ⟨#[116, 104, 101, 110]⟩ := by kernel_rfl
theorem lit_else : toB (str "else") = ⟨#[101, 108, 115, 101]⟩ := by kernel_rfl
theorem lit_case : toB (str "case") = ⟨#[99, 97, 115, 101]⟩ := by kernel_rfl
theorem lit_of : toB (str "of") = ⟨#[111, 102]⟩ := by kernel_rfl
theorem take_fst (p : Pp) : p.take.1 = p.next := by
  unfold Pp.take Pp.next
  split <;> rename_i e <;> rw [e] <;> rfl
theorem RdTk.text {Z : Nat → Prop} {w : World} {a : Option Addr} {p : Pp} (h : RdTk Z w a p.rest) : p.next.text.length ≤ 9223372036854775807 := by
  unfold Pp.next
  cases hr : p.rest with
  | nil => simp [noTk]
  | cons t r =>
    obtain ⟨g, o, _, _, _, _, _, _, _, _, h9⟩ := h 0 t (by rw [hr]; rfl)
    exact h9
theorem PS.text {N : Nat} {w : World} {pb : Nat} {p : Pp} {fv : Value} (h : PS N w pb p fv) : p.next.text.length ≤ 9223372036854775807 := by
  obtain ⟨⟨ra, rc, h1, h2, h3⟩, _⟩ := h
  exact h3.text
/-- the texts of a row of two -/
theorem rdB_two (w : World) (s t : List UInt8) : RdB (· < (w.alloc (.cells #[.string (toB s), .string (toB t)] TStr)).heap.size) (w.alloc (.cells #[.string (toB s), .string (toB t)] TStr)) (some ⟨w.heap.size, 0, none⟩) [s, t] := by
  intro i u hu
  match i, hu with
  | 0, hu => simp at hu; subst hu; exact ⟨_, _, rfl, by simp, (Box.new w #[.string (toB s), .string (toB t)] TStr).cell 0⟩
  | 1, hu => simp at hu; subst hu; exact ⟨_, _, rfl, by simp, (Box.new w #[.string (toB s), .string (toB t)] TStr).cell 1⟩
  | i + 2, hu => simp at hu
/-- whether a token is a mark: the row of one text made ahead of it -/
theorem mark_at (t : Tk) (s : String) (w : World) : Calls Tryz.prog 83 #[tokV t, .slice (some ⟨w.heap.size, 0, none⟩) 1 1] (w.alloc (oStr (str s))) (BoolPost (isMark t s) (w.alloc (oStr (str s)))) := by
  rw [isMark_one]
  exact ismark_any (l := [str s]) t _ (rdB_one w (str s)) (by simp)
theorem word_at (t : Tk) (s : String) (w : World) : Calls Tryz.prog 64 #[tokV t, .slice (some ⟨w.heap.size, 0, none⟩) 1 1] (w.alloc (oStr (str s))) (BoolPost (isWord t s) (w.alloc (oStr (str s)))) := by
  rw [isWord_one]
  exact isword_any (l := [str s]) t _ (rdB_one w (str s)) (by simp)
set_option maxRecDepth 100000 in
set_option maxHeartbeats 4000000 in
theorem beginsPat_any (t : Tk) (w : World) : Calls Tryz.prog 115 #[tokV t] w (BoolPost (beginsPat t) w) := by
  have HB0 := Lib.hid ((Below.refl w.heap.size w).alloc (Nat.le_refl _) (oTok t))
  by_cases k1 : t.kind = 1
  · have q : (t.kind == 1) = true := by simpa using k1
    have HE := Lib.hid (show beginsPat t = true by unfold beginsPat; simp [k1])
    clear k1
    go_enter Tryz.func115, Tryz.ntmps115
    go_wp2_with fail
    go_ret
    exact ⟨by rw [HE.out]; rfl, HB0.out⟩
  · have q1 : (t.kind == 1) = false := by simpa using k1
    by_cases k2 : t.kind = 2
    · have q : (t.kind == 2) = true := by simpa using k2
      have HE := Lib.hid (show beginsPat t = true by unfold beginsPat; simp [k2])
      clear k1 k2
      go_enter Tryz.func115, Tryz.ntmps115
      go_wp2_with fail
      go_ret
      exact ⟨by rw [HE.out]; rfl, HB0.out⟩
    · have q2 : (t.kind == 2) = false := by simpa using k2
      by_cases k4 : t.kind = 4
      · have q : (t.kind == 4) = true := by simpa using k4
        have HE := Lib.hid (show beginsPat t = true by unfold beginsPat; simp [k4])
        clear k1 k2 k4
        go_enter Tryz.func115, Tryz.ntmps115
        go_wp2_with fail
        go_ret
        exact ⟨by rw [HE.out]; rfl, HB0.out⟩
      · have q : (t.kind == 4) = false := by simpa using k4
        have HE := Lib.hid (show beginsPat t = isOne 5 t [str "_", str "("] by unfold beginsPat isMark isOne; simp only [k1, k2, k4, decide_false, Bool.false_or, List.mem_cons, List.not_mem_nil, or_false]; by_cases h5 : t.kind = 5 <;> simp [h5, Bool.decide_or])
        have HI := Lib.hid (ismark_any (c := 2) (l := [str "_", str "("]) t ((w.alloc (oTok t)).alloc (.cells #[.string (toB (str "_")), .string (toB (str "("))] TStr)) (rdB_two (w.alloc (oTok t)) (str "_") (str "(")) (by simp))
        rw [lit_us, lit_lp, World.size_alloc] at HI
        have HB1 := Lib.hid (HB0.out.alloc (by simp) (.cells #[.string ⟨#[95]⟩, .string ⟨#[40]⟩] TStr))
        clear k1 k2 k4
        go_enter Tryz.func115, Tryz.ntmps115
        go_wp2_with fail
        refine HI.out.mono ?_
        rintro e w1 ⟨rfl, hb1⟩
        have HB2 := Lib.hid (HB1.out.trans (hb1.mono (by simp; omega)))
        clear hb1
        go_wp2_with fail
        go_ret
        exact ⟨by rw [HE.out]; rfl, HB2.out⟩
set_option maxRecDepth 100000 in
set_option maxHeartbeats 4000000 in
theorem beginsClause_any (t : Tk) (w : World) : Calls Tryz.prog 85 #[tokV t] w (BoolPost (beginsClause t) w) := by
  have HB0 := Lib.hid ((Below.refl w.heap.size w).alloc (Nat.le_refl _) (oTok t))
  have HI := Lib.hid (mark_at t "(" (w.alloc (oTok t)))
  have HB1 := Lib.hid (HB0.out.alloc (by simp) (oStr (str "(")))
  unfold oStr at HB1 HI
  rw [lit_lp] at HI HB1
  rw [World.size_alloc] at HI
  by_cases k1 : t.kind = 1
  · have q : (t.kind == 1) = true := by simpa using k1
    have HE := Lib.hid (show beginsClause t = true by unfold beginsClause; simp [k1])
    clear k1
    go_enter Tryz.func85, Tryz.ntmps85
    go_wp2_with fail
    go_ret
    exact ⟨by rw [HE.out]; rfl, HB0.out⟩
  · have q : (t.kind == 1) = false := by simpa using k1
    have HE := Lib.hid (show beginsClause t = isMark t "(" by unfold beginsClause; simp [k1])
    clear k1
    go_enter Tryz.func85, Tryz.ntmps85
    go_wp2_with fail
    refine HI.out.mono ?_
    rintro e w1 ⟨rfl, hb1⟩
    have HB2 := Lib.hid (HB1.out.trans (hb1.mono (by simp; omega)))
    clear hb1
    go_wp2_with fail
    go_ret
    exact ⟨by rw [HE.out]; rfl, HB2.out⟩
set_option maxRecDepth 100000 in
set_option maxHeartbeats 4000000 in
theorem below_any {N pb : Nat} {p : Pp} {fv : Value} (w : World) (h : PS N w pb p fv) : Calls Tryz.prog 139 #[.pointer (some ⟨pb, 0, none⟩)] w (TakePost N pb fv p.below w) := by
  have HP := Lib.hid h
  have HB0 := Lib.hid ((Below.refl w.heap.size w).alloc (Nat.le_refl _) zTok)
  have HX0 := Lib.hid (zbox w)
  have HK := Lib.hid (kind_any 4 (w.alloc zTok) (h.below HB0.out))
  have HNE := Lib.hid (show w.heap.size ≠ pb by have := h.lt; have := h.size; omega)
  clear h
  have HE := Lib.hid (show p.below = ({ (p.kind 4).1 with n := IntKind.i64.wrap (-(p.kind 4).1.n) }, ((p.kind 4).2.mark ")").2) from rfl)
  generalize p.kind 4 = r at HK HE
  obtain ⟨t, p1⟩ := r
  go_enter Tryz.func139, Tryz.ntmps139
  go_wp2_with fail
  refine HK.out.mono ?_
  rintro e w1 ⟨rfl, hp1, hk1⟩
  have hsz : w.heap.size + 1 ≤ w1.heap.size := by have := hk1.size; rwa [World.size_alloc] at this
  have hX1 := hk1.box HX0.out HNE.out
  have HX1 := Lib.hid hX1
  have HP1 := Lib.hid hp1
  have HK1 := Lib.hid ((Kept.of_below HB0.out (Nat.le_refl _) (fun b => b = pb)).trans hk1)
  have hY := Box.new w1 #[.int .i64 t.kind, .string (toB t.text), .int .i64 (wrap64 (-t.n)), .int .i64 t.ln, .int .i64 t.col, .bool t.made] TTok
  have HY := Lib.hid hY
  have HQ := Lib.hid (hp1.below ((Below.refl w1.heap.size w1).alloc (Nat.le_refl _) (.cells #[.int .i64 t.kind, .string (toB t.text), .int .i64 (wrap64 (-t.n)), .int .i64 t.ln, .int .i64 t.col, .bool t.made] TTok)))
  have HM := Lib.hid (mark_any ")" _ HQ.out)
  rw [lit_rp] at HM
  have HSZ := Lib.hid hsz
  clear hp1 hk1 hX1 hY
  go_wp2_with fail
  refine HM.out.mono ?_
  rintro e w2 ⟨rfl, hp2, hk2⟩
  have hX2 := hk2.box (HX1.out.alloc _) HNE.out
  have hY2 := hk2.box HY.out (by have := HP.out.lt; have := HP.out.size; have := HSZ.out; omega)
  obtain ⟨t0, t1, t2, t3, t4, t5⟩ := cells6 hY2
  obtain ⟨z0, z1, z2, z3, z4, z5⟩ := cells6 hX2
  obtain ⟨y0, y1, y2, y3, y4, y5⟩ := free6 hX2
  obtain ⟨V, hV, hvb, hvw⟩ := write6 hX2 (.int .i64 t.kind) (.string (toB t.text)) (.int .i64 (wrap64 (-t.n))) (.int .i64 t.ln) (.int .i64 t.col) (.bool t.made)
  have HVB := Lib.hid hvb
  have HVW := Lib.hid hvw
  have HP2 := Lib.hid hp2
  have HK2 := Lib.hid ((HK1.out.alloc (.cells #[.int .i64 t.kind, .string (toB t.text), .int .i64 (wrap64 (-t.n)), .int .i64 t.ln, .int .i64 t.col, .bool t.made] TTok)).trans hk2)
  clear hp2 hk2 hX2 hY2 hvb hvw
  go_wp2_with fail
  obtain ⟨v0, v1, v2, v3, v4, v5⟩ := cells6 HVB.out
  refine bodyPost_ret (v := tokV { t with n := wrap64 (-t.n) }) (by simp [results, Tryz.results139, go_sem, v0, v1, v2, v3, v4, v5]) rfl ?_
  rw [HE.out]
  exact ⟨by show Ending.returned (tokV { t with n := wrap64 (-t.n) }) = Ending.returned (tokV { t with n := IntKind.i64.wrap (-t.n) }); rw [IntWalk.i64_left], HP2.out.frame (X := fun b => b = w.heap.size) (kept_wrote (Kept.refl (fun b => b = w.heap.size) _) HVW.out fun _ => rfl) (fun b e => by have := HP.out.size; omega), kept_wrote HK2.out HVW.out (fun q => absurd q (Nat.lt_irrefl _))⟩
end Go.Proofs.YtdajihpfedbihaaGreat.Pa
