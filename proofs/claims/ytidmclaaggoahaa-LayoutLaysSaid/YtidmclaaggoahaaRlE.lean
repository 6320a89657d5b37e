/-
  CONTRACT of the document's layout: step 3.
-/
import Derived.Test.YtidmclaaggoahaaRlD
namespace Go.Proofs.Ytidmclaaggoahaa.Ly
open Go.RowKit Pl Ar Mm Lx
set_option linter.unusedVariables false
set_option linter.unusedSimpArgs false
abbrev SY : TypeId := 9
/-- what closes has laid: the state, the token, what it hands back, the three rows of names -/
structure CS (Z : Nat → Prop) (w : World) (p : Nat) (t : TokM) (T : List TokM) (F : List Fr) (due : Bool) (vt vf : Value) (wx : World) : Prop where
  rs : RSt Z wx T F vt vf
  hh : Holds Z w wx
  bx : Box wx p RS #[vt, vf, .bool due]
  bt : Box wx (p + 1) TT (tokBox t)
  bz : Box wx (p + 1 + 1) RS #[.slice none 0 0, .slice none 0 0, .bool false]
  b1 : Box wx (p + 1 + 1 + 1 + 1) SY #[.string ⟨#[123]⟩]
  b2 : Box wx (p + 1 + 1 + 1 + 1 + 1) SY #[.string ⟨#[123]⟩, .string ⟨#[40]⟩]
theorem Holds.here {Z : Nat → Prop} {w wx w2 : World} (h : Holds Z w wx) (hz : ∀ k, Z k → k < wx.heap.size) (k : Below wx.heap.size wx w2) : Holds Z w w2 :=
  h.trans ⟨k.os, k.tape, k.output, k.size, fun i hi => k.block i (hz i hi)⟩
theorem CS.here {Z : Nat → Prop} {w : World} {p : Nat} {t : TokM} {T : List TokM} {F : List Fr} {due : Bool} {vt vf : Value} {wx w2 : World} (h : CS Z w p t T F due vt vf wx) (k : Below wx.heap.size wx w2) : CS Z w p t T F due vt vf w2 :=
  ⟨h.rs.here k, h.hh.here h.rs.zl k, h.bx.below k h.bx.lt, h.bt.below k h.bt.lt, h.bz.below k h.bz.lt, h.b1.below k h.b1.lt, h.b2.below k h.b2.lt⟩
theorem CS.start {Z : Nat → Prop} {w : World} {t : TokM} {T : List TokM} {F : List Fr} {due : Bool} {vt vf : Value} (h : RSt Z w T F vt vf) {p : Nat} (hp : w.heap.size = p) :
    CS Z w p t T F due vt vf ((((((w.alloc (.cells #[vt, vf, .bool due] RS)).alloc (.cells (tokBox t) TT)).alloc (.cells #[.slice none 0 0, .slice none 0 0, .bool false] RS)).alloc (.cells #[] SY)).alloc (.cells #[.string ⟨#[123]⟩] SY)).alloc (.cells #[.string ⟨#[123]⟩, .string ⟨#[40]⟩] SY)) := by
  subst hp
  have a1 := h.alloc (.cells #[vt, vf, .bool due] RS)
  have a2 := a1.alloc (.cells (tokBox t) TT)
  have a3 := a2.alloc (.cells #[.slice none 0 0, .slice none 0 0, .bool false] RS)
  have a4 := a3.alloc (.cells #[] SY)
  have a5 := a4.alloc (.cells #[.string ⟨#[123]⟩] SY)
  have c1 := Box.new w #[vt, vf, .bool due] RS
  have c2 := Box.new (w.alloc (.cells #[vt, vf, .bool due] RS)) (tokBox t) TT
  have c3 := Box.new ((w.alloc (.cells #[vt, vf, .bool due] RS)).alloc (.cells (tokBox t) TT)) #[.slice none 0 0, .slice none 0 0, .bool false] RS
  have c5 := Box.new ((((w.alloc (.cells #[vt, vf, .bool due] RS)).alloc (.cells (tokBox t) TT)).alloc (.cells #[.slice none 0 0, .slice none 0 0, .bool false] RS)).alloc (.cells #[] SY)) #[.string ⟨#[123]⟩] SY
  have c6 := Box.new (((((w.alloc (.cells #[vt, vf, .bool due] RS)).alloc (.cells (tokBox t) TT)).alloc (.cells #[.slice none 0 0, .slice none 0 0, .bool false] RS)).alloc (.cells #[] SY)).alloc (.cells #[.string ⟨#[123]⟩] SY)) #[.string ⟨#[123]⟩, .string ⟨#[40]⟩] SY
  simp only [World.size_alloc] at c2 c3 c5 c6
  exact ⟨a5.alloc _, ((((((Holds.refl Z w).alloc h.zl _).alloc a1.zl _).alloc a2.zl _).alloc a3.zl _).alloc a4.zl _).alloc a5.zl _,
    ((((c1.alloc _).alloc _).alloc _).alloc _).alloc _, (((c2.alloc _).alloc _).alloc _).alloc _, ((c3.alloc _).alloc _).alloc _, c5.alloc _, c6⟩
theorem mark_shut (t : TokM) : markB t ⟨#[41]⟩ = decide (closedK t.kind t.text.data.toList = 6) ∧ markB t ⟨#[125]⟩ = decide (closedK t.kind t.text.data.toList = 7) ∧
    wordB t ⟨#[105, 110]⟩ = decide (closedK t.kind t.text.data.toList = 2) ∧ wordB t ⟨#[111, 102]⟩ = decide (closedK t.kind t.text.data.toList = 3) ∧
    wordB t ⟨#[116, 104, 101, 110]⟩ = decide (closedK t.kind t.text.data.toList = 4) ∧ wordB t ⟨#[101, 108, 115, 101]⟩ = decide (closedK t.kind t.text.data.toList = 5) := by
  have key : ∀ l : List UInt8, (t.text = ⟨l.toArray⟩) = (t.text.data.toList = l) := fun l => propext (bytes_eq _ _).symm
  unfold markB wordB closedK
  have k1 := key [41]
  have k2 := key [125]
  have k3 := key [105, 110]
  have k4 := key [111, 102]
  have k5 := key [116, 104, 101, 110]
  have k6 := key [101, 108, 115, 101]
  simp only [k1, k2, k3, k4, k5, k6]
  generalize t.text.data.toList = l
  generalize t.kind = k
  by_cases h5 : k = 5
  · subst h5
    by_cases e1 : l = [41]
    · subst e1; decide
    · by_cases e2 : l = [125]
      · subst e2; decide
      · simp [e1, e2]
  · by_cases h6 : k = 6
    · subst h6
      by_cases e1 : l = [105, 110]
      · subst e1; decide
      · by_cases e2 : l = [111, 102]
        · subst e2; decide
        · by_cases e3 : l = [116, 104, 101, 110]
          · subst e3; decide
          · by_cases e4 : l = [101, 108, 115, 101]
            · subst e4; decide
            · simp [e1, e2, e3, e4]
    · simp [h5, h6]
theorem bars2 {w : World} {p : Nat} {K : Int} (hK : 2 ≤ K ∧ K ≤ 5) (b : Box w p SY #[.string ⟨#[123]⟩, .string ⟨#[40]⟩]) : BarsAt w (.slice (some ⟨p, 0, none⟩) 2 2) (barsOf K) := by
  have e : barsOf K = [7, 6] := by unfold barsOf; rw [if_neg (by omega), if_neg (by omega)]
  rw [e]
  refine ⟨_, _, rfl, fun j hj => ⟨p, rfl, b.lt, ?_⟩⟩
  have hj : j < 2 := hj
  match j, hj with
  | 0, _ => exact b.cell 0
  | 1, _ => exact b.cell 1
theorem bars1 {w : World} {p : Nat} (b : Box w p SY #[.string ⟨#[123]⟩]) : BarsAt w (.slice (some ⟨p, 0, none⟩) 1 1) (barsOf 6) := by
  refine ⟨_, _, rfl, fun j hj => ⟨p, rfl, b.lt, ?_⟩⟩
  have hj : j < 1 := hj
  match j, hj with
  | 0, _ => exact b.cell 0
theorem bars0 {w : World} {p : Nat} : BarsAt w (.slice (some ⟨p, 0, none⟩) 0 0) (barsOf 7) := ⟨_, _, rfl, fun j hj => absurd hj (by show ¬ j < 0; omega)⟩
set_option maxRecDepth 100000 in
set_option maxHeartbeats 8000000 in
theorem rcloses_any {Z : Nat → Prop} {T : List TokM} {F : List Fr} {due : Bool} {vt vf : Value} (t : TokM) (hF : KF F) (w : World) (h : RSt Z w T F vt vf) (hn : T.length + F.length ≤ 999999999) :
    Calls Try.prog 50 #[stV vt vf due, tokVal t] w (StPost Z (ph3 t (T, F)).1 (ph3 t (T, F)).2 due w) := by
  obtain ⟨m1, m2, m3, m4, m5, m6⟩ := mark_shut t
  obtain ⟨K, hK⟩ : ∃ K, closedK t.kind t.text.data.toList = K := ⟨_, rfl⟩
  rw [hK] at m1 m2 m3 m4 m5 m6
  have HF := Lib.hid hF
  have HZ := Lib.hid h.zl
  obtain ⟨a, c, rfl⟩ := own_slice h.toks
  obtain ⟨af, cf, rfl⟩ := own_slice h.frames
  have hph : ∀ q : Nat, K ≠ 0 → findF F K F.length = q → ph3 t (T, F) = (closedT T F q t.line t.col, F.take q) := fun q h0 hq => by
    unfold ph3
    rw [hK, if_neg h0]
    simp only [hq, Int.toNat_natCast]
  have hph0 : K = 0 → ph3 t (T, F) = (T, F) := fun h0 => by unfold ph3; rw [hK, if_pos h0]
  have HPH := Lib.hid hph
  have HPH0 := Lib.hid hph0
  have hq : ∃ q : Nat, findF F K F.length = q := ⟨(findF F K F.length).toNat, by have := findF_le F K F.length (Nat.le_refl _); omega⟩
  obtain ⟨q, hq⟩ := hq
  have HQ := Lib.hid hq
  have hrange : K = 0 ∨ (2 ≤ K ∧ K ≤ 7) := by
    rw [← hK]
    unfold closedK
    repeat' split
    all_goals omega
  have M1 := Lib.hid m1
  have M2 := Lib.hid m2
  have M3 := Lib.hid m3
  have M4 := Lib.hid m4
  have M5 := Lib.hid m5
  have M6 := Lib.hid m6
  obtain ⟨p, hp⟩ : ∃ p, w.heap.size = p := ⟨_, rfl⟩
  have HP := Lib.hid hp
  have hcs := CS.start (t := t) (due := due) h hp
  obtain ⟨W0, hW0⟩ : ∃ W0, ((((((w.alloc (.cells #[.slice a T.length c, .slice af F.length cf, .bool due] RS)).alloc (.cells (tokBox t) TT)).alloc (.cells #[.slice none 0 0, .slice none 0 0, .bool false] RS)).alloc (.cells #[] SY)).alloc (.cells #[.string ⟨#[123]⟩] SY)).alloc (.cells #[.string ⟨#[123]⟩, .string ⟨#[40]⟩] SY)) = W0 := ⟨_, rfl⟩
  rw [hW0] at hcs
  have C0 := Lib.hid hcs
  have x0 := hcs.bt.cell 0
  have x1 := hcs.bt.cell 1
  have x2 := hcs.bt.cell 2
  have x3 := hcs.bt.cell 3
  have x4 := hcs.bt.cell 4
  have x5 := hcs.bt.cell 5
  clear h hF hK hph hph0 hq m1 m2 m3 m4 m5 m6 hcs
  go_enter Try.func50, Try.ntmps50
  go_wp2_with fail
  clear hW0 hp
  refine (mark_is t _ _).mono ?_
  rintro e w1 ⟨rfl, hb1⟩
  have C1 := Lib.hid (C0.out.here hb1)
  rw [M1.out]
  clear hb1 x0 x1 x2 x3 x4 x5
  have x0 := C1.out.bt.cell 0
  have x1 := C1.out.bt.cell 1
  have x2 := C1.out.bt.cell 2
  have x3 := C1.out.bt.cell 3
  have x4 := C1.out.bt.cell 4
  have x5 := C1.out.bt.cell 5
  by_cases k1 : K = 6
  · have d : decide (K = 6) = true := decide_eq_true k1
    have y0 := C1.out.bx.cell 0
    have y1 := C1.out.bx.cell 1
    have y2 := C1.out.bx.cell 2
    rw [d]
    subst k1
    clear d hrange
    go_wp2_with fail
    refine (rclosed_any (Z := Zq Z (p + 1 + 1)) (K := 6) (due := due) (ln := t.line) (col := t.col) (by omega) HF.out _ (C1.out.rs.more C1.out.bz (by decide) (by decide)) (bars1 C1.out.b1) hn HQ.out).mono ?_
    rintro e w9 ⟨vt9, vf9, rfl, hr9, hh9⟩
    have bz := (hh9.block (p + 1 + 1) (.inr rfl)).trans C1.out.bz
    have bz : Box w9 (p + 1 + 1) RS #[.slice none 0 0, .slice none 0 0, .bool false] := bz
    obtain ⟨b3, c3, rfl⟩ := own_slice hr9.toks
    obtain ⟨b4, c4, rfl⟩ := own_slice hr9.frames
    have z0 := bz.cell 0
    have z1 := bz.cell 1
    have z2 := bz.cell 2
    have e0 := bz.free 0
    have e1 := bz.free 1
    have e2 := bz.free 2
    have HBZ := Lib.hid bz
    have HR9 := Lib.hid hr9.less
    have HH9 := Lib.hid (C1.out.hh.trans hh9.less)
    obtain ⟨T9, hT9⟩ : ∃ T9, closedT T F q t.line t.col = T9 := ⟨_, rfl⟩
    obtain ⟨F9, hF9⟩ : ∃ F9, F.take q = F9 := ⟨_, rfl⟩
    rw [hT9, hF9] at HR9
    rw [hT9, hF9]
    have HT9 := Lib.hid hT9
    have HF9 := Lib.hid hF9
    clear bz hr9 hh9 x0 x1 x2 x3 x4 x5 y0 y1 y2 hT9 hF9
    go_wp2
    obtain ⟨W, hW, q0, q1, q2, r4, h4⟩ := st_out HR9.out HH9.out HBZ.out (fun hz => by have := HZ.out _ hz; have := HP.out; omega) due
    rw [hW]
    refine bodyPost_ret (v := stV (.slice b3 T9.length c3) (.slice b4 F9.length c4) due) (by simp [results, Try.results50, go_sem, q0, q1, q2]) rfl ?_
    refine ⟨_, _, rfl, ?_, h4⟩
    rw [HPH.out q (by omega) HQ.out, HT9.out, HF9.out]
    exact r4
  · have d : decide (K = 6) = false := decide_eq_false k1
    rw [d]
    clear d
    go_wp2_with fail
    refine (mark_is t _ _).mono ?_
    rintro e w2 ⟨rfl, hb2⟩
    have C2 := Lib.hid (C1.out.here hb2)
    rw [M2.out]
    clear hb2 x0 x1 x2 x3 x4 x5
    have x0 := C2.out.bt.cell 0
    have x1 := C2.out.bt.cell 1
    have x2 := C2.out.bt.cell 2
    have x3 := C2.out.bt.cell 3
    have x4 := C2.out.bt.cell 4
    have x5 := C2.out.bt.cell 5
    by_cases k2 : K = 7
    · have d : decide (K = 7) = true := decide_eq_true k2
      have y0 := C2.out.bx.cell 0
      have y1 := C2.out.bx.cell 1
      have y2 := C2.out.bx.cell 2
      rw [d]
      subst k2
      clear d hrange
      go_wp2_with fail
      refine (rclosed_any (Z := Zq Z (p + 1 + 1)) (K := 7) (due := due) (ln := t.line) (col := t.col) (by omega) HF.out _ (C2.out.rs.more C2.out.bz (by decide) (by decide)) bars0 hn HQ.out).mono ?_
      rintro e w9 ⟨vt9, vf9, rfl, hr9, hh9⟩
      have bz := (hh9.block (p + 1 + 1) (.inr rfl)).trans C2.out.bz
      have bz : Box w9 (p + 1 + 1) RS #[.slice none 0 0, .slice none 0 0, .bool false] := bz
      obtain ⟨b3, c3, rfl⟩ := own_slice hr9.toks
      obtain ⟨b4, c4, rfl⟩ := own_slice hr9.frames
      have z0 := bz.cell 0
      have z1 := bz.cell 1
      have z2 := bz.cell 2
      have e0 := bz.free 0
      have e1 := bz.free 1
      have e2 := bz.free 2
      have HBZ := Lib.hid bz
      have HR9 := Lib.hid hr9.less
      have HH9 := Lib.hid (C2.out.hh.trans hh9.less)
      obtain ⟨T9, hT9⟩ : ∃ T9, closedT T F q t.line t.col = T9 := ⟨_, rfl⟩
      obtain ⟨F9, hF9⟩ : ∃ F9, F.take q = F9 := ⟨_, rfl⟩
      rw [hT9, hF9] at HR9
      rw [hT9, hF9]
      have HT9 := Lib.hid hT9
      have HF9 := Lib.hid hF9
      clear bz hr9 hh9 x0 x1 x2 x3 x4 x5 y0 y1 y2 hT9 hF9
      go_wp2
      obtain ⟨W, hW, q0, q1, q2, r4, h4⟩ := st_out HR9.out HH9.out HBZ.out (fun hz => by have := HZ.out _ hz; have := HP.out; omega) due
      rw [hW]
      refine bodyPost_ret (v := stV (.slice b3 T9.length c3) (.slice b4 F9.length c4) due) (by simp [results, Try.results50, go_sem, q0, q1, q2]) rfl ?_
      refine ⟨_, _, rfl, ?_, h4⟩
      rw [HPH.out q (by omega) HQ.out, HT9.out, HF9.out]
      exact r4
    · have d : decide (K = 7) = false := decide_eq_false k2
      rw [d]
      clear d
      go_wp2_with fail
      refine (word_is t _ _).mono ?_
      rintro e w3 ⟨rfl, hb3⟩
      have C3 := Lib.hid (C2.out.here hb3)
      rw [M3.out]
      clear hb3 x0 x1 x2 x3 x4 x5
      have x0 := C3.out.bt.cell 0
      have x1 := C3.out.bt.cell 1
      have x2 := C3.out.bt.cell 2
      have x3 := C3.out.bt.cell 3
      have x4 := C3.out.bt.cell 4
      have x5 := C3.out.bt.cell 5
      by_cases k3 : K = 2
      · have d : decide (K = 2) = true := decide_eq_true k3
        have y0 := C3.out.bx.cell 0
        have y1 := C3.out.bx.cell 1
        have y2 := C3.out.bx.cell 2
        rw [d]
        subst k3
        clear d hrange
        go_wp2_with fail
        refine (rclosed_any (Z := Zq Z (p + 1 + 1)) (K := 2) (due := due) (ln := t.line) (col := t.col) (by omega) HF.out _ (C3.out.rs.more C3.out.bz (by decide) (by decide)) (bars2 (by omega) C3.out.b2) hn HQ.out).mono ?_
        rintro e w9 ⟨vt9, vf9, rfl, hr9, hh9⟩
        have bz := (hh9.block (p + 1 + 1) (.inr rfl)).trans C3.out.bz
        have bz : Box w9 (p + 1 + 1) RS #[.slice none 0 0, .slice none 0 0, .bool false] := bz
        obtain ⟨b3, c3, rfl⟩ := own_slice hr9.toks
        obtain ⟨b4, c4, rfl⟩ := own_slice hr9.frames
        have z0 := bz.cell 0
        have z1 := bz.cell 1
        have z2 := bz.cell 2
        have e0 := bz.free 0
        have e1 := bz.free 1
        have e2 := bz.free 2
        have HBZ := Lib.hid bz
        have HR9 := Lib.hid hr9.less
        have HH9 := Lib.hid (C3.out.hh.trans hh9.less)
        obtain ⟨T9, hT9⟩ : ∃ T9, closedT T F q t.line t.col = T9 := ⟨_, rfl⟩
        obtain ⟨F9, hF9⟩ : ∃ F9, F.take q = F9 := ⟨_, rfl⟩
        rw [hT9, hF9] at HR9
        rw [hT9, hF9]
        have HT9 := Lib.hid hT9
        have HF9 := Lib.hid hF9
        clear bz hr9 hh9 x0 x1 x2 x3 x4 x5 y0 y1 y2 hT9 hF9
        go_wp2
        obtain ⟨W, hW, q0, q1, q2, r4, h4⟩ := st_out HR9.out HH9.out HBZ.out (fun hz => by have := HZ.out _ hz; have := HP.out; omega) due
        rw [hW]
        refine bodyPost_ret (v := stV (.slice b3 T9.length c3) (.slice b4 F9.length c4) due) (by simp [results, Try.results50, go_sem, q0, q1, q2]) rfl ?_
        refine ⟨_, _, rfl, ?_, h4⟩
        rw [HPH.out q (by omega) HQ.out, HT9.out, HF9.out]
        exact r4
      · have d : decide (K = 2) = false := decide_eq_false k3
        rw [d]
        clear d
        go_wp2_with fail
        refine (word_is t _ _).mono ?_
        rintro e w4 ⟨rfl, hb4⟩
        have C4 := Lib.hid (C3.out.here hb4)
        rw [M4.out]
        clear hb4 x0 x1 x2 x3 x4 x5
        have x0 := C4.out.bt.cell 0
        have x1 := C4.out.bt.cell 1
        have x2 := C4.out.bt.cell 2
        have x3 := C4.out.bt.cell 3
        have x4 := C4.out.bt.cell 4
        have x5 := C4.out.bt.cell 5
        by_cases k4 : K = 3
        · have d : decide (K = 3) = true := decide_eq_true k4
          have y0 := C4.out.bx.cell 0
          have y1 := C4.out.bx.cell 1
          have y2 := C4.out.bx.cell 2
          rw [d]
          subst k4
          clear d hrange
          go_wp2_with fail
          refine (rclosed_any (Z := Zq Z (p + 1 + 1)) (K := 3) (due := due) (ln := t.line) (col := t.col) (by omega) HF.out _ (C4.out.rs.more C4.out.bz (by decide) (by decide)) (bars2 (by omega) C4.out.b2) hn HQ.out).mono ?_
          rintro e w9 ⟨vt9, vf9, rfl, hr9, hh9⟩
          have bz := (hh9.block (p + 1 + 1) (.inr rfl)).trans C4.out.bz
          have bz : Box w9 (p + 1 + 1) RS #[.slice none 0 0, .slice none 0 0, .bool false] := bz
          obtain ⟨b3, c3, rfl⟩ := own_slice hr9.toks
          obtain ⟨b4, c4, rfl⟩ := own_slice hr9.frames
          have z0 := bz.cell 0
          have z1 := bz.cell 1
          have z2 := bz.cell 2
          have e0 := bz.free 0
          have e1 := bz.free 1
          have e2 := bz.free 2
          have HBZ := Lib.hid bz
          have HR9 := Lib.hid hr9.less
          have HH9 := Lib.hid (C4.out.hh.trans hh9.less)
          obtain ⟨T9, hT9⟩ : ∃ T9, closedT T F q t.line t.col = T9 := ⟨_, rfl⟩
          obtain ⟨F9, hF9⟩ : ∃ F9, F.take q = F9 := ⟨_, rfl⟩
          rw [hT9, hF9] at HR9
          rw [hT9, hF9]
          have HT9 := Lib.hid hT9
          have HF9 := Lib.hid hF9
          clear bz hr9 hh9 x0 x1 x2 x3 x4 x5 y0 y1 y2 hT9 hF9
          go_wp2
          obtain ⟨W, hW, q0, q1, q2, r4, h4⟩ := st_out HR9.out HH9.out HBZ.out (fun hz => by have := HZ.out _ hz; have := HP.out; omega) due
          rw [hW]
          refine bodyPost_ret (v := stV (.slice b3 T9.length c3) (.slice b4 F9.length c4) due) (by simp [results, Try.results50, go_sem, q0, q1, q2]) rfl ?_
          refine ⟨_, _, rfl, ?_, h4⟩
          rw [HPH.out q (by omega) HQ.out, HT9.out, HF9.out]
          exact r4
        · have d : decide (K = 3) = false := decide_eq_false k4
          rw [d]
          clear d
          go_wp2_with fail
          refine (word_is t _ _).mono ?_
          rintro e w5 ⟨rfl, hb5⟩
          have C5 := Lib.hid (C4.out.here hb5)
          rw [M5.out]
          clear hb5 x0 x1 x2 x3 x4 x5
          have x0 := C5.out.bt.cell 0
          have x1 := C5.out.bt.cell 1
          have x2 := C5.out.bt.cell 2
          have x3 := C5.out.bt.cell 3
          have x4 := C5.out.bt.cell 4
          have x5 := C5.out.bt.cell 5
          by_cases k5 : K = 4
          · have d : decide (K = 4) = true := decide_eq_true k5
            have y0 := C5.out.bx.cell 0
            have y1 := C5.out.bx.cell 1
            have y2 := C5.out.bx.cell 2
            rw [d]
            subst k5
            clear d hrange
            go_wp2_with fail
            refine (rclosed_any (Z := Zq Z (p + 1 + 1)) (K := 4) (due := due) (ln := t.line) (col := t.col) (by omega) HF.out _ (C5.out.rs.more C5.out.bz (by decide) (by decide)) (bars2 (by omega) C5.out.b2) hn HQ.out).mono ?_
            rintro e w9 ⟨vt9, vf9, rfl, hr9, hh9⟩
            have bz := (hh9.block (p + 1 + 1) (.inr rfl)).trans C5.out.bz
            have bz : Box w9 (p + 1 + 1) RS #[.slice none 0 0, .slice none 0 0, .bool false] := bz
            obtain ⟨b3, c3, rfl⟩ := own_slice hr9.toks
            obtain ⟨b4, c4, rfl⟩ := own_slice hr9.frames
            have z0 := bz.cell 0
            have z1 := bz.cell 1
            have z2 := bz.cell 2
            have e0 := bz.free 0
            have e1 := bz.free 1
            have e2 := bz.free 2
            have HBZ := Lib.hid bz
            have HR9 := Lib.hid hr9.less
            have HH9 := Lib.hid (C5.out.hh.trans hh9.less)
            obtain ⟨T9, hT9⟩ : ∃ T9, closedT T F q t.line t.col = T9 := ⟨_, rfl⟩
            obtain ⟨F9, hF9⟩ : ∃ F9, F.take q = F9 := ⟨_, rfl⟩
            rw [hT9, hF9] at HR9
            rw [hT9, hF9]
            have HT9 := Lib.hid hT9
            have HF9 := Lib.hid hF9
            clear bz hr9 hh9 x0 x1 x2 x3 x4 x5 y0 y1 y2 hT9 hF9
            go_wp2
            obtain ⟨W, hW, q0, q1, q2, r4, h4⟩ := st_out HR9.out HH9.out HBZ.out (fun hz => by have := HZ.out _ hz; have := HP.out; omega) due
            rw [hW]
            refine bodyPost_ret (v := stV (.slice b3 T9.length c3) (.slice b4 F9.length c4) due) (by simp [results, Try.results50, go_sem, q0, q1, q2]) rfl ?_
            refine ⟨_, _, rfl, ?_, h4⟩
            rw [HPH.out q (by omega) HQ.out, HT9.out, HF9.out]
            exact r4
          · have d : decide (K = 4) = false := decide_eq_false k5
            rw [d]
            clear d
            go_wp2_with fail
            refine (word_is t _ _).mono ?_
            rintro e w6 ⟨rfl, hb6⟩
            have C6 := Lib.hid (C5.out.here hb6)
            rw [M6.out]
            clear hb6 x0 x1 x2 x3 x4 x5
            have x0 := C6.out.bt.cell 0
            have x1 := C6.out.bt.cell 1
            have x2 := C6.out.bt.cell 2
            have x3 := C6.out.bt.cell 3
            have x4 := C6.out.bt.cell 4
            have x5 := C6.out.bt.cell 5
            by_cases k6 : K = 5
            · have d : decide (K = 5) = true := decide_eq_true k6
              have y0 := C6.out.bx.cell 0
              have y1 := C6.out.bx.cell 1
              have y2 := C6.out.bx.cell 2
              rw [d]
              subst k6
              clear d hrange
              go_wp2_with fail
              refine (rclosed_any (Z := Zq Z (p + 1 + 1)) (K := 5) (due := due) (ln := t.line) (col := t.col) (by omega) HF.out _ (C6.out.rs.more C6.out.bz (by decide) (by decide)) (bars2 (by omega) C6.out.b2) hn HQ.out).mono ?_
              rintro e w9 ⟨vt9, vf9, rfl, hr9, hh9⟩
              have bz := (hh9.block (p + 1 + 1) (.inr rfl)).trans C6.out.bz
              have bz : Box w9 (p + 1 + 1) RS #[.slice none 0 0, .slice none 0 0, .bool false] := bz
              obtain ⟨b3, c3, rfl⟩ := own_slice hr9.toks
              obtain ⟨b4, c4, rfl⟩ := own_slice hr9.frames
              have z0 := bz.cell 0
              have z1 := bz.cell 1
              have z2 := bz.cell 2
              have e0 := bz.free 0
              have e1 := bz.free 1
              have e2 := bz.free 2
              have HBZ := Lib.hid bz
              have HR9 := Lib.hid hr9.less
              have HH9 := Lib.hid (C6.out.hh.trans hh9.less)
              obtain ⟨T9, hT9⟩ : ∃ T9, closedT T F q t.line t.col = T9 := ⟨_, rfl⟩
              obtain ⟨F9, hF9⟩ : ∃ F9, F.take q = F9 := ⟨_, rfl⟩
              rw [hT9, hF9] at HR9
              rw [hT9, hF9]
              have HT9 := Lib.hid hT9
              have HF9 := Lib.hid hF9
              clear bz hr9 hh9 x0 x1 x2 x3 x4 x5 y0 y1 y2 hT9 hF9
              go_wp2
              obtain ⟨W, hW, q0, q1, q2, r4, h4⟩ := st_out HR9.out HH9.out HBZ.out (fun hz => by have := HZ.out _ hz; have := HP.out; omega) due
              rw [hW]
              refine bodyPost_ret (v := stV (.slice b3 T9.length c3) (.slice b4 F9.length c4) due) (by simp [results, Try.results50, go_sem, q0, q1, q2]) rfl ?_
              refine ⟨_, _, rfl, ?_, h4⟩
              rw [HPH.out q (by omega) HQ.out, HT9.out, HF9.out]
              exact r4
            · have d : decide (K = 5) = false := decide_eq_false k6
              rw [d]
              clear d
              obtain rfl : K = 0 := by omega
              have y0 := C6.out.bx.cell 0
              have y1 := C6.out.bx.cell 1
              have y2 := C6.out.bx.cell 2
              have z0 := C6.out.bz.cell 0
              have z1 := C6.out.bz.cell 1
              have z2 := C6.out.bz.cell 2
              have e0 := C6.out.bz.free 0
              have e1 := C6.out.bz.free 1
              have e2 := C6.out.bz.free 2
              go_wp2
              obtain ⟨W, hW, q0, q1, q2, r4, h4⟩ := st_out C6.out.rs C6.out.hh C6.out.bz (fun hz => by have := HZ.out _ hz; have := HP.out; omega) due
              rw [hW]
              refine bodyPost_ret (v := stV (.slice a T.length c) (.slice af F.length cf) due) (by simp [results, Try.results50, go_sem, q0, q1, q2]) rfl ?_
              refine ⟨_, _, rfl, ?_, h4⟩
              rw [HPH0.out (by first | rfl | trivial)]
              exact r4
end Go.Proofs.Ytidmclaaggoahaa.Ly
