/-
  CONTRACT of the document's layout: step 4.
-/
import Derived.Test.YtidmclaaggoahaaRlE
namespace Go.Proofs.Ytidmclaaggoahaa.Ly
open Go.RowKit Pl Ar Mm Lx
set_option linter.unusedVariables false
set_option linter.unusedSimpArgs false
/-- what tells has laid: the state at p, the token, what it hands back -/
structure TSt (Z : Nat → Prop) (w : World) (p : Nat) (t : TokM) (T : List TokM) (F : List Fr) (due : Bool) (wx : World) : Prop where
  st : ∃ vt vf, RSt (Z3 Z p) wx T F vt vf ∧ Box wx p RS #[vt, vf, .bool due]
  hh : Holds Z w wx
  bt : Box wx (p + 1) TT (tokBox t)
  bz : Box wx (p + 1 + 1) RS #[.slice none 0 0, .slice none 0 0, .bool false]
theorem TSt.here {Z : Nat → Prop} {w : World} {p : Nat} {t : TokM} {T : List TokM} {F : List Fr} {due : Bool} {wx w2 : World} (h : TSt Z w p t T F due wx) (k : Below wx.heap.size wx w2) : TSt Z w p t T F due w2 := by
  obtain ⟨vt, vf, hr, hb⟩ := h.st
  exact ⟨⟨vt, vf, hr.here k, hb.below k hb.lt⟩, h.hh.here hr.three.zl k, h.bt.below k h.bt.lt, h.bz.below k h.bz.lt⟩
theorem RSt.fresh {Z : Nat → Prop} {w Y : World} {T : List TokM} {F : List Fr} {vt vf : Value} {p : Nat} (h : RSt Z w T F vt vf) (hp : w.heap.size = p) (hb : Below w.heap.size w Y) (hs : p + 1 + 1 + 1 ≤ Y.heap.size) : RSt (Z3 Z p) Y T F vt vf := by
  subst hp
  refine ⟨own_here h.toks hb, own_here h.frames hb, fun k hk hz => ?_, fun k hk hz => ?_, fun k hk => ?_⟩
  · have := (World.ownsRow.lt h.toks k hk).2
    rcases hz with ((hz | hz) | hz) | hz
    · exact h.zt k hk hz
    · omega
    · omega
    · omega
  · have := (World.ownsRow.lt h.frames k hk).2
    rcases hz with ((hz | hz) | hz) | hz
    · exact h.zf k hk hz
    · omega
    · omega
    · omega
  · rcases hk with ((hk | hk) | hk) | hk
    · have := h.zl k hk; omega
    · omega
    · omega
    · omega
theorem mark_open (t : TokM) : markB t ⟨#[40]⟩ = decide (openedK t.kind t.text.data.toList = 6) ∧ markB t ⟨#[123]⟩ = decide (openedK t.kind t.text.data.toList = 7) ∧
    wordB t ⟨#[108, 101, 116]⟩ = decide (openedK t.kind t.text.data.toList = 2) ∧ wordB t ⟨#[99, 97, 115, 101]⟩ = decide (openedK t.kind t.text.data.toList = 3) ∧
    wordB t ⟨#[105, 102]⟩ = decide (openedK t.kind t.text.data.toList = 4) ∧ wordB t ⟨#[116, 104, 101, 110]⟩ = decide (openedK t.kind t.text.data.toList = 5) := by
  have key : ∀ l : List UInt8, (t.text = ⟨l.toArray⟩) = (t.text.data.toList = l) := fun l => propext (bytes_eq _ _).symm
  unfold markB wordB openedK
  have k1 := key [40]
  have k2 := key [123]
  have k3 := key [108, 101, 116]
  have k4 := key [99, 97, 115, 101]
  have k5 := key [105, 102]
  have k6 := key [116, 104, 101, 110]
  simp only [k1, k2, k3, k4, k5, k6]
  generalize t.text.data.toList = l
  generalize t.kind = k
  by_cases h5 : k = 5
  · subst h5
    by_cases e1 : l = [40]
    · subst e1; decide
    · by_cases e2 : l = [123]
      · subst e2; decide
      · simp [e1, e2]
  · by_cases h6 : k = 6
    · subst h6
      by_cases e1 : l = [108, 101, 116]
      · subst e1; decide
      · by_cases e2 : l = [99, 97, 115, 101]
        · subst e2; decide
        · by_cases e3 : l = [105, 102]
          · subst e3; decide
          · by_cases e4 : l = [116, 104, 101, 110]
            · subst e4; decide
            · simp [e1, e2, e3, e4]
    · simp [h5, h6]
theorem open_name {t : TokM} {O : Int} (h : openedK t.kind t.text.data.toList = O) (h0 : O ≠ 0) : t.text = nm O ∧ 2 ≤ O ∧ O ≤ 7 := by
  unfold openedK at h
  have key : ∀ l : List UInt8, t.text.data.toList = l → t.text = ⟨l.toArray⟩ := fun l => (bytes_eq _ _).1
  split at h
  · split at h
    · rename_i e; subst h; exact ⟨key _ e, by omega⟩
    · split at h
      · rename_i e; subst h; exact ⟨key _ e, by omega⟩
      · exact absurd h.symm h0
  · split at h
    · split at h
      · rename_i e; subst h; exact ⟨key _ e, by omega⟩
      · split at h
        · rename_i e; subst h; exact ⟨key _ e, by omega⟩
        · split at h
          · rename_i e; subst h; exact ⟨key _ e, by omega⟩
          · split at h
            · rename_i e; subst h; exact ⟨key _ e, by omega⟩
            · exact absurd h.symm h0
    · exact absurd h.symm h0
theorem pushed_txt {Z : Nat → Prop} {T : List TokM} {F : List Fr} {due : Bool} {vt vf : Value} {text : ByteArray} (k col : Int) (ht : text = nm k) (w : World) (h : RSt Z w T F vt vf) (hn : F.length ≤ 1000000000) :
    Calls Try.prog 49 #[stV vt vf due, .string text, .int .i64 col] w (StPost Z T (F ++ [⟨k, col⟩]) due w) := by
  subst ht
  exact pushed_any k col w h hn
set_option maxRecDepth 100000 in
set_option maxHeartbeats 2000000 in
theorem rtells_any {Z : Nat → Prop} {T : List TokM} {F : List Fr} {vt vf : Value} (t : TokM) (w : World) (h : RSt Z w T F vt vf) (hn : T.length + F.length ≤ 999999999) :
    Calls Try.prog 48 #[stV vt vf false, tokVal t] w (StPost Z (ph4 t (T, F)).1 (ph4 t (T, F)).2 (dueK t.kind t.text.data.toList) w) := by
  obtain ⟨i0, hi, hz0, hz1, hz2'⟩ := info_parts Ttok
  obtain ⟨m1, m2, m3, m4, m5, m6⟩ := mark_open t
  have hdue := due_word t
  obtain ⟨O, hO⟩ : ∃ O, openedK t.kind t.text.data.toList = O := ⟨_, rfl⟩
  obtain ⟨D, hD⟩ : ∃ D, dueK t.kind t.text.data.toList = D := ⟨_, rfl⟩
  rw [hO] at m1 m2 m3 m4 m5 m6
  rw [hD] at hdue ⊢
  have hname := fun h0 : O ≠ 0 => open_name hO h0
  have hph : ph4 t (T, F) = (T ++ [t], if O = 0 then F else F ++ [⟨O, 0⟩]) := by unfold ph4; rw [hO]
  have HPH := Lib.hid hph
  have HNAME := Lib.hid hname
  have HDUE := Lib.hid hdue
  have M1 := Lib.hid m1
  have M2 := Lib.hid m2
  have M3 := Lib.hid m3
  have M4 := Lib.hid m4
  have M5 := Lib.hid m5
  have M6 := Lib.hid m6
  have hrange : O = 0 ∨ (2 ≤ O ∧ O ≤ 7) := by
    by_cases h0 : O = 0
    · exact .inl h0
    · exact .inr (hname h0).2
  obtain ⟨a, c, rfl⟩ := own_slice h.toks
  obtain ⟨af, cf, rfl⟩ := own_slice h.frames
  obtain ⟨p, hp⟩ : ∃ p, w.heap.size = p := ⟨_, rfl⟩
  have NZ := Lib.hid (show ∀ k, p ≤ k → ¬ Z k from fun k hk hz => by have := h.zl _ hz; omega)
  obtain ⟨tk0, tx, tn, tl, tc, tm⟩ := t
  obtain ⟨W0, hW0⟩ : ∃ W0, (((w.alloc (.cells #[.slice a T.length c, .slice af F.length cf, .bool false] RS)).alloc (.cells #[.int .i64 tk0, .string tx, .int .i64 tn, .int .i64 tl, .int .i64 tc, .bool tm] TT)).alloc (.cells #[.slice none 0 0, .slice none 0 0, .bool false] RS)) = W0 := ⟨_, rfl⟩
  have hx : Box W0 p RS #[.slice a T.length c, .slice af F.length cf, .bool false] := by rw [← hW0, ← hp]; exact ((Box.new _ _ _).alloc _).alloc _
  have hy : Box W0 (p + 1) TT #[.int .i64 tk0, .string tx, .int .i64 tn, .int .i64 tl, .int .i64 tc, .bool tm] := by
    rw [← hW0, ← hp]
    have := Box.new (w.alloc (.cells #[.slice a T.length c, .slice af F.length cf, .bool false] RS)) #[.int .i64 tk0, .string tx, .int .i64 tn, .int .i64 tl, .int .i64 tc, .bool tm] TT
    rw [World.size_alloc] at this
    exact this.alloc _
  have hz : Box W0 (p + 1 + 1) RS #[.slice none 0 0, .slice none 0 0, .bool false] := by
    rw [← hW0, ← hp]
    have := Box.new ((w.alloc (.cells #[.slice a T.length c, .slice af F.length cf, .bool false] RS)).alloc (.cells #[.int .i64 tk0, .string tx, .int .i64 tn, .int .i64 tl, .int .i64 tc, .bool tm] TT)) #[.slice none 0 0, .slice none 0 0, .bool false] RS
    rw [World.size_alloc, World.size_alloc] at this
    exact this
  have hsz : W0.heap.size = p + 1 + 1 + 1 := by rw [← hW0, ← hp]; simp
  have hbelow : Below w.heap.size w W0 := by rw [← hW0]; exact (((Below.refl _ _).alloc (Nat.le_refl _) _).alloc (by simp) _).alloc (by simp; omega) _
  have HR := Lib.hid (h.fresh hp hbelow (by omega))
  have HH := Lib.hid ((Holds.refl Z w).here h.zl hbelow)
  have x0 := hx.cell 0
  have x1 := hx.cell 1
  have x2 := hx.cell 2
  have y0 := hy.cell 0
  have y1 := hy.cell 1
  have y2 := hy.cell 2
  have y3 := hy.cell 3
  have y4 := hy.cell 4
  have y5 := hy.cell 5
  have HX := Lib.hid hx
  have HY := Lib.hid hy
  have HZ := Lib.hid hz
  clear m1 m2 m3 m4 m5 m6 hO hD hdue hname hph hx hy hz hbelow h
  go_enter Try.func48, Try.ntmps48
  go_wp2_with (at_builtin; refine wpList_append_lies _ rfl _ _ 22 rfl 0 35 i0 _ 6 56 Try.underlying22 hi hz0 hz1 hz2' rfl (by decide) _ _ _ rfl (HR.out.toks.alloc _) ⟨p + 1 + 1 + 1, 0, none⟩ 1 1 [.int .i64 tk0, .string tx, .int .i64 tn, .int .i64 tl, .int .i64 tc, .bool tm] rfl rfl ?c1 ?c2 (by decide) ?c3 ?c4 ?c5 _ rfl ?_)
  case c2 => exact ⟨rfl, rfl, rfl, rfl, rfl, rfl⟩
  case c3 => unfold maxLen; omega
  case c4 => omega
  all_goals try exact Nat.zero_le _
  intro g cap w2 hown hgrow hg hlt
  obtain ⟨r2, h2⟩ := (HR.out.alloc (.cells #[.int .i64 tk0, .string tx, .int .i64 tn, .int .i64 tl, .int .i64 tc, .bool tm] TT)).told (t := ⟨tk0, tx, tn, tl, tc, tm⟩) hown hgrow (hg.imp id fun e => by simp; omega)
  have bx : Box w2 p RS #[.slice a T.length c, .slice af F.length cf, .bool false] := (h2.block p (.inl (.inl (.inr rfl)))).trans (HX.out.alloc _)
  have by2 : Box w2 (p + 1) TT #[.int .i64 tk0, .string tx, .int .i64 tn, .int .i64 tl, .int .i64 tc, .bool tm] := (h2.block (p + 1) (.inl (.inr rfl))).trans (HY.out.alloc _)
  have bz : Box w2 (p + 1 + 1) RS #[.slice none 0 0, .slice none 0 0, .bool false] := (h2.block (p + 1 + 1) (.inr rfl)).trans (HZ.out.alloc _)
  have h3 : Holds Z w w2 := (HH.out.alloc (HR.out.three).zl _).trans h2.three
  have TS0 : TSt Z w p ⟨tk0, tx, tn, tl, tc, tm⟩ (T ++ [⟨tk0, tx, tn, tl, tc, tm⟩]) F false (w2.setCell ⟨p, 0, none⟩ (.slice (some ⟨g, 0, none⟩) (T.length + 1) cap)) :=
    ⟨⟨_, _, r2.put bx (by decide) (by decide) 0 _, bx.put 0 _⟩, h3.setCell (NZ.out _ (Nat.le_refl _)) _, by2.far (by simp) _, bz.far (by simp; omega) _⟩
  have x0 := bx.cell 0
  have x1 := bx.cell 1
  have x2 := bx.cell 2
  have f0 := bx.free 0
  have T0 := Lib.hid TS0
  clear hown hgrow hg r2 h2 bx by2 bz h3 TS0 y0 y1 y2 y3 y4 y5 hW0 hsz
  obtain ⟨L2, hL2⟩ : ∃ L2, T ++ [(⟨tk0, tx, tn, tl, tc, tm⟩ : TokM)] = L2 := ⟨_, rfl⟩
  rw [hL2] at T0 HPH
  clear hL2
  go_upto_region 2 with fail
  generalize w2.setCell ⟨p, 0, none⟩ (.slice (some ⟨g, 0, none⟩) (T.length + 1) cap) = W1 at T0 ⊢
  clear x0 x1 x2 f0 hlt
  go_cut [32] (fun s32 wx => s32 = .bool (decide (O ≠ 0)) ∧ TSt Z w p ⟨tk0, tx, tn, tl, tc, tm⟩ L2 F false wx)
  case first =>
    have y0 := T0.out.bt.cell 0
    have y1 := T0.out.bt.cell 1
    have y2 := T0.out.bt.cell 2
    have y3 := T0.out.bt.cell 3
    have y4 := T0.out.bt.cell 4
    have y5 := T0.out.bt.cell 5
    go_wp2_with fail
    refine (mark_is ⟨tk0, tx, tn, tl, tc, tm⟩ _ _).mono ?_
    rintro e w3 ⟨rfl, hb1⟩
    have T1 := Lib.hid (T0.out.here hb1)
    rw [M1.out]
    clear hb1 y0 y1 y2 y3 y4 y5
    by_cases k1 : O = 6
    · have d : decide (O = 6) = true := decide_eq_true k1
      rw [d]
      clear d
      go_wp2_with fail
      go_meet
      case rel => exact ⟨by rw [k1]; rfl, T1.out⟩
    · have d : decide (O = 6) = false := decide_eq_false k1
      rw [d]
      clear d
      have y0 := T1.out.bt.cell 0
      have y1 := T1.out.bt.cell 1
      have y2 := T1.out.bt.cell 2
      have y3 := T1.out.bt.cell 3
      have y4 := T1.out.bt.cell 4
      have y5 := T1.out.bt.cell 5
      go_wp2_with fail
      refine (mark_is ⟨tk0, tx, tn, tl, tc, tm⟩ _ _).mono ?_
      rintro e w4 ⟨rfl, hb2⟩
      have T2 := Lib.hid (T1.out.here hb2)
      rw [M2.out]
      clear hb2 y0 y1 y2 y3 y4 y5
      by_cases k2 : O = 7
      · have d : decide (O = 7) = true := decide_eq_true k2
        rw [d]
        clear d
        go_wp2_with fail
        go_meet
        case rel => exact ⟨by rw [k2]; rfl, T2.out⟩
      · have d : decide (O = 7) = false := decide_eq_false k2
        rw [d]
        clear d
        have y0 := T2.out.bt.cell 0
        have y1 := T2.out.bt.cell 1
        have y2 := T2.out.bt.cell 2
        have y3 := T2.out.bt.cell 3
        have y4 := T2.out.bt.cell 4
        have y5 := T2.out.bt.cell 5
        go_wp2_with fail
        refine (word_is ⟨tk0, tx, tn, tl, tc, tm⟩ _ _).mono ?_
        rintro e w5 ⟨rfl, hb3⟩
        have T3 := Lib.hid (T2.out.here hb3)
        rw [M3.out]
        clear hb3 y0 y1 y2 y3 y4 y5
        by_cases k3 : O = 2
        · have d : decide (O = 2) = true := decide_eq_true k3
          rw [d]
          clear d
          go_wp2_with fail
          go_meet
          case rel => exact ⟨by rw [k3]; rfl, T3.out⟩
        · have d : decide (O = 2) = false := decide_eq_false k3
          rw [d]
          clear d
          have y0 := T3.out.bt.cell 0
          have y1 := T3.out.bt.cell 1
          have y2 := T3.out.bt.cell 2
          have y3 := T3.out.bt.cell 3
          have y4 := T3.out.bt.cell 4
          have y5 := T3.out.bt.cell 5
          go_wp2_with fail
          refine (word_is ⟨tk0, tx, tn, tl, tc, tm⟩ _ _).mono ?_
          rintro e w6 ⟨rfl, hb4⟩
          have T4 := Lib.hid (T3.out.here hb4)
          rw [M4.out]
          clear hb4 y0 y1 y2 y3 y4 y5
          by_cases k4 : O = 3
          · have d : decide (O = 3) = true := decide_eq_true k4
            rw [d]
            clear d
            go_wp2_with fail
            go_meet
            case rel => exact ⟨by rw [k4]; rfl, T4.out⟩
          · have d : decide (O = 3) = false := decide_eq_false k4
            rw [d]
            clear d
            have y0 := T4.out.bt.cell 0
            have y1 := T4.out.bt.cell 1
            have y2 := T4.out.bt.cell 2
            have y3 := T4.out.bt.cell 3
            have y4 := T4.out.bt.cell 4
            have y5 := T4.out.bt.cell 5
            go_wp2_with fail
            refine (word_is ⟨tk0, tx, tn, tl, tc, tm⟩ _ _).mono ?_
            rintro e w7 ⟨rfl, hb5⟩
            have T5 := Lib.hid (T4.out.here hb5)
            rw [M5.out]
            clear hb5 y0 y1 y2 y3 y4 y5
            by_cases k5 : O = 4
            · have d : decide (O = 4) = true := decide_eq_true k5
              rw [d]
              clear d
              go_wp2_with fail
              go_meet
              case rel => exact ⟨by rw [k5]; rfl, T5.out⟩
            · have d : decide (O = 4) = false := decide_eq_false k5
              rw [d]
              clear d
              have y0 := T5.out.bt.cell 0
              have y1 := T5.out.bt.cell 1
              have y2 := T5.out.bt.cell 2
              have y3 := T5.out.bt.cell 3
              have y4 := T5.out.bt.cell 4
              have y5 := T5.out.bt.cell 5
              go_wp2_with fail
              refine (word_is ⟨tk0, tx, tn, tl, tc, tm⟩ _ _).mono ?_
              rintro e w8 ⟨rfl, hb6⟩
              have T6 := Lib.hid (T5.out.here hb6)
              rw [M6.out]
              clear hb6 y0 y1 y2 y3 y4 y5
              by_cases k6 : O = 5
              · have d : decide (O = 5) = true := decide_eq_true k6
                rw [d]
                clear d
                go_wp2_with fail
                go_meet
                case rel => exact ⟨by rw [k6]; rfl, T6.out⟩
              · have d : decide (O = 5) = false := decide_eq_false k6
                rw [d]
                clear d
                obtain rfl : O = 0 := by omega
                go_wp2_with fail
                go_meet
                case rel => exact ⟨rfl, T6.out⟩
  case rest =>
    obtain ⟨e, h4⟩ := hcut
    subst e
    clear T0
    have T0 := Lib.hid h4
    clear h4
    go_upto_if 32 with fail
    go_cut [] (fun wx => TSt Z w p ⟨tk0, tx, tn, tl, tc, tm⟩ L2 (if O = 0 then F else F ++ [⟨O, 0⟩]) false wx)
    case first =>
      by_cases h0 : O = 0
      · subst h0
        go_wp2_with fail
        go_meet
        case rel => exact T0.out
      · have d : decide (O ≠ 0) = true := decide_eq_true h0
        rw [d]
        obtain ⟨vt1, vf1, hr1, hb1⟩ := T0.out.st
        have x0 := hb1.cell 0
        have x1 := hb1.cell 1
        have x2 := hb1.cell 2
        have y1 := T0.out.bt.cell 1
        have HNM := Lib.hid (show tx = nm O from (HNAME.out h0).1)
        have HB1 := Lib.hid hb1
        have HR1 := Lib.hid hr1
        clear d hb1 hr1
        go_wp2_with fail
        refine (pushed_txt (Z := Z3 Z p) (due := false) O 0 HNM.out _ HR1.out (by omega)).mono ?_
        rintro e w9 ⟨vt9, vf9, rfl, hr9, hh9⟩
        have bx : Box w9 p RS _ := (hh9.block p (.inl (.inl (.inr rfl)))).trans HB1.out
        have by2 : Box w9 (p + 1) TT _ := (hh9.block (p + 1) (.inl (.inr rfl))).trans T0.out.bt
        have bz : Box w9 (p + 1 + 1) RS _ := (hh9.block (p + 1 + 1) (.inr rfl)).trans T0.out.bz
        obtain ⟨b3, c3, rfl⟩ := own_slice hr9.toks
        obtain ⟨b4, c4, rfl⟩ := own_slice hr9.frames
        have z0 := bx.cell 0
        have z1 := bx.cell 1
        have z2 := bx.cell 2
        have e0 := bx.free 0
        have e1 := bx.free 1
        have e2 := bx.free 2
        obtain ⟨k1, k2, k3, k4⟩ := st_put hr9 bx false
        have T1 := Lib.hid (show TSt Z w p ⟨tk0, tx, tn, tl, tc, tm⟩ L2 (F ++ [⟨O, 0⟩]) false _ from ⟨⟨_, _, k2, k1⟩, k4 _ _ (T0.out.hh.trans hh9.three) (NZ.out _ (Nat.le_refl _)), k3 _ _ _ by2 (by omega), k3 _ _ _ bz (by omega)⟩)
        obtain ⟨F9, hF9⟩ : ∃ F9, F ++ [(⟨O, 0⟩ : Fr)] = F9 := ⟨_, rfl⟩
        rw [hF9] at T1 ⊢
        have HF9 := Lib.hid hF9
        clear bx by2 bz hr9 hh9 k1 k2 k3 k4 x0 x1 x2 y1 hF9
        go_wp2_with fail
        go_meet
        case rel => rw [if_neg h0, HF9.out]; exact T1.out
    case rest =>
      clear T0
      have T0 := Lib.hid hcut
      obtain ⟨F2, hF2⟩ : ∃ F2, (if O = 0 then F else F ++ [⟨O, 0⟩]) = F2 := ⟨_, rfl⟩
      rw [hF2] at T0 HPH
      clear hcut hF2
      have y0 := T0.out.bt.cell 0
      have y1 := T0.out.bt.cell 1
      have y2 := T0.out.bt.cell 2
      have y3 := T0.out.bt.cell 3
      have y4 := T0.out.bt.cell 4
      have y5 := T0.out.bt.cell 5
      go_wp2_with fail
      refine (word_is ⟨tk0, tx, tn, tl, tc, tm⟩ _ _).mono ?_
      rintro e w3 ⟨rfl, hb1⟩
      have T1 := Lib.hid (T0.out.here hb1)
      obtain ⟨A, hA⟩ : ∃ A, wordB ⟨tk0, tx, tn, tl, tc, tm⟩ ⟨#[108, 101, 116]⟩ = A := ⟨_, rfl⟩
      rw [hA] at HDUE ⊢
      clear hb1 hA y0 y1 y2 y3 y4 y5
      cases A with
      | true =>
        have hd : D = true := by rw [← HDUE.out]; rfl
        obtain ⟨vt1, vf1, hr1, hb1⟩ := T1.out.st
        obtain ⟨b3, c3, rfl⟩ := own_slice hr1.toks
        obtain ⟨b4, c4, rfl⟩ := own_slice hr1.frames
        have x0 := hb1.cell 0
        have x1 := hb1.cell 1
        have x2 := hb1.cell 2
        have g2 := hb1.free 2
        have z0 := T1.out.bz.cell 0
        have z1 := T1.out.bz.cell 1
        have z2 := T1.out.bz.cell 2
        have e0 := T1.out.bz.free 0
        have e1 := T1.out.bz.free 1
        have e2 := T1.out.bz.free 2
        have HB1 := Lib.hid hb1
        have HR1 := Lib.hid hr1
        have HE := Lib.hid hd
        clear hb1 hr1 hd
        go_wp2
        have r3 := HR1.out.put HB1.out (by decide) (by decide) 2 (.bool true)
        have b5 := T1.out.bz.far (a := ⟨p, 2, none⟩) (by simp; omega) (.bool true)
        have h3 := T1.out.hh.setCell (a := ⟨p, 2, none⟩) (NZ.out _ (Nat.le_refl _)) (.bool true)
        obtain ⟨W, hW, q0, q1, q2, r4, h4⟩ := st_out r3.three h3 b5 (NZ.out _ (by omega)) true
        rw [hW]
        refine bodyPost_ret (v := stV (.slice b3 L2.length c3) (.slice b4 F2.length c4) true) (by simp [results, Try.results48, go_sem, q0, q1, q2]) rfl ?_
        exact ⟨_, _, by rw [HE.out], by rw [HPH.out]; exact r4, h4⟩
      | false =>
        have y0 := T1.out.bt.cell 0
        have y1 := T1.out.bt.cell 1
        have y2 := T1.out.bt.cell 2
        have y3 := T1.out.bt.cell 3
        have y4 := T1.out.bt.cell 4
        have y5 := T1.out.bt.cell 5
        go_wp2_with fail
        refine (word_is ⟨tk0, tx, tn, tl, tc, tm⟩ _ _).mono ?_
        rintro e w4 ⟨rfl, hb1⟩
        have T2 := Lib.hid (T1.out.here hb1)
        obtain ⟨A, hA⟩ : ∃ A, wordB ⟨tk0, tx, tn, tl, tc, tm⟩ ⟨#[111, 102]⟩ = A := ⟨_, rfl⟩
        rw [hA] at HDUE ⊢
        clear hb1 hA y0 y1 y2 y3 y4 y5
        cases A with
        | true =>
          have hd : D = true := by rw [← HDUE.out]; rfl
          obtain ⟨vt1, vf1, hr1, hb1⟩ := T2.out.st
          obtain ⟨b3, c3, rfl⟩ := own_slice hr1.toks
          obtain ⟨b4, c4, rfl⟩ := own_slice hr1.frames
          have x0 := hb1.cell 0
          have x1 := hb1.cell 1
          have x2 := hb1.cell 2
          have g2 := hb1.free 2
          have z0 := T2.out.bz.cell 0
          have z1 := T2.out.bz.cell 1
          have z2 := T2.out.bz.cell 2
          have e0 := T2.out.bz.free 0
          have e1 := T2.out.bz.free 1
          have e2 := T2.out.bz.free 2
          have HB1 := Lib.hid hb1
          have HR1 := Lib.hid hr1
          have HE := Lib.hid hd
          clear hb1 hr1 hd
          go_wp2
          have r3 := HR1.out.put HB1.out (by decide) (by decide) 2 (.bool true)
          have b5 := T2.out.bz.far (a := ⟨p, 2, none⟩) (by simp; omega) (.bool true)
          have h3 := T2.out.hh.setCell (a := ⟨p, 2, none⟩) (NZ.out _ (Nat.le_refl _)) (.bool true)
          obtain ⟨W, hW, q0, q1, q2, r4, h4⟩ := st_out r3.three h3 b5 (NZ.out _ (by omega)) true
          rw [hW]
          refine bodyPost_ret (v := stV (.slice b3 L2.length c3) (.slice b4 F2.length c4) true) (by simp [results, Try.results48, go_sem, q0, q1, q2]) rfl ?_
          exact ⟨_, _, by rw [HE.out], by rw [HPH.out]; exact r4, h4⟩
        | false =>
          have hd : D = false := by rw [← HDUE.out]; rfl
          obtain ⟨vt1, vf1, hr1, hb1⟩ := T2.out.st
          obtain ⟨b3, c3, rfl⟩ := own_slice hr1.toks
          obtain ⟨b4, c4, rfl⟩ := own_slice hr1.frames
          have x0 := hb1.cell 0
          have x1 := hb1.cell 1
          have x2 := hb1.cell 2
          have g2 := hb1.free 2
          have z0 := T2.out.bz.cell 0
          have z1 := T2.out.bz.cell 1
          have z2 := T2.out.bz.cell 2
          have e0 := T2.out.bz.free 0
          have e1 := T2.out.bz.free 1
          have e2 := T2.out.bz.free 2
          have HB1 := Lib.hid hb1
          have HR1 := Lib.hid hr1
          have HE := Lib.hid hd
          clear hb1 hr1 hd
          go_wp2
          obtain ⟨W, hW, q0, q1, q2, r4, h4⟩ := st_out HR1.out.three T2.out.hh T2.out.bz (NZ.out _ (by omega)) false
          rw [hW]
          refine bodyPost_ret (v := stV (.slice b3 L2.length c3) (.slice b4 F2.length c4) false) (by simp [results, Try.results48, go_sem, q0, q1, q2]) rfl ?_
          exact ⟨_, _, by rw [HE.out], by rw [HPH.out]; exact r4, h4⟩
end Go.Proofs.Ytidmclaaggoahaa.Ly
