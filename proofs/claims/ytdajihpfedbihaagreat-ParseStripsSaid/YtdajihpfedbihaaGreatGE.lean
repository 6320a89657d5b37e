/-
  CONTRACTS of layer parse: a pattern of one piece is read.
-/
import Derived.Test.YtdajihpfedbihaaGreatGD

namespace Go.Proofs.YtdajihpfedbihaaGreat.Pa
open Go.RowKit Mm Tm Pm
set_option linter.unusedVariables false
set_option linter.unusedSimpArgs false
abbrev TPt : TypeId := 83
abbrev ptV (x : Pm.Pt) (a : Option Addr) (c : Nat) : Value := .agg #[.int .i64 x.kd, .string x.nm, .int .i64 x.n, .slice a x.args.len c, .int .i64 x.ln, .int .i64 x.col]
abbrev zPt : Obj := .cells #[.int .i64 0, .string ByteArray.empty, .int .i64 0, .slice none 0 0, .int .i64 0, .int .i64 0] TPt
abbrev oPt (x : Pm.Pt) (a : Option Addr) (c : Nat) : Obj := .cells #[.int .i64 x.kd, .string x.nm, .int .i64 x.n, .slice a x.args.len c, .int .i64 x.ln, .int .i64 x.col] TPt
/-- a pattern that was read: its own row lies in blocks from B on -/
def PtOk (B : Nat) (w : World) (x : Pm.Pt) (a : Option Addr) : Prop := RdP (fun b => B ≤ b ∧ b < w.heap.size ∧ TyB TPt w b) w a x.args 0 ∧ x.nm.size ≤ 9223372036854775807 ∧ x.args.len * 72 ≤ 140737488355328
def PtPost (N pb : Nat) (fv : Value) (r : Pm.Pt × Pp) (w : World) (e : Ending) (w' : World) : Prop := ∃ a c, e = .returned (ptV r.1 a c) ∧ PtOk w.heap.size w' r.1 a ∧ PS N w' pb r.2 fv ∧ KP pb w w'
def PtsPost (N pb : Nat) (fv : Value) (r : List Pm.Pt × Pp) (w : World) (e : Ending) (w' : World) : Prop := ∃ a c, e = .returned (.slice a r.1.length c) ∧ OwnP w.heap.size TPt w' (.slice a r.1.length c) r.1 ∧ PS N w' pb r.2 fv ∧ KP pb w w' ∧ r.1.length ≤ 100000000
theorem tok_text2 (t : Tk) (w : World) : (Instr.field 54 (.agg #[.int .i64 t.kind, .string (toB t.text), .int .i64 t.n, .int .i64 t.ln, .int .i64 t.col, .bool t.made]) 1).run Tryz.prog w = .ok (.string (toB t.text)) w := by kernel_rfl
theorem tok_n2 (t : Tk) (w : World) : (Instr.field 54 (.agg #[.int .i64 t.kind, .string (toB t.text), .int .i64 t.n, .int .i64 t.ln, .int .i64 t.col, .bool t.made]) 2).run Tryz.prog w = .ok (.int .i64 t.n) w := by kernel_rfl
theorem zbpt (w : World) : Box (w.alloc zPt) w.heap.size TPt #[.int .i64 0, .string ByteArray.empty, .int .i64 0, .slice none 0 0, .int .i64 0, .int .i64 0] := Box.new w _ _
theorem PtOk.nil (B : Nat) (w : World) (k n : Int) (nm : ByteArray) (l c : Int) (h : nm.size ≤ 9223372036854775807) : PtOk B w ⟨k, n, nm, .nil, l, c⟩ none := ⟨trivial, h, by simp [Pts.len]⟩
theorem PtOk.frame {B : Nat} {w w' : World} {x : Pm.Pt} {a : Option Addr} {X : Nat → Prop} (h : PtOk B w x a) (hk : Kept X w w') (hX : ∀ b, X b → B ≤ b → ¬ TyB TPt w b) : PtOk B w' x a := by
  obtain ⟨h1, h2⟩ := h
  have hb : ∀ b, B ≤ b ∧ b < w.heap.size ∧ TyB TPt w b → w'.heap[b]? = w.heap[b]? := fun b q => hk.block b q.2.1 fun e => hX b e q.1 q.2.2
  exact ⟨h1.frame (fun b o hz => World.cell?_of_block (hb b hz)) (fun ad hz => World.cell?_of_block (hb _ hz)) fun b hz => ⟨hz.1, Nat.lt_of_lt_of_le hz.2.1 hk.size, hz.2.2.same (hb b hz)⟩, h2⟩
theorem PtOk.base {B B' : Nat} {w : World} {x : Pm.Pt} {a : Option Addr} (h : PtOk B w x a) (hB : B' ≤ B) : PtOk B' w x a := ⟨h.1.mono fun b hz => ⟨Nat.le_trans hB hz.1, hz.2⟩, h.2⟩
section
variable {d : Nat} {p : Pp}
theorem apat_name (h : p.next.kind = 1) : apat (d + 1) p = some (⟨2, 0, toB p.next.text, .nil, p.next.ln, p.next.col⟩, p.take.2) := by rw [apat]; dsimp only; rw [if_pos h]; rfl
theorem apat_con (h1 : ¬ p.next.kind = 1) (h : p.next.kind = 2) : apat (d + 1) p = some (⟨4, 0, toB p.next.text, .nil, p.next.ln, p.next.col⟩, p.take.2) := by rw [apat]; dsimp only; rw [if_neg h1, if_pos h]; rfl
theorem apat_int (h1 : ¬ p.next.kind = 1) (h2 : ¬ p.next.kind = 2) (h : p.next.kind = 4) : apat (d + 1) p = some (⟨3, p.number.1.n, ByteArray.empty, .nil, p.next.ln, p.next.col⟩, p.number.2) := by rw [apat]; dsimp only; rw [if_neg h1, if_neg h2, if_pos h]; rfl
theorem apat_us (h1 : ¬ p.next.kind = 1) (h2 : ¬ p.next.kind = 2) (h4 : ¬ p.next.kind = 4) (h : isMark p.next "_" = true) : apat (d + 1) p = some (⟨1, 0, ByteArray.empty, .nil, 0, 0⟩, p.take.2) := by rw [apat]; dsimp only; rw [if_neg h1, if_neg h2, if_neg h4, if_pos h]; rfl
theorem apat_no (h1 : ¬ p.next.kind = 1) (h2 : ¬ p.next.kind = 2) (h4 : ¬ p.next.kind = 4) (h : isMark p.next "_" = false) (hm : (p.mark "(").1 = false) : apat (d + 1) p = some (⟨0, 0, ByteArray.empty, .nil, 0, 0⟩, (p.mark "(").2) := by
  rw [apat]; dsimp only; rw [if_neg h1, if_neg h2, if_neg h4, if_neg (by rw [h]; simp)]; simp only [hm]; rfl
theorem apat_neg (h1 : ¬ p.next.kind = 1) (h2 : ¬ p.next.kind = 2) (h4 : ¬ p.next.kind = 4) (h : isMark p.next "_" = false) (hm : (p.mark "(").1 = true) (hk : (p.mark "(").2.next.kind = 3 ∧ (p.mark "(").2.next.text = str "-") : apat (d + 1) p = some (⟨3, (p.mark "(").2.take.2.below.1.n, ByteArray.empty, .nil, (p.mark "(").2.take.2.below.1.ln, (p.mark "(").2.take.2.below.1.col⟩, (p.mark "(").2.take.2.below.2) := by
  rw [apat]; dsimp only; rw [if_neg h1, if_neg h2, if_neg h4, if_neg (by rw [h]; simp)]; simp only [hm]; rw [if_pos trivial, if_pos hk]; rfl
theorem apat_in (h1 : ¬ p.next.kind = 1) (h2 : ¬ p.next.kind = 2) (h4 : ¬ p.next.kind = 4) (h : isMark p.next "_" = false) (hm : (p.mark "(").1 = true) (hk : ¬ ((p.mark "(").2.next.kind = 3 ∧ (p.mark "(").2.next.text = str "-")) : apat (d + 1) p = (pat d (p.mark "(").2).bind fun r => some (r.1, (r.2.mark ")").2) := by
  rw [apat]; dsimp only; rw [if_neg h1, if_neg h2, if_neg h4, if_neg (by rw [h]; simp)]; simp only [hm]; rw [if_pos trivial, if_neg hk]; rfl
end
set_option maxRecDepth 100000 in
set_option maxHeartbeats 4000000 in
theorem apat_any {N pb d : Nat} {p : Pp} {fv : Value} {r : Pm.Pt × Pp} (w : World) (h : PS N w pb p fv) (hd : apat (d + 1) p = some r)
    (ih : ∀ p r w, pat d p = some r → PS N w pb p fv → Calls Tryz.prog 140 #[.pointer (some ⟨pb, 0, none⟩)] w (PtPost N pb fv r w)) :
    Calls Tryz.prog 116 #[.pointer (some ⟨pb, 0, none⟩)] w (PtPost N pb fv r w) := by
  have HP := Lib.hid h
  have HB0 := Lib.hid ((Below.refl w.heap.size w).alloc (Nat.le_refl _) zPt)
  have HX0 := Lib.hid (zbpt w)
  have HN := Lib.hid (next_any (w.alloc zPt) (h.below HB0.out))
  have HNE := Lib.hid (show w.heap.size ≠ pb by have := h.lt; have := h.size; omega)
  have HTX := Lib.hid (show (toB p.next.text).size ≤ 9223372036854775807 by rw [toB_size]; exact h.text)
  clear h
  by_cases k1 : p.next.kind = 1
  · have q1 : (p.next.kind == 1) = true := by simpa using k1
    have HE := Lib.hid (Option.some.inj ((apat_name k1).symm.trans hd))
    have HF := Lib.hid (take_fst p)
    clear k1 hd ih
    go_enter Tryz.func116, Tryz.ntmps116
    go_wp2_with fail
    refine HN.out.mono ?_
    rintro e w1 ⟨rfl, hb1⟩
    have hB1 := (HB0.out.trans (hb1.mono (by simp))).alloc (by have := hb1.size; rw [World.size_alloc] at this; omega) (oTok p.next)
    have HX1 := Lib.hid ((HX0.out.below hb1 (by simp)).alloc (oTok p.next))
    have HY1 := Lib.hid (Box.new w1 #[.int .i64 p.next.kind, .string (toB p.next.text), .int .i64 p.next.n, .int .i64 p.next.ln, .int .i64 p.next.col, .bool p.next.made] TTok)
    have HP1 := Lib.hid (HP.out.below hB1)
    have HZ1 := Lib.hid (show w.heap.size + 1 ≤ w1.heap.size by have := hb1.size; rwa [World.size_alloc] at this)
    have HB1 := Lib.hid hB1
    have HNT := Lib.hid (show w1.heap.size ≠ pb by have := HP.out.lt; have := HP.out.size; have := HZ1.out; omega)
    clear hb1 hB1

    have HT := Lib.hid (take_any (w1.alloc (oTok p.next)).drew (HP1.out.below (Below.drew (Below.refl _ _))))
    obtain ⟨u0, u1, u2, u3, u4, u5⟩ := cells6 HY1.out
    go_wp2_with fail
    go_region_held3 (fun w' => w'.cell? ⟨w1.heap.size, 3, none⟩ = some (.int .i64 p.next.ln) ∧ w'.cell? ⟨w1.heap.size, 4, none⟩ = some (.int .i64 p.next.col))
      (first
        | exact ⟨u3, u4⟩
        | exact ⟨m3, m4⟩
        | (rw [hV]; exact ⟨o3, o4⟩)
        | exact ⟨o3, o4⟩)
      (first
        | (go_at_call 84; refine HT.out.mono ?_; rintro e w2 ⟨rfl, hp2, hk2⟩; rw [HF.out]; unfold tokV; have hf := tok_text2 p.next; have hX2 := hk2.box HX1.out.drew HNE.out; have hY2 := hk2.box HY1.out.drew HNT.out; obtain ⟨m0, m1, m2, m3, m4, m5⟩ := cells6 hY2; obtain ⟨z0, z1, z2, z3, z4, z5⟩ := cells6 hX2; obtain ⟨y0, y1, y2, y3, y4, y5⟩ := free6 hX2; obtain ⟨V, hV, hvb, hvw⟩ := write6 hX2 (.int .i64 2) (.string (toB p.next.text)) (.int .i64 0) (.slice none 0 0) (.int .i64 p.next.ln) (.int .i64 p.next.col); have hY3 := hY2.wrote hvw (Nat.ne_of_gt HZ1.out); obtain ⟨o0, o1, o2, o3, o4, o5⟩ := cells6 hY3; have HVB := Lib.hid hvb; have HVW := Lib.hid hvw; have HP2 := Lib.hid hp2; have HK2 := Lib.hid (((Kept.of_below HB1.out (Nat.le_refl _) (fun b => b = pb)).drew).trans hk2); clear hp2 hk2 hX2 hY2 hY3 hvb hvw))
    go_wp2_with fail

    obtain ⟨v0, v1, v2, v3, v4, v5⟩ := cells6 HVB.out
    refine bodyPost_ret (v := ptV ⟨2, 0, toB p.next.text, .nil, p.next.ln, p.next.col⟩ none 0) (by simp [results, Tryz.results116, go_sem, v0, v1, v2, v3, v4, v5, Pts.len]) rfl ?_
    rw [← HE.out]
    exact ⟨none, 0, rfl, PtOk.nil _ _ _ _ _ _ _ HTX.out, HP2.out.frame (X := fun b => b = w.heap.size) (kept_wrote (Kept.refl (fun b => b = w.heap.size) _) HVW.out fun _ => rfl) (fun b e => by have := HP.out.size; omega), kept_wrote HK2.out HVW.out (fun q => absurd q (Nat.lt_irrefl _))⟩
  · have q1 : (p.next.kind == 1) = false := by simpa using k1
    by_cases k2 : p.next.kind = 2
    · have q2 : (p.next.kind == 2) = true := by simpa using k2
      have HE := Lib.hid (Option.some.inj ((apat_con k1 k2).symm.trans hd))
      have HF := Lib.hid (take_fst p)
      clear k1 k2 hd ih
      go_enter Tryz.func116, Tryz.ntmps116
      go_wp2_with fail
      refine HN.out.mono ?_
      rintro e w1 ⟨rfl, hb1⟩
      have hB1 := (HB0.out.trans (hb1.mono (by simp))).alloc (by have := hb1.size; rw [World.size_alloc] at this; omega) (oTok p.next)
      have HX1 := Lib.hid ((HX0.out.below hb1 (by simp)).alloc (oTok p.next))
      have HY1 := Lib.hid (Box.new w1 #[.int .i64 p.next.kind, .string (toB p.next.text), .int .i64 p.next.n, .int .i64 p.next.ln, .int .i64 p.next.col, .bool p.next.made] TTok)
      have HP1 := Lib.hid (HP.out.below hB1)
      have HZ1 := Lib.hid (show w.heap.size + 1 ≤ w1.heap.size by have := hb1.size; rwa [World.size_alloc] at this)
      have HB1 := Lib.hid hB1
      have HNT := Lib.hid (show w1.heap.size ≠ pb by have := HP.out.lt; have := HP.out.size; have := HZ1.out; omega)
      clear hb1 hB1

      have HT := Lib.hid (take_any (w1.alloc (oTok p.next)).drew (HP1.out.below (Below.drew (Below.refl _ _))))
      obtain ⟨u0, u1, u2, u3, u4, u5⟩ := cells6 HY1.out
      go_wp2_with fail
      go_region_held3 (fun w' => w'.cell? ⟨w1.heap.size, 3, none⟩ = some (.int .i64 p.next.ln) ∧ w'.cell? ⟨w1.heap.size, 4, none⟩ = some (.int .i64 p.next.col))
        (first
          | exact ⟨u3, u4⟩
          | exact ⟨m3, m4⟩
          | (rw [hV]; exact ⟨o3, o4⟩)
          | exact ⟨o3, o4⟩)
        (first
          | (go_at_call 84; refine HT.out.mono ?_; rintro e w2 ⟨rfl, hp2, hk2⟩; rw [HF.out]; unfold tokV; have hf := tok_text2 p.next; have hX2 := hk2.box HX1.out.drew HNE.out; have hY2 := hk2.box HY1.out.drew HNT.out; obtain ⟨m0, m1, m2, m3, m4, m5⟩ := cells6 hY2; obtain ⟨z0, z1, z2, z3, z4, z5⟩ := cells6 hX2; obtain ⟨y0, y1, y2, y3, y4, y5⟩ := free6 hX2; obtain ⟨V, hV, hvb, hvw⟩ := write6 hX2 (.int .i64 4) (.string (toB p.next.text)) (.int .i64 0) (.slice none 0 0) (.int .i64 p.next.ln) (.int .i64 p.next.col); have hY3 := hY2.wrote hvw (Nat.ne_of_gt HZ1.out); obtain ⟨o0, o1, o2, o3, o4, o5⟩ := cells6 hY3; have HVB := Lib.hid hvb; have HVW := Lib.hid hvw; have HP2 := Lib.hid hp2; have HK2 := Lib.hid (((Kept.of_below HB1.out (Nat.le_refl _) (fun b => b = pb)).drew).trans hk2); clear hp2 hk2 hX2 hY2 hY3 hvb hvw))
      go_wp2_with fail

      obtain ⟨v0, v1, v2, v3, v4, v5⟩ := cells6 HVB.out
      refine bodyPost_ret (v := ptV ⟨4, 0, toB p.next.text, .nil, p.next.ln, p.next.col⟩ none 0) (by simp [results, Tryz.results116, go_sem, v0, v1, v2, v3, v4, v5, Pts.len]) rfl ?_
      rw [← HE.out]
      exact ⟨none, 0, rfl, PtOk.nil _ _ _ _ _ _ _ HTX.out, HP2.out.frame (X := fun b => b = w.heap.size) (kept_wrote (Kept.refl (fun b => b = w.heap.size) _) HVW.out fun _ => rfl) (fun b e => by have := HP.out.size; omega), kept_wrote HK2.out HVW.out (fun q => absurd q (Nat.lt_irrefl _))⟩
    · have q2 : (p.next.kind == 2) = false := by simpa using k2
      by_cases k4 : p.next.kind = 4
      · have q4 : (p.next.kind == 4) = true := by simpa using k4
        have HE := Lib.hid (Option.some.inj ((apat_int k1 k2 k4).symm.trans hd))
        clear k1 k2 k4 hd ih
        go_enter Tryz.func116, Tryz.ntmps116
        go_wp2_with fail
        refine HN.out.mono ?_
        rintro e w1 ⟨rfl, hb1⟩
        have hB1 := (HB0.out.trans (hb1.mono (by simp))).alloc (by have := hb1.size; rw [World.size_alloc] at this; omega) (oTok p.next)
        have HX1 := Lib.hid ((HX0.out.below hb1 (by simp)).alloc (oTok p.next))
        have HY1 := Lib.hid (Box.new w1 #[.int .i64 p.next.kind, .string (toB p.next.text), .int .i64 p.next.n, .int .i64 p.next.ln, .int .i64 p.next.col, .bool p.next.made] TTok)
        have HP1 := Lib.hid (HP.out.below hB1)
        have HZ1 := Lib.hid (show w.heap.size + 1 ≤ w1.heap.size by have := hb1.size; rwa [World.size_alloc] at this)
        have HB1 := Lib.hid hB1
        have HNT := Lib.hid (show w1.heap.size ≠ pb by have := HP.out.lt; have := HP.out.size; have := HZ1.out; omega)
        clear hb1 hB1

        have HT := Lib.hid (number_any (w1.alloc (oTok p.next)).drew (HP1.out.below (Below.drew (Below.refl _ _))))
        obtain ⟨u0, u1, u2, u3, u4, u5⟩ := cells6 HY1.out
        go_wp2_with fail
        go_region_held3 (fun w' => w'.cell? ⟨w1.heap.size, 3, none⟩ = some (.int .i64 p.next.ln) ∧ w'.cell? ⟨w1.heap.size, 4, none⟩ = some (.int .i64 p.next.col))
          (first
            | exact ⟨u3, u4⟩
            | exact ⟨m3, m4⟩
            | (rw [hV]; exact ⟨o3, o4⟩)
            | exact ⟨o3, o4⟩)
          (first
            | (go_at_call 138; refine HT.out.mono ?_; rintro e w2 ⟨rfl, hp2, hk2⟩; unfold tokV; have hf := tok_n2 p.number.1; have hX2 := hk2.box HX1.out.drew HNE.out; have hY2 := hk2.box HY1.out.drew HNT.out; obtain ⟨m0, m1, m2, m3, m4, m5⟩ := cells6 hY2; obtain ⟨z0, z1, z2, z3, z4, z5⟩ := cells6 hX2; obtain ⟨y0, y1, y2, y3, y4, y5⟩ := free6 hX2; obtain ⟨V, hV, hvb, hvw⟩ := write6 hX2 (.int .i64 3) (.string ⟨#[]⟩) (.int .i64 p.number.1.n) (.slice none 0 0) (.int .i64 p.next.ln) (.int .i64 p.next.col); have hY3 := hY2.wrote hvw (Nat.ne_of_gt HZ1.out); obtain ⟨o0, o1, o2, o3, o4, o5⟩ := cells6 hY3; have HVB := Lib.hid hvb; have HVW := Lib.hid hvw; have HP2 := Lib.hid hp2; have HK2 := Lib.hid (((Kept.of_below HB1.out (Nat.le_refl _) (fun b => b = pb)).drew).trans hk2); clear hp2 hk2 hX2 hY2 hY3 hvb hvw))
        go_wp2_with fail

        obtain ⟨v0, v1, v2, v3, v4, v5⟩ := cells6 HVB.out
        refine bodyPost_ret (v := ptV ⟨3, p.number.1.n, ByteArray.empty, .nil, p.next.ln, p.next.col⟩ none 0) (by simp [results, Tryz.results116, go_sem, v0, v1, v2, v3, v4, v5, Pts.len]; rfl) rfl ?_
        rw [← HE.out]
        exact ⟨none, 0, rfl, PtOk.nil _ _ _ _ _ _ _ (by decide), HP2.out.frame (X := fun b => b = w.heap.size) (kept_wrote (Kept.refl (fun b => b = w.heap.size) _) HVW.out fun _ => rfl) (fun b e => by have := HP.out.size; omega), kept_wrote HK2.out HVW.out (fun q => absurd q (Nat.lt_irrefl _))⟩
      · have q4 : (p.next.kind == 4) = false := by simpa using k4
        cases hu : isMark p.next "_" with
        | true =>
          have HE := Lib.hid (Option.some.inj ((apat_us k1 k2 k4 hu).symm.trans hd))
          have HU := Lib.hid hu
          clear k1 k2 k4 hd ih hu
          go_enter Tryz.func116, Tryz.ntmps116
          go_wp2_with fail
          refine HN.out.mono ?_
          rintro e w1 ⟨rfl, hb1⟩
          have hB1 := (HB0.out.trans (hb1.mono (by simp))).alloc (by have := hb1.size; rw [World.size_alloc] at this; omega) (oTok p.next)
          have HX1 := Lib.hid ((HX0.out.below hb1 (by simp)).alloc (oTok p.next))
          have HY1 := Lib.hid (Box.new w1 #[.int .i64 p.next.kind, .string (toB p.next.text), .int .i64 p.next.n, .int .i64 p.next.ln, .int .i64 p.next.col, .bool p.next.made] TTok)
          have HP1 := Lib.hid (HP.out.below hB1)
          have HZ1 := Lib.hid (show w.heap.size + 1 ≤ w1.heap.size by have := hb1.size; rwa [World.size_alloc] at this)
          have HB1 := Lib.hid hB1
          have HNT := Lib.hid (show w1.heap.size ≠ pb by have := HP.out.lt; have := HP.out.size; have := HZ1.out; omega)
          clear hb1 hB1

          have HMk := Lib.hid (mark_at p.next "_" (w1.alloc (oTok p.next)))
          unfold oStr at HMk
          rw [lit_us, World.size_alloc, HU.out] at HMk
          have HBd := Lib.hid (HB1.out.alloc (HB1.out.size) (.cells #[.string ⟨#[95]⟩] TStr))
          have HXd := Lib.hid (HX1.out.alloc (.cells #[.string ⟨#[95]⟩] TStr))
          go_wp2_with fail
          refine HMk.out.mono ?_
          rintro e w1b ⟨rfl, hb2⟩
          have HBe := Lib.hid (HBd.out.trans (hb2.mono HBd.out.size))
          have HXe := Lib.hid (HXd.out.below hb2 HXd.out.lt)
          have HPe := Lib.hid (HP.out.below HBe.out)
          have HZe := Lib.hid (show w.heap.size + 1 ≤ w1b.heap.size by have := hb2.size; simp at this; have := HZ1.out; omega)
          clear hb2

          have HT := Lib.hid (take_any w1b HPe.out)
          go_wp2_with fail
          refine HT.out.mono ?_
          rintro e w2 ⟨rfl, hp2, hk2⟩
          have hX2 := hk2.box HXe.out HNE.out
          obtain ⟨z0, z1, z2, z3, z4, z5⟩ := cells6 hX2
          obtain ⟨y0, y1, y2, y3, y4, y5⟩ := free6 hX2
          obtain ⟨V, hV, hvb, hvw⟩ := write6 hX2 (.int .i64 1) (.string ⟨#[]⟩) (.int .i64 0) (.slice none 0 0) (.int .i64 0) (.int .i64 0)
          have HVB := Lib.hid hvb
          have HVW := Lib.hid hvw
          have HP2 := Lib.hid hp2
          have HK2 := Lib.hid ((Kept.of_below HBe.out (Nat.le_refl _) (fun b => b = pb)).trans hk2)
          clear hp2 hk2 hX2 hvb hvw
          go_wp2_with fail

          obtain ⟨v0, v1, v2, v3, v4, v5⟩ := cells6 HVB.out
          refine bodyPost_ret (v := ptV ⟨1, 0, ByteArray.empty, .nil, 0, 0⟩ none 0) (by simp [results, Tryz.results116, go_sem, v0, v1, v2, v3, v4, v5, Pts.len]; rfl) rfl ?_
          rw [← HE.out]
          exact ⟨none, 0, rfl, PtOk.nil _ _ _ _ _ _ _ (by decide), HP2.out.frame (X := fun b => b = w.heap.size) (kept_wrote (Kept.refl (fun b => b = w.heap.size) _) HVW.out fun _ => rfl) (fun b e => by have := HP.out.size; omega), kept_wrote HK2.out HVW.out (fun q => absurd q (Nat.lt_irrefl _))⟩
        | false =>
          have HU := Lib.hid hu
          cases hm : (p.mark "(").1 with
          | false =>
            have HE := Lib.hid (Option.some.inj ((apat_no k1 k2 k4 hu hm).symm.trans hd))
            have HM0 := Lib.hid hm
            clear k1 k2 k4 hd ih hu hm
            go_enter Tryz.func116, Tryz.ntmps116
            go_wp2_with fail
            refine HN.out.mono ?_
            rintro e w1 ⟨rfl, hb1⟩
            have hB1 := (HB0.out.trans (hb1.mono (by simp))).alloc (by have := hb1.size; rw [World.size_alloc] at this; omega) (oTok p.next)
            have HX1 := Lib.hid ((HX0.out.below hb1 (by simp)).alloc (oTok p.next))
            have HY1 := Lib.hid (Box.new w1 #[.int .i64 p.next.kind, .string (toB p.next.text), .int .i64 p.next.n, .int .i64 p.next.ln, .int .i64 p.next.col, .bool p.next.made] TTok)
            have HP1 := Lib.hid (HP.out.below hB1)
            have HZ1 := Lib.hid (show w.heap.size + 1 ≤ w1.heap.size by have := hb1.size; rwa [World.size_alloc] at this)
            have HB1 := Lib.hid hB1
            have HNT := Lib.hid (show w1.heap.size ≠ pb by have := HP.out.lt; have := HP.out.size; have := HZ1.out; omega)
            clear hb1 hB1

            have HMk := Lib.hid (mark_at p.next "_" (w1.alloc (oTok p.next)))
            unfold oStr at HMk
            rw [lit_us, World.size_alloc, HU.out] at HMk
            have HBd := Lib.hid (HB1.out.alloc (HB1.out.size) (.cells #[.string ⟨#[95]⟩] TStr))
            have HXd := Lib.hid (HX1.out.alloc (.cells #[.string ⟨#[95]⟩] TStr))
            go_wp2_with fail
            refine HMk.out.mono ?_
            rintro e w1b ⟨rfl, hb2⟩
            have HBe := Lib.hid (HBd.out.trans (hb2.mono HBd.out.size))
            have HXe := Lib.hid (HXd.out.below hb2 HXd.out.lt)
            have HPe := Lib.hid (HP.out.below HBe.out)
            have HZe := Lib.hid (show w.heap.size + 1 ≤ w1b.heap.size by have := hb2.size; simp at this; have := HZ1.out; omega)
            clear hb2

            have HT := Lib.hid (mark_any "(" w1b HPe.out)
            rw [lit_lp] at HT
            go_wp2_with fail
            refine HT.out.mono ?_
            rintro e w2 ⟨rfl, hp2, hk2⟩
            rw [HM0.out]
            have hX2 := hk2.box HXe.out HNE.out
            obtain ⟨z0, z1, z2, z3, z4, z5⟩ := cells6 hX2
            obtain ⟨y0, y1, y2, y3, y4, y5⟩ := free6 hX2
            obtain ⟨V, hV, hvb, hvw⟩ := write6 hX2 (.int .i64 0) (.string ⟨#[]⟩) (.int .i64 0) (.slice none 0 0) (.int .i64 0) (.int .i64 0)
            have HVB := Lib.hid hvb
            have HVW := Lib.hid hvw
            have HP2 := Lib.hid hp2
            have HK2 := Lib.hid ((Kept.of_below HBe.out (Nat.le_refl _) (fun b => b = pb)).trans hk2)
            clear hp2 hk2 hX2 hvb hvw
            go_wp2_with fail

            obtain ⟨v0, v1, v2, v3, v4, v5⟩ := cells6 HVB.out
            refine bodyPost_ret (v := ptV ⟨0, 0, ByteArray.empty, .nil, 0, 0⟩ none 0) (by simp [results, Tryz.results116, go_sem, v0, v1, v2, v3, v4, v5, Pts.len]; rfl) rfl ?_
            rw [← HE.out]
            exact ⟨none, 0, rfl, PtOk.nil _ _ _ _ _ _ _ (by decide), HP2.out.frame (X := fun b => b = w.heap.size) (kept_wrote (Kept.refl (fun b => b = w.heap.size) _) HVW.out fun _ => rfl) (fun b e => by have := HP.out.size; omega), kept_wrote HK2.out HVW.out (fun q => absurd q (Nat.lt_irrefl _))⟩
          | true =>
            have HM0 := Lib.hid hm
            by_cases hk3 : (p.mark "(").2.next.kind = 3 ∧ (p.mark "(").2.next.text = str "-"
            · have HE := Lib.hid (Option.some.inj ((apat_neg k1 k2 k4 hu hm hk3).symm.trans hd))
              have HQ3 := Lib.hid hk3
              clear k1 k2 k4 hd ih hu hm hk3
              go_enter Tryz.func116, Tryz.ntmps116
              go_wp2_with fail
              refine HN.out.mono ?_
              rintro e w1 ⟨rfl, hb1⟩
              have hB1 := (HB0.out.trans (hb1.mono (by simp))).alloc (by have := hb1.size; rw [World.size_alloc] at this; omega) (oTok p.next)
              have HX1 := Lib.hid ((HX0.out.below hb1 (by simp)).alloc (oTok p.next))
              have HY1 := Lib.hid (Box.new w1 #[.int .i64 p.next.kind, .string (toB p.next.text), .int .i64 p.next.n, .int .i64 p.next.ln, .int .i64 p.next.col, .bool p.next.made] TTok)
              have HP1 := Lib.hid (HP.out.below hB1)
              have HZ1 := Lib.hid (show w.heap.size + 1 ≤ w1.heap.size by have := hb1.size; rwa [World.size_alloc] at this)
              have HB1 := Lib.hid hB1
              have HNT := Lib.hid (show w1.heap.size ≠ pb by have := HP.out.lt; have := HP.out.size; have := HZ1.out; omega)
              clear hb1 hB1

              have HMk := Lib.hid (mark_at p.next "_" (w1.alloc (oTok p.next)))
              unfold oStr at HMk
              rw [lit_us, World.size_alloc, HU.out] at HMk
              have HBd := Lib.hid (HB1.out.alloc (HB1.out.size) (.cells #[.string ⟨#[95]⟩] TStr))
              have HXd := Lib.hid (HX1.out.alloc (.cells #[.string ⟨#[95]⟩] TStr))
              go_wp2_with fail
              refine HMk.out.mono ?_
              rintro e w1b ⟨rfl, hb2⟩
              have HBe := Lib.hid (HBd.out.trans (hb2.mono HBd.out.size))
              have HXe := Lib.hid (HXd.out.below hb2 HXd.out.lt)
              have HPe := Lib.hid (HP.out.below HBe.out)
              have HZe := Lib.hid (show w.heap.size + 1 ≤ w1b.heap.size by have := hb2.size; simp at this; have := HZ1.out; omega)
              clear hb2

              have HT := Lib.hid (mark_any "(" w1b HPe.out)
              rw [lit_lp] at HT
              go_wp2_with fail
              refine HT.out.mono ?_
              rintro e w2 ⟨rfl, hp2, hk2⟩
              rw [HM0.out]
              have HP2 := Lib.hid hp2
              have HX2 := Lib.hid (hk2.box HXe.out HNE.out)
              have HK2 := Lib.hid ((Kept.of_below HBe.out (Nat.le_refl _) (fun b => b = pb)).trans hk2)
              have HZ2 := Lib.hid (show w.heap.size + 1 ≤ w2.heap.size from Nat.le_trans HZe.out hk2.size)
              have HN2 := Lib.hid (next_any w2 hp2)
              clear hp2 hk2
              generalize hpp : (p.mark "(").2 = pp at *
              go_wp2_with fail
              refine HN2.out.mono ?_
              rintro e w3 ⟨rfl, hb3⟩
              have hB3 := hb3.alloc hb3.size (oTok pp.next)
              have HX3 := Lib.hid (HX2.out.below hB3 HX2.out.lt)
              have HP3 := Lib.hid (HP2.out.below hB3)
              have HK3 := Lib.hid (HK2.out.trans (Kept.of_below hB3 (Nat.le_refl _) (fun b => b = pb)))
              have HZ3 := Lib.hid (show w.heap.size + 1 ≤ w3.heap.size from Nat.le_trans HZ2.out hb3.size)
              have hY3 := Box.new w3 #[.int .i64 pp.next.kind, .string (toB pp.next.text), .int .i64 pp.next.n, .int .i64 pp.next.ln, .int .i64 pp.next.col, .bool pp.next.made] TTok
              obtain ⟨u0, u1, u2, u3, u4, u5⟩ := cells6 hY3
              clear hb3 hB3 hY3

              have g3 : (pp.next.kind == 3) = true := by simpa using HQ3.out.1
              have g4 : ((toB pp.next.text).toList == [45]) = true := by rw [toB_toList, HQ3.out.2]; kernel_rfl
              have HTK := Lib.hid (take_any _ HP3.out)
              go_wp2_with fail
              refine HTK.out.mono ?_
              rintro e w4 ⟨rfl, hp4, hk4⟩
              have HBL := Lib.hid (below_any w4 hp4)
              have HX4 := Lib.hid (hk4.box HX3.out HNE.out)
              have HK4 := Lib.hid (HK3.out.trans hk4)
              have HZ4 := Lib.hid (show w.heap.size + 1 ≤ w4.heap.size from Nat.le_trans HZ3.out (Nat.le_trans (by simp) hk4.size))
              clear hp4 hk4
              go_wp2_with fail
              refine HBL.out.mono ?_
              rintro e w5 ⟨rfl, hp5, hk5⟩
              generalize hu5 : pp.take.2.below = u5 at *
              obtain ⟨t5, p5⟩ := u5
              have hB5 := (Below.refl w5.heap.size w5).alloc (Nat.le_refl _) (oTok t5)
              have hX5 := (hk5.box HX4.out HNE.out).alloc (oTok t5)
              have hY5 := Box.new w5 #[.int .i64 t5.kind, .string (toB t5.text), .int .i64 t5.n, .int .i64 t5.ln, .int .i64 t5.col, .bool t5.made] TTok
              obtain ⟨s0, s1, s2, s3, s4, s5⟩ := cells6 hY5
              obtain ⟨z0, z1, z2, z3, z4, z5⟩ := cells6 hX5
              obtain ⟨y0, y1, y2, y3, y4, y5⟩ := free6 hX5
              obtain ⟨V, hV, hvb, hvw⟩ := write6 hX5 (.int .i64 3) (.string ⟨#[]⟩) (.int .i64 t5.n) (.slice none 0 0) (.int .i64 t5.ln) (.int .i64 t5.col)
              have HVB := Lib.hid hvb
              have HVW := Lib.hid hvw
              have HP2 := Lib.hid (hp5.below hB5)
              have HK2 := Lib.hid ((HK4.out.trans hk5).trans (Kept.of_below hB5 (Nat.le_refl _) (fun b => b = pb)))
              clear hp5 hk5 hB5 hX5 hY5 hvb hvw
              go_wp2_with fail

              obtain ⟨v0, v1, v2, v3, v4, v5⟩ := cells6 HVB.out
              refine bodyPost_ret (v := ptV ⟨3, t5.n, ByteArray.empty, .nil, t5.ln, t5.col⟩ none 0) (by simp [results, Tryz.results116, go_sem, v0, v1, v2, v3, v4, v5, Pts.len]; rfl) rfl ?_
              rw [← HE.out]
              exact ⟨none, 0, rfl, PtOk.nil _ _ _ _ _ _ _ (by decide), HP2.out.frame (X := fun b => b = w.heap.size) (kept_wrote (Kept.refl (fun b => b = w.heap.size) _) HVW.out fun _ => rfl) (fun b e => by have := HP.out.size; omega), kept_wrote HK2.out HVW.out (fun q => absurd q (Nat.lt_irrefl _))⟩
            · have hd' := (apat_in k1 k2 k4 hu hm hk3).symm.trans hd
              obtain ⟨r1, hr1, hr2⟩ := Option.bind_eq_some_iff.1 hd'
              have HE := Lib.hid (Option.some.inj hr2)
              have HR1 := Lib.hid hr1
              have HIH := Lib.hid ih
              have HQ3 := Lib.hid hk3
              clear k1 k2 k4 hd hd' hr1 hr2 ih hu hm hk3
              go_enter Tryz.func116, Tryz.ntmps116
              go_wp2_with fail
              refine HN.out.mono ?_
              rintro e w1 ⟨rfl, hb1⟩
              have hB1 := (HB0.out.trans (hb1.mono (by simp))).alloc (by have := hb1.size; rw [World.size_alloc] at this; omega) (oTok p.next)
              have HX1 := Lib.hid ((HX0.out.below hb1 (by simp)).alloc (oTok p.next))
              have HY1 := Lib.hid (Box.new w1 #[.int .i64 p.next.kind, .string (toB p.next.text), .int .i64 p.next.n, .int .i64 p.next.ln, .int .i64 p.next.col, .bool p.next.made] TTok)
              have HP1 := Lib.hid (HP.out.below hB1)
              have HZ1 := Lib.hid (show w.heap.size + 1 ≤ w1.heap.size by have := hb1.size; rwa [World.size_alloc] at this)
              have HB1 := Lib.hid hB1
              have HNT := Lib.hid (show w1.heap.size ≠ pb by have := HP.out.lt; have := HP.out.size; have := HZ1.out; omega)
              clear hb1 hB1

              have HMk := Lib.hid (mark_at p.next "_" (w1.alloc (oTok p.next)))
              unfold oStr at HMk
              rw [lit_us, World.size_alloc, HU.out] at HMk
              have HBd := Lib.hid (HB1.out.alloc (HB1.out.size) (.cells #[.string ⟨#[95]⟩] TStr))
              have HXd := Lib.hid (HX1.out.alloc (.cells #[.string ⟨#[95]⟩] TStr))
              go_wp2_with fail
              refine HMk.out.mono ?_
              rintro e w1b ⟨rfl, hb2⟩
              have HBe := Lib.hid (HBd.out.trans (hb2.mono HBd.out.size))
              have HXe := Lib.hid (HXd.out.below hb2 HXd.out.lt)
              have HPe := Lib.hid (HP.out.below HBe.out)
              have HZe := Lib.hid (show w.heap.size + 1 ≤ w1b.heap.size by have := hb2.size; simp at this; have := HZ1.out; omega)
              clear hb2

              have HT := Lib.hid (mark_any "(" w1b HPe.out)
              rw [lit_lp] at HT
              go_wp2_with fail
              refine HT.out.mono ?_
              rintro e w2 ⟨rfl, hp2, hk2⟩
              rw [HM0.out]
              have HP2 := Lib.hid hp2
              have HX2 := Lib.hid (hk2.box HXe.out HNE.out)
              have HK2 := Lib.hid ((Kept.of_below HBe.out (Nat.le_refl _) (fun b => b = pb)).trans hk2)
              have HZ2 := Lib.hid (show w.heap.size + 1 ≤ w2.heap.size from Nat.le_trans HZe.out hk2.size)
              have HN2 := Lib.hid (next_any w2 hp2)
              clear hp2 hk2
              generalize hpp : (p.mark "(").2 = pp at *
              go_wp2_with fail
              refine HN2.out.mono ?_
              rintro e w3 ⟨rfl, hb3⟩
              have hB3 := hb3.alloc hb3.size (oTok pp.next)
              have HX3 := Lib.hid (HX2.out.below hB3 HX2.out.lt)
              have HP3 := Lib.hid (HP2.out.below hB3)
              have HK3 := Lib.hid (HK2.out.trans (Kept.of_below hB3 (Nat.le_refl _) (fun b => b = pb)))
              have HZ3 := Lib.hid (show w.heap.size + 1 ≤ w3.heap.size from Nat.le_trans HZ2.out hb3.size)
              have hY3 := Box.new w3 #[.int .i64 pp.next.kind, .string (toB pp.next.text), .int .i64 pp.next.n, .int .i64 pp.next.ln, .int .i64 pp.next.col, .bool pp.next.made] TTok
              obtain ⟨u0, u1, u2, u3, u4, u5⟩ := cells6 hY3
              clear hb3 hB3 hY3

              by_cases h3 : pp.next.kind = 3
              · have g3 : (pp.next.kind == 3) = true := by simpa using h3
                have g4 : ((toB pp.next.text).toList == [45]) = false := by rw [toB_toList]; have := HQ3.out; rw [show str "-" = [45] by kernel_rfl] at this; simpa [h3] using this
                clear h3
                have HIN := Lib.hid (HIH.out pp r1 _ HR1.out HP3.out)
                go_wp2_with fail
                refine HIN.out.mono ?_
                rintro e w5 ⟨a3, c3, rfl, ht5, hp5, hk5⟩
                obtain ⟨x, p3⟩ := r1
                have hB6 := (Below.refl w5.heap.size w5).alloc (Nat.le_refl _) (oPt x a3 c3)
                have HX5 := Lib.hid ((hk5.box HX3.out HNE.out).alloc (oPt x a3 c3))
                have HY5 := Lib.hid (Box.new w5 #[.int .i64 x.kd, .string x.nm, .int .i64 x.n, .slice a3 x.args.len c3, .int .i64 x.ln, .int .i64 x.col] TPt)
                have HTO := Lib.hid (ht5.frame (Kept.of_below hB6 (Nat.le_refl _) (fun _ => False)) (fun b e => e.elim))
                have HQ := Lib.hid (hp5.below hB6)
                have HM := Lib.hid (mark_any ")" _ HQ.out)
                rw [lit_rp] at HM
                have HK5 := Lib.hid ((HK3.out.trans hk5).trans (Kept.of_below hB6 (Nat.le_refl _) (fun b => b = pb)))
                have HS5 := Lib.hid hk5.size
                clear hp5 hk5 ht5 hB6
                go_wp2_with fail
                refine HM.out.mono ?_
                rintro e w6 ⟨rfl, hp6, hk6⟩
                have hlt := HP.out.lt
                have hsz := HP.out.size
                have hz3 := HZ3.out
                have hs5 := HS5.out
                rw [World.size_alloc] at hs5
                have hX6 := hk6.box HX5.out HNE.out
                have hY6 := hk6.box HY5.out (by omega)
                obtain ⟨t0, t1, t2, t3, t4, t5⟩ := cells6 hY6
                obtain ⟨z0, z1, z2, z3, z4, z5⟩ := cells6 hX6
                obtain ⟨y0, y1, y2, y3, y4, y5⟩ := free6 hX6
                obtain ⟨V, hV, hvb, hvw⟩ := write6 hX6 (.int .i64 x.kd) (.string x.nm) (.int .i64 x.n) (.slice a3 x.args.len c3) (.int .i64 x.ln) (.int .i64 x.col)
                have HTO6 := Lib.hid (HTO.out.frame hk6 (fun b e hge q => by subst e; rw [World.size_alloc] at hge; omega))
                have HVB := Lib.hid hvb
                have HVW := Lib.hid hvw
                have HP2 := Lib.hid hp6
                have HK6 := Lib.hid (HK5.out.trans hk6)
                have HWL := Lib.hid hz3
                clear hp6 hk6 hX6 hY6 hvb hvw
                go_wp2_with fail
                obtain ⟨v0, v1, v2, v3, v4, v5⟩ := cells6 HVB.out
                refine bodyPost_ret (v := ptV x a3 c3) (by simp [results, Tryz.results116, go_sem, v0, v1, v2, v3, v4, v5]) rfl ?_
                rw [← HE.out]
                exact ⟨a3, c3, rfl, (HTO6.out.frame (kept_wrote (Kept.refl (fun b => b = w.heap.size) _) HVW.out fun _ => rfl) (fun b e hge _ => by rw [World.size_alloc] at hge; have := HWL.out; omega)).base (by rw [World.size_alloc]; have := HWL.out; omega), HP2.out.frame (X := fun b => b = w.heap.size) (kept_wrote (Kept.refl (fun b => b = w.heap.size) _) HVW.out fun _ => rfl) (fun b e => by have := HP.out.size; omega), kept_wrote HK6.out HVW.out (fun q => absurd q (Nat.lt_irrefl _))⟩

              · have g3 : (pp.next.kind == 3) = false := by simpa using h3
                clear h3
                have HIN := Lib.hid (HIH.out pp r1 _ HR1.out HP3.out)
                go_wp2_with fail
                refine HIN.out.mono ?_
                rintro e w5 ⟨a3, c3, rfl, ht5, hp5, hk5⟩
                obtain ⟨x, p3⟩ := r1
                have hB6 := (Below.refl w5.heap.size w5).alloc (Nat.le_refl _) (oPt x a3 c3)
                have HX5 := Lib.hid ((hk5.box HX3.out HNE.out).alloc (oPt x a3 c3))
                have HY5 := Lib.hid (Box.new w5 #[.int .i64 x.kd, .string x.nm, .int .i64 x.n, .slice a3 x.args.len c3, .int .i64 x.ln, .int .i64 x.col] TPt)
                have HTO := Lib.hid (ht5.frame (Kept.of_below hB6 (Nat.le_refl _) (fun _ => False)) (fun b e => e.elim))
                have HQ := Lib.hid (hp5.below hB6)
                have HM := Lib.hid (mark_any ")" _ HQ.out)
                rw [lit_rp] at HM
                have HK5 := Lib.hid ((HK3.out.trans hk5).trans (Kept.of_below hB6 (Nat.le_refl _) (fun b => b = pb)))
                have HS5 := Lib.hid hk5.size
                clear hp5 hk5 ht5 hB6
                go_wp2_with fail
                refine HM.out.mono ?_
                rintro e w6 ⟨rfl, hp6, hk6⟩
                have hlt := HP.out.lt
                have hsz := HP.out.size
                have hz3 := HZ3.out
                have hs5 := HS5.out
                rw [World.size_alloc] at hs5
                have hX6 := hk6.box HX5.out HNE.out
                have hY6 := hk6.box HY5.out (by omega)
                obtain ⟨t0, t1, t2, t3, t4, t5⟩ := cells6 hY6
                obtain ⟨z0, z1, z2, z3, z4, z5⟩ := cells6 hX6
                obtain ⟨y0, y1, y2, y3, y4, y5⟩ := free6 hX6
                obtain ⟨V, hV, hvb, hvw⟩ := write6 hX6 (.int .i64 x.kd) (.string x.nm) (.int .i64 x.n) (.slice a3 x.args.len c3) (.int .i64 x.ln) (.int .i64 x.col)
                have HTO6 := Lib.hid (HTO.out.frame hk6 (fun b e hge q => by subst e; rw [World.size_alloc] at hge; omega))
                have HVB := Lib.hid hvb
                have HVW := Lib.hid hvw
                have HP2 := Lib.hid hp6
                have HK6 := Lib.hid (HK5.out.trans hk6)
                have HWL := Lib.hid hz3
                clear hp6 hk6 hX6 hY6 hvb hvw
                go_wp2_with fail
                obtain ⟨v0, v1, v2, v3, v4, v5⟩ := cells6 HVB.out
                refine bodyPost_ret (v := ptV x a3 c3) (by simp [results, Tryz.results116, go_sem, v0, v1, v2, v3, v4, v5]) rfl ?_
                rw [← HE.out]
                exact ⟨a3, c3, rfl, (HTO6.out.frame (kept_wrote (Kept.refl (fun b => b = w.heap.size) _) HVW.out fun _ => rfl) (fun b e hge _ => by rw [World.size_alloc] at hge; have := HWL.out; omega)).base (by rw [World.size_alloc]; have := HWL.out; omega), HP2.out.frame (X := fun b => b = w.heap.size) (kept_wrote (Kept.refl (fun b => b = w.heap.size) _) HVW.out fun _ => rfl) (fun b e => by have := HP.out.size; omega), kept_wrote HK6.out HVW.out (fun q => absurd q (Nat.lt_irrefl _))⟩
end Go.Proofs.YtdajihpfedbihaaGreat.Pa
/-
  CONTRACTS of layer parse: patterns are read, whole.
-/
namespace Go.Proofs.YtdajihpfedbihaaGreat.Pa
open Go.RowKit Mm Tm Pm
set_option linter.unusedVariables false
set_option linter.unusedSimpArgs false
theorem Tpat : (Tryz.prog.info? 83).map (fun i => (i.zero, i.size, i.bytes)) = some (some (.agg #[.int .i64 0, .string ByteArray.empty, .int .i64 0, .slice none 0 0, .int .i64 0, .int .i64 0]), 6, 72) := by kernel_rfl
theorem apats_yes {d : Nat} {p : Pp} (h : beginsPat p.next = true) {l : List Pm.Pt} {q : Pp} (hd : apats (d + 1) p = some (l, q)) : ∃ t p1 l2, apat d p = some (t, p1) ∧ apats d p1 = some (l2, q) ∧ l = t :: l2 := by
  rw [apats, if_pos h] at hd
  obtain ⟨⟨t1, p1⟩, h1, h2⟩ := Option.bind_eq_some_iff.1 hd
  dsimp only at h2
  obtain ⟨⟨t2, p2⟩, h3, h4⟩ := Option.bind_eq_some_iff.1 h2
  simp only [pure, Option.some.injEq, Prod.mk.injEq] at h4
  exact ⟨t1, p1, t2, h1, by rw [h3, h4.2], h4.1.symm⟩
theorem apats_no {d : Nat} {p : Pp} (h : beginsPat p.next = false) {l : List Pm.Pt} {q : Pp} (hd : apats (d + 1) p = some (l, q)) : l = [] ∧ q = p := by
  rw [apats, if_neg (by rw [h]; simp)] at hd
  simp only [pure, Option.some.injEq, Prod.mk.injEq] at hd
  exact ⟨hd.1.symm, hd.2.symm⟩
theorem pts_kept {B : Nat} {e : TypeId} {w w' : World} {v : Value} {l : List Pm.Pt} {X : Nat → Prop} (h : OwnP B e w v l) (hk : Kept X w w') (hX : ∀ b, X b → B ≤ b → ¬ TyB e w b) : OwnP B e w' v l := by
  obtain ⟨vs, h1, h2⟩ := h
  have hb : ∀ b, B ≤ b → TyB e w b → w'.heap[b]? = w.heap[b]? := fun b q t => hk.block b t.lt fun x => hX b x q t
  refine ⟨vs, ⟨h1.1, ?_⟩, (h2.frame (fun b o hz => World.cell?_of_block (hb b hz.1 hz.2.1)) (fun ad hz => World.cell?_of_block (hb _ hz.1 hz.2.1)) fun b hz => ⟨hz.1, hz.2.1.same (hb b hz.1 hz.2.1), hz.2.2⟩)⟩
  rcases h1.2 with q | ⟨g, cap, cur, rfl, hg, hh, r⟩
  · exact .inl q
  · exact .inr ⟨g, cap, cur, rfl, hg, (hb g hg ⟨cur, hh⟩).trans hh, r⟩
structure ApL (N pb : Nat) (fv : Value) (r : List Pm.Pt × Pp) (w : World) (n d : Nat) (v : Value) (wr : World) (l1 l2 : List Pm.Pt) (pk : Pp) : Prop where
  run : apats d pk = some (l2, r.2)
  eq : r.1 = l1 ++ l2
  own : OwnP w.heap.size TPt wr v l1
  ps : PS N wr pb pk fv
  kp : KP pb w wr
  le : d ≤ n
  len : l1.length + pk.rest.length ≤ 100000000
theorem ApL.succ {N pb : Nat} {fv : Value} {r : List Pm.Pt × Pp} {w : World} {n d : Nat} {v : Value} {wr : World} {l1 l2 : List Pm.Pt} {pk : Pp} (h : ApL N pb fv r w n d v wr l1 l2 pk) : ∃ d0, d = d0 + 1 := by
  cases d with
  | zero => have := h.run; simp [apats] at this
  | succ d => exact ⟨d, rfl⟩
set_option maxRecDepth 100000 in
set_option maxHeartbeats 4000000 in
theorem apats_any {N pb d : Nat} {p : Pp} {fv : Value} {r : List Pm.Pt × Pp} (w : World) (h : PS N w pb p fv) (hd : apats d p = some r)
    (ih : ∀ d', d' < d → ∀ p r w, apat d' p = some r → PS N w pb p fv → Calls Tryz.prog 116 #[.pointer (some ⟨pb, 0, none⟩)] w (PtPost N pb fv r w)) :
    Calls Tryz.prog 91 #[.pointer (some ⟨pb, 0, none⟩)] w (PtsPost N pb fv r w) := by
  obtain ⟨i0, hi0, hi1, hi2, hi3⟩ := info_parts Tpat
  have HP := Lib.hid h
  have HIH := Lib.hid ih
  have HST := Lib.hid (ApL.mk (n := d) (w := w) (r := r) (v := .slice none 0 0) (l1 := []) (l2 := r.1) (pk := p) hd rfl (OwnP.nil w.heap.size TPt w) h (Kept.refl (fun b => b = pb) _) (Nat.le_refl _) (by simpa using h.len))
  clear h ih hd
  go_enter Tryz.func91, Tryz.ntmps91
  go_wp2_with fail
  go_loopg [3] d (fun d' v wr => ∃ l1 l2 pk, ApL N pb fv r w d d' v wr l1 l2 pk)
  case atStart => exact ⟨_, _, _, HST.out⟩
  case round =>
    obtain ⟨l1, l2, pk, hI⟩ := hrel
    obtain ⟨d0, rfl⟩ := hI.succ
    have HI := Lib.hid hI
    have HN := Lib.hid (next_any wr hI.ps)
    obtain ⟨vs, ho1, ho2⟩ := hI.own
    obtain ⟨a5, c5, rfl⟩ := own_slice ho1
    have HO1 := Lib.hid ho1
    clear hI ho1 ho2
    go_wp2_with fail
    refine HN.out.mono ?_
    rintro e w1 ⟨rfl, hb1⟩
    have HBP := Lib.hid (beginsPat_any pk.next w1)
    have HB1 := Lib.hid hb1
    clear hb1
    cases hm : beginsPat pk.next with
    | true =>
      rw [hm] at HBP
      have HBG := Lib.hid hm
      obtain ⟨x, p1, l2', hr1, hr2, hr3⟩ := apats_yes hm HI.out.run
      have HR := Lib.hid (And.intro hr1 (And.intro hr2 hr3))
      clear hr1 hr2 hr3 hm
      go_wp2_with fail
      refine HBP.out.mono ?_
      rintro e w2 ⟨rfl, hb2⟩
      have HBc := Lib.hid (HB1.out.trans (hb2.mono HB1.out.size))
      clear hb2
      have HA := Lib.hid (HIH.out _ (by have := HI.out.le; omega) pk (x, p1) w2 HR.out.1 (HI.out.ps.below HBc.out))
      go_wp2_with fail
      refine HA.out.mono ?_
      rintro e w5 ⟨a3, c3, rfl, ht5, hp5, hk5⟩
      have HK5 := Lib.hid ((Kept.of_below HBc.out (Nat.le_refl _) (fun b => b = pb)).trans hk5)
      have HS5 := Lib.hid (show wr.heap.size ≤ w5.heap.size from Nat.le_trans HBc.out.size hk5.size)
      have HPX := Lib.hid (show ∀ b, b = pb → w.heap.size ≤ b → False from fun b e q => by have := HP.out.lt; have := HP.out.size; omega)
      have HO5 := Lib.hid (pts_kept HI.out.own HK5.out (fun b e q => (HPX.out b e q).elim))
      have HT5 := Lib.hid ht5
      have HPS5 := Lib.hid hp5
      have HSB := Lib.hid HBc.out.size
      clear hp5 hk5 ht5
      obtain ⟨vs5, ho5, hr5⟩ := HO5.out
      have HO5a := Lib.hid ho5
      have HR5 := Lib.hid hr5
      have hlen5 := HI.out.len
      have hsw : w.heap.size ≤ w5.heap.size := Nat.le_trans HI.out.kp.size HS5.out
      clear ho5 hr5
      go_wp2_with (at_builtin; refine wpList_append_own_at _ rfl _ _ 81 rfl w.heap.size TPt i0 _ 6 72 Tryz.underlying81 hi0 hi1 hi2 hi3 rfl (by decide) _ _ _ rfl (HO5a.out.alloc _) ⟨w5.heap.size, 0, none⟩ 1 1 [.int .i64 x.kd, .string x.nm, .int .i64 x.n, .slice a3 x.args.len c3, .int .i64 x.ln, .int .i64 x.col] rfl rfl (news_new w5 #[.int .i64 x.kd, .string x.nm, .int .i64 x.n, .slice a3 x.args.len c3, .int .i64 x.ln, .int .i64 x.col] TPt) (fun u hu => by simp only [List.mem_cons, List.not_mem_nil, or_false] at hu; rcases hu with rfl | rfl | rfl | rfl | rfl | rfl <;> rfl) (by unfold maxLen; omega) (by omega) (by simp; omega) ?_)
      intro v7 w7 hown hgrow _ hat
      have HO7 := Lib.hid (OwnP.more (x := x) (v := .slice a5 l1.length c5) HR5.out hsw HT5.out.2.1 HT5.out.2.2 (HT5.out.1.mono fun b hz => ⟨Nat.le_trans HI.out.kp.size (Nat.le_trans HSB.out hz.1), hz.2.2, fun e => by have := (HO1.out.lt b e).2; have := HSB.out; have := hz.1; omega⟩) hown hgrow (by rwa [World.size_alloc]))
      have HK7 := Lib.hid (((Kept.refl (fun b => (Value.slice a5 l1.length c5).ownBlock = some b) w5).alloc (oPt x a3 c3)).grown hgrow (fun k hk _ => hk))
      obtain ⟨a7, c7, rfl⟩ := own_slice hown
      have HRX := Lib.hid (apat_less HBG.out HR.out.1)
      clear hown hgrow hat
      go_wp2_with fail
      go_roundg d0
      case measure => omega
      case rel =>
        have hl := HI.out.len
        have hx := HRX.out
        refine ⟨l1 ++ [x], l2', p1, ⟨HR.out.2.1, by rw [HI.out.eq, HR.out.2.2, List.append_assoc]; rfl, HO7.out, HPS5.out.frame HK7.out (fun b e => Nat.le_trans HP.out.size (HO1.out.lt b e).1), kept_new (HI.out.kp.trans HK5.out) HK7.out (fun b e q => by have := (HO1.out.lt b e).1; omega), by have := HI.out.le; omega, by rw [List.length_append, List.length_singleton]; omega⟩⟩
    | false =>
      rw [hm] at HBP
      have HNO := Lib.hid (apats_no hm HI.out.run)
      clear hm
      go_wp2_with fail
      refine HBP.out.mono ?_
      rintro e w2 ⟨rfl, hb2⟩
      have HBe := Lib.hid (HB1.out.trans (hb2.mono HB1.out.size))
      clear hb2
      go_wp2_with fail
      go_ret
      have hk := HI.out.kp.trans (Kept.of_below HBe.out (Nat.le_refl _) (fun b => b = pb))
      have he : r.1 = l1 := by rw [HI.out.eq, HNO.out.1, List.append_nil]
      rw [show r = (l1, pk) from Prod.ext he HNO.out.2]
      exact ⟨a5, c5, rfl, HI.out.own.here HBe.out, HI.out.ps.below HBe.out, hk, by have := HI.out.len; show l1.length ≤ _; omega⟩
theorem PtOk.ofOwn {B : Nat} {w : World} {x : Pm.Pt} {l : List Pm.Pt} {a : Option Addr} {c : Nat} (h : OwnP B TPt w (.slice a l.length c) l) (hn : x.nm.size ≤ 9223372036854775807) (hl : l.length ≤ 100000000) : PtOk B w { x with args := Pts.ofL l } a :=
  ⟨h.reads.mono fun b hz => ⟨hz.1, hz.2.lt, hz.2⟩, hn, by show (Pts.ofL l).len * 72 ≤ _; rw [Pts.len_ofL]; omega⟩
theorem pat_other {d : Nat} {p : Pp} (h : p.next.kind ≠ 2) : pat (d + 1) p = apat d p := by rw [pat, if_pos h]
theorem pat_con {d : Nat} {p : Pp} (h : ¬ p.next.kind ≠ 2) {r : Pm.Pt × Pp} (hd : pat (d + 1) p = some r) : ∃ t p1 l p2, apat d p = some (t, p1) ∧ apats d p1 = some (l, p2) ∧ r = ({ t with args := Pts.ofL l }, p2) := by
  rw [pat, if_neg h] at hd
  obtain ⟨⟨t1, p1⟩, h1, h2⟩ := Option.bind_eq_some_iff.1 hd
  dsimp only at h2
  obtain ⟨⟨t2, p2⟩, h3, h4⟩ := Option.bind_eq_some_iff.1 h2
  simp only [pure, Option.some.injEq] at h4
  exact ⟨t1, p1, t2, p2, h1, h3, h4.symm⟩
set_option maxRecDepth 100000 in
set_option maxHeartbeats 4000000 in
theorem pat_any {N pb d : Nat} {p : Pp} {fv : Value} {r : Pm.Pt × Pp} (w : World) (h : PS N w pb p fv) (hd : pat (d + 1) p = some r)
    (ih1 : ∀ p r w, apat d p = some r → PS N w pb p fv → Calls Tryz.prog 116 #[.pointer (some ⟨pb, 0, none⟩)] w (PtPost N pb fv r w))
    (ih2 : ∀ p r w, apats d p = some r → PS N w pb p fv → Calls Tryz.prog 91 #[.pointer (some ⟨pb, 0, none⟩)] w (PtsPost N pb fv r w)) :
    Calls Tryz.prog 140 #[.pointer (some ⟨pb, 0, none⟩)] w (PtPost N pb fv r w) := by
  have HP := Lib.hid h
  have HB0 := Lib.hid ((Below.refl w.heap.size w).alloc (Nat.le_refl _) zPt)
  have HX0 := Lib.hid (zbpt w)
  have HN := Lib.hid (next_any (w.alloc zPt) (h.below HB0.out))
  have HNE := Lib.hid (show w.heap.size ≠ pb by have := h.lt; have := h.size; omega)
  have HI2 := Lib.hid ih2
  clear h ih2
  by_cases k2 : p.next.kind ≠ 2
  · have q : (p.next.kind != 2) = true := by simpa using k2
    rw [pat_other k2] at hd
    have HA := Lib.hid (ih1 p r · hd)
    clear k2 hd ih1
    go_enter Tryz.func140, Tryz.ntmps140
    go_wp2_with fail
    refine HN.out.mono ?_
    rintro e w1 ⟨rfl, hb1⟩
    have hf := tok_kind p.next w1
    have HB1 := Lib.hid (HB0.out.trans (hb1.mono (by simp)))
    have HX1 := Lib.hid (HX0.out.below hb1 (by simp))
    have HA1 := Lib.hid (HA.out w1 (HP.out.below HB1.out))
    have HZ := Lib.hid (show w.heap.size < w1.heap.size from HX1.out.lt)
    clear hb1
    go_wp2_with fail
    refine HA1.out.mono ?_
    rintro e w2 ⟨a3, c3, rfl, ht2, hp2, hk2⟩
    obtain ⟨x, p2⟩ := r
    have hX2 := hk2.box HX1.out HNE.out
    obtain ⟨z0, z1, z2, z3, z4, z5⟩ := cells6 hX2
    obtain ⟨y0, y1, y2, y3, y4, y5⟩ := free6 hX2
    obtain ⟨V, hV, hvb, hvw⟩ := write6 hX2 (.int .i64 x.kd) (.string x.nm) (.int .i64 x.n) (.slice a3 x.args.len c3) (.int .i64 x.ln) (.int .i64 x.col)
    have HTO := Lib.hid ht2
    have HVB := Lib.hid hvb
    have HVW := Lib.hid hvw
    have HP2 := Lib.hid hp2
    have HK2 := Lib.hid ((Kept.of_below HB1.out (Nat.le_refl _) (fun b => b = pb)).trans hk2)
    clear hp2 hk2 hX2 hvb hvw ht2
    go_wp2_with fail
    obtain ⟨v0, v1, v2, v3, v4, v5⟩ := cells6 HVB.out
    refine bodyPost_ret (v := ptV x a3 c3) (by simp [results, Tryz.results140, go_sem, v0, v1, v2, v3, v4, v5]) rfl ?_
    exact ⟨a3, c3, rfl, (HTO.out.frame (kept_wrote (Kept.refl (fun b => b = w.heap.size) _) HVW.out fun _ => rfl) (fun b e hge _ => by have := HZ.out; omega)).base (Nat.le_of_lt HZ.out), HP2.out.frame (X := fun b => b = w.heap.size) (kept_wrote (Kept.refl (fun b => b = w.heap.size) _) HVW.out fun _ => rfl) (fun b e => by have := HP.out.size; omega), kept_wrote HK2.out HVW.out (fun q => absurd q (Nat.lt_irrefl _))⟩
  · have q : (p.next.kind != 2) = false := by simpa using k2
    obtain ⟨x, p1, l, p2, h1, h2, rfl⟩ := pat_con k2 hd
    have HA := Lib.hid (ih1 p (x, p1) · h1)
    have HL := Lib.hid h2
    clear k2 hd ih1 h1 h2
    go_enter Tryz.func140, Tryz.ntmps140
    go_wp2_with fail
    refine HN.out.mono ?_
    rintro e w1 ⟨rfl, hb1⟩
    have hf := tok_kind p.next w1
    have HB1 := Lib.hid (HB0.out.trans (hb1.mono (by simp)))
    have HX1 := Lib.hid (HX0.out.below hb1 (by simp))
    have HA1 := Lib.hid (HA.out w1 (HP.out.below HB1.out))
    have HZ := Lib.hid (show w.heap.size < w1.heap.size from HX1.out.lt)
    clear hb1
    go_wp2_with fail
    refine HA1.out.mono ?_
    rintro e w2 ⟨a3, c3, rfl, ht2, hp2, hk2⟩
    have hB2 := (Below.refl w2.heap.size w2).alloc (Nat.le_refl _) (oPt x a3 c3)
    have HY2 := Lib.hid (Box.new w2 #[.int .i64 x.kd, .string x.nm, .int .i64 x.n, .slice a3 x.args.len c3, .int .i64 x.ln, .int .i64 x.col] TPt)
    have HX2 := Lib.hid ((hk2.box HX1.out HNE.out).alloc (oPt x a3 c3))
    have HA2 := Lib.hid (HI2.out p1 (l, p2) _ HL.out (hp2.below hB2))
    have HK2 := Lib.hid (((Kept.of_below HB1.out (Nat.le_refl _) (fun b => b = pb)).trans hk2).alloc (oPt x a3 c3))
    have HZ2 := Lib.hid (show w.heap.size < w2.heap.size from Nat.lt_of_lt_of_le HZ.out hk2.size)
    have HNM := Lib.hid ht2.2.1
    have HNY := Lib.hid (show w2.heap.size ≠ pb by have := HP.out.lt; have := HP.out.size; have := HZ2.out; omega)
    clear hp2 hk2 ht2 hB2
    go_wp2_with fail
    refine HA2.out.mono ?_
    rintro e w3 ⟨a4, c4, rfl, ho3, hp3, hk3, hl3⟩
    have hX3 := hk3.box HX2.out HNE.out
    have hY3 := hk3.box HY2.out HNY.out
    obtain ⟨s0, s1, s2, s3, s4, s5⟩ := cells6 hY3
    obtain ⟨r0, r1, r2, r3, r4, r5⟩ := free6 hY3
    have hY4 := hY3.put 3 (.slice a4 l.length c4)
    have hw4 : Wrote w3 (w3.setCell ⟨w2.heap.size, 3, none⟩ (.slice a4 l.length c4)) w2.heap.size := (Wrote.refl _ _).set 3 _
    have hX4 := hX3.wrote hw4 (by have := HZ2.out; omega)
    obtain ⟨z0, z1, z2, z3, z4, z5⟩ := cells6 hX4
    obtain ⟨y0, y1, y2, y3, y4, y5⟩ := free6 hX4
    obtain ⟨t0, t1, t2, t3, t4, t5⟩ := cells6 hY4
    obtain ⟨V, hV, hvb, hvw⟩ := write6 hX4 (.int .i64 x.kd) (.string x.nm) (.int .i64 x.n) (.slice a4 l.length c4) (.int .i64 x.ln) (.int .i64 x.col)
    have HW4 := Lib.hid hw4
    have HVB := Lib.hid hvb
    have HVW := Lib.hid hvw
    have HO3 := Lib.hid ho3
    have HP3 := Lib.hid hp3
    have HL3 := Lib.hid hl3
    have HK3 := Lib.hid (HK2.out.trans hk3)
    clear hp3 hk3 hX3 hY3 hw4 hX4 hY4 hvb hvw ho3 hl3
    go_wp2_with fail
    obtain ⟨v0, v1, v2, v3, v4, v5⟩ := cells6 HVB.out
    refine bodyPost_ret (v := ptV { x with args := Pts.ofL l } a4 c4) (by simp [results, Tryz.results140, go_sem, v0, v1, v2, v3, v4, v5, Pts.len_ofL]) rfl ?_
    have hkv : Kept (fun b => b = w.heap.size ∨ b = w2.heap.size) w3 V := kept_wrote (kept_wrote (Kept.refl (fun b => b = w.heap.size ∨ b = w2.heap.size) _) HW4.out fun _ => .inr rfl) HVW.out fun _ => .inl rfl
    have hs2 : (w2.alloc (oPt x a3 c3)).heap.size = w2.heap.size + 1 := by simp
    have hlt := HZ2.out
    exact ⟨a4, c4, rfl, ((PtOk.ofOwn (x := x) HO3.out HNM.out HL3.out).frame hkv (fun b e hge _ => by rw [hs2] at hge; omega)).base (by rw [hs2]; omega), HP3.out.frame hkv (fun b e => by have := HP.out.size; omega), kept_new HK3.out hkv (fun b e q => by omega)⟩
/-- the contracts of the readers of patterns, with so much fuel -/
structure PtC (N pb : Nat) (fv : Value) (d : Nat) : Prop where
  pat : ∀ p r w, pat d p = some r → PS N w pb p fv → Calls Tryz.prog 140 #[.pointer (some ⟨pb, 0, none⟩)] w (PtPost N pb fv r w)
  apats : ∀ p r w, apats d p = some r → PS N w pb p fv → Calls Tryz.prog 91 #[.pointer (some ⟨pb, 0, none⟩)] w (PtsPost N pb fv r w)
  apat : ∀ p r w, apat d p = some r → PS N w pb p fv → Calls Tryz.prog 116 #[.pointer (some ⟨pb, 0, none⟩)] w (PtPost N pb fv r w)
theorem pats_any (N pb : Nat) (fv : Value) : ∀ d, PtC N pb fv d := by
  intro d
  induction d using Nat.strongRecOn with
  | _ d ih =>
    cases d with
    | zero => exact ⟨fun p r w h => by simp [Pa.pat] at h, fun p r w h => by simp [Pa.apats] at h, fun p r w h => by simp [Pa.apat] at h⟩
    | succ d =>
      have i := ih d (Nat.lt_succ_self d)
      exact ⟨fun p r w h hp => pat_any w hp h i.apat i.apats, fun p r w h hp => apats_any w hp h fun d' hd => (ih d' hd).apat, fun p r w h hp => apat_any w hp h i.pat⟩
end Go.Proofs.YtdajihpfedbihaaGreat.Pa
