/-
  CONTRACTS of the document's layout: a state with a mark more, with a frame more; the frames below the topmost block.
-/
import Derived.Test.YtidmclaaggoahaaRlA
namespace Go.Proofs.Ytidmclaaggoahaa.Ly
open Go.RowKit Pl Ar Mm Lx
set_option linter.unusedVariables false
set_option linter.unusedSimpArgs false
abbrev RS : TypeId := 50
abbrev PS : TypeId := 25
/-- the rows of a state, none of whose blocks lies in Z -/
structure RSt (Z : Nat → Prop) (w : World) (T : List TokM) (F : List Fr) (vt vf : Value) : Prop where
  toks : OwnsM w 0 vt T
  frames : OwnsR w 0 vf F
  zt : ∀ k, vt.ownBlock = some k → ¬ Z k
  zf : ∀ k, vf.ownBlock = some k → ¬ Z k
  zl : ∀ k, Z k → k < w.heap.size
section
variable {Z : Nat → Prop} {w w' : World} {T : List TokM} {F : List Fr} {vt vf : Value}
theorem RSt.here (h : RSt Z w T F vt vf) (k : Below w.heap.size w w') : RSt Z w' T F vt vf := ⟨own_here h.toks k, own_here h.frames k, h.zt, h.zf, fun i hi => Nat.lt_of_lt_of_le (h.zl i hi) k.size⟩
theorem RSt.drewN (h : RSt Z w T F vt vf) (n : Nat) : RSt Z (w.drewN n) T F vt vf := ⟨h.toks, h.frames, h.zt, h.zf, h.zl⟩
theorem RSt.put (h : RSt Z w T F vt vf) {q : Nat} {t : TypeId} {cs : Array Value} (bx : Box w q t cs) (ht : TT ≠ t) (hf : RF ≠ t) (j : Nat) (u : Value) : RSt Z (w.setCell ⟨q, j, none⟩ u) T F vt vf :=
  ⟨own_far h.toks bx ht j u, own_far h.frames bx hf j u, h.zt, h.zf, fun i hi => by simpa using h.zl i hi⟩
theorem RSt.alloc (h : RSt Z w T F vt vf) (o : Obj) : RSt Z (w.alloc o) T F vt vf := h.here ((Below.refl _ _).alloc (Nat.le_refl _) _)
/-- Z and one block more, that the state's rows do not lie in -/
theorem RSt.more (h : RSt Z w T F vt vf) {q : Nat} {t : TypeId} {cs : Array Value} (bx : Box w q t cs) (ht : TT ≠ t) (hf : RF ≠ t) : RSt (Zq Z q) w T F vt vf :=
  ⟨h.toks, h.frames, fun k hk hz => hz.elim (h.zt k hk) (fun e => own_ne h.toks bx ht (by rw [hk, e])), fun k hk hz => hz.elim (h.zf k hk) (fun e => own_ne h.frames bx hf (by rw [hk, e])), fun k hk => hk.elim (h.zl k) (fun e => by rw [e]; exact bx.lt)⟩
theorem RSt.less {q : Nat} (h : RSt (Zq Z q) w T F vt vf) : RSt Z w T F vt vf :=
  ⟨h.toks, h.frames, fun k hk hz => h.zt k hk (.inl hz), fun k hk hz => h.zf k hk (.inl hz), fun k hk => h.zl k (.inl hk)⟩
theorem Holds.less {q : Nat} (h : Holds (Zq Z q) w w') : Holds Z w w' := ⟨h.os, h.tape, h.output, h.size, fun k hk => h.block k (.inl hk)⟩
end
/-- a row of other things is kept where a row grows -/
theorem own_apart {w w2 : World} {B1 B2 : Nat} {e1 e2 : TypeId} {s1 s2 n1 n2 : Nat} {v1 v2 : Value} {x1 x2 : List Value} (h1 : w.ownsRow B1 e1 s1 v1 n1 x1) (h2 : w.ownsRow B2 e2 s2 v2 n2 x2) (hne : e1 ≠ e2) (hg : w.grownBy w2 v1.ownBlock) : w2.ownsRow B2 e2 s2 v2 n2 x2 :=
  h2.kept hg (by
    cases hv : v2.ownBlock with
    | none => exact .inl rfl
    | some k =>
      refine .inr fun e => ?_
      rcases h2.2 with ⟨rfl, _⟩ | ⟨g', c', cur, rfl, _, hh, _⟩
      · simp [Value.ownBlock] at hv
      · obtain rfl : g' = k := by simpa [Value.ownBlock] using hv
        rcases h1.2 with ⟨rfl, _⟩ | ⟨g2, c2, cur2, rfl, _, hh2, _⟩
        · simp [Value.ownBlock] at e
        · obtain rfl : g2 = g' := by simpa [Value.ownBlock] using e.symm
          exact absurd (Box.same hh2 hh) hne)
/-- the rows behind an append to the tokens -/
theorem RSt.told {Z : Nat → Prop} {w w2 : World} {T : List TokM} {F : List Fr} {t : TokM} {vt vf : Value} {g cap : Nat} (h : RSt Z w T F vt vf)
    (hown : w2.ownsRow 0 TT 6 (.slice (some ⟨g, 0, none⟩) (T.length + 1) cap) (T.length + 1) (tmsCells T ++ tmCells t)) (hg : w.grownBy w2 vt.ownBlock) (hw : vt.ownBlock = some g ∨ w.heap.size ≤ g) :
    RSt Z w2 (T ++ [t]) F (.slice (some ⟨g, 0, none⟩) (T.length + 1) cap) vf ∧ Holds Z w w2 := by
  refine ⟨⟨?_, own_apart h.toks h.frames (by decide) hg, ?_, h.zf, fun k hk => Nat.lt_of_lt_of_le (h.zl k hk) hg.size⟩, (Holds.refl Z w).grown hg h.zl h.zt⟩
  · unfold OwnsM
    rw [tms_push, List.length_append]
    exact hown
  · intro k hk
    obtain rfl : g = k := by simpa [Value.ownBlock] using hk
    rcases hw with e | e
    · exact h.zt _ e
    · exact fun hz => by have := h.zl _ hz; omega
/-- the rows behind an append to the frames -/
theorem RSt.framed {Z : Nat → Prop} {w w2 : World} {T : List TokM} {F : List Fr} {f : Fr} {vt vf : Value} {g cap : Nat} (h : RSt Z w T F vt vf)
    (hown : w2.ownsRow 0 RF 2 (.slice (some ⟨g, 0, none⟩) (F.length + 1) cap) (F.length + 1) (rfsCells F ++ rfCells f)) (hg : w.grownBy w2 vf.ownBlock) (hw : vf.ownBlock = some g ∨ w.heap.size ≤ g) :
    RSt Z w2 T (F ++ [f]) vt (.slice (some ⟨g, 0, none⟩) (F.length + 1) cap) ∧ Holds Z w w2 := by
  refine ⟨⟨own_apart h.frames h.toks (by decide) hg, ?_, h.zt, ?_, fun k hk => Nat.lt_of_lt_of_le (h.zl k hk) hg.size⟩, (Holds.refl Z w).grown hg h.zl h.zf⟩
  · unfold OwnsR
    rw [rfs_push, List.length_append]
    exact hown
  · intro k hk
    obtain rfl : g = k := by simpa [Value.ownBlock] using hk
    rcases hw with e | e
    · exact h.zf _ e
    · exact fun hz => by have := h.zl _ hz; omega
abbrev stV (vt vf : Value) (due : Bool) : Value := .agg #[vt, vf, .bool due]
/-- What a call that hands a state back ends with. -/
def StPost (Z : Nat → Prop) (T : List TokM) (F : List Fr) (due : Bool) (w : World) (e : Ending) (w' : World) : Prop :=
  ∃ vt vf, e = .returned (stV vt vf due) ∧ RSt Z w' T F vt vf ∧ Holds Z w w'
/-- a state, stored to a block of its own -/
theorem st_out {Z : Nat → Prop} {w w2 : World} {T : List TokM} {F : List Fr} {vt vf : Value} {q : Nat} {v0 v1 v2 : Value} (h : RSt Z w2 T F vt vf) (hh : Holds Z w w2) (bx : Box w2 q RS #[v0, v1, v2]) (hq : ¬ Z q) (due : Bool) :
    ∃ W, ((w2.setCell ⟨q, 0, none⟩ vt).setCell ⟨q, 1, none⟩ vf).setCell ⟨q, 2, none⟩ (.bool due) = W ∧ W.cell? ⟨q, 0, none⟩ = some vt ∧ W.cell? ⟨q, 1, none⟩ = some vf ∧ W.cell? ⟨q, 2, none⟩ = some (.bool due) ∧ RSt Z W T F vt vf ∧ Holds Z w W := by
  have b1 := bx.put 0 vt
  have b2 := b1.put 1 vf
  have b3 := b2.put 2 (.bool due)
  refine ⟨_, rfl, b3.cell 0, b3.cell 1, b3.cell 2, ?_, ((hh.setCell hq _).setCell hq _).setCell hq _⟩
  exact ((h.put bx (by decide) (by decide) 0 vt).put b1 (by decide) (by decide) 1 vf).put b2 (by decide) (by decide) 2 (.bool due)
set_option maxRecDepth 100000 in
set_option maxHeartbeats 4000000 in
theorem made_any {Z : Nat → Prop} {T : List TokM} {F : List Fr} {due : Bool} {ln col : Int} {vt vf : Value} (text : ByteArray) (w : World) (h : RSt Z w T F vt vf) (hn : T.length ≤ 1000000000) :
    Calls Try.prog 27 #[stV vt vf due, .string text, .agg #[.int .i64 ln, .int .i64 col]] w (StPost Z (T ++ [⟨5, text, 0, ln, col, true⟩]) F due w) := by
  obtain ⟨i0, hi, hz0, hz1, hz2'⟩ := info_parts Ttok
  have HS := Lib.hid h
  obtain ⟨a, c, rfl⟩ := own_slice h.toks
  obtain ⟨af, cf, rfl⟩ := own_slice h.frames
  clear h
  go_enter Try.func27, Try.ntmps27
  obtain ⟨Y, hY⟩ : ∃ Y, ((((w.alloc (.cells #[.slice a T.length c, .slice af F.length cf, .bool due] RS)).alloc (.cells #[.int .i64 ln, .int .i64 col] PS)).alloc (.cells #[.slice none 0 0, .slice none 0 0, .bool false] RS)).alloc (.cells #[.int .i64 5, .string text, .int .i64 0, .int .i64 ln, .int .i64 col, .bool true] TT)) = Y := ⟨_, rfl⟩
  have hRY : RSt Z Y T F (.slice a T.length c) (.slice af F.length cf) := by rw [← hY]; exact (((HS.out.alloc _).alloc _).alloc _).alloc _
  have hHY : Holds Z w Y := by rw [← hY]; exact ((((Holds.refl Z w).alloc HS.out.zl _).alloc (HS.out.alloc _).zl _).alloc ((HS.out.alloc _).alloc _).zl _).alloc (((HS.out.alloc _).alloc _).alloc _).zl _
  have hb0 : Box Y w.heap.size RS #[.slice a T.length c, .slice af F.length cf, .bool due] := by rw [← hY]; exact (((Box.new _ _ _).alloc _).alloc _).alloc _
  have hb2 : Box Y (w.heap.size + 1 + 1) RS #[.slice none 0 0, .slice none 0 0, .bool false] := by
    rw [← hY]
    have := Box.new ((w.alloc (.cells #[.slice a T.length c, .slice af F.length cf, .bool due] RS)).alloc (.cells #[.int .i64 ln, .int .i64 col] PS)) #[.slice none 0 0, .slice none 0 0, .bool false] RS
    rw [World.size_alloc, World.size_alloc] at this
    exact this.alloc _
  have hsY : Y.heap.size = w.heap.size + 1 + 1 + 1 + 1 := by rw [← hY]; simp
  have hnew : ∀ (j : Nat) u, [Value.int .i64 5, .string text, .int .i64 0, .int .i64 ln, .int .i64 col, .bool true][j]? = some u → Y.cell? ((⟨w.heap.size + 1 + 1 + 1, 0, none⟩ : Addr).add j) = some u := by
    rw [← hY]
    have := news6 (((w.alloc (.cells #[.slice a T.length c, .slice af F.length cf, .bool due] RS)).alloc (.cells #[.int .i64 ln, .int .i64 col] PS)).alloc (.cells #[.slice none 0 0, .slice none 0 0, .bool false] RS)) (.int .i64 5) (.string text) (.int .i64 0) (.int .i64 ln) (.int .i64 col) (.bool true) TT
    rw [World.size_alloc, World.size_alloc, World.size_alloc] at this
    exact this
  have HY := Lib.hid hY
  have HRY := Lib.hid hRY
  have HHY := Lib.hid hHY
  have HB0 := Lib.hid hb0
  have HB2 := Lib.hid hb2
  have HNEW := Lib.hid hnew
  clear hY hRY hHY hb0 hb2 hnew
  go_wp2_with (at_builtin; rw [HY.out]; refine wpList_append_lies _ rfl _ _ 22 rfl 0 35 i0 _ 6 56 Try.underlying22 hi hz0 hz1 hz2' rfl (by decide) _ _ _ rfl HRY.out.toks ⟨w.heap.size + 1 + 1 + 1, 0, none⟩ 1 1 [.int .i64 5, .string text, .int .i64 0, .int .i64 ln, .int .i64 col, .bool true] rfl rfl ?c1 ?c2 (by decide) ?c3 ?c4 ?c5 _ rfl ?_)
  case c1 => exact HNEW.out
  case c2 =>
    intro u hu
    simp only [List.mem_cons, List.not_mem_nil, or_false] at hu
    rcases hu with rfl | rfl | rfl | rfl | rfl | rfl <;> rfl
  case c3 => unfold maxLen; omega
  case c4 => omega
  all_goals try exact Nat.zero_le _
  intro g cap w2 hown hgrow hg hlt
  have bx0 := HB0.out.grown hgrow (own_ne HRY.out.toks HB0.out (by decide))
  have bx2 := HB2.out.grown hgrow (own_ne HRY.out.toks HB2.out (by decide))
  obtain ⟨r2, h2⟩ := HRY.out.told (t := ⟨5, text, 0, ln, col, true⟩) hown hgrow (hg.imp id fun e => by omega)
  have x0 := bx0.cell 0
  have x1 := bx0.cell 1
  have x2 := bx0.cell 2
  have f0 := bx0.free 0
  have y0 := bx2.cell 0
  have y1 := bx2.cell 1
  have y2 := bx2.cell 2
  have g0 := bx2.free 0
  have g1 := bx2.free 1
  have g2 := bx2.free 2
  have HX0 := Lib.hid bx0
  have HX2 := Lib.hid bx2
  have HR2 := Lib.hid r2
  have HH2 := Lib.hid (HHY.out.trans h2)
  clear bx0 bx2 r2 h2 hown hgrow hg
  go_wp2
  have nz : ∀ k, w.heap.size ≤ k → ¬ Z k := fun k hk hz => by have := HS.out.zl _ hz; omega
  have r3 := HR2.out.put HX0.out (by decide) (by decide) 0 (.slice (some ⟨g, 0, none⟩) (T.length + 1) cap)
  have b3 := HX2.out.far (a := ⟨w.heap.size, 0, none⟩) (by simp; omega) (.slice (some ⟨g, 0, none⟩) (T.length + 1) cap)
  have h3 := HH2.out.setCell (a := ⟨w.heap.size, 0, none⟩) (nz _ (Nat.le_refl _)) (.slice (some ⟨g, 0, none⟩) (T.length + 1) cap)
  obtain ⟨W, hW, q0, q1, q2, r4, h4⟩ := st_out r3 h3 b3 (nz _ (by omega)) due
  rw [hW]
  refine bodyPost_ret (v := stV (.slice (some ⟨g, 0, none⟩) (T.length + 1) cap) (.slice af F.length cf) due) (by simp [results, Try.results27, go_sem, q0, q1, q2]) rfl ?_
  exact ⟨_, _, rfl, r4, h4⟩
end Go.Proofs.Ytidmclaaggoahaa.Ly
