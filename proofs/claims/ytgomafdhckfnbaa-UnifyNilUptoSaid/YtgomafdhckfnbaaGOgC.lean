/-
  CONTRACT of layer unify: the parts of a type are put behind the row of those still to be looked at: the inner range of the look, for any frame.
-/
import Derived.Test.YtgomafdhckfnbaaGOgB

namespace Go.Proofs.Ytgomafdhckfnbaa.Og
open Go.RowKit Go.Shelf Mm Tm Mk Un Go.Maps Go.ChangeMaps Go.MapKept Go.WideMaps Rg
set_option linter.unusedVariables false
set_option linter.unusedSimpArgs false
attribute [local go_sem] Oper.semAt_some
set_option maxRecDepth 100000 in
set_option maxHeartbeats 8000000 in
theorem inner_loop {X : World → Nat → Prop} {lb : Option Nat} {base q l d0 d' cg g fc cs : Nat} {Y : Nat → Prop} {w0 W w5 : World} {K : PS} {deep : Bool} {J : List (Int × Fact) → World → Prop} {L : List (Int × PF)} {ds : List Deferred} {seen : SN} {td' : List Ty} {pre : List (Int × Fact)} {rest : List (Int × PF)} {vs : List Value} {Fs : FK} {args : Tys} {fa : Option Addr} {Q : Exit → Act → World → Prop}
    (hM : OpenR lb (ZU base Y w0) w0 W q K deep l J L d0 d' ds w5 seen (args.toL ++ td') td' pre rest (some ⟨g, 0, none⟩) cg vs Fs cs) (hA : RdT (ZU base Y w0) w5 fa args 0 ∧ args.len * 56 ≤ 140737488355328 ∧ args.len + td'.length < limT)
    (hJ : ∀ s A C, J s A → Rg.Steps X W.heap.size A C → J s C) (hzB : ∀ b, ZU base Y w0 b → b < W.heap.size) (hX : XOK X lb w0 (ZU base Y w0)) (hw0 : w0.heap.size ≤ W.heap.size) (w6 : World) (hw6 : w5.alloc (.cells #[.slice fa args.len fc] TTs) = w6) (r0 r1 r2 r3 r4 r5 r7 r8 r9 r10 r11 r12 r13 r14 r15 r16 r17 r18 r19 r20 r21 r22 r23 r24 r25 r26 r27 r28 r29 r30 r31 r32 r33 r34 r35 r36 r37 r38 r39 r40 r41 r42 r43 r44 r45 r46 r47 r48 r49 r50 r51 r52 r53 r54 r55 r56 r57 r58 r59 r60 r61 r62 r63 r64 r66 r67 r68 r69 r70 r71 r72 r73 : Value)
    (hQ : ∀ D Wd, OpenI lb (ZU base Y w0) w0 W q K deep l J L d0 d' ({ target := .collected D, args := #[] } :: ds) Wd → Q .normal { tmps := #[r0, r1, r2, r3, r4, r5, .pointer (some ⟨W.heap.size + 2, 0, none⟩), r7, r8, r9, r10, r11, r12, r13, r14, r15, r16, r17, r18, r19, r20, r21, r22, r23, r24, r25, r26, r27, r28, r29, r30, r31, r32, r33, r34, r35, r36, r37, r38, r39, r40, r41, r42, r43, r44, r45, r46, r47, r48, r49, r50, r51, r52, r53, r54, r55, r56, r57, r58, r59, r60, r61, r62, r63, r64, .func (.func 56) #[] #[.pointer (some ⟨w5.heap.size, 0, none⟩)], r66, r67, r68, r69, r70, r71, r72, r73], defers := { target := .collected D, args := #[] } :: ds } Wd) :
    (Code.rangeFunc (Operand.tmp 65) #[66, 67] (Code.region 10 #[{ dst := some 9, op := Op.alloc TT, type := 0, pos := "store.go:100", after := #[], guard := none }, { dst := none, op := Op.store TT (Operand.tmp 9) (Operand.tmp 67), type := 0, pos := "store.go:100", after := #[{ on := 0, ground := Ground.data }, { on := 0, ground := Ground.phase }], guard := none }] false) (Code.block 3 (Code.region 11 #[{ dst := some 68, op := Op.load TTs (Operand.tmp 6), type := TTs, pos := "store.go:101", after := #[], guard := none }, { dst := some 69, op := Op.load TT (Operand.tmp 9), type := TT, pos := "store.go:101", after := #[], guard := none }, { dst := some 70, op := Op.call { callee := Callee.builtin Builtin.len, args := #[Operand.tmp 68], argTypes := #[TTs] }, type := TI, pos := "store.go:101", after := #[{ on := 0, ground := Ground.data }], guard := none }, { dst := some 71, op := Op.buildSlice TTs 1 #[(0, Operand.const (Value.agg #[Value.int IntKind.i64 0, Value.int IntKind.i64 0, Value.string { data := #[] }, Value.slice none 0 0]))], type := TTs, pos := "store.go:101", after := #[], guard := none }, { dst := some 72, op := Op.call { callee := Callee.builtin Builtin.append, args := #[Operand.tmp 68, Operand.tmp 71], argTypes := #[TTs, TTs] }, type := TTs, pos := "store.go:101", after := #[{ on := 0, ground := Ground.data }, { on := 3, ground := Ground.data }, { on := 0, ground := Ground.phase }, { on := 1, ground := Ground.phase }, { on := 2, ground := Ground.phase }, { on := 3, ground := Ground.phase }], guard := none }, { dst := some 73, op := Op.indexAddr TTs (Operand.tmp 72) (Operand.tmp 70), type := 0, pos := "store.go:101", after := #[{ on := 4, ground := Ground.data }, { on := 2, ground := Ground.data }, { on := 0, ground := Ground.phase }, { on := 1, ground := Ground.phase }, { on := 2, ground := Ground.phase }, { on := 3, ground := Ground.phase }, { on := 4, ground := Ground.phase }, { on := 7, ground := Ground.gcOnly Departure.appendInPlace }], guard := none }, { dst := none, op := Op.store TT (Operand.tmp 73) (Operand.tmp 69), type := 0, pos := "store.go:101", after := #[{ on := 5, ground := Ground.data }, { on := 1, ground := Ground.data }, { on := 4, ground := Ground.chain }, { on := 0, ground := Ground.phase }, { on := 1, ground := Ground.phase }, { on := 2, ground := Ground.phase }, { on := 3, ground := Ground.phase }, { on := 4, ground := Ground.phase }, { on := 7, ground := Ground.gcOnly Departure.appendInPlace }], guard := none }, { dst := none, op := Op.store TTs (Operand.tmp 6) (Operand.tmp 72), type := 0, pos := "store.go:101", after := #[{ on := 4, ground := Ground.data }, { on := 4, ground := Ground.chain }, { on := 6, ground := Ground.textOnly Departure.appendInPlace }, { on := 0, ground := Ground.phase }, { on := 1, ground := Ground.phase }, { on := 2, ground := Ground.phase }, { on := 3, ground := Ground.phase }, { on := 4, ground := Ground.phase }, { on := 5, ground := Ground.textOnly Departure.appendInPlace }, { on := 6, ground := Ground.textOnly Departure.appendInPlace }], guard := none }] true))).wp Try.prog Q { tmps := #[r0, r1, r2, r3, r4, r5, .pointer (some ⟨W.heap.size + 2, 0, none⟩), r7, r8, r9, r10, r11, r12, r13, r14, r15, r16, r17, r18, r19, r20, r21, r22, r23, r24, r25, r26, r27, r28, r29, r30, r31, r32, r33, r34, r35, r36, r37, r38, r39, r40, r41, r42, r43, r44, r45, r46, r47, r48, r49, r50, r51, r52, r53, r54, r55, r56, r57, r58, r59, r60, r61, r62, r63, r64, .func (.func 56) #[] #[.pointer (some ⟨w5.heap.size, 0, none⟩)], r66, r67, r68, r69, r70, r71, r72, r73], defers := ds } w6 := by
  have hB56 : Below w5.heap.size w5 w6 := by rw [← hw6]; exact (Below.refl _ w5).alloc (Nat.le_refl _) _
  have hBs : Box w6 w5.heap.size TTs #[.slice fa args.len fc] := by rw [← hw6]; exact Box.new _ _ _
  have hz6 : w6.heap.size = w5.heap.size + 1 := by rw [← hw6]; simp
  have HM6 := Lib.hid (hM.here hJ hzB hB56)
  have hg5 := (hM.own.lt g rfl)
  have hb5 := hM.big
  obtain ⟨es, hes, hrc⟩ := rd_rowc args 0 (hA.1.below hB56 (fun b hb => by have := hzB b hb; omega))
  have hlen5 : args.len = es.length := by rw [← Tys.toL_len, ← hes, List.length_map]
  obtain ⟨G, hG⟩ : ∃ G : TA → Prop, G = fun e => e.1.nm.size ≤ 9223372036854775807 ∧ e.1.args.len * 56 ≤ 140737488355328 ∧ RdT (ZU base Y w0) w6 e.2.1 e.1.args 0 := ⟨_, rfl⟩
  obtain ⟨eg, heg⟩ := exists_sub (G := G) es (fun e he => by
    obtain ⟨i, hi⟩ := List.getElem?_of_mem he
    obtain ⟨ad, _, _, _, _, _, h5, h6, h7, _⟩ := hrc i e hi
    rw [hG]
    exact ⟨h5, h6, h7⟩)
  have hgl : eg.length = es.length := by rw [← heg, List.length_map]
  have hRC : RowC w6 fa (eg.map (·.1)) := by
    rw [heg]
    intro i e he
    obtain ⟨ad, e1, q0, q1, q2, q3, _⟩ := hrc i e he
    rw [Nat.zero_add] at q0 q1 q2 q3
    exact ⟨ad, e1, q0, q1, q2, q3⟩
  have hXX : ∀ A k, k = w5.heap.size ∨ (eg ≠ [] ∧ ∃ ad, fa = some ad ∧ k = ad.block) → ¬ PushX W.heap.size g w6 A k := by
    rintro A k (rfl | ⟨hne, ad, e, rfl⟩) q
    · rcases q with q | q | q <;> omega
    · have : 0 < es.length := by rw [← hgl]; exact List.length_pos_iff.2 hne
      obtain ⟨ad', e', _, _, _, _, _, _, _, hz⟩ := hrc 0 es[0] (List.getElem?_eq_getElem this)
      rw [e] at e'
      injection e' with e'
      have := hzB _ hz
      rw [← e'] at this
      rcases q with q | q | q <;> omega
  have HES := Lib.hid hes
  have HEG := Lib.hid heg
  have HARG := Lib.hid hA
  have HJ := Lib.hid hJ
  have HXO := Lib.hid hX
  clear hw6 hes heg hrc hM hA hJ hX
  refine wpIn_wide.1 (range_own (n := 9) (X := PushX W.heap.size g w6) (by omega) (gf := 56) (lb := #[.pointer (some ⟨w5.heap.size, 0, none⟩)]) rfl (enters_of Try.func56 (by kernel_rfl) rfl)
    (backT_seq (G := G) (es := eg) (Bs := w5.heap.size) (b := fa) (c := fc) (by omega) w6 (by rw [hgl, ← hlen5]; exact hBs) hRC (by rw [hgl, ← hlen5]; exact HARG.out.2.1) hXX) (Below.refl _ _) (fun _ => rfl) (pushX_o (by omega) (by omega)) (fun A C b _ h => h)
    (fun prei W' => PushI (ZU base Y w0) W.heap.size g w6 td' prei W')
    (fun _ _ _ => False) (fun s A C h hs => h.step hs (by omega) (by omega) hzB) (fun _ _ _ _ h _ => h) HM6.out.push0
    (fun xi ai W' => ∃ Bx, Box W' Bx TT #[.int .i64 xi.2.1.1.kd, .int .i64 xi.2.1.1.n, .string xi.2.1.1.nm, .slice xi.2.1.2.1 xi.2.1.1.args.len xi.2.1.2.2] ∧ ∃ (b0 b1 b2 b3 b4 b5 b7 b8 b10 b11 b12 b13 b14 b15 b16 b17 b18 b19 b20 b21 b22 b23 b24 b25 b26 b27 b28 b29 b30 b31 b32 b33 b34 b35 b36 b37 b38 b39 b40 b41 b42 b43 b44 b45 b46 b47 b48 b49 b50 b51 b52 b53 b54 b55 b56 b57 b58 b59 b60 b61 b62 b63 b64 b65 b66 b67 b68 b69 b70 b71 b72 b73 : Value), ai = { tmps := #[b0, b1, b2, b3, b4, b5, .pointer (some ⟨W.heap.size + 2, 0, none⟩), b7, b8, .pointer (some ⟨Bx, 0, none⟩), b10, b11, b12, b13, b14, b15, b16, b17, b18, b19, b20, b21, b22, b23, b24, b25, b26, b27, b28, b29, b30, b31, b32, b33, b34, b35, b36, b37, b38, b39, b40, b41, b42, b43, b44, b45, b46, b47, b48, b49, b50, b51, b52, b53, b54, b55, b56, b57, b58, b59, b60, b61, b62, b63, b64, b65, b66, b67, b68, b69, b70, b71, b72, b73], defers := [] })
    (fun x a' A k o o' ⟨Bx, hb, ha⟩ ho hc => ⟨Bx, (World.putObj_heap_other (fun e => by unfold Box at hb; rw [e, ho] at hb; injection hb with hb; rw [hb] at hc; cases hc)).trans hb, ha⟩) ?_ ?_ ?_ ?_)
  · rintro l2 prei xi Wa Ka hPA hsza hKa
    obtain ⟨ag', cg', vs', hPA⟩ := hPA
    obtain ⟨xn, ⟨⟨xt, xa, xc⟩, xg⟩⟩ := xi
    simp only [encT, taV, tyV]
    gi_wp2
    refine hKa _ _ ((Below.refl _ Wa).alloc (Nat.le_refl _) (.cells #[.int .i64 xt.kd, .int .i64 xt.n, .string xt.nm, .slice xa xt.args.len xc] TT)) ⟨Wa.heap.size, Box.new _ _ _, ?_⟩
    (repeat apply Exists.intro)
    rfl
  · rintro l2 prei xi ai Wb hl2 hl2b ⟨ag', cg', vs', hPR⟩ hlen ⟨Bx, hBx, haa⟩
    obtain ⟨xn, ⟨⟨xt, xa, xc⟩, xg⟩⟩ := xi
    obtain ⟨b0, b1, b2, b3, b4, b5, b7, b8, b10, b11, b12, b13, b14, b15, b16, b17, b18, b19, b20, b21, b22, b23, b24, b25, b26, b27, b28, b29, b30, b31, b32, b33, b34, b35, b36, b37, b38, b39, b40, b41, b42, b43, b44, b45, b46, b47, b48, b49, b50, b51, b52, b53, b54, b55, b56, b57, b58, b59, b60, b61, b62, b63, b64, b65, b66, b67, b68, b69, b70, b71, b72, b73, rfl⟩ := haa
    have xg' := xg
    rw [hG] at xg'
    gi_wp2
    refine push_round (base := W.heap.size) (k := td'.length + prei.length) Wb b0 b1 b2 b3 b4 b5 b7 b8 b10 b11 b12 b13 b14 b15 b16 b17 b18 b19 b20 b21 b22 b23 b24 b25 b26 b27 b28 b29 b30 b31 b32 b33 b34 b35 b36 b37 b38 b39 b40 b41 b42 b43 b44 b45 b46 b47 b48 b49 b50 b51 b52 b53 b54 b55 b56 b57 b58 b59 b60 b61 b62 b63 b64 b65 b66 b67 b68 b69 b70 b71 b72 b73 hBx hPR.bx hPR.own (by omega) (by have := HARG.out.2.2; unfold limT at this; rw [hgl, ← hlen5] at hlen; omega) ?_
    rintro W' hput c68 c69 c70 c71 c72 c73
    exact hPR.next hput (by omega) hzB hg5.1 xg'.1 xg'.2.1 xg'.2.2 (by omega)
  · rintro D xs Wd hD hS hPX hDef
    have hOI := HM6.out.pushed (D := D) hPX (by
      have := congrArg (List.map (fun e : { e : TA // G e } => e.1.1)) hS
      rw [List.map_map, List.map_reverse] at this
      rw [← HES.out, ← HEG.out, List.map_map]
      exact this) (by rw [Tys.toL_len]; exact HARG.out.2.2) hD hDef HJ.out HXO.out hw0
    exact hQ D Wd hOI
  · rintro D cst prest Wd hD hSp hf
    exact hf.elim
end Go.Proofs.Ytgomafdhckfnbaa.Og
