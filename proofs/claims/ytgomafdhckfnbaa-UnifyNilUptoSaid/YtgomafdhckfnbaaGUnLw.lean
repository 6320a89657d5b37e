/-
  CONTRACT of layer unify: Leaves of a type that may be.
-/
import Derived.Test.YtgomafdhckfnbaaGOgW
import Derived.Test.YtgomafdhckfnbaaGUnLv

namespace Go.Proofs.Ytgomafdhckfnbaa.Un
open Go.RowKit Go.Shelf Mm Tm Mk Go.Maps Go.ChangeMaps Go.MapKept Go.WideMaps Rg
set_option linter.unusedVariables false
set_option linter.unusedSimpArgs false
attribute [local go_sem] Oper.semAt_some
attribute [-go_sem] Builtin.append_
abbrev TRw : TypeId := 37
theorem TintL : (Try.prog.info? 3).map (fun i => (i.zero, i.size, i.bytes)) = some (some (.int .i64 0), 1, 8) := by kernel_rfl
/-- what a round leaves -/
structure LeafR (base lb : Nat) (L : List Int) (w W' : World) : Prop where
  row : ∃ a c, Box W' lb TRw #[.slice a L.length c] ∧ OwnI base TI W' (.slice a L.length c) L
  kept : Kept (fun b => b = lb ∨ (base ≤ b ∧ TyB TI w b)) w W'
set_option maxRecDepth 100000 in
set_option maxHeartbeats 8000000 in
theorem leaf_round {n l2 base lb Bx c : Nat} {L : List Int} {f : Fact} {a : Option Addr} {Q : Exit → Act → World → Prop} (w : World) (b0 b1 b2 b3 b4 b5 b6 b8 b10 b11 b12 b13 b14 b15 b16 b17 b18 b19 b20 b21 b22 b23 b24 b25 b26 : Value) (hl : Box w lb TRw #[.slice a L.length c]) (ho : OwnI base TI w (.slice a L.length c) L) (hf : Box w Bx TF (factC f)) (hb : base ≤ w.heap.size) (hk : L.length ≤ 1100000000)
    (hQ : ∀ W', LeafR base lb (L ++ [f.least]) w W' → ∀ c21 c22 c23 c24 c25 : Value, Q .normal { tmps := #[b0, b1, b2, b3, b4, b5, b6, .pointer (some ⟨lb, 0, none⟩), b8, .pointer (some ⟨Bx, 0, none⟩), b10, b11, b12, b13, b14, b15, b16, b17, b18, b19, b20, c21, c22, c23, c24, c25, b26], defers := [] } W') :
    (Code.block 1 (Code.region 7 #[{ dst := some 21, op := Op.load TRw (Operand.tmp 7), type := TRw, pos := "store.go:114", after := #[], guard := none }, { dst := some 22, op := Op.fieldAddr TF (Operand.tmp 9) 1, type := 0, pos := "store.go:114", after := #[], guard := none }, { dst := some 23, op := Op.load TI (Operand.tmp 22), type := TI, pos := "store.go:114", after := #[{ on := 1, ground := Ground.data }], guard := none }, { dst := some 24, op := Op.buildSlice TRw 1 #[(0, Operand.tmp 23)], type := TRw, pos := "store.go:114", after := #[{ on := 2, ground := Ground.data }], guard := none }, { dst := some 25, op := Op.call { callee := Callee.builtin Builtin.append, args := #[Operand.tmp 21, Operand.tmp 24], argTypes := #[TRw, TRw] }, type := TRw, pos := "store.go:114", after := #[{ on := 0, ground := Ground.data }, { on := 3, ground := Ground.data }], guard := none }, { dst := none, op := Op.store TRw (Operand.tmp 7) (Operand.tmp 25), type := 0, pos := "store.go:114", after := #[{ on := 4, ground := Ground.data }, { on := 4, ground := Ground.chain }, { on := 0, ground := Ground.phase }, { on := 1, ground := Ground.phase }, { on := 2, ground := Ground.phase }, { on := 3, ground := Ground.phase }, { on := 4, ground := Ground.phase }], guard := none }] false)).wpIn (Fence.wide.inRound l2) n Try.prog Q { tmps := #[b0, b1, b2, b3, b4, b5, b6, .pointer (some ⟨lb, 0, none⟩), b8, .pointer (some ⟨Bx, 0, none⟩), b10, b11, b12, b13, b14, b15, b16, b17, b18, b19, b20, b21, b22, b23, b24, b25, b26], defers := [] } w := by
  obtain ⟨i0, hi, hz0, hz1, hz2'⟩ := info_parts TintL
  obtain ⟨W1, hW1⟩ : ∃ W1, w.alloc (.cells #[.int .i64 f.least] TI) = W1 := ⟨_, rfl⟩
  have hB1 : Below w.heap.size w W1 := by rw [← hW1]; exact (Below.refl _ w).alloc (Nat.le_refl _) _
  have hzz : W1.heap.size = w.heap.size + 1 := by rw [← hW1]; simp
  have ho0 : w.ownsRow base TI 1 (.slice a L.length c) L.length (L.map fun x => .int .i64 x) := ho
  have ho1 := own_here ho0 hB1
  obtain ⟨v', w2, hr, hown', hgrow, _, hlies⟩ := run_append_own_at (P := Try.prog) (w := W1) base TRw TRw TI i0 _ 1 8 Try.underlying37 hi hz0 hz1 hz2' rfl (by decide) (.slice a L.length c) L.length _ ho1 ⟨w.heap.size, 0, none⟩ 1 1 [.int .i64 f.least] rfl
    (by rw [← hW1]; exact Go.cell_one_new _ _ _) (fun u hu => by simp only [List.mem_singleton] at hu; rw [hu]; rfl) (by unfold maxLen; omega) (by omega) (by omega)
  obtain ⟨g', cap', rfl⟩ := ownsRow_succ hown'
  have hl1 := hl.below hB1 hl.lt
  have hl2 : Box w2 lb TRw #[.slice a L.length c] := hl1.grown hgrow (own_ne ho1 hl1 (by decide))
  have hK : Kept (fun b => b = lb ∨ (base ≤ b ∧ TyB TI w b)) w w2 := Kept.grown (Kept.of_below hB1 (Nat.le_refl _) _) hgrow (fun q e _ => .inr (own_tyB ho0 e))
  have hP : LeafR base lb (L ++ [f.least]) w (w2.setCell ⟨lb, 0, none⟩ (.slice (some ⟨g', 0, none⟩) (L.length + 1) cap')) :=
    ⟨⟨some ⟨g', 0, none⟩, cap', by rw [List.length_append]; exact hl2.put 0 _, by unfold OwnI; rw [List.length_append, List.map_append]; exact own_far hown' hl2 (by decide) 0 _⟩, hK.setCell (a := ⟨lb, 0, none⟩) (fun _ => .inl rfl) _⟩
  have j0 : w.cell? ⟨lb, 0, none⟩ = some (.slice a L.length c) := hl.cell 0
  have j4 : w.cell? ⟨Bx, 4, none⟩ = some (.int .i64 f.least) := hf.cell 4
  have m0 : w2.cell? ⟨lb, 0, none⟩ = some (.slice a L.length c) := hl2.cell 0
  have f0 := hl2.free 0
  have HQ := Lib.hid hQ
  have HP := Lib.hid hP
  clear hQ hP hB1 hzz ho ho0 ho1 hown' hgrow hlies hl hl1 hl2 hf hK hi hz0 hz1 hz2'
  gi_wp2
  exact HQ.out _ HP.out _ _ _ _ _
/-- what Leaves tells of a type that may be -/
def LeavesOut (base s m : Nat) (nx : Int) (K : PS) (cnt : Nat) (L : List (Int × PF)) (w : World) (e : Ending) (w' : World) : Prop :=
  ∃ a c, e = .returned (.tuple #[.slice a L.length c, .int .i64 0]) ∧ OwnI w.heap.size TI w' (.slice a L.length c) (L.map fun y => y.2.least) ∧ StoreI base w' s m nx K cnt ∧ Kept (fun b => b = s) w w'
/-- what the rounds may turn -/
def XLv (lb B : Nat) : World → Nat → Prop := fun A b => b = lb ∨ (B ≤ b ∧ TyB TI A b)
set_option maxRecDepth 100000 in
set_option maxHeartbeats 8000000 in
theorem leaves_ok {base s m cnt cx q d : Nat} {nx : Int} {K : PS} {x : Ty} {ax : Option Addr} {L : List (Int × PF)} (w : World) (hS : StoreI base w s m nx K cnt) (hb : base ≤ w.heap.size) (hx : TyR base w x ax) (okx : okTy x = true) (hd : d ≤ 1000000000) (hrun : openL q K true d (fun _ => 0) [x] = some L) :
    Calls Try.prog 23 #[.pointer (some ⟨s, 0, none⟩), .agg #[.int .i64 x.kd, .int .i64 x.n, .string x.nm, .slice ax x.args.len cx]] w (LeavesOut base s m (given1 nx x) K cnt L w) := by
  obtain ⟨W0, hW0⟩ : ∃ W0, w.alloc (.cells #[.int .i64 x.kd, .int .i64 x.n, .string x.nm, .slice ax x.args.len cx] TT) = W0 := ⟨_, rfl⟩
  have hB0 : Below w.heap.size w W0 := by rw [← hW0]; exact (Below.refl w.heap.size w).alloc (Nat.le_refl _) _
  have hX0 : Box W0 w.heap.size TT #[.int .i64 x.kd, .int .i64 x.n, .string x.nm, .slice ax x.args.len cx] := by rw [← hW0]; exact Box.new w _ _
  have HAS := Lib.hid (asked_ok (cx := cx) W0 (hS.below hB0) (hx.below hB0) okx)
  have HB0 := Lib.hid hB0
  have HX0 := Lib.hid (And.intro hX0 (hx.below hB0))
  have HSS := Lib.hid (And.intro hS.box.lt (And.intro hS.bs hS.box))
  have HSO := Lib.hid hS
  have HRUN := Lib.hid hrun
  obtain ⟨x0, x1, x2, x3, _⟩ := hX0.cells4
  clear hS hx okx hB0 hX0 hrun
  refine (callsIn_wide (n := 20)).1 ?_
  refine callsIn_of_wp_marks Try.func23 rfl trivial ?_ rfl
  simp only [Try.ntmps23, List.size_toArray, List.length_cons, List.length_nil, Nat.reduceAdd, Nat.reduceSub, Array.replicate_succ, Array.replicate_zero, List.push_toArray, List.append_toArray, List.nil_append, List.cons_append]
  refine wpIn_wide.2 ?_
  go_wp2_with fail
  refine HAS.out.mono ?_
  rintro e W1 ⟨rfl, hS1, hk1⟩
  have hX1 : Box W1 w.heap.size TT _ := hk1.box HX0.out.1 (fun e => by have := HSS.out.1; omega)
  have hx1 : TyR base W1 x ax := HX0.out.2.kept hk1 (fun b e => by rw [e]; exact ⟨HSS.out.2.1, Box.notTyB (HSS.out.2.2.below HB0.out HSS.out.1) (by decide)⟩)
  have zx1 := hX1.lt
  obtain ⟨W2, hW2⟩ : ∃ W2, W1.alloc (.cells #[.slice none 0 0] TRw) = W2 := ⟨_, rfl⟩
  have hB2 : Below W1.heap.size W1 W2 := by rw [← hW2]; exact (Below.refl _ W1).alloc (Nat.le_refl _) _
  have hl2 : Box W2 W1.heap.size TRw #[.slice none 0 0] := by rw [← hW2]; exact Box.new _ _ _
  have hX2 := hX1.below hB2 hX1.lt
  have HOP := Lib.hid (open_any s x ax cx true W2)
  have H2 := Lib.hid (And.intro hl2 (And.intro (hS1.below hB2) (hx1.below hB2)))
  have HK2 : Hid (Kept (fun b => b = s ∨ w.heap.size ≤ b) w W2) := Lib.hid (((Kept.of_below HB0.out (Nat.le_refl _) _).trans (hk1.mono fun b _ e => .inl e)).trans (Kept.of_below hB2 (Nat.le_refl _) _))
  have HZ2 : Hid (W2.heap.size = W1.heap.size + 1 ∧ w.heap.size < W1.heap.size) := Lib.hid ⟨by rw [← hW2]; simp, zx1⟩
  have HW2 := Lib.hid hW2
  obtain ⟨y0, y1, y2, y3, _⟩ := hX1.cells4
  obtain ⟨z0, z1, z2, z3, _⟩ := hX2.cells4
  clear hS1 hk1 hx1 hX1 hB2 hl2 hX2 hW0 x0 x1 x2 x3 hW2
  go_upto_region 5 with fail
  rw [HW2.out]
  clear y0 y1 y2 y3
  go_wp2_with fail
  refine HOP.out.mono ?_
  rintro e w4 ⟨bt, bs, bd, rfl, hbt, hbs, hbd, hb4⟩
  clear z0 z1 z2 z3
  have hS4 := H2.out.2.1.below hb4
  have hx4 := H2.out.2.2.below hb4
  have hl4 := H2.out.1.below hb4 H2.out.1.lt
  have zl4 := hl4.lt
  have HK4 : Hid (Kept (fun b => b = s ∨ w.heap.size ≤ b) w w4) := Lib.hid (HK2.out.trans (Kept.of_below hb4 (Nat.le_refl _) _))
  have HS4 := Lib.hid hS4
  have HL4 := Lib.hid hl4
  have hX : Og.XOK (XLv W1.heap.size w4.heap.size) (some W1.heap.size) w4 (ZU base N0 w4) := ⟨fun A b q => q.imp (fun e => by rw [e]) id, fun b e => by injection e with e; omega, fun b e hz => by
    injection e with e
    subst e
    exact hz.elim (fun q => by have := HK2.out.size; have := HSS.out.2.1; have := HZ2.out.2; omega) fun q => Box.notTyB hl4 (by decide) q.2.1⟩
  have hlb : ∀ b, some W1.heap.size = some b → b ≠ s ∧ b ≠ bs ∧ b ≠ bd ∧ b ≠ m := fun b e => by
    injection e with e
    subst e
    exact ⟨fun e => by have := HSS.out.1; have := HZ2.out.2; omega, fun e => absurd ((show Box w4 bs TRw _ by rw [← e]; exact hl4).same hbs) (by decide), fun e => absurd ((show Box w4 bd TRw _ by rw [← e]; exact hl4).same hbd) (by decide), fun e => hS4.kn.ne hl4 e.symm⟩
  go_wp2_with fail
  refine wpIn_wide.1 (range_own (n := 20) (X := XLv W1.heap.size w4.heap.size) (by omega) (gf := 46) (lb := #[.pointer (some ⟨bt, 0, none⟩), .pointer (some ⟨bs, 0, none⟩), .pointer (some ⟨bd, 0, none⟩)]) rfl (enters_of Try.func46 (by kernel_rfl) rfl)
    (Og.open_seq (n := 19) (base := base) (Y := N0) (by omega) w4 hS4.box hS4.kn hbt hbs hbd hx4.1 hx4.2.1 hx4.2.2 hd hX hlb HRUN.out) (Below.refl _ _) (fun _ => rfl)
    (fun A b o h1 h2 h3 h4 q => q.elim (fun e => by omega) fun e => obj_ne h3 h4 e.2) (fun A C b e q => q.imp id fun q => ⟨q.1, q.2.same e.symm⟩)
    (fun pre W' => ∃ a c, Box W' W1.heap.size TRw #[.slice a pre.length c] ∧ OwnI w4.heap.size TI W' (.slice a pre.length c) (pre.map fun y => y.2.least) ∧ Kept (fun b => w4.heap.size ≤ b ∨ b = W1.heap.size) w4 W')
    (fun _ _ _ => False) ?_ (fun _ _ _ _ h _ => h) ⟨none, 0, hl4, OwnI.nil _ _ _, Kept.refl _ _⟩
    (fun xi ai W' => ∃ Bx, Box W' Bx TF (factC xi.2) ∧ ∃ (b0 b1 b2 b3 b4 b5 b6 b8 b10 b11 b12 b13 b14 b15 b16 b17 b18 b19 b20 b21 b22 b23 b24 b25 b26 : Value), ai = { tmps := #[b0, b1, b2, b3, b4, b5, b6, .pointer (some ⟨W1.heap.size, 0, none⟩), b8, .pointer (some ⟨Bx, 0, none⟩), b10, b11, b12, b13, b14, b15, b16, b17, b18, b19, b20, b21, b22, b23, b24, b25, b26], defers := [] })
    (fun x a' A k o o' ⟨Bx, hb, ha⟩ ho hc => ⟨Bx, (World.putObj_heap_other (fun e => by unfold Box at hb; rw [e, ho] at hb; injection hb with hb; rw [hb] at hc; cases hc)).trans hb, ha⟩) ?_ ?_ ?_ ?_)
  · rintro s' A C ⟨a, c, h1, h2, h3⟩ hs
    exact ⟨a, c, hs.box h1 (fun q => by have := q.1; omega), kept_own hs h2 (fun g e q => q.2 (.inr (own_tyB h2 e))), h3.trans (Kept.mono hs fun k _ q => .inl q.1)⟩
  · rintro l2 pre xi Wa Ka hPA hsza hKa
    obtain ⟨xn, xf⟩ := xi
    simp only [encF, factV]
    gi_wp2
    refine hKa _ _ ((Below.refl _ Wa).alloc (Nat.le_refl _) (.cells (factC xf) TF)) ⟨Wa.heap.size, Box.new _ _ _, ?_⟩
    (repeat apply Exists.intro)
    rfl
  · rintro l2 pre xi ai Wb hl2 hl2b ⟨a, c, h1, h2, h3⟩ hlen ⟨Bx, hBx, hax⟩
    obtain ⟨xn, xf⟩ := xi
    obtain ⟨b0, b1, b2, b3, b4, b5, b6, b8, b10, b11, b12, b13, b14, b15, b16, b17, b18, b19, b20, b21, b22, b23, b24, b25, b26, rfl⟩ := hax
    have hpl : (pre.map fun y : Int × Fact => y.2.least).length = pre.length := List.length_map _
    have h3s := h3.size
    rw [← hpl] at h1 h2
    refine leaf_round Wb b0 b1 b2 b3 b4 b5 b6 b8 b10 b11 b12 b13 b14 b15 b16 b17 b18 b19 b20 b21 b22 b23 b24 b25 b26 h1 h2 hBx (by omega) (by rw [hpl]; omega) fun W' hR c21 c22 c23 c24 c25 => ?_
    obtain ⟨⟨a', c', r1, r2⟩, r3⟩ := hR
    have e1 : (pre ++ [(xn, xf)]).map (fun y : Int × Fact => y.2.least) = (pre.map fun y : Int × Fact => y.2.least) ++ [xf.least] := by rw [List.map_append]; rfl
    have e2 : ((pre.map fun y : Int × Fact => y.2.least) ++ [xf.least]).length = (pre ++ [(xn, xf)]).length := by simp
    rw [e2] at r1 r2
    exact ⟨r3, a', c', r1, by rw [e1]; exact r2, h3.trans (r3.mono fun k _ q => q.elim .inr fun q => .inl q.1)⟩
  · rintro D xs Wd hD hSq ⟨a, c, h1, h2, h3⟩ hDef
    have e1 : (xs.map fun y : Int × Fact => y.2.least) = L.map fun y => y.2.least := by
      have := congrArg (List.map Prod.snd) hSq
      simpa [List.map_map, Function.comp_def] using this
    have e2 : xs.length = L.length := by have := congrArg List.length hSq; simpa using this
    rw [e1, e2] at h2
    rw [e2] at h1
    have l0 : Wd.cell? ⟨W1.heap.size, 0, none⟩ = some (.slice a L.length c) := h1.cell 0
    have HD := Lib.hid (And.intro h2 h3)
    clear h1 h2 h3 hSq e1 e2
    go_wp2_with fail
    refine leaves_one Wd hDef ?_
    intro w8 hk8
    have hDl := (Array.getElem?_eq_some_iff.1 hDef).1
    obtain ⟨h2, h3⟩ := HD.out
    have hsz3 := h3.size
    have hk : Kept (fun b => b = s ∨ w.heap.size ≤ b) w w8 := (HK4.out.trans (h3.mono fun b _ q => .inr (by have := HZ2.out.2; omega))).trans (hk8.mono fun b _ e => .inr (by have := HK4.out.size; omega))
    have hkk : Kept (fun b => b = s) w w8 := hk.mono fun b hb q => q.elim id fun q => by omega
    have hk48 : Kept (fun b => w4.heap.size ≤ b ∨ b = W1.heap.size) w4 w8 := h3.trans (hk8.mono fun b _ e => .inl (by omega))
    have hs8 : Box w8 s TSt _ := hk48.box HS4.out.box (fun q => q.elim (fun e => by have := HS4.out.box.lt; omega) fun e => by have := HSS.out.1; have := HZ2.out.2; omega)
    refine ⟨.tuple #[.slice a L.length c, .int .i64 0], by simp [results, Try.results23, go_sem], a, c, rfl, ?_, HSO.out.given hs8 hkk, hkk⟩
    exact own_base (kept_own hk8 h2 (fun g e q => by
      obtain ⟨_, cs, hc⟩ := own_tyB h2 e
      rw [q, hDef] at hc
      injection hc with hc
      cases hc)) (by have := HK4.out.size; omega)
  · rintro D cst pre Wd hD hSp hf
    exact hf.elim
end Go.Proofs.Ytgomafdhckfnbaa.Un
