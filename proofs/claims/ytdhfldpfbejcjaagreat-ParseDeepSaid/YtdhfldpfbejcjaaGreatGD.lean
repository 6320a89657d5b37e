/-
  CONTRACTS of layer parse: types are read.
-/
import Derived.Test.YtdhfldpfbejcjaaGreatGC
import Derived.Laws.OwnMore
import Derived.Maps.AppendAt
namespace Go.Proofs.YtdhfldpfbejcjaaGreat.Pa
open Go.RowKit Mm Tm Pm
set_option linter.unusedVariables false
set_option linter.unusedSimpArgs false
abbrev TTy : TypeId := 161
abbrev tyV (x : Tm.Ty) (a : Option Addr) (c : Nat) : Value := .agg #[.int .i64 x.kd, .int .i64 x.n, .string x.nm, .slice a x.args.len c]
abbrev zTy : Obj := .cells #[.int .i64 0, .int .i64 0, .string ByteArray.empty, .slice none 0 0] TTy
/-- a type that was read: its own row lies in blocks from B on -/
def TyOk (B : Nat) (w : World) (x : Tm.Ty) (a : Option Addr) : Prop := RdT (fun b => B ≤ b ∧ b < w.heap.size ∧ TyB TTy w b) w a x.args 0 ∧ x.nm.size ≤ 9223372036854775807 ∧ x.args.len * 56 ≤ 140737488355328
def TyPost (N pb : Nat) (fv : Value) (r : Tm.Ty × Pp) (w : World) (e : Ending) (w' : World) : Prop := ∃ a c, e = .returned (tyV r.1 a c) ∧ TyOk w.heap.size w' r.1 a ∧ PS N w' pb r.2 fv ∧ KP pb w w'
def TysPost (N pb : Nat) (fv : Value) (r : List Tm.Ty × Pp) (w : World) (e : Ending) (w' : World) : Prop := ∃ a c, e = .returned (.slice a r.1.length c) ∧ OwnT w.heap.size TTy w' (.slice a r.1.length c) r.1 ∧ PS N w' pb r.2 fv ∧ KP pb w w' ∧ r.1.length ≤ 100000000
theorem zbty (w : World) : Box (w.alloc zTy) w.heap.size TTy #[.int .i64 0, .int .i64 0, .string ByteArray.empty, .slice none 0 0] := Box.new w _ _
theorem TyOk.nil (B : Nat) (w : World) (k n : Int) (nm : ByteArray) (h : nm.size ≤ 9223372036854775807) : TyOk B w ⟨k, n, nm, .nil⟩ none := ⟨trivial, h, by simp [Tys.len]⟩
theorem tyB_box {w : World} {b g : Nat} {t t' : TypeId} {cs : Array Value} (h : TyB t w b) (hx : Box w g t' cs) (hne : t ≠ t') : b ≠ g := by
  rintro rfl
  obtain ⟨c, hc⟩ := h
  exact hne (Box.same (show Box w b t c from hc) hx)
/-- what is turned holds no row of types that was read -/
theorem TyOk.frame {B : Nat} {w w' : World} {x : Tm.Ty} {a : Option Addr} {X : Nat → Prop} (h : TyOk B w x a) (hk : Kept X w w') (hX : ∀ b, X b → B ≤ b → ¬ TyB TTy w b) : TyOk B w' x a := by
  obtain ⟨h1, h2⟩ := h
  have hb : ∀ b, B ≤ b ∧ b < w.heap.size ∧ TyB TTy w b → w'.heap[b]? = w.heap[b]? := fun b q => hk.block b q.2.1 fun e => hX b e q.1 q.2.2
  exact ⟨h1.frame (fun b o hz => World.cell?_of_block (hb b hz)) (fun ad hz => World.cell?_of_block (hb _ hz)) fun b hz => ⟨hz.1, Nat.lt_of_lt_of_le hz.2.1 hk.size, hz.2.2.same (hb b hz)⟩, h2⟩
theorem TyOk.base {B B' : Nat} {w : World} {x : Tm.Ty} {a : Option Addr} (h : TyOk B w x a) (hB : B' ≤ B) : TyOk B' w x a := ⟨h.1.mono fun b hz => ⟨Nat.le_trans hB hz.1, hz.2⟩, h.2⟩
theorem toB_size (l : List UInt8) : (toB l).size = l.length := by show l.toArray.size = _; simp
theorem atype_tok {d : Nat} {p : Pp} (h2 : p.next.kind = 2) : atype (d + 1) p = some (⟨2, 0, toB p.next.text, .nil⟩, p.take.2) := by rw [atype, if_pos h2]; rfl
theorem atype_tok1 {d : Nat} {p : Pp} (h2 : ¬ p.next.kind = 2) (h1 : p.next.kind = 1) : atype (d + 1) p = some (⟨1, 0, toB p.next.text, .nil⟩, p.take.2) := by rw [atype, if_neg h2, if_pos h1]; rfl
theorem atype_no {d : Nat} {p : Pp} (h2 : ¬ p.next.kind = 2) (h1 : ¬ p.next.kind = 1) (hm : (p.mark "(").1 = false) : atype (d + 1) p = some (⟨0, 0, ByteArray.empty, .nil⟩, (p.mark "(").2) := by
  rw [atype, if_neg h2, if_neg h1]
  simp only [hm]
  rfl
theorem atype_in {d : Nat} {p : Pp} (h2 : ¬ p.next.kind = 2) (h1 : ¬ p.next.kind = 1) (hm : (p.mark "(").1 = true) : atype (d + 1) p = (typ d (p.mark "(").2).bind fun r => some (r.1, (r.2.mark ")").2) := by
  rw [atype, if_neg h2, if_neg h1]
  simp only [hm]
  rfl
set_option maxRecDepth 100000 in
set_option maxHeartbeats 4000000 in
theorem atype_any {N pb d : Nat} {p : Pp} {fv : Value} {r : Tm.Ty × Pp} (w : World) (h : PS N w pb p fv) (hd : atype (d + 1) p = some r)
    (ih : ∀ p r w, typ d p = some r → PS N w pb p fv → Calls Tryz.prog 178 #[.pointer (some ⟨pb, 0, none⟩)] w (TyPost N pb fv r w)) :
    Calls Tryz.prog 159 #[.pointer (some ⟨pb, 0, none⟩)] w (TyPost N pb fv r w) := by
  have HP := Lib.hid h
  have HB0 := Lib.hid ((Below.refl w.heap.size w).alloc (Nat.le_refl _) zTy)
  have HX0 := Lib.hid (zbty w)
  have HN := Lib.hid (next_any (w.alloc zTy) (h.below HB0.out))
  have HNE := Lib.hid (show w.heap.size ≠ pb by have := h.lt; have := h.size; omega)
  have HTX := Lib.hid (show (toB p.next.text).size ≤ 9223372036854775807 by rw [toB_size]; exact h.text)
  clear h
  by_cases k2 : p.next.kind = 2
  · have q : (p.next.kind == 2) = true := by simpa using k2
    have HE := Lib.hid (Option.some.inj ((atype_tok k2).symm.trans hd))
    have HF := Lib.hid (take_fst p)
    clear k2 hd ih
    go_enter Tryz.func159, Tryz.ntmps159
    go_wp2_with fail
    refine HN.out.mono ?_
    rintro e w1 ⟨rfl, hb1⟩
    have hB1 := (HB0.out.trans (hb1.mono (by simp))).alloc (by have := hb1.size; rw [World.size_alloc] at this; omega) (oTok p.next)
    have HX1 := Lib.hid ((HX0.out.below hb1 (by simp)).alloc (oTok p.next))
    have HT := Lib.hid (take_any (w1.alloc (oTok p.next)) (HP.out.below hB1))
    have HB1 := Lib.hid hB1
    clear hb1 hB1
    go_wp2_with fail
    refine HT.out.mono ?_
    rintro e w2 ⟨rfl, hp2, hk2⟩
    rw [HF.out]
    have hf := tok_text p.next w2
    have hX2 := hk2.box HX1.out HNE.out
    obtain ⟨z0, z1, z2, z3, y0, y1, y2, y3⟩ := hX2.cells4
    obtain ⟨V, hV, hvb, hvw⟩ := hX2.write4 (.int .i64 2) (.int .i64 0) (.string (toB p.next.text)) (.slice none 0 0)
    have HVB := Lib.hid hvb
    have HVW := Lib.hid hvw
    have HP2 := Lib.hid hp2
    have HK2 := Lib.hid ((Kept.of_below HB1.out (Nat.le_refl _) (fun b => b = pb)).trans hk2)
    clear hp2 hk2 hX2 hvb hvw
    go_wp2_with fail
    obtain ⟨v0, v1, v2, v3, _⟩ := HVB.out.cells4
    refine bodyPost_ret (v := tyV ⟨2, 0, toB p.next.text, .nil⟩ none 0) (by simp [results, Tryz.results159, go_sem, v0, v1, v2, v3, Tys.len]) rfl ?_
    rw [← HE.out]
    exact ⟨none, 0, rfl, TyOk.nil _ _ _ _ _ HTX.out, HP2.out.frame (X := fun b => b = w.heap.size) (kept_wrote (Kept.refl (fun b => b = w.heap.size) _) HVW.out fun _ => rfl) (fun b e => by have := HP.out.size; omega), kept_wrote HK2.out HVW.out (fun q => absurd q (Nat.lt_irrefl _))⟩
  · have q2 : (p.next.kind == 2) = false := by simpa using k2
    by_cases k1 : p.next.kind = 1
    · have q : (p.next.kind == 1) = true := by simpa using k1
      have HE := Lib.hid (Option.some.inj ((atype_tok1 k2 k1).symm.trans hd))
      have HF := Lib.hid (take_fst p)
      clear k2 k1 hd ih
      go_enter Tryz.func159, Tryz.ntmps159
      go_wp2_with fail
      refine HN.out.mono ?_
      rintro e w1 ⟨rfl, hb1⟩
      have hB1 := (HB0.out.trans (hb1.mono (by simp))).alloc (by have := hb1.size; rw [World.size_alloc] at this; omega) (oTok p.next)
      have HX1 := Lib.hid ((HX0.out.below hb1 (by simp)).alloc (oTok p.next))
      have HT := Lib.hid (take_any (w1.alloc (oTok p.next)) (HP.out.below hB1))
      have HB1 := Lib.hid hB1
      clear hb1 hB1
      go_wp2_with fail
      refine HT.out.mono ?_
      rintro e w2 ⟨rfl, hp2, hk2⟩
      rw [HF.out]
      have hf := tok_text p.next w2
      have hX2 := hk2.box HX1.out HNE.out
      obtain ⟨z0, z1, z2, z3, y0, y1, y2, y3⟩ := hX2.cells4
      obtain ⟨V, hV, hvb, hvw⟩ := hX2.write4 (.int .i64 1) (.int .i64 0) (.string (toB p.next.text)) (.slice none 0 0)
      have HVB := Lib.hid hvb
      have HVW := Lib.hid hvw
      have HP2 := Lib.hid hp2
      have HK2 := Lib.hid ((Kept.of_below HB1.out (Nat.le_refl _) (fun b => b = pb)).trans hk2)
      clear hp2 hk2 hX2 hvb hvw
      go_wp2_with fail
      obtain ⟨v0, v1, v2, v3, _⟩ := HVB.out.cells4
      refine bodyPost_ret (v := tyV ⟨1, 0, toB p.next.text, .nil⟩ none 0) (by simp [results, Tryz.results159, go_sem, v0, v1, v2, v3, Tys.len]) rfl ?_
      rw [← HE.out]
      exact ⟨none, 0, rfl, TyOk.nil _ _ _ _ _ HTX.out, HP2.out.frame (X := fun b => b = w.heap.size) (kept_wrote (Kept.refl (fun b => b = w.heap.size) _) HVW.out fun _ => rfl) (fun b e => by have := HP.out.size; omega), kept_wrote HK2.out HVW.out (fun q => absurd q (Nat.lt_irrefl _))⟩
    · have q1 : (p.next.kind == 1) = false := by simpa using k1
      cases hm : (p.mark "(").1 with
      | false =>
        have HE := Lib.hid (Option.some.inj ((atype_no k2 k1 hm).symm.trans hd))
        have HM0 := Lib.hid hm
        clear k2 k1 hd ih hm
        go_enter Tryz.func159, Tryz.ntmps159
        go_wp2_with fail
        refine HN.out.mono ?_
        rintro e w1 ⟨rfl, hb1⟩
        have hB1 := (HB0.out.trans (hb1.mono (by simp))).alloc (by have := hb1.size; rw [World.size_alloc] at this; omega) (oTok p.next)
        have HX1 := Lib.hid ((HX0.out.below hb1 (by simp)).alloc (oTok p.next))
        have HT := Lib.hid (mark_any "(" (w1.alloc (oTok p.next)) (HP.out.below hB1))
        rw [lit_lp] at HT
        have HB1 := Lib.hid hB1
        clear hb1 hB1
        go_wp2_with fail
        refine HT.out.mono ?_
        rintro e w2 ⟨rfl, hp2, hk2⟩
        rw [HM0.out]
        have hX2 := hk2.box HX1.out HNE.out
        obtain ⟨z0, z1, z2, z3, y0, y1, y2, y3⟩ := hX2.cells4
        obtain ⟨V, hV, hvb, hvw⟩ := hX2.write4 (.int .i64 0) (.int .i64 0) (.string ⟨#[]⟩) (.slice none 0 0)
        have HVB := Lib.hid hvb
        have HVW := Lib.hid hvw
        have HP2 := Lib.hid hp2
        have HK2 := Lib.hid ((Kept.of_below HB1.out (Nat.le_refl _) (fun b => b = pb)).trans hk2)
        clear hp2 hk2 hX2 hvb hvw
        go_wp2_with fail
        obtain ⟨v0, v1, v2, v3, _⟩ := HVB.out.cells4
        refine bodyPost_ret (v := tyV ⟨0, 0, ByteArray.empty, .nil⟩ none 0) (by simp [results, Tryz.results159, go_sem, v0, v1, v2, v3, Tys.len, ByteArray.empty, ByteArray.emptyWithCapacity]; rfl) rfl ?_
        rw [← HE.out]
        exact ⟨none, 0, rfl, TyOk.nil _ _ _ _ _ (by decide), HP2.out.frame (X := fun b => b = w.heap.size) (kept_wrote (Kept.refl (fun b => b = w.heap.size) _) HVW.out fun _ => rfl) (fun b e => by have := HP.out.size; omega), kept_wrote HK2.out HVW.out (fun q => absurd q (Nat.lt_irrefl _))⟩
      | true =>
        have hd' := (atype_in k2 k1 hm).symm.trans hd
        obtain ⟨r1, hr1, hr2⟩ := Option.bind_eq_some_iff.1 hd'
        have HE := Lib.hid (Option.some.inj hr2)
        have HR1 := Lib.hid hr1
        have HIH := Lib.hid ih
        have HM0 := Lib.hid hm
        clear k2 k1 hd hd' hr1 hr2 ih hm
        go_enter Tryz.func159, Tryz.ntmps159
        go_wp2_with fail
        refine HN.out.mono ?_
        rintro e w1 ⟨rfl, hb1⟩
        have hB1 := (HB0.out.trans (hb1.mono (by simp))).alloc (by have := hb1.size; rw [World.size_alloc] at this; omega) (oTok p.next)
        have HX1 := Lib.hid ((HX0.out.below hb1 (by simp)).alloc (oTok p.next))
        have HT := Lib.hid (mark_any "(" (w1.alloc (oTok p.next)) (HP.out.below hB1))
        rw [lit_lp] at HT
        have HB1 := Lib.hid hB1
        clear hb1 hB1
        go_wp2_with fail
        refine HT.out.mono ?_
        rintro e w2 ⟨rfl, hp2, hk2⟩
        rw [HM0.out]
        have HX2 := Lib.hid (hk2.box HX1.out HNE.out)
        have HTY := Lib.hid (HIH.out _ r1 w2 HR1.out hp2)
        have HK2 := Lib.hid ((Kept.of_below HB1.out (Nat.le_refl _) (fun b => b = pb)).trans hk2)
        have HSZ2 := Lib.hid hk2.size
        clear hp2 hk2
        go_wp2_with fail
        refine HTY.out.mono ?_
        rintro e w3 ⟨a3, c3, rfl, ht3, hp3, hk3⟩
        obtain ⟨x, p3⟩ := r1
        have hX3 := hk3.box HX2.out HNE.out
        have hY := Box.new w3 #[.int .i64 x.kd, .int .i64 x.n, .string x.nm, .slice a3 x.args.len c3] TTy
        have hB3 := (Below.refl w3.heap.size w3).alloc (Nat.le_refl _) (.cells #[.int .i64 x.kd, .int .i64 x.n, .string x.nm, .slice a3 x.args.len c3] TTy)
        have HQ := Lib.hid (hp3.below hB3)
        have HM := Lib.hid (mark_any ")" _ HQ.out)
        rw [lit_rp] at HM
        have HTO := Lib.hid (ht3.frame (Kept.of_below hB3 (Nat.le_refl _) (fun _ => False)) (fun b e => e.elim))
        have HX3 := Lib.hid (hX3.alloc (.cells #[.int .i64 x.kd, .int .i64 x.n, .string x.nm, .slice a3 x.args.len c3] TTy))
        have HY := Lib.hid hY
        have HK3 := Lib.hid (((HK2.out.trans hk3).alloc (.cells #[.int .i64 x.kd, .int .i64 x.n, .string x.nm, .slice a3 x.args.len c3] TTy)))
        have HS3 := Lib.hid hk3.size
        clear hp3 hk3 ht3 hX3 hY hB3
        go_wp2_with fail
        refine HM.out.mono ?_
        rintro e w4 ⟨rfl, hp4, hk4⟩
        have hwlt : w.heap.size < w2.heap.size := by have := HX2.out.lt; exact this
        have hX4 := hk4.box HX3.out HNE.out
        have hY4 := hk4.box HY.out (by have := HP.out.lt; have := HP.out.size; have := HS3.out; omega)
        obtain ⟨t0, t1, t2, t3, _⟩ := hY4.cells4
        obtain ⟨z0, z1, z2, z3, y0, y1, y2, y3⟩ := hX4.cells4
        obtain ⟨V, hV, hvb, hvw⟩ := hX4.write4 (.int .i64 x.kd) (.int .i64 x.n) (.string x.nm) (.slice a3 x.args.len c3)
        have HPB := Lib.hid HP.out.ex
        have HTO4 := Lib.hid (HTO.out.frame hk4 (fun b e hge q => by subst e; have := HP.out.lt; have := HP.out.size; omega))
        have HVB := Lib.hid hvb
        have HVW := Lib.hid hvw
        have HP4 := Lib.hid hp4
        have HK4 := Lib.hid (HK3.out.trans hk4)
        have HWL := Lib.hid hwlt
        clear hp4 hk4 hX4 hY4 hvb hvw
        go_wp2_with fail
        obtain ⟨v0, v1, v2, v3, _⟩ := HVB.out.cells4
        refine bodyPost_ret (v := tyV x a3 c3) (by simp [results, Tryz.results159, go_sem, v0, v1, v2, v3]) rfl ?_
        rw [← HE.out]
        exact ⟨a3, c3, rfl, (HTO4.out.frame (kept_wrote (Kept.refl (fun b => b = w.heap.size) _) HVW.out fun _ => rfl) (fun b e hge _ => by have := HWL.out; omega)).base (Nat.le_of_lt HWL.out), HP4.out.frame (X := fun b => b = w.heap.size) (kept_wrote (Kept.refl (fun b => b = w.heap.size) _) HVW.out fun _ => rfl) (fun b e => by have := HP.out.size; omega), kept_wrote HK4.out HVW.out (fun q => absurd q (Nat.lt_irrefl _))⟩
end Go.Proofs.YtdhfldpfbejcjaaGreat.Pa
/-
  CONTRACTS of layer parse: rows of types are read.
-/
namespace Go.Proofs.YtdhfldpfbejcjaaGreat.Pa
open Go.RowKit Mm Tm Pm
set_option linter.unusedVariables false
set_option linter.unusedSimpArgs false
theorem Ttype : (Tryz.prog.info? 161).map (fun i => (i.zero, i.size, i.bytes)) = some (some (.agg #[.int .i64 0, .int .i64 0, .string ByteArray.empty, .slice none 0 0]), 4, 56) := by kernel_rfl
theorem news_new (w : World) (cs : Array Value) (t : TypeId) : ∀ j u, cs.toList[j]? = some u → (w.alloc (.cells cs t)).cell? ((⟨w.heap.size, 0, none⟩ : Addr).add j) = some u := by
  intro j u hj
  have e : ((⟨w.heap.size, 0, none⟩ : Addr).add j) = ⟨w.heap.size, j, none⟩ := by
    simp [Addr.add]
    try (intro e; omega)
  rw [e, (Box.new w cs t).cell j]
  simpa using hj
theorem own_blk {a : Option Addr} {n m c d : Nat} : (Value.slice a n c).ownBlock = (Value.slice a m d).ownBlock := by cases a <;> rfl
theorem atypes_yes {d : Nat} {p : Pp} (h : beginsAtype p.next = true) {l : List Tm.Ty} {q : Pp} (hd : atypes (d + 1) p = some (l, q)) : ∃ t p1 l2, atype d p = some (t, p1) ∧ atypes d p1 = some (l2, q) ∧ l = t :: l2 := by
  rw [atypes, if_pos h] at hd
  obtain ⟨⟨t1, p1⟩, h1, h2⟩ := Option.bind_eq_some_iff.1 hd
  dsimp only at h2
  obtain ⟨⟨t2, p2⟩, h3, h4⟩ := Option.bind_eq_some_iff.1 h2
  simp only [pure, Option.some.injEq, Prod.mk.injEq] at h4
  exact ⟨t1, p1, t2, h1, by rw [h3, h4.2], h4.1.symm⟩
theorem atypes_no {d : Nat} {p : Pp} (h : beginsAtype p.next = false) {l : List Tm.Ty} {q : Pp} (hd : atypes (d + 1) p = some (l, q)) : l = [] ∧ q = p := by
  rw [atypes, if_neg (by rw [h]; simp)] at hd
  simp only [pure, Option.some.injEq, Prod.mk.injEq] at hd
  exact ⟨hd.1.symm, hd.2.symm⟩
/-- what a kept block keeps of a row of the call's own -/
theorem tys_kept {B : Nat} {e : TypeId} {w w' : World} {v : Value} {l : List Tm.Ty} {X : Nat → Prop} (h : OwnT B e w v l) (hk : Kept X w w') (hX : ∀ b, X b → B ≤ b → ¬ TyB e w b) : OwnT B e w' v l := by
  obtain ⟨vs, h1, h2⟩ := h
  have hb : ∀ b, B ≤ b → TyB e w b → w'.heap[b]? = w.heap[b]? := fun b q t => hk.block b t.lt fun x => hX b x q t
  refine ⟨vs, ⟨h1.1, ?_⟩, (h2.frame (fun b o hz => World.cell?_of_block (hb b hz.1 hz.2.1)) (fun ad hz => World.cell?_of_block (hb _ hz.1 hz.2.1)) fun b hz => ⟨hz.1, hz.2.1.same (hb b hz.1 hz.2.1), hz.2.2⟩)⟩
  rcases h1.2 with q | ⟨g, cap, cur, rfl, hg, hh, r⟩
  · exact .inl q
  · exact .inr ⟨g, cap, cur, rfl, hg, (hb g hg ⟨cur, hh⟩).trans hh, r⟩
/-- what is turned behind, in blocks that are new, turns nothing of old -/
theorem kept_new {X Y : Nat → Prop} {w w' w'' : World} (h : Kept X w w') (k : Kept Y w' w'') (hY : ∀ b, Y b → b < w.heap.size → X b) : Kept X w w'' :=
  ⟨k.os.trans h.os, k.tape.trans h.tape, k.output.trans h.output, Nat.le_trans h.size k.size, fun i hi hx => (k.block i (Nat.lt_of_lt_of_le hi h.size) (fun q => hx (hY i q hi))).trans (h.block i hi hx)⟩
structure AtsL (N pb : Nat) (fv : Value) (r : List Tm.Ty × Pp) (w : World) (n d : Nat) (v : Value) (wr : World) (l1 l2 : List Tm.Ty) (pk : Pp) : Prop where
  run : atypes d pk = some (l2, r.2)
  eq : r.1 = l1 ++ l2
  own : OwnT w.heap.size TTy wr v l1
  ps : PS N wr pb pk fv
  kp : KP pb w wr
  le : d ≤ n
  len : l1.length + pk.rest.length ≤ 100000000
theorem AtsL.succ {N pb : Nat} {fv : Value} {r : List Tm.Ty × Pp} {w : World} {n d : Nat} {v : Value} {wr : World} {l1 l2 : List Tm.Ty} {pk : Pp} (h : AtsL N pb fv r w n d v wr l1 l2 pk) : ∃ d0, d = d0 + 1 := by
  cases d with
  | zero => have := h.run; simp [atypes] at this
  | succ d => exact ⟨d, rfl⟩
set_option maxRecDepth 100000 in
set_option maxHeartbeats 4000000 in
theorem atypes_any {N pb d : Nat} {p : Pp} {fv : Value} {r : List Tm.Ty × Pp} (w : World) (h : PS N w pb p fv) (hd : atypes d p = some r)
    (ih : ∀ d', d' < d → ∀ p r w, atype d' p = some r → PS N w pb p fv → Calls Tryz.prog 159 #[.pointer (some ⟨pb, 0, none⟩)] w (TyPost N pb fv r w)) :
    Calls Tryz.prog 134 #[.pointer (some ⟨pb, 0, none⟩)] w (TysPost N pb fv r w) := by
  obtain ⟨i0, hi0, hi1, hi2, hi3⟩ := info_parts Ttype
  have HP := Lib.hid h
  have HIH := Lib.hid ih
  have HST := Lib.hid (AtsL.mk (n := d) (w := w) (r := r) (v := .slice none 0 0) (l1 := []) (l2 := r.1) (pk := p) hd rfl (OwnT.nil w.heap.size TTy w) h (Kept.refl (fun b => b = pb) _) (Nat.le_refl _) (by simpa using h.len))
  clear h ih hd
  go_enter Tryz.func134, Tryz.ntmps134
  go_wp2_with fail
  go_step3
  go_wp2_with fail
  go_step3
  go_wp2_with fail
  go_loopg [3] d (fun d' v wr => ∃ l1 l2 pk, AtsL N pb fv r w d d' v wr l1 l2 pk)
  case atStart => exact ⟨_, _, _, HST.out⟩
  case round =>
    obtain ⟨l1, l2, pk, hI⟩ := hrel
    obtain ⟨d0, rfl⟩ := hI.succ
    have HI := Lib.hid hI
    have HN := Lib.hid (next_any wr hI.ps)
    obtain ⟨vs, ho1, ho2⟩ := hI.own
    obtain ⟨a5, c5, rfl⟩ := own_slice ho1
    have HO1 := Lib.hid ho1
    have HO2 := Lib.hid ho2
    clear hI ho1 ho2
    by_cases k2 : pk.next.kind = 2
    · have q2 : (pk.next.kind == 2) = true := by simpa using k2
      have HBG := Lib.hid (show beginsAtype pk.next = true by unfold beginsAtype; simp [k2])
      obtain ⟨x, p1, l2', hr1, hr2, hr3⟩ := atypes_yes HBG.out HI.out.run
      have HR := Lib.hid (And.intro hr1 (And.intro hr2 hr3))
      clear hr1 hr2 hr3 k2
      go_wp2_with fail
      refine HN.out.mono ?_
      rintro e w1 ⟨rfl, hb1⟩
      have HBc := Lib.hid (hb1.alloc hb1.size (oTok pk.next))
      clear hb1
      have HA := Lib.hid (HIH.out _ (by have := HI.out.le; omega) pk (x, p1) (w1.alloc (oTok pk.next)) HR.out.1 (HI.out.ps.below HBc.out))
      go_wp2_with fail
      refine HA.out.mono ?_
      rintro e w5 ⟨a3, c3, rfl, ht5, hp5, hk5⟩
      have HK5 := Lib.hid ((Kept.of_below HBc.out (Nat.le_refl _) (fun b => b = pb)).trans hk5)
      have HS5 := Lib.hid (show wr.heap.size ≤ w5.heap.size from Nat.le_trans HBc.out.size hk5.size)
      have HPX := Lib.hid (show ∀ b, b = pb → w.heap.size ≤ b → False from fun b e q => by have := HP.out.lt; have := HP.out.size; omega)
      have HO5 := Lib.hid (tys_kept HI.out.own HK5.out (fun b e q => (HPX.out b e q).elim))
      have HT5 := Lib.hid ht5
      have HPS5 := Lib.hid hp5
      have HSB := Lib.hid HBc.out.size
      clear hp5 hk5 ht5
      obtain ⟨vs5, ho5, hr5⟩ := HO5.out
      have HO5a := Lib.hid ho5
      have HR5 := Lib.hid hr5
      have hlen5 := HI.out.len
      have hsw : w.heap.size ≤ w5.heap.size := Nat.le_trans HI.out.kp.size HS5.out
      clear ho5 hr5
      go_wp2_with (at_builtin; refine wpList_append_own_at _ rfl _ _ 94 rfl w.heap.size TTy i0 _ 4 56 Tryz.underlying94 hi0 hi1 hi2 hi3 rfl (by decide) _ _ _ rfl (HO5a.out.alloc _) ⟨w5.heap.size, 0, none⟩ 1 1 [.int .i64 x.kd, .int .i64 x.n, .string x.nm, .slice a3 x.args.len c3] rfl rfl (news_new w5 #[.int .i64 x.kd, .int .i64 x.n, .string x.nm, .slice a3 x.args.len c3] TTy) (fun u hu => by simp only [List.mem_cons, List.not_mem_nil, or_false] at hu; rcases hu with rfl | rfl | rfl | rfl <;> rfl) (by unfold maxLen; omega) (by omega) (by simp; omega) ?_)
      intro v7 w7 hown hgrow _ hat
      have HO7 := Lib.hid (OwnT.more (x := x) (v := .slice a5 l1.length c5) HR5.out hsw HT5.out.2.1 HT5.out.2.2 (HT5.out.1.mono fun b hz => ⟨Nat.le_trans HI.out.kp.size (Nat.le_trans HSB.out hz.1), hz.2.2, fun e => by have := (HO1.out.lt b e).2; have := HSB.out; have := hz.1; omega⟩) hown hgrow (by rwa [World.size_alloc]))
      have HK7 := Lib.hid (((Kept.refl (fun b => (Value.slice a5 l1.length c5).ownBlock = some b) w5).alloc (.cells #[.int .i64 x.kd, .int .i64 x.n, .string x.nm, .slice a3 x.args.len c3] TTy)).grown hgrow (fun k hk _ => hk))
      obtain ⟨a7, c7, rfl⟩ := own_slice hown
      have HRX := Lib.hid (atype_less HBG.out HR.out.1)
      clear hown hgrow hat
      go_wp2_with fail
      go_roundg d0
      case measure => omega
      case rel =>
        have hl := HI.out.len
        have hx := HRX.out
        refine ⟨l1 ++ [x], l2', p1, ⟨HR.out.2.1, by rw [HI.out.eq, HR.out.2.2, List.append_assoc]; rfl, HO7.out, HPS5.out.frame HK7.out (fun b e => Nat.le_trans HP.out.size (HO1.out.lt b e).1), kept_new (HI.out.kp.trans HK5.out) HK7.out (fun b e q => by have := (HO1.out.lt b e).1; omega), by have := HI.out.le; omega, by rw [List.length_append, List.length_singleton]; omega⟩⟩
    · have q2 : (pk.next.kind == 2) = false := by simpa using k2
      by_cases k1 : pk.next.kind = 1
      · have q1 : (pk.next.kind == 1) = true := by simpa using k1
        have HBG := Lib.hid (show beginsAtype pk.next = true by unfold beginsAtype; simp [k1])
        obtain ⟨x, p1, l2', hr1, hr2, hr3⟩ := atypes_yes HBG.out HI.out.run
        have HR := Lib.hid (And.intro hr1 (And.intro hr2 hr3))
        clear hr1 hr2 hr3 k1 k2
        go_wp2_with fail
        refine HN.out.mono ?_
        rintro e w1 ⟨rfl, hb1⟩
        have HBc := Lib.hid (hb1.alloc hb1.size (oTok pk.next))
        clear hb1
        have HA := Lib.hid (HIH.out _ (by have := HI.out.le; omega) pk (x, p1) (w1.alloc (oTok pk.next)) HR.out.1 (HI.out.ps.below HBc.out))
        go_wp2_with fail
        refine HA.out.mono ?_
        rintro e w5 ⟨a3, c3, rfl, ht5, hp5, hk5⟩
        have HK5 := Lib.hid ((Kept.of_below HBc.out (Nat.le_refl _) (fun b => b = pb)).trans hk5)
        have HS5 := Lib.hid (show wr.heap.size ≤ w5.heap.size from Nat.le_trans HBc.out.size hk5.size)
        have HPX := Lib.hid (show ∀ b, b = pb → w.heap.size ≤ b → False from fun b e q => by have := HP.out.lt; have := HP.out.size; omega)
        have HO5 := Lib.hid (tys_kept HI.out.own HK5.out (fun b e q => (HPX.out b e q).elim))
        have HT5 := Lib.hid ht5
        have HPS5 := Lib.hid hp5
        have HSB := Lib.hid HBc.out.size
        clear hp5 hk5 ht5
        obtain ⟨vs5, ho5, hr5⟩ := HO5.out
        have HO5a := Lib.hid ho5
        have HR5 := Lib.hid hr5
        have hlen5 := HI.out.len
        have hsw : w.heap.size ≤ w5.heap.size := Nat.le_trans HI.out.kp.size HS5.out
        clear ho5 hr5
        go_wp2_with (at_builtin; refine wpList_append_own_at _ rfl _ _ 94 rfl w.heap.size TTy i0 _ 4 56 Tryz.underlying94 hi0 hi1 hi2 hi3 rfl (by decide) _ _ _ rfl (HO5a.out.alloc _) ⟨w5.heap.size, 0, none⟩ 1 1 [.int .i64 x.kd, .int .i64 x.n, .string x.nm, .slice a3 x.args.len c3] rfl rfl (news_new w5 #[.int .i64 x.kd, .int .i64 x.n, .string x.nm, .slice a3 x.args.len c3] TTy) (fun u hu => by simp only [List.mem_cons, List.not_mem_nil, or_false] at hu; rcases hu with rfl | rfl | rfl | rfl <;> rfl) (by unfold maxLen; omega) (by omega) (by simp; omega) ?_)
        intro v7 w7 hown hgrow _ hat
        have HO7 := Lib.hid (OwnT.more (x := x) (v := .slice a5 l1.length c5) HR5.out hsw HT5.out.2.1 HT5.out.2.2 (HT5.out.1.mono fun b hz => ⟨Nat.le_trans HI.out.kp.size (Nat.le_trans HSB.out hz.1), hz.2.2, fun e => by have := (HO1.out.lt b e).2; have := HSB.out; have := hz.1; omega⟩) hown hgrow (by rwa [World.size_alloc]))
        have HK7 := Lib.hid (((Kept.refl (fun b => (Value.slice a5 l1.length c5).ownBlock = some b) w5).alloc (.cells #[.int .i64 x.kd, .int .i64 x.n, .string x.nm, .slice a3 x.args.len c3] TTy)).grown hgrow (fun k hk _ => hk))
        obtain ⟨a7, c7, rfl⟩ := own_slice hown
        have HRX := Lib.hid (atype_less HBG.out HR.out.1)
        clear hown hgrow hat
        go_wp2_with fail
        go_roundg d0
        case measure => omega
        case rel =>
          have hl := HI.out.len
          have hx := HRX.out
          refine ⟨l1 ++ [x], l2', p1, ⟨HR.out.2.1, by rw [HI.out.eq, HR.out.2.2, List.append_assoc]; rfl, HO7.out, HPS5.out.frame HK7.out (fun b e => Nat.le_trans HP.out.size (HO1.out.lt b e).1), kept_new (HI.out.kp.trans HK5.out) HK7.out (fun b e q => by have := (HO1.out.lt b e).1; omega), by have := HI.out.le; omega, by rw [List.length_append, List.length_singleton]; omega⟩⟩
      · have q1 : (pk.next.kind == 1) = false := by simpa using k1
        cases hm : isMark pk.next "(" with
        | true =>
          have HM := Lib.hid hm
          have HBG := Lib.hid (show beginsAtype pk.next = true by unfold beginsAtype; rw [hm]; simp)
          obtain ⟨x, p1, l2', hr1, hr2, hr3⟩ := atypes_yes HBG.out HI.out.run
          have HR := Lib.hid (And.intro hr1 (And.intro hr2 hr3))
          clear hr1 hr2 hr3 k1 k2 hm
          go_wp2_with fail
          refine HN.out.mono ?_
          rintro e w1 ⟨rfl, hb1⟩
          have HBc := Lib.hid (hb1.alloc hb1.size (oTok pk.next))
          clear hb1
          have HMk := Lib.hid (mark_at pk.next "(" (w1.alloc (oTok pk.next)))
          unfold oStr at HMk
          rw [lit_lp, World.size_alloc, HM.out] at HMk
          have HBd := Lib.hid (HBc.out.alloc (HBc.out.size) (.cells #[.string ⟨#[40]⟩] TStr))
          go_wp2_with fail
          refine HMk.out.mono ?_
          rintro e w2 ⟨rfl, hb2⟩
          have HBe := Lib.hid (HBd.out.trans (hb2.mono HBd.out.size))
          clear hb2
          have HA := Lib.hid (HIH.out _ (by have := HI.out.le; omega) pk (x, p1) (w2) HR.out.1 (HI.out.ps.below HBe.out))
          go_wp2_with fail
          refine HA.out.mono ?_
          rintro e w5 ⟨a3, c3, rfl, ht5, hp5, hk5⟩
          have HK5 := Lib.hid ((Kept.of_below HBe.out (Nat.le_refl _) (fun b => b = pb)).trans hk5)
          have HS5 := Lib.hid (show wr.heap.size ≤ w5.heap.size from Nat.le_trans HBe.out.size hk5.size)
          have HPX := Lib.hid (show ∀ b, b = pb → w.heap.size ≤ b → False from fun b e q => by have := HP.out.lt; have := HP.out.size; omega)
          have HO5 := Lib.hid (tys_kept HI.out.own HK5.out (fun b e q => (HPX.out b e q).elim))
          have HT5 := Lib.hid ht5
          have HPS5 := Lib.hid hp5
          have HSB := Lib.hid HBe.out.size
          clear hp5 hk5 ht5
          obtain ⟨vs5, ho5, hr5⟩ := HO5.out
          have HO5a := Lib.hid ho5
          have HR5 := Lib.hid hr5
          have hlen5 := HI.out.len
          have hsw : w.heap.size ≤ w5.heap.size := Nat.le_trans HI.out.kp.size HS5.out
          clear ho5 hr5
          go_wp2_with (at_builtin; refine wpList_append_own_at _ rfl _ _ 94 rfl w.heap.size TTy i0 _ 4 56 Tryz.underlying94 hi0 hi1 hi2 hi3 rfl (by decide) _ _ _ rfl (HO5a.out.alloc _) ⟨w5.heap.size, 0, none⟩ 1 1 [.int .i64 x.kd, .int .i64 x.n, .string x.nm, .slice a3 x.args.len c3] rfl rfl (news_new w5 #[.int .i64 x.kd, .int .i64 x.n, .string x.nm, .slice a3 x.args.len c3] TTy) (fun u hu => by simp only [List.mem_cons, List.not_mem_nil, or_false] at hu; rcases hu with rfl | rfl | rfl | rfl <;> rfl) (by unfold maxLen; omega) (by omega) (by simp; omega) ?_)
          intro v7 w7 hown hgrow _ hat
          have HO7 := Lib.hid (OwnT.more (x := x) (v := .slice a5 l1.length c5) HR5.out hsw HT5.out.2.1 HT5.out.2.2 (HT5.out.1.mono fun b hz => ⟨Nat.le_trans HI.out.kp.size (Nat.le_trans HSB.out hz.1), hz.2.2, fun e => by have := (HO1.out.lt b e).2; have := HSB.out; have := hz.1; omega⟩) hown hgrow (by rwa [World.size_alloc]))
          have HK7 := Lib.hid (((Kept.refl (fun b => (Value.slice a5 l1.length c5).ownBlock = some b) w5).alloc (.cells #[.int .i64 x.kd, .int .i64 x.n, .string x.nm, .slice a3 x.args.len c3] TTy)).grown hgrow (fun k hk _ => hk))
          obtain ⟨a7, c7, rfl⟩ := own_slice hown
          have HRX := Lib.hid (atype_less HBG.out HR.out.1)
          clear hown hgrow hat
          go_wp2_with fail
          go_roundg d0
          case measure => omega
          case rel =>
            have hl := HI.out.len
            have hx := HRX.out
            refine ⟨l1 ++ [x], l2', p1, ⟨HR.out.2.1, by rw [HI.out.eq, HR.out.2.2, List.append_assoc]; rfl, HO7.out, HPS5.out.frame HK7.out (fun b e => Nat.le_trans HP.out.size (HO1.out.lt b e).1), kept_new (HI.out.kp.trans HK5.out) HK7.out (fun b e q => by have := (HO1.out.lt b e).1; omega), by have := HI.out.le; omega, by rw [List.length_append, List.length_singleton]; omega⟩⟩
        | false =>
          have HM := Lib.hid hm
          have HNO := Lib.hid (atypes_no (show beginsAtype pk.next = false by unfold beginsAtype; simp [k1, k2, hm]) HI.out.run)
          clear k1 k2 hm
          go_wp2_with fail
          refine HN.out.mono ?_
          rintro e w1 ⟨rfl, hb1⟩
          have HBc := Lib.hid (hb1.alloc hb1.size (oTok pk.next))
          clear hb1
          have HMk := Lib.hid (mark_at pk.next "(" (w1.alloc (oTok pk.next)))
          unfold oStr at HMk
          rw [lit_lp, World.size_alloc, HM.out] at HMk
          have HBd := Lib.hid (HBc.out.alloc (HBc.out.size) (.cells #[.string ⟨#[40]⟩] TStr))
          go_wp2_with fail
          refine HMk.out.mono ?_
          rintro e w2 ⟨rfl, hb2⟩
          have HBe := Lib.hid (HBd.out.trans (hb2.mono HBd.out.size))
          clear hb2
          go_wp2_with fail
          rw [Exit.noGoto_ret]
          go_ret
          have hk := HI.out.kp.trans (Kept.of_below HBe.out (Nat.le_refl _) (fun b => b = pb))
          have he : r.1 = l1 := by rw [HI.out.eq, HNO.out.1, List.append_nil]
          rw [show r = (l1, pk) from Prod.ext he HNO.out.2]
          exact ⟨a5, c5, rfl, HI.out.own.here HBe.out, HI.out.ps.below HBe.out, hk, by have := HI.out.len; show l1.length ≤ _; omega⟩
end Go.Proofs.YtdhfldpfbejcjaaGreat.Pa
/-
  CONTRACTS of layer parse: a type is read, whole.
-/
namespace Go.Proofs.YtdhfldpfbejcjaaGreat.Pa
open Go.RowKit Mm Tm Pm
set_option linter.unusedVariables false
set_option linter.unusedSimpArgs false
theorem TyOk.ofOwn {B : Nat} {w : World} {x : Tm.Ty} {l : List Tm.Ty} {a : Option Addr} {c : Nat} (h : OwnT B TTy w (.slice a l.length c) l) (hn : x.nm.size ≤ 9223372036854775807) (hl : l.length ≤ 100000000) : TyOk B w { x with args := Tys.ofL l } a :=
  ⟨h.reads.mono fun b hz => ⟨hz.1, hz.2.lt, hz.2⟩, hn, by show (Tys.ofL l).len * 56 ≤ _; rw [Tys.len_ofL]; omega⟩
/-- a row of two types -/
theorem two_types {Z : Nat → Prop} {w : World} {g : Nat} {x y : Tm.Ty} {a b : Option Addr} {c d : Nat} (hb : Box w g TTy #[.int .i64 x.kd, .int .i64 x.n, .string x.nm, .slice a x.args.len c, .int .i64 y.kd, .int .i64 y.n, .string y.nm, .slice b y.args.len d]) (hg : Z g)
    (hx : RdT Z w a x.args 0) (hx1 : x.nm.size ≤ 9223372036854775807) (hx2 : x.args.len * 56 ≤ 140737488355328) (hy : RdT Z w b y.args 0) (hy1 : y.nm.size ≤ 9223372036854775807) (hy2 : y.args.len * 56 ≤ 140737488355328) :
    RdT Z w (some ⟨g, 0, none⟩) (Tys.ofL [x, y]) 0 := by
  refine RdT.mk fun i z hz => ?_
  rw [Tys.toL_ofL] at hz
  match i, hz with
  | 0, hz =>
    simp at hz
    subst hz
    exact ⟨⟨g, 0, none⟩, a, c, rfl, hg, hb.cell 0, hb.cell 1, hb.cell 2, hb.cell 3, hx1, hx2, hx⟩
  | 1, hz =>
    simp at hz
    subst hz
    exact ⟨⟨g, 0, none⟩, b, d, rfl, hg, hb.cell 4, hb.cell 5, hb.cell 6, hb.cell 7, hy1, hy2, hy⟩
  | i + 2, hz => simp at hz
theorem btype_other {d : Nat} {p : Pp} (h : p.next.kind ≠ 2) : btype (d + 1) p = atype d p := by rw [btype, if_pos h]
theorem btype_con {d : Nat} {p : Pp} (h : ¬ p.next.kind ≠ 2) {r : Tm.Ty × Pp} (hd : btype (d + 1) p = some r) : ∃ t p1 l p2, atype d p = some (t, p1) ∧ atypes d p1 = some (l, p2) ∧ r = ({ t with args := Tys.ofL l }, p2) := by
  rw [btype, if_neg h] at hd
  obtain ⟨⟨t1, p1⟩, h1, h2⟩ := Option.bind_eq_some_iff.1 hd
  dsimp only at h2
  obtain ⟨⟨t2, p2⟩, h3, h4⟩ := Option.bind_eq_some_iff.1 h2
  simp only [pure, Option.some.injEq] at h4
  exact ⟨t1, p1, t2, p2, h1, h3, h4.symm⟩
set_option maxRecDepth 100000 in
set_option maxHeartbeats 4000000 in
theorem btype_any {N pb d : Nat} {p : Pp} {fv : Value} {r : Tm.Ty × Pp} (w : World) (h : PS N w pb p fv) (hd : btype (d + 1) p = some r)
    (ih1 : ∀ p r w, atype d p = some r → PS N w pb p fv → Calls Tryz.prog 159 #[.pointer (some ⟨pb, 0, none⟩)] w (TyPost N pb fv r w))
    (ih2 : ∀ p r w, atypes d p = some r → PS N w pb p fv → Calls Tryz.prog 134 #[.pointer (some ⟨pb, 0, none⟩)] w (TysPost N pb fv r w)) :
    Calls Tryz.prog 184 #[.pointer (some ⟨pb, 0, none⟩)] w (TyPost N pb fv r w) := by
  have HP := Lib.hid h
  have HB0 := Lib.hid ((Below.refl w.heap.size w).alloc (Nat.le_refl _) zTy)
  have HX0 := Lib.hid (zbty w)
  have HN := Lib.hid (next_any (w.alloc zTy) (h.below HB0.out))
  have HNE := Lib.hid (show w.heap.size ≠ pb by have := h.lt; have := h.size; omega)
  have HI2 := Lib.hid ih2
  clear h ih2
  by_cases k2 : p.next.kind ≠ 2
  · have q : (p.next.kind != 2) = true := by simpa using k2
    rw [btype_other k2] at hd
    have HA := Lib.hid (ih1 p r · hd)
    clear k2 hd ih1
    go_enter Tryz.func184, Tryz.ntmps184
    go_wp2_with fail
    refine HN.out.mono ?_
    rintro e w1 ⟨rfl, hb1⟩
    have hf := tok_kind p.next w1
    have HB1 := Lib.hid (HB0.out.trans (hb1.mono (by simp)))
    have HX1 := Lib.hid (HX0.out.below hb1 (by simp))
    have HA1 := Lib.hid (HA.out w1 (HP.out.below HB1.out))
    have HZ := Lib.hid (show w.heap.size < w1.heap.size from HX1.out.lt)
    clear hb1
    go_wp2_with fail
    refine HA1.out.mono ?_
    rintro e w2 ⟨a3, c3, rfl, ht2, hp2, hk2⟩
    obtain ⟨x, p2⟩ := r
    have hX2 := hk2.box HX1.out HNE.out
    obtain ⟨z0, z1, z2, z3, y0, y1, y2, y3⟩ := hX2.cells4
    obtain ⟨V, hV, hvb, hvw⟩ := hX2.write4 (.int .i64 x.kd) (.int .i64 x.n) (.string x.nm) (.slice a3 x.args.len c3)
    have HTO := Lib.hid ht2
    have HVB := Lib.hid hvb
    have HVW := Lib.hid hvw
    have HP2 := Lib.hid hp2
    have HK2 := Lib.hid ((Kept.of_below HB1.out (Nat.le_refl _) (fun b => b = pb)).trans hk2)
    clear hp2 hk2 hX2 hvb hvw ht2
    go_wp2_with fail
    obtain ⟨v0, v1, v2, v3, _⟩ := HVB.out.cells4
    refine bodyPost_ret (v := tyV x a3 c3) (by simp [results, Tryz.results184, go_sem, v0, v1, v2, v3]) rfl ?_
    exact ⟨a3, c3, rfl, (HTO.out.frame (kept_wrote (Kept.refl (fun b => b = w.heap.size) _) HVW.out fun _ => rfl) (fun b e hge _ => by have := HZ.out; omega)).base (Nat.le_of_lt HZ.out), HP2.out.frame (X := fun b => b = w.heap.size) (kept_wrote (Kept.refl (fun b => b = w.heap.size) _) HVW.out fun _ => rfl) (fun b e => by have := HP.out.size; omega), kept_wrote HK2.out HVW.out (fun q => absurd q (Nat.lt_irrefl _))⟩
  · have q : (p.next.kind != 2) = false := by simpa using k2
    obtain ⟨x, p1, l, p2, h1, h2, rfl⟩ := btype_con k2 hd
    have HA := Lib.hid (ih1 p (x, p1) · h1)
    have HL := Lib.hid h2
    clear k2 hd ih1 h1 h2
    go_enter Tryz.func184, Tryz.ntmps184
    go_wp2_with fail
    refine HN.out.mono ?_
    rintro e w1 ⟨rfl, hb1⟩
    have hf := tok_kind p.next w1
    have HB1 := Lib.hid (HB0.out.trans (hb1.mono (by simp)))
    have HX1 := Lib.hid (HX0.out.below hb1 (by simp))
    have HA1 := Lib.hid (HA.out w1 (HP.out.below HB1.out))
    have HZ := Lib.hid (show w.heap.size < w1.heap.size from HX1.out.lt)
    clear hb1
    go_wp2_with fail
    refine HA1.out.mono ?_
    rintro e w2 ⟨a3, c3, rfl, ht2, hp2, hk2⟩
    have hB2 := (Below.refl w2.heap.size w2).alloc (Nat.le_refl _) (.cells #[.int .i64 x.kd, .int .i64 x.n, .string x.nm, .slice a3 x.args.len c3] TTy)
    have HY2 := Lib.hid (Box.new w2 #[.int .i64 x.kd, .int .i64 x.n, .string x.nm, .slice a3 x.args.len c3] TTy)
    have HX2 := Lib.hid ((hk2.box HX1.out HNE.out).alloc (.cells #[.int .i64 x.kd, .int .i64 x.n, .string x.nm, .slice a3 x.args.len c3] TTy))
    have HA2 := Lib.hid (HI2.out p1 (l, p2) _ HL.out (hp2.below hB2))
    have HK2 := Lib.hid (((Kept.of_below HB1.out (Nat.le_refl _) (fun b => b = pb)).trans hk2).alloc (.cells #[.int .i64 x.kd, .int .i64 x.n, .string x.nm, .slice a3 x.args.len c3] TTy))
    have HZ2 := Lib.hid (show w.heap.size < w2.heap.size from Nat.lt_of_lt_of_le HZ.out hk2.size)
    have HNM := Lib.hid ht2.2.1
    have HNY := Lib.hid (show w2.heap.size ≠ pb by have := HP.out.lt; have := HP.out.size; have := HZ2.out; omega)
    clear hp2 hk2 ht2 hB2
    go_wp2_with fail
    refine HA2.out.mono ?_
    rintro e w3 ⟨a4, c4, rfl, ho3, hp3, hk3, hl3⟩
    have hX3 := hk3.box HX2.out HNE.out
    have hY3 := hk3.box HY2.out HNY.out
    obtain ⟨s0, s1, s2, s3, r0, r1, r2, r3⟩ := hY3.cells4
    have hY4 := hY3.put 3 (.slice a4 l.length c4)
    have hw4 : Wrote w3 (w3.setCell ⟨w2.heap.size, 3, none⟩ (.slice a4 l.length c4)) w2.heap.size := (Wrote.refl _ _).set 3 _
    have hX4 := hX3.wrote hw4 (by have := HZ2.out; omega)
    obtain ⟨z0, z1, z2, z3, y0, y1, y2, y3⟩ := hX4.cells4
    obtain ⟨t0, t1, t2, t3, _⟩ := hY4.cells4
    obtain ⟨V, hV, hvb, hvw⟩ := hX4.write4 (.int .i64 x.kd) (.int .i64 x.n) (.string x.nm) (.slice a4 l.length c4)
    have HW4 := Lib.hid hw4
    have HVB := Lib.hid hvb
    have HVW := Lib.hid hvw
    have HO3 := Lib.hid ho3
    have HP3 := Lib.hid hp3
    have HL3 := Lib.hid hl3
    have HK3 := Lib.hid (HK2.out.trans hk3)
    clear hp3 hk3 hX3 hY3 hw4 hX4 hY4 hvb hvw ho3 hl3
    go_wp2_with fail
    obtain ⟨v0, v1, v2, v3, _⟩ := HVB.out.cells4
    refine bodyPost_ret (v := tyV { x with args := Tys.ofL l } a4 c4) (by simp [results, Tryz.results184, go_sem, v0, v1, v2, v3, Tys.len_ofL]) rfl ?_
    have hkv : Kept (fun b => b = w.heap.size ∨ b = w2.heap.size) w3 V := kept_wrote (kept_wrote (Kept.refl (fun b => b = w.heap.size ∨ b = w2.heap.size) _) HW4.out fun _ => .inr rfl) HVW.out fun _ => .inl rfl
    have hs2 : (w2.alloc (.cells #[.int .i64 x.kd, .int .i64 x.n, .string x.nm, .slice a3 x.args.len c3] TTy)).heap.size = w2.heap.size + 1 := by simp
    have hlt := HZ2.out
    exact ⟨a4, c4, rfl, ((TyOk.ofOwn (x := x) HO3.out HNM.out HL3.out).frame hkv (fun b e hge _ => by rw [hs2] at hge; omega)).base (by rw [hs2]; omega), HP3.out.frame hkv (fun b e => by have := HP.out.size; omega), kept_new HK3.out hkv (fun b e q => by omega)⟩
end Go.Proofs.YtdhfldpfbejcjaaGreat.Pa
/-
  CONTRACTS of layer parse: types are read, however deep.
-/
namespace Go.Proofs.YtdhfldpfbejcjaaGreat.Pa
open Go.RowKit Mm Tm Pm
set_option linter.unusedVariables false
set_option linter.unusedSimpArgs false
theorem typ_one {d : Nat} {p p1 : Pp} {x : Tm.Ty} (h1 : btype d p = some (x, p1)) (hm : isMark p1.next "->" = false) {r : Tm.Ty × Pp} (hd : typ (d + 1) p = some r) : r = (x, p1) := by
  rw [typ, h1] at hd
  simp only [Option.bind_eq_bind, Option.bind_some, hm] at hd
  exact (Option.some.inj hd).symm
theorem typ_two {d : Nat} {p p1 : Pp} {x : Tm.Ty} (h1 : btype d p = some (x, p1)) (hm : isMark p1.next "->" = true) {r : Tm.Ty × Pp} (hd : typ (d + 1) p = some r) : ∃ y p2, typ d p1.take.2 = some (y, p2) ∧ r = (⟨3, 0, ByteArray.empty, Tys.ofL [x, y]⟩, p2) := by
  rw [typ, h1] at hd
  simp only [Option.bind_eq_bind, Option.bind_some, hm, if_true] at hd
  obtain ⟨⟨y, p2⟩, h3, h4⟩ := Option.bind_eq_some_iff.1 hd
  exact ⟨y, p2, h3, (Option.some.inj h4).symm⟩
theorem typ_first {d : Nat} {p : Pp} {r : Tm.Ty × Pp} (hd : typ (d + 1) p = some r) : ∃ x p1, btype d p = some (x, p1) := by
  rw [typ] at hd
  obtain ⟨⟨y, p2⟩, h3, h4⟩ := Option.bind_eq_some_iff.1 hd
  exact ⟨y, p2, h3⟩
abbrev oTy (x : Tm.Ty) (a : Option Addr) (c : Nat) : Obj := .cells #[.int .i64 x.kd, .int .i64 x.n, .string x.nm, .slice a x.args.len c] TTy
set_option maxRecDepth 100000 in
set_option maxHeartbeats 4000000 in
theorem typ_any {N pb d : Nat} {p : Pp} {fv : Value} {r : Tm.Ty × Pp} (w : World) (h : PS N w pb p fv) (hd : typ (d + 1) p = some r)
    (ih1 : ∀ p r w, btype d p = some r → PS N w pb p fv → Calls Tryz.prog 184 #[.pointer (some ⟨pb, 0, none⟩)] w (TyPost N pb fv r w))
    (ih2 : ∀ p r w, typ d p = some r → PS N w pb p fv → Calls Tryz.prog 178 #[.pointer (some ⟨pb, 0, none⟩)] w (TyPost N pb fv r w)) :
    Calls Tryz.prog 178 #[.pointer (some ⟨pb, 0, none⟩)] w (TyPost N pb fv r w) := by
  have HP := Lib.hid h
  have HB0 := Lib.hid ((Below.refl w.heap.size w).alloc (Nat.le_refl _) zTy)
  have HX0 := Lib.hid (zbty w)
  have HNE := Lib.hid (show w.heap.size ≠ pb by have := h.lt; have := h.size; omega)
  obtain ⟨x, p1, h1⟩ := typ_first hd
  have HA := Lib.hid (ih1 p (x, p1) (w.alloc zTy) h1 (h.below HB0.out))
  have HI2 := Lib.hid ih2
  clear h ih1 ih2
  cases hm : isMark p1.next "->" with
  | false =>
    have hr := typ_one h1 hm hd
    subst hr
    have HM := Lib.hid hm
    clear hm h1 hd
    go_enter Tryz.func178, Tryz.ntmps178
    go_wp2_with fail
    refine HA.out.mono ?_
    rintro e w1 ⟨a1, c1, rfl, ht1, hp1, hk1⟩
    have hB1 := (Below.refl w1.heap.size w1).alloc (Nat.le_refl _) (oTy x a1 c1)
    have HY1 := Lib.hid (Box.new w1 #[.int .i64 x.kd, .int .i64 x.n, .string x.nm, .slice a1 x.args.len c1] TTy)
    have HX1 := Lib.hid ((hk1.box HX0.out HNE.out).alloc (oTy x a1 c1))
    have HZ1 := Lib.hid (show w.heap.size + 1 ≤ w1.heap.size by have := hk1.size; rwa [World.size_alloc] at this)
    have HP1 := Lib.hid (hp1.below hB1)
    have HT1 := Lib.hid (ht1.frame (Kept.of_below hB1 (Nat.le_refl _) (fun _ => False)) (fun b e => e.elim))
    have HN := Lib.hid (next_any _ HP1.out)
    have HK1 := Lib.hid (((Kept.of_below HB0.out (Nat.le_refl _) (fun b => b = pb)).trans hk1).alloc (oTy x a1 c1))
    have HS1 := Lib.hid (show (w1.alloc (oTy x a1 c1)).heap.size = w1.heap.size + 1 by simp)
    clear ht1 hp1 hk1 hB1
    go_wp2_with fail
    refine HN.out.mono ?_
    rintro e w2 ⟨rfl, hb2⟩
    have hs2 := hb2.size
    have HI := Lib.hid (mark_at p1.next "->" w2)
    unfold oStr at HI
    rw [lit_ar, HM.out] at HI
    have HB2 := Lib.hid (hb2.alloc hb2.size (.cells #[.string ⟨#[45, 62]⟩] TStr))
    clear hb2 hs2
    go_wp2_with fail
    refine HI.out.mono ?_
    rintro e w3 ⟨rfl, hb3⟩
    have hB3 := HB2.out.trans (hb3.mono HB2.out.size)
    have hY3 := HY1.out.below hB3 (by rw [HS1.out]; omega)
    have hX3 := HX1.out.below hB3 (by rw [HS1.out]; have := HZ1.out; omega)
    have HB3 := Lib.hid hB3
    obtain ⟨s0, s1, s2, s3, _⟩ := hY3.cells4
    obtain ⟨z0, z1, z2, z3, y0, y1, y2, y3⟩ := hX3.cells4
    obtain ⟨V, hV, hvb, hvw⟩ := hX3.write4 (.int .i64 x.kd) (.int .i64 x.n) (.string x.nm) (.slice a1 x.args.len c1)
    have HVB := Lib.hid hvb
    have HVW := Lib.hid hvw
    clear hb3 hB3 hY3 hX3 hvb hvw
    go_wp2_with fail
    obtain ⟨v0, v1, v2, v3, _⟩ := HVB.out.cells4
    refine bodyPost_ret (v := tyV x a1 c1) (by simp [results, Tryz.results178, go_sem, v0, v1, v2, v3]) rfl ?_
    have hk : Kept (fun b => b = w.heap.size) (w1.alloc (oTy x a1 c1)) V := kept_wrote (Kept.of_below HB3.out (Nat.le_refl _) (fun b => b = w.heap.size)) HVW.out fun _ => rfl
    exact ⟨a1, c1, rfl, (HT1.out.frame hk (fun b e hge _ => by rw [World.size_alloc] at hge; omega)).base (by rw [World.size_alloc]; omega), HP1.out.frame hk (fun b e => by have := HP.out.size; omega), kept_new HK1.out hk (fun b e q => by omega)⟩
  | true =>
    obtain ⟨y, p2, h3, rfl⟩ := typ_two h1 hm hd
    have HM := Lib.hid hm
    have HY := Lib.hid h3
    clear hm h1 hd h3
    go_enter Tryz.func178, Tryz.ntmps178
    go_wp2_with fail
    refine HA.out.mono ?_
    rintro e w1 ⟨a1, c1, rfl, ht1, hp1, hk1⟩
    have hB1 := (Below.refl w1.heap.size w1).alloc (Nat.le_refl _) (oTy x a1 c1)
    have HY1 := Lib.hid (Box.new w1 #[.int .i64 x.kd, .int .i64 x.n, .string x.nm, .slice a1 x.args.len c1] TTy)
    have HX1 := Lib.hid ((hk1.box HX0.out HNE.out).alloc (oTy x a1 c1))
    have HZ1 := Lib.hid (show w.heap.size + 1 ≤ w1.heap.size by have := hk1.size; rwa [World.size_alloc] at this)
    have HP1 := Lib.hid (hp1.below hB1)
    have HT1 := Lib.hid (ht1.frame (Kept.of_below hB1 (Nat.le_refl _) (fun _ => False)) (fun b e => e.elim))
    have HN := Lib.hid (next_any _ HP1.out)
    have HK1 := Lib.hid (((Kept.of_below HB0.out (Nat.le_refl _) (fun b => b = pb)).trans hk1).alloc (oTy x a1 c1))
    have HS1 := Lib.hid (show (w1.alloc (oTy x a1 c1)).heap.size = w1.heap.size + 1 by simp)
    clear ht1 hp1 hk1 hB1
    go_wp2_with fail
    refine HN.out.mono ?_
    rintro e w2 ⟨rfl, hb2⟩
    have HI := Lib.hid (mark_at p1.next "->" w2)
    unfold oStr at HI
    rw [lit_ar, HM.out] at HI
    have HB2 := Lib.hid (hb2.alloc hb2.size (.cells #[.string ⟨#[45, 62]⟩] TStr))
    clear hb2
    go_wp2_with fail
    refine HI.out.mono ?_
    rintro e w3 ⟨rfl, hb3⟩
    have HB3 := Lib.hid (HB2.out.trans (hb3.mono HB2.out.size))
    have HTK := Lib.hid (take_any w3 (HP1.out.below HB3.out))
    clear hb3
    go_wp2_with fail
    refine HTK.out.mono ?_
    rintro e w4 ⟨rfl, hp4, hk4⟩
    have hkk : Kept (fun b => b = pb) (w1.alloc (oTy x a1 c1)) w4 := (Kept.of_below HB3.out (Nat.le_refl _) (fun b => b = pb)).trans hk4
    have HNY := Lib.hid (show w1.heap.size ≠ pb by have := HP.out.lt; have := HP.out.size; have := HZ1.out; omega)
    have hY4 := hkk.box HY1.out HNY.out
    have HY4 := Lib.hid hY4
    have HX4 := Lib.hid (hkk.box HX1.out HNE.out)
    have HT4 := Lib.hid (HT1.out.frame hkk (fun b e hge _ => by have := HNY.out; have := HP.out.lt; have := HP.out.size; have := HZ1.out; rw [World.size_alloc] at hge; omega))
    have HK4 := Lib.hid (HK1.out.trans hkk)
    have HS4 := Lib.hid (show w1.heap.size + 1 ≤ w4.heap.size by have := hkk.size; rwa [HS1.out] at this)
    have HC := Lib.hid (HI2.out _ (y, p2) w4.drew HY.out (hp4.below (Below.drew (Below.refl _ _))))
    obtain ⟨u0, u1, u2, u3, _⟩ := hY4.cells4
    clear hp4 hk4 hkk hY4
    go_wp2_with fail
    go_region_held3 (fun w' => w'.cell? ⟨w1.heap.size, 0, none⟩ = some (.int .i64 x.kd) ∧ w'.cell? ⟨w1.heap.size, 1, none⟩ = some (.int .i64 x.n) ∧ w'.cell? ⟨w1.heap.size, 2, none⟩ = some (.string x.nm) ∧ w'.cell? ⟨w1.heap.size, 3, none⟩ = some (.slice a1 x.args.len c1))
      (first
        | exact ⟨u0, u1, u2, u3⟩
        | exact ⟨m0, m1, m2, m3⟩
        | exact ⟨n0, n1, n2, n3⟩
        | (rw [hV]; exact ⟨o0, o1, o2, o3⟩)
        | exact ⟨o0, o1, o2, o3⟩)
      (first
        | (go_at_call 178; refine HC.out.mono ?_; rintro e w5 ⟨a5, c5, rfl, ht5, hp5, hk5⟩; have hY5 := hk5.box HY4.out.drew HNY.out; have hX5 := hk5.box HX4.out.drew HNE.out; obtain ⟨m0, m1, m2, m3, _⟩ := hY5.cells4; have HT5 := Lib.hid ht5; have HP5 := Lib.hid hp5; have HK5 := Lib.hid hk5; have hY6 := hY5.alloc (.cells #[.int .i64 x.kd, .int .i64 x.n, .string x.nm, .slice a1 x.args.len c1, .int .i64 y.kd, .int .i64 y.n, .string y.nm, .slice a5 y.args.len c5] TTy); have hX6 := hX5.alloc (.cells #[.int .i64 x.kd, .int .i64 x.n, .string x.nm, .slice a1 x.args.len c1, .int .i64 y.kd, .int .i64 y.n, .string y.nm, .slice a5 y.args.len c5] TTy); obtain ⟨n0, n1, n2, n3, _⟩ := hY6.cells4; obtain ⟨z0, z1, z2, z3, y0, y1, y2, y3⟩ := hX6.cells4; obtain ⟨V, hV, hvb, hvw⟩ := hX6.write4 (.int .i64 3) (.int .i64 0) (.string ⟨#[]⟩) (.slice (some ⟨w5.heap.size, 0, none⟩) 2 2); have hY7 := hY6.wrote hvw (Nat.ne_of_gt HZ1.out); obtain ⟨o0, o1, o2, o3, _⟩ := hY7.cells4; have HVB := Lib.hid hvb; have HVW := Lib.hid hvw; clear hY5 hX5 hY6 hX6 hY7 hvb hvw ht5 hp5 hk5))
    go_wp2_with fail
    obtain ⟨v0, v1, v2, v3, _⟩ := HVB.out.cells4
    refine bodyPost_ret (v := tyV ⟨3, 0, ByteArray.empty, Tys.ofL [x, y]⟩ (some ⟨w5.heap.size, 0, none⟩) 2) (by simp [results, Tryz.results178, go_sem, v0, v1, v2, v3, Tys.len_ofL]; rfl) rfl ?_
    have hA : Kept (fun b => b = w.heap.size) w5 V := kept_wrote ((Kept.refl (fun b => b = w.heap.size) w5).alloc _) HVW.out (fun _ => rfl)
    have h4V : Kept (fun b => b = pb ∨ b = w.heap.size) w4 V := ((Kept.refl (fun b => b = pb ∨ b = w.heap.size) w4).drew.trans (HK5.out.mono fun b _ e => .inl e)).trans (hA.mono fun b _ e => .inr e)
    have hlt := HP.out.lt
    have hsz := HP.out.size
    have hz1 := HZ1.out
    have hz4 := HS4.out
    have hz5 : w4.heap.size ≤ w5.heap.size := HK5.out.size
    have hx := HT4.out.frame h4V (fun b e hge _ => by rw [World.size_alloc] at hge; omega)
    have hy := HT5.out.frame hA (fun b e hge _ => by have : w4.heap.size ≤ b := hge; omega)
    have hbox : Box V w5.heap.size TTy #[.int .i64 x.kd, .int .i64 x.n, .string x.nm, .slice a1 x.args.len c1, .int .i64 y.kd, .int .i64 y.n, .string y.nm, .slice a5 y.args.len c5] := (Box.new w5 _ _).wrote HVW.out (by omega)
    refine ⟨some ⟨w5.heap.size, 0, none⟩, 2, rfl, ⟨two_types (c := c1) (d := c5) hbox ⟨by omega, hbox.lt, ⟨_, hbox⟩⟩ (hx.1.mono fun b hz => ⟨by have := hz.1; rw [World.size_alloc] at this; omega, hz.2⟩) hx.2.1 hx.2.2 (hy.1.mono fun b hz => ⟨by have : w4.heap.size ≤ b := hz.1; omega, hz.2⟩) hy.2.1 hy.2.2, by show ByteArray.empty.size ≤ _; decide, by simp [Tys.len_ofL]⟩, HP5.out.frame hA (fun b e => by omega), kept_new ((HK4.out.drew).trans HK5.out) hA (fun b e q => by omega)⟩
/-- the contracts of the readers of types, with so much fuel -/
structure TyC (N pb : Nat) (fv : Value) (d : Nat) : Prop where
  typ : ∀ p r w, typ d p = some r → PS N w pb p fv → Calls Tryz.prog 178 #[.pointer (some ⟨pb, 0, none⟩)] w (TyPost N pb fv r w)
  btype : ∀ p r w, btype d p = some r → PS N w pb p fv → Calls Tryz.prog 184 #[.pointer (some ⟨pb, 0, none⟩)] w (TyPost N pb fv r w)
  atypes : ∀ p r w, atypes d p = some r → PS N w pb p fv → Calls Tryz.prog 134 #[.pointer (some ⟨pb, 0, none⟩)] w (TysPost N pb fv r w)
  atype : ∀ p r w, atype d p = some r → PS N w pb p fv → Calls Tryz.prog 159 #[.pointer (some ⟨pb, 0, none⟩)] w (TyPost N pb fv r w)
theorem types_any (N pb : Nat) (fv : Value) : ∀ d, TyC N pb fv d := by
  intro d
  induction d using Nat.strongRecOn with
  | _ d ih =>
    cases d with
    | zero => exact ⟨fun p r w h => by simp [Pa.typ] at h, fun p r w h => by simp [Pa.btype] at h, fun p r w h => by simp [Pa.atypes] at h, fun p r w h => by simp [Pa.atype] at h⟩
    | succ d =>
      have i := ih d (Nat.lt_succ_self d)
      exact ⟨fun p r w h hp => typ_any w hp h i.btype i.typ, fun p r w h hp => btype_any w hp h i.atype i.atypes, fun p r w h hp => atypes_any w hp h fun d' hd => (ih d' hd).atype, fun p r w h hp => atype_any w hp h i.typ⟩
end Go.Proofs.YtdhfldpfbejcjaaGreat.Pa
