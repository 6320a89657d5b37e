/-
  CONTRACT of layer parse: what stands behind patterns is read.
-/
import Derived.Test.YtdajihpfedbihaaGreatGH
import Derived.Shelf.Abstract
namespace Go.Proofs.YtdajihpfedbihaaGreat.Pa
open Go.RowKit Mm Tm Pm
set_option linter.unusedVariables false
set_option linter.unusedSimpArgs false
abbrev TFR : TypeId := 183
abbrev TFRs : TypeId := 182
theorem Tfr : (Tryz.prog.info? 183).map (fun i => (i.zero, i.size, i.bytes)) = some (some Value.nilFunc, 1, 8) := by kernel_rfl
theorem st_one {v : Value} (h : v.oneCell' = true) : ∀ (ad : Addr) (W : World), (store ad v).run Tryz.prog W = stored Tryz.prog W ad v .plain := fun ad W => run_store _ W ad v .plain h
theorem Ls.empty {α : Type} {f : α → Item} {TB TE : TypeId} {k pb B : Nat} (w : World) (hB : B ≤ w.heap.size) : Ls f TB TE k pb B (w.alloc (.cells #[.slice none 0 0] TB)) w.heap.size (.slice none 0 0) [] [] :=
  ⟨Box.new w _ _, World.ownsRow_nil _ _ _ _, fun i t ht => by simp at ht, hB, by simp [Value.ownBlock]⟩
theorem bodies_one {d : Nat} {s : String} {p : Pp} (h : isMark p.next "|" = false) {r : Rh} {q : Pp} (hd : bodies (d + 1) s p = some (r, q)) : ∃ b, expr d (p.mark s).2 = some (b, q) ∧ r = .one b := by
  rw [bodies, if_neg (by rw [h]; simp)] at hd
  obtain ⟨⟨t1, p1⟩, h1, h2⟩ := Option.bind_eq_some_iff.1 hd
  simp only [pure, Option.some.injEq, Prod.mk.injEq] at h2
  exact ⟨t1, by rw [h1, h2.2], h2.1.symm⟩
theorem bodies_guards {d : Nat} {s : String} {p : Pp} (h : isMark p.next "|" = true) {r : Rh} {q : Pp} (hd : bodies (d + 1) s p = some (r, q)) : ∃ l, guards d s p = some (l, q) ∧ r = .guards l := by
  rw [bodies, if_pos h] at hd
  obtain ⟨⟨t1, p1⟩, h1, h2⟩ := Option.bind_eq_some_iff.1 hd
  simp only [pure, Option.some.injEq, Prod.mk.injEq] at h2
  exact ⟨t1, by rw [h1, h2.2], h2.1.symm⟩
theorem guards_yes {d : Nat} {s : String} {p : Pp} (h : isMark p.next "|" = true) {l : List Gd} {q : Pp} (hd : guards (d + 1) s p = some (l, q)) : ∃ g p1 b p2 l2, expr d p.take.2 = some (g, p1) ∧ expr d (p1.mark s).2 = some (b, p2) ∧ guards d s p2 = some (l2, q) ∧ l = .mk g b :: l2 := by
  rw [guards, if_pos h] at hd
  obtain ⟨⟨t1, p1⟩, h1, h2⟩ := Option.bind_eq_some_iff.1 hd
  dsimp only at h2
  obtain ⟨⟨t2, p2⟩, h3, h4⟩ := Option.bind_eq_some_iff.1 h2
  dsimp only at h4
  obtain ⟨⟨t3, p3⟩, h5, h6⟩ := Option.bind_eq_some_iff.1 h4
  simp only [pure, Option.some.injEq, Prod.mk.injEq] at h6
  exact ⟨t1, p1, t2, p2, t3, h1, h3, by rw [h5, h6.2], h6.1.symm⟩
theorem guards_no {d : Nat} {s : String} {p : Pp} (h : isMark p.next "|" = false) {l : List Gd} {q : Pp} (hd : guards (d + 1) s p = some (l, q)) : l = [] ∧ q = p := by
  rw [guards, if_neg (by rw [h]; simp)] at hd
  simp only [pure, Option.some.injEq, Prod.mk.injEq] at hd
  exact ⟨hd.1.symm, hd.2.symm⟩
structure GdL (N pb : Nat) (fv : Value) (s : String) (L : List Gd) (q : Pp) (w : World) (bs n d : Nat) (wr : World) (l1 l2 : List Gd) (pk : Pp) (sv : Value) (vs : List Value) : Prop where
  run : guards d s pk = some (l2, q)
  eq : L = l1 ++ l2
  ls : Ls Item.gd TFRs TFR 1 pb w.heap.size wr bs sv l1 vs
  ps : PS N wr pb pk fv
  kp : KP pb w wr
  le : d ≤ n
  len : l1.length + pk.rest.length ≤ 100000000
theorem GdL.succ {N pb : Nat} {fv : Value} {s : String} {L : List Gd} {q : Pp} {w : World} {bs n d : Nat} {wr : World} {l1 l2 : List Gd} {pk : Pp} {sv : Value} {vs : List Value} (h : GdL N pb fv s L q w bs n d wr l1 l2 pk sv vs) : ∃ d0, d = d0 + 1 := by
  cases d with
  | zero => have := h.run; simp [guards] at this
  | succ d => exact ⟨d, rfl⟩
set_option maxRecDepth 100000 in
set_option maxHeartbeats 8000000 in
theorem bodies_any {N pb d : Nat} {p q : Pp} {fv : Value} {r : Rh} (s : String) (w : World) (h : PS N w pb p fv) (hd : bodies (d + 1) s p = some (r, q))
    (ih : ∀ d', d' ≤ d → ∀ p r w, expr d' p = some r → PS N w pb p fv → Calls Tryz.prog 77 #[ptr pb] w (LtPost N pb fv (.lt r.1) r.2 w)) :
    Calls Tryz.prog 92 #[ptr pb, .string (toB (str s))] w (LtPost N pb fv (.rh r) q w) := by
  obtain ⟨i0, hi0, hi1, hi2, hi3⟩ := info_parts Tfr
  have HP := Lib.hid h
  have HIH := Lib.hid ih
  have HN := Lib.hid (next_any w h)
  have HPW := Lib.hid (show pb < w.heap.size from Nat.lt_of_lt_of_le h.lt h.size)
  clear h ih
  cases hm : isMark p.next "|" with
  | false =>
    obtain ⟨b, hb, rfl⟩ := bodies_one hm hd
    have HM := Lib.hid hm
    have HB := Lib.hid hb
    clear hm hd hb
    go_enter Tryz.func92, Tryz.ntmps92
    go_wp2_with fail
    refine HN.out.mono ?_
    rintro e w1 ⟨rfl, hb1⟩
    have HBc := Lib.hid (hb1.alloc hb1.size (.cells #[.string ⟨#[124]⟩] TStr))
    have HMk := Lib.hid (mark_at p.next "|" w1)
    unfold oStr at HMk
    rw [lit_bar, HM.out] at HMk
    clear hb1
    go_wp2_with fail
    refine HMk.out.mono ?_
    rintro e w2 ⟨rfl, hb2⟩
    have HBe := Lib.hid (HBc.out.trans (hb2.mono HBc.out.size))
    have HMS := Lib.hid (mark_any s w2 (HP.out.below HBe.out))
    clear hb2
    go_wp2_with fail
    refine HMS.out.mono ?_
    rintro e w3 ⟨rfl, hp3, hk3⟩
    have HX := Lib.hid (HIH.out d (Nat.le_refl _) _ (b, q) w3 HB.out hp3)
    have HK3 := Lib.hid ((Kept.of_below HBe.out (Nat.le_refl _) (fun b => b = pb)).trans hk3)
    clear hp3 hk3
    go_wp2_with fail
    refine HX.out.mono ?_
    rintro e w4 ⟨v4, rfl, hr4, hp4, hk4⟩
    have hb4 : Below w4.heap.size w4 (w4.alloc (.cells #[v4] TFE)) := (Below.refl _ _).alloc (Nat.le_refl _) _
    have hna4 := one_not hr4.one1
    have hst4 := st_one hr4.one1
    have HR4 := Lib.hid ((hr4.kept (Kept.of_below hb4 (Nat.le_refl _) (fun _ => False)) (fun b hz hx _ => hx)).mono (Z' := fun b => w.heap.size ≤ b) fun b hz _ => Nat.le_trans HK3.out.size hz)
    have HP4 := Lib.hid (hp4.below hb4)
    have HK4 := Lib.hid (KP.here (HK3.out.trans hk4) hb4)
    have HX4 := Lib.hid (Box.new w4 #[v4] TFE)
    have HS4 := Lib.hid (Nat.le_trans HK3.out.size hk4.size)
    clear hr4 hp4 hk4 hb4
    go_wp2_with fail
    go_ret
    exact ⟨_, rfl, .one ⟨HS4.out, HX4.out⟩ HR4.out, HP4.out, HK4.out⟩
  | true =>
    obtain ⟨l, hl, rfl⟩ := bodies_guards hm hd
    have HM := Lib.hid hm
    have HG := Lib.hid hl
    clear hm hd hl
    go_enter Tryz.func92, Tryz.ntmps92
    go_wp2_with fail
    refine HN.out.mono ?_
    rintro e w1 ⟨rfl, hb1⟩
    have HBc := Lib.hid (hb1.alloc hb1.size (.cells #[.string ⟨#[124]⟩] TStr))
    have HMk := Lib.hid (mark_at p.next "|" w1)
    unfold oStr at HMk
    rw [lit_bar, HM.out] at HMk
    clear hb1
    go_wp2_with fail
    refine HMk.out.mono ?_
    rintro e w2 ⟨rfl, hb2⟩
    have hBe := HBc.out.trans (hb2.mono HBc.out.size)
    have hb3 : Below w2.heap.size w2 (w2.alloc (.cells #[.slice none 0 0] TFRs)) := (Below.refl _ _).alloc (Nat.le_refl _) _
    have HST := Lib.hid (GdL.mk (n := d) (L := l) (l1 := []) (l2 := l) (q := q) (w := w) HG.out rfl (Ls.empty (B := w.heap.size) (f := Item.gd) (TB := TFRs) (TE := TFR) (k := 1) (pb := pb) w2 hBe.size) ((HP.out.below hBe).below hb3) ((Kept.of_below hBe (Nat.le_refl _) (fun b => b = pb)).trans (Kept.of_below hb3 (Nat.le_refl _) _)) (Nat.le_refl _) (by have := HP.out.len; simpa using this))
    clear hb2 hBe hb3
    go_wp2_with fail
    go_loopg [23] d (fun d' v wr => ∃ l1 l2 pk sv vs, GdL N pb fv s l q w w2.heap.size d d' wr l1 l2 pk sv vs)
    case atStart => exact ⟨_, _, _, _, _, HST.out⟩
    case round =>
      obtain ⟨l1, l2, pk, sv, vs, hI⟩ := hrel
      obtain ⟨d0, rfl⟩ := hI.succ
      obtain ⟨a5, c5, rfl⟩ := hI.ls.slice
      have HI := Lib.hid hI
      have HN2 := Lib.hid (next_any wr hI.ps)
      clear hI
      go_wp2_with fail
      refine HN2.out.mono ?_
      rintro e w3 ⟨rfl, hb3⟩
      have HBd := Lib.hid (hb3.alloc hb3.size (.cells #[.string ⟨#[124]⟩] TStr))
      have HMk2 := Lib.hid (mark_at pk.next "|" w3)
      unfold oStr at HMk2
      rw [lit_bar] at HMk2
      clear hb3
      cases hm2 : isMark pk.next "|" with
      | true =>
        rw [hm2] at HMk2
        obtain ⟨g, q1, b, q2, l2', hr1, hr2, hr3, hr4⟩ := guards_yes hm2 HI.out.run
        have HR := Lib.hid (And.intro hr1 (And.intro hr2 (And.intro hr3 hr4)))
        have HM2 := Lib.hid hm2
        clear hr1 hr2 hr3 hr4 hm2
        go_wp2_with fail
        refine HMk2.out.mono ?_
        rintro e w4 ⟨rfl, hb4⟩
        have HBf := Lib.hid (HBd.out.trans (hb4.mono HBd.out.size))
        have HTK := Lib.hid (take_any w4 (HI.out.ps.below HBf.out))
        clear hb4
        go_wp2_with fail
        refine HTK.out.mono ?_
        rintro e w5 ⟨rfl, hp5, hk5⟩
        have HX5 := Lib.hid (HIH.out d0 (by have := HI.out.le; omega) _ (g, q1) w5 HR.out.1 hp5)
        have HK5 := Lib.hid ((Kept.of_below HBf.out (Nat.le_refl _) (fun b => b = pb)).trans hk5)
        clear hp5 hk5
        go_wp2_with fail
        refine HX5.out.mono ?_
        rintro e w6 ⟨v6, rfl, hr6, hp6, hk6⟩
        have hb6 : Below w6.heap.size w6 (w6.alloc (.cells #[v6] TFE)) := (Below.refl _ _).alloc (Nat.le_refl _) _
        have hna6 := one_not hr6.one1
        have hst6 := st_one hr6.one1
        have HR6 := Lib.hid (hr6.kept (Kept.of_below hb6 (Nat.le_refl _) (fun _ => False)) (fun b hz hx _ => hx))
        have HK6 := Lib.hid (KP.here (HK5.out.trans hk6) hb6)
        have HC6 := Lib.hid (Box.new w6 #[v6] TFE)
        have HS6 := Lib.hid (show w5.heap.size ≤ w6.heap.size from hk6.size)
        have HMS := Lib.hid (mark_any s _ (hp6.below hb6))
        clear hr6 hp6 hk6 hb6
        go_wp2_with fail
        refine HMS.out.mono ?_
        rintro e w7 ⟨rfl, hp7, hk7⟩
        have hpw := HPW.out
        have hkw := HI.out.kp.size
        have hk5s : wr.heap.size ≤ w5.heap.size := HK5.out.size
        have hk5s' := hk5s
        have hs6 := HS6.out
        have HX7 := Lib.hid (HIH.out d0 (by have := HI.out.le; omega) _ (b, q2) w7 HR.out.2.1 hp7)
        have HR7 := Lib.hid (HR6.out.kept hk7 (fun b hz hx _ => by have hx : b = pb := hx; omega))
        have HC7 := Lib.hid (hk7.box HC6.out (by omega))
        have HK7 := Lib.hid (HK6.out.trans hk7)
        have HS7 := Lib.hid (show w6.heap.size + 1 ≤ w7.heap.size by have := hk7.size; rwa [World.size_alloc] at this)
        clear hp7 hk7
        go_wp2_with fail
        refine HX7.out.mono ?_
        rintro e w8 ⟨v8, rfl, hr8, hp8, hk8⟩
        have hb8 : Below w8.heap.size w8 (w8.alloc (.cells #[v8] TFE)) := (Below.refl _ _).alloc (Nat.le_refl _) _
        have hna8 := one_not hr8.one1
        have hst8 := st_one hr8.one1
        have hs7 := HS7.out
        have hs8 : w7.heap.size ≤ w8.heap.size := hk8.size
        have hL8 := ((HI.out.ls.kp HK7.out HPW.out).kp hk8 HPW.out).below hb8
        have hR8g := (HR7.out.kept hk8 (fun b hz hx _ => by have hx : b = pb := hx; omega)).kept (Kept.of_below hb8 (Nat.le_refl _) (fun _ => False)) (fun b hz hx _ => hx)
        have hR8b := hr8.kept (Kept.of_below hb8 (Nat.le_refl _) (fun _ => False)) (fun b hz hx _ => hx)
        have hC8g := (hk8.box HC7.out (by omega)).below hb8 (by omega)
        have hC8b := Box.new w8 #[v8] TFE
        have HEL := Lib.hid (show R pb (fun b => w5.heap.size ≤ b) (w8.alloc (.cells #[v8] TFE)) (.gd (.mk g b)) [.func (.func 118) #[] #[ptr w6.heap.size, ptr w8.heap.size]] from .gd ⟨hs6, hC8g⟩ ⟨by omega, hC8b⟩ hR8g (hR8b.mono fun b hz _ => by have hz : w7.heap.size ≤ b := hz; omega))
        have HL8 := Lib.hid hL8
        have HP8 := Lib.hid (hp8.below hb8)
        have HK8 := Lib.hid (KP.here (HK7.out.trans hk8) hb8)
        have u0 := hL8.box.cell 0
        have u1 := hL8.box.lt
        have hsz8 : (w8.alloc (.cells #[v8] TFE)).heap.size = w8.heap.size + 1 := by simp
        rw [hsz8] at u1
        have HW8 := Lib.hid (show wr.heap.size ≤ w8.heap.size by omega)
        have HSZ8 := Lib.hid hsz8
        have hlen8 := HI.out.len
        clear hr8 hp8 hk8 hb8 hL8 hR8g hR8b hC8g hC8b hsz8
        generalize hW9 : w8.alloc (.cells #[v8] TFE) = W9 at *
        go_wp2_with (at_builtin; refine wpList_append_own_at _ rfl _ _ TFRs rfl w.heap.size TFR i0 _ 1 8 Tryz.underlying182 hi0 hi1 hi2 hi3 rfl (by decide) _ _ _ rfl (HL8.out.own.alloc _) ⟨W9.heap.size, 0, none⟩ 1 1 [.func (.func 118) #[] #[ptr w6.heap.size, ptr w8.heap.size]] rfl rfl (news_new W9 #[.func (.func 118) #[] #[ptr w6.heap.size, ptr w8.heap.size]] TFR) (fun u hu => by simp only [List.mem_cons, List.not_mem_nil, or_false] at hu; subst hu; rfl) (by unfold maxLen; omega) (by omega) (by have := HSZ8.out; simp; omega) ?_)
        intro va wa hown hgrow _ hat
        have HMA := Lib.hid (HL8.out.more (t := Gd.mk g b) (new := [.func (.func 118) #[] #[ptr w6.heap.size, ptr w8.heap.size]]) (S := w5.heap.size) rfl HEL.out (Nat.lt_of_lt_of_le HI.out.ls.box.lt hk5s') (fun x e => Nat.lt_of_lt_of_le (HI.out.ls.own.lt x e).2 hk5s') (Nat.le_trans hkw hk5s') (by decide) hown hgrow (by rwa [World.size_alloc]))
        have hba := (HL8.out.box.alloc (.cells #[.func (.func 118) #[] #[ptr w6.heap.size, ptr w8.heap.size]] TFR)).grown hgrow (fun e => HL8.out.nob e.symm)
        have p0 := hba.cell 0
        have p1 := hba.free 0
        have HKA := Lib.hid ((((Kept.refl (fun b => (Value.slice a5 l1.length c5).ownBlock = some b ∨ b = w2.heap.size) W9).alloc (.cells #[.func (.func 118) #[] #[ptr w6.heap.size, ptr w8.heap.size]] TFR)).grown hgrow (fun k hk _ => .inl hk)).setCell (a := ⟨w2.heap.size, 0, none⟩) (fun _ => .inr rfl) va)
        obtain ⟨aa, ca, rfl⟩ := own_slice hown
        clear hba hown hgrow hat
        go_wp2_with fail
        go_roundg d0
        case measure => omega
        case rel =>
          have hge : ∀ b, ((Value.slice a5 l1.length c5).ownBlock = some b ∨ b = w2.heap.size) → w.heap.size ≤ b := fun b e => e.elim (fun e => (HI.out.ls.own.lt b e).1) (fun e => by rw [e]; exact HI.out.ls.hbs)
          have hx1 := expr_len HR.out.1
          have hx2 := mark_len q1 s
          have hx3 := expr_len HR.out.2.1
          have hx4 := next_some (isMark_kind HM2.out)
          exact ⟨l1 ++ [.mk g b], l2', q2, _, _, HR.out.2.2.1, by rw [HI.out.eq, HR.out.2.2.2, List.append_assoc]; rfl, HMA.out, HP8.out.frame HKA.out (fun b e => by have := hge b e; have := HP.out.size; omega), kept_new (HI.out.kp.trans HK8.out) HKA.out (fun b e q => by have := hge b e; omega), by have := HI.out.le; omega, by rw [List.length_append, List.length_singleton]; omega⟩
      | false =>
        rw [hm2] at HMk2
        have HNO := Lib.hid (guards_no hm2 HI.out.run)
        clear hm2
        go_wp2_with fail
        refine HMk2.out.mono ?_
        rintro e w4 ⟨rfl, hb4⟩
        have HBf := Lib.hid (HBd.out.trans (hb4.mono HBd.out.size))
        clear hb4
        go_wp2_with fail
        go_ret
        have hL := HI.out.ls.below HBf.out
        have he : l = l1 := by rw [HI.out.eq, HNO.out.1, List.append_nil]
        refine ⟨_, rfl, ?_, by rw [HNO.out.2]; exact HI.out.ps.below HBf.out, KP.here HI.out.kp HBf.out⟩
        rw [he]
        exact .guards (by have := HI.out.len; omega) ⟨hL.hbs, hL.box⟩ (hL.rowz (by decide)) fun i t ht => hL.elr ht
end Go.Proofs.YtdajihpfedbihaaGreat.Pa
/-
  CONTRACT of layer parse: a clause is read.
-/
namespace Go.Proofs.YtdajihpfedbihaaGreat.Pa
open Go.RowKit Mm Tm Pm
set_option linter.unusedVariables false
set_option linter.unusedSimpArgs false
/-- what the reader of a clause ends with -/
def ClPost (N pb : Nat) (fv : Value) (c : Cl) (p' : Pp) (w : World) (e : Ending) (w' : World) : Prop := ∃ (t : Tk) (a : Option Addr) (n k : Nat) (v : Value), e = .returned (.agg #[.int .i64 t.kind, .string (toB t.text), .int .i64 t.n, .int .i64 t.ln, .int .i64 t.col, .bool t.made, .slice a n k, v]) ∧ v.oneCell' = true ∧
  R pb (fun b => w.heap.size ≤ b) w' (.cl c) [.int .i64 t.kind, .string (toB t.text), .int .i64 t.n, .int .i64 t.ln, .int .i64 t.col, .bool t.made, .slice a n k, v] ∧ PS N w' pb p' fv ∧ KP pb w w'
theorem R.one_rh {pb : Nat} {Z : Nat → Prop} {w : World} {t : Rh} {v : Value} (h : R pb Z w (.rh t) [v]) : v.oneCell' = true := by
  have : ∃ u, [v] = [u] ∧ u.oneCell' = true := by
    generalize [v] = vs at h ⊢
    cases h <;> exact ⟨_, rfl, rfl⟩
  obtain ⟨u, h1, h2⟩ := this
  injection h1 with h1
  rw [h1]
  exact h2
theorem cells8 {w : World} {g : Nat} {t : TypeId} {a0 a1 a2 a3 a4 a5 a6 a7 : Value} (h : Box w g t #[a0, a1, a2, a3, a4, a5, a6, a7]) : w.cell? ⟨g, 0, none⟩ = some a0 ∧ w.cell? ⟨g, 1, none⟩ = some a1 ∧ w.cell? ⟨g, 2, none⟩ = some a2 ∧ w.cell? ⟨g, 3, none⟩ = some a3 ∧ w.cell? ⟨g, 4, none⟩ = some a4 ∧ w.cell? ⟨g, 5, none⟩ = some a5 ∧ w.cell? ⟨g, 6, none⟩ = some a6 ∧ w.cell? ⟨g, 7, none⟩ = some a7 :=
  ⟨h.cell 0, h.cell 1, h.cell 2, h.cell 3, h.cell 4, h.cell 5, h.cell 6, h.cell 7⟩
theorem free8 {w : World} {g : Nat} {t : TypeId} {a0 a1 a2 a3 a4 a5 a6 a7 : Value} (h : Box w g t #[a0, a1, a2, a3, a4, a5, a6, a7]) : w.frozen? ⟨g, 0, none⟩ = false ∧ w.frozen? ⟨g, 1, none⟩ = false ∧ w.frozen? ⟨g, 2, none⟩ = false ∧ w.frozen? ⟨g, 3, none⟩ = false ∧ w.frozen? ⟨g, 4, none⟩ = false ∧ w.frozen? ⟨g, 5, none⟩ = false ∧ w.frozen? ⟨g, 6, none⟩ = false ∧ w.frozen? ⟨g, 7, none⟩ = false :=
  ⟨h.free 0, h.free 1, h.free 2, h.free 3, h.free 4, h.free 5, h.free 6, h.free 7⟩
theorem write8 {w : World} {g : Nat} {t : TypeId} {a0 a1 a2 a3 a4 a5 a6 a7 : Value} (h : Box w g t #[a0, a1, a2, a3, a4, a5, a6, a7]) (v0 v1 v2 v3 v4 v5 v6 v7 : Value) : ∃ W, ((((((((w.setCell ⟨g, 0, none⟩ v0).setCell ⟨g, 1, none⟩ v1).setCell ⟨g, 2, none⟩ v2).setCell ⟨g, 3, none⟩ v3).setCell ⟨g, 4, none⟩ v4).setCell ⟨g, 5, none⟩ v5).setCell ⟨g, 6, none⟩ v6).setCell ⟨g, 7, none⟩ v7) = W ∧ Box W g t #[v0, v1, v2, v3, v4, v5, v6, v7] ∧ Wrote w W g := by
  have h0 : Box _ g t #[v0, a1, a2, a3, a4, a5, a6, a7] := h.put 0 v0
  have h1 : Box _ g t #[v0, v1, a2, a3, a4, a5, a6, a7] := h0.put 1 v1
  have h2 : Box _ g t #[v0, v1, v2, a3, a4, a5, a6, a7] := h1.put 2 v2
  have h3 : Box _ g t #[v0, v1, v2, v3, a4, a5, a6, a7] := h2.put 3 v3
  have h4 : Box _ g t #[v0, v1, v2, v3, v4, a5, a6, a7] := h3.put 4 v4
  have h5 : Box _ g t #[v0, v1, v2, v3, v4, v5, a6, a7] := h4.put 5 v5
  have h6 : Box _ g t #[v0, v1, v2, v3, v4, v5, v6, a7] := h5.put 6 v6
  have h7 : Box _ g t #[v0, v1, v2, v3, v4, v5, v6, v7] := h6.put 7 v7
  exact ⟨_, rfl, h7, ((((((((Wrote.refl w g).set 0 v0).set 1 v1).set 2 v2).set 3 v3).set 4 v4).set 5 v5).set 6 v6).set 7 v7⟩
theorem clause_parts {d : Nat} {p : Pp} {r : Cl × Pp} (hd : clause (d + 1) p = some r) : ∃ ps p1 rh p2, apats d (fname p).2 = some (ps, p1) ∧ bodies d "=" p1 = some (rh, p2) ∧ r = (.mk (fname p).1 ps rh, p2) := by
  rw [clause] at hd
  dsimp only at hd
  obtain ⟨⟨t1, p1⟩, h1, h2⟩ := Option.bind_eq_some_iff.1 hd
  dsimp only at h2
  obtain ⟨⟨t2, p2⟩, h3, h4⟩ := Option.bind_eq_some_iff.1 h2
  simp only [pure, Option.some.injEq] at h4
  exact ⟨t1, p1, t2, p2, h1, h3, h4.symm⟩
theorem fname_text {N pb : Nat} {p : Pp} {fv : Value} {w : World} (h : PS N w pb p fv) : (fname p).1.text.length ≤ 9223372036854775807 := by
  have ht : ∀ q : Pp, (∀ t ∈ q.rest, t.text.length ≤ 9223372036854775807) → q.take.1.text.length ≤ 9223372036854775807 ∧ ∀ t ∈ q.take.2.rest, t.text.length ≤ 9223372036854775807 := by
    intro q hq
    unfold Pp.take
    split
    · rename_i e
      exact ⟨by simp [noTk], fun t ht => by rw [e] at ht; simp at ht⟩
    · rename_i t r e
      exact ⟨hq t (by rw [e]; simp), fun u hu => hq u (by rw [e]; exact List.mem_cons_of_mem _ hu)⟩
  have hf : ∀ (q : Pp) (x : Int), (∀ t ∈ q.rest, t.text.length ≤ 9223372036854775807) → ∀ t ∈ (q.fail x).rest, t.text.length ≤ 9223372036854775807 := by
    intro q x hq
    unfold Pp.fail
    split
    · exact hq
    · intro t ht; simp at ht
  have h0 : ∀ t ∈ p.rest, t.text.length ≤ 9223372036854775807 := by
    obtain ⟨⟨ra, rc, h1, h2, h3⟩, _⟩ := h
    intro t ht
    obtain ⟨i, hi⟩ := List.getElem?_of_mem ht
    obtain ⟨_, _, _, _, _, _, _, _, _, _, h9⟩ := h3 i t hi
    exact h9
  unfold fname
  split
  · exact (ht p h0).1
  · have hm : ∀ t ∈ (p.mark "(").2.rest, t.text.length ≤ 9223372036854775807 := by
      unfold Pp.mark
      dsimp only
      split
      · exact (ht p h0).2
      · exact (ht _ (hf p 60 h0)).2
    show ((p.mark "(").2.kind 3).1.text.length ≤ _
    unfold Pp.kind
    split
    · exact (ht _ (hf _ 60 hm)).1
    · exact (ht _ hm).1
set_option maxRecDepth 100000 in
set_option maxHeartbeats 8000000 in
theorem clause_any {N pb d : Nat} {p : Pp} {fv : Value} {r : Cl × Pp} (w : World) (h : PS N w pb p fv) (hd : clause (d + 1) p = some r)
    (ih : ∀ p r q w, bodies d "=" p = some (r, q) → PS N w pb p fv → Calls Tryz.prog 92 #[ptr pb, .string (toB (str "="))] w (LtPost N pb fv (.rh r) q w)) :
    Calls Tryz.prog 67 #[ptr pb] w (ClPost N pb fv r.1 r.2 w) := by
  obtain ⟨ps, p1, rh, p2, h1, h2, rfl⟩ := clause_parts hd
  have HP := Lib.hid h
  have HTX := Lib.hid (fname_text h)
  have HB0 := Lib.hid ((Below.refl w.heap.size w).alloc (Nat.le_refl _) (.cells #[.int .i64 0, .string ByteArray.empty, .int .i64 0, .int .i64 0, .int .i64 0, .bool false, .slice none 0 0, Value.nilFunc] TCl))
  have HX0 := Lib.hid (Box.new w #[.int .i64 0, .string ByteArray.empty, .int .i64 0, .int .i64 0, .int .i64 0, .bool false, .slice none 0 0, Value.nilFunc] TCl)
  have HFN := Lib.hid (fname_any _ (h.below HB0.out))
  have HPW := Lib.hid (show pb < w.heap.size from Nat.lt_of_lt_of_le h.lt h.size)
  have H1 := Lib.hid h1
  have HIH := Lib.hid (ih p1 rh p2 · h2)
  clear h hd h1 h2 ih
  generalize fname p = r at HFN H1 HTX
  obtain ⟨t, q⟩ := r
  go_enter Tryz.func67, Tryz.ntmps67
  go_wp2_with fail
  refine HFN.out.mono ?_
  rintro e w1 ⟨rfl, hp1, hk1⟩
  have hb1 : Below w1.heap.size w1 (w1.alloc (oTok t)) := (Below.refl _ _).alloc (Nat.le_refl _) _
  have hs1 : w.heap.size + 1 ≤ w1.heap.size := by have := hk1.size; rwa [World.size_alloc] at this
  have HNE := Lib.hid (show w.heap.size ≠ pb by have := HPW.out; omega)
  have HX1 := Lib.hid ((hk1.box HX0.out HNE.out).alloc (oTok t))
  have HY1 := Lib.hid (Box.new w1 #[.int .i64 t.kind, .string (toB t.text), .int .i64 t.n, .int .i64 t.ln, .int .i64 t.col, .bool t.made] TTok)
  have HK1 := Lib.hid (KP.here ((Kept.of_below HB0.out (Nat.le_refl _) (fun b => b = pb)).trans hk1) hb1)
  have HAP := Lib.hid ((pats_any N pb fv d).apats q (ps, p1) _ H1.out (hp1.below hb1))
  have HS1 := Lib.hid hs1
  have HNY := Lib.hid (show w1.heap.size ≠ pb by have := HPW.out; omega)
  clear hp1 hk1 hb1 hs1
  go_wp2_with fail
  refine HAP.out.mono ?_
  rintro e w2 ⟨a2, c2, rfl, ho2, hp2, hk2, hl2⟩
  have HX2 := Lib.hid (hk2.box HX1.out HNE.out)
  have HY2 := Lib.hid (hk2.box HY1.out HNY.out)
  have HK2 := Lib.hid (HK1.out.trans hk2)
  have HO2 := Lib.hid ho2.reads
  have HL2 := Lib.hid hl2
  have HS2 := Lib.hid (show w1.heap.size + 1 ≤ w2.heap.size by have := hk2.size; rwa [World.size_alloc] at this)
  have HBD := Lib.hid (HIH.out w2.drew (hp2.below (Below.drew (Below.refl _ _))))
  rw [lit_eq] at HBD
  obtain ⟨u0, u1, u2, u3, u4, u5⟩ := cells6 HY2.out
  clear hp2 hk2 ho2 hl2
  go_wp2_with fail
  go_region_held3 (fun w' => w'.cell? ⟨w1.heap.size, 0, none⟩ = some (.int .i64 t.kind) ∧ w'.cell? ⟨w1.heap.size, 1, none⟩ = some (.string (toB t.text)) ∧ w'.cell? ⟨w1.heap.size, 2, none⟩ = some (.int .i64 t.n) ∧ w'.cell? ⟨w1.heap.size, 3, none⟩ = some (.int .i64 t.ln) ∧ w'.cell? ⟨w1.heap.size, 4, none⟩ = some (.int .i64 t.col) ∧ w'.cell? ⟨w1.heap.size, 5, none⟩ = some (.bool t.made))
    (first
      | exact ⟨u0, u1, u2, u3, u4, u5⟩
      | exact ⟨m0, m1, m2, m3, m4, m5⟩
      | (rw [hV]; exact ⟨o0, o1, o2, o3, o4, o5⟩)
      | exact ⟨o0, o1, o2, o3, o4, o5⟩)
    (first
      | (go_at_call 92; refine HBD.out.mono ?_; rintro e w3 ⟨vr, rfl, hr3, hp3, hk3⟩; have hna3 := one_not hr3.one_rh; have hst3 := st_one hr3.one_rh; have hY3 := hk3.box HY2.out.drew HNY.out; have hX3 := hk3.box HX2.out.drew HNE.out; obtain ⟨m0, m1, m2, m3, m4, m5⟩ := cells6 hY3; obtain ⟨z0, z1, z2, z3, z4, z5, z6, z7⟩ := cells8 hX3; obtain ⟨y0, y1, y2, y3, y4, y5, y6, y7⟩ := free8 hX3; obtain ⟨V, hV, hvb, hvw⟩ := write8 hX3 (.int .i64 t.kind) (.string (toB t.text)) (.int .i64 t.n) (.int .i64 t.ln) (.int .i64 t.col) (.bool t.made) (.slice a2 ps.length c2) vr; have hY4 := hY3.wrote hvw (Nat.ne_of_gt HS1.out); obtain ⟨o0, o1, o2, o3, o4, o5⟩ := cells6 hY4; have HR3 := Lib.hid hr3; have HP3 := Lib.hid hp3; have HK3 := Lib.hid hk3; have HVB := Lib.hid hvb; have HVW := Lib.hid hvw; clear hr3 hp3 hk3 hY3 hX3 hY4 hvb hvw))
  go_wp2_with fail
  obtain ⟨v0, v1, v2, v3, v4, v5, v6, v7⟩ := cells8 HVB.out
  refine bodyPost_ret (v := .agg #[.int .i64 t.kind, .string (toB t.text), .int .i64 t.n, .int .i64 t.ln, .int .i64 t.col, .bool t.made, .slice a2 ps.length c2, vr]) (by simp [results, Tryz.results67, go_sem, v0, v1, v2, v3, v4, v5, v6, v7]) rfl ?_
  have hlt := HPW.out
  have hs1 := HS1.out
  have hs2 := HS2.out
  have hk : Kept (fun b => b = pb ∨ b = w.heap.size) w2 V := kept_wrote (((Kept.refl (fun b => b = pb ∨ b = w.heap.size) w2).drew).trans (HK3.out.mono fun b _ e => .inl e)) HVW.out fun _ => .inr rfl
  have hk3 : Kept (fun b => b = w.heap.size) w3 V := kept_wrote (Kept.refl (fun b => b = w.heap.size) w3) HVW.out fun _ => rfl
  have hps : RdP (fun b => w.heap.size ≤ b ∧ b < V.heap.size) V a2 (Pts.ofL ps) 0 := HO2.out.frame (fun b o hz => World.cell?_of_block (hk.block b hz.2.lt fun e => by have := hz.1; rw [World.size_alloc] at this; omega)) (fun ad hz => World.cell?_of_block (hk.block _ hz.2.lt fun e => by have := hz.1; rw [World.size_alloc] at this; omega)) fun b hz => ⟨by have := hz.1; rw [World.size_alloc] at this; omega, Nat.lt_of_lt_of_le hz.2.lt hk.size⟩
  have hr : R pb (fun b => w.heap.size ≤ b) V (.rh rh) [vr] := (HR3.out.kept hk3 (fun b hz hx _ => by have hz : w2.heap.size ≤ b := hz; omega)).mono fun b hz _ => by have hz : w2.heap.size ≤ b := hz; omega
  exact ⟨t, a2, ps.length, c2, vr, rfl, HR3.out.one_rh, (show R pb (fun b => w.heap.size ≤ b) V (.cl (.mk t ps rh)) (tokCells t ++ [.slice a2 ps.length c2, vr]) from .cl hps HL2.out HTX.out hr), HP3.out.frame hk3 (fun b e => by have := HP.out.size; omega), kept_new ((HK2.out.drew).trans HK3.out) hk3 (fun b e q => by omega)⟩
end Go.Proofs.YtdajihpfedbihaaGreat.Pa
/-
  CONTRACT of layer parse: a block, whatever its parts are.
-/
namespace Go.Proofs.YtdajihpfedbihaaGreat.Pa
open Go.RowKit Mm Tm Pm
set_option linter.unusedVariables false
set_option linter.unusedSimpArgs false
/-- what a block's parts keep: so much fuel, whether a part may come, how many came, what is left -/
structure BlkI (N pb : Nat) (fv : Value) (beg : Tk → Bool) (pt : Nat) (cp : Array Value) (I : Nat → Bool → Nat → Pp → World → Prop) : Prop where
  ps : ∀ {d f n p w}, I d f n p w → PS N w pb p fv
  some : ∀ {d f n p w}, I d f n p w → ∃ d0, d = d0 + 1
  cnt : ∀ {d f n p w}, I d f n p w → n ≤ 100000000
  here : ∀ {d f n p w w'}, I d f n p w → Below w.heap.size w w' → I d f n p w'
  semi : ∀ {d f n p w w'}, I (d + 1) f n p w → isMark p.next ";" = true → PS N w' pb p.take.2 fv → KP pb w w' → I d true n p.take.2 w'
  part : ∀ {d n p w}, I (d + 1) true n p w → isMark p.next ";" = false → beg p.next = true → Calls Tryz.prog pt cp w fun e w' => e = .returned (.tuple #[]) ∧ ∃ p', I d false (n + 1) p' w'
def BlkPost (N pb : Nat) (fv : Value) (beg : Tk → Bool) (least : Int) (I : Nat → Bool → Nat → Pp → World → Prop) (e : Ending) (w' : World) : Prop :=
  e = .returned (.tuple #[]) ∧ ∃ d f n p' w0, I (d + 1) f n p' w0 ∧ isMark p'.next ";" = false ∧ (f && beg p'.next) = false ∧ PS N w' pb ((if (n : Int) < least then p'.fail 60 else p').mark "}").2 fv ∧ KP pb w0 w'
set_option maxRecDepth 100000 in
set_option maxHeartbeats 8000000 in
theorem block_any {N pb D : Nat} {p : Pp} {fv : Value} {beg : Tk → Bool} {bg pt : Nat} {cp : Array Value} {I : Nat → Bool → Nat → Pp → World → Prop} (least : Int) (w : World) (h : PS N w pb p fv) (hI : BlkI N pb fv beg pt cp I)
    (hbg : ∀ t w, Calls Tryz.prog bg #[tokV t] w (BoolPost (beg t) w)) (egb : ∀ args w, (callFunc bg args).run Tryz.prog w = .ok (.enter bg args) w) (egp : ∀ args w, (callFunc pt args).run Tryz.prog w = .ok (.enter pt args) w)
    (h0 : ∀ w', PS N w' pb (p.mark "{").2 fv → KP pb w w' → I D true 0 (p.mark "{").2 w') :
    Calls Tryz.prog 60 #[ptr pb, .int .i64 least, .func (.func bg) #[] #[], .func (.func pt) #[] cp] w (BlkPost N pb fv beg least I) := by
  have HI := Lib.hid hI
  have HBG := Lib.hid hbg
  have H0 := Lib.hid h0
  have HM := Lib.hid (mark_any "{" w h)
  rw [lit_lb] at HM
  clear h hI hbg h0
  go_enter Tryz.func60, Tryz.ntmps60
  go_wp2_with fail
  go_step3
  go_wp2_with fail
  refine HM.out.mono ?_
  rintro e w1 ⟨rfl, hp1, hk1⟩
  have HST := Lib.hid (H0.out w1 hp1 hk1)
  clear hp1 hk1
  go_wp2_with fail
  go_step3
  go_wp2_with fail
  go_loopg [8, 9] D (fun d v8 v9 wr => ∃ (f : Bool) (n : Nat) (pk : Pp), v8 = .int .i64 n ∧ v9 = .bool f ∧ I d f n pk wr)
  case atStart => exact ⟨true, 0, _, rfl, rfl, HST.out⟩
  case round =>
    obtain ⟨f, n, pk, rfl, rfl, hi⟩ := hrel
    obtain ⟨d0, rfl⟩ := HI.out.some hi
    have HN := Lib.hid (next_any wr (HI.out.ps hi))
    have HJ := Lib.hid hi
    have hcn := HI.out.cnt hi
    clear hi
    go_wp2_with fail
    refine HN.out.mono ?_
    rintro e w2 ⟨rfl, hb2⟩
    have HBc := Lib.hid (hb2.alloc hb2.size (oTok pk.next))
    have HMk := Lib.hid (mark_at pk.next ";" (w2.alloc (oTok pk.next)))
    unfold oStr at HMk
    rw [lit_semi, World.size_alloc] at HMk
    have HBd := Lib.hid (HBc.out.alloc (HBc.out.size) (.cells #[.string ⟨#[59]⟩] TStr))
    have hY := Box.new w2 #[.int .i64 pk.next.kind, .string (toB pk.next.text), .int .i64 pk.next.n, .int .i64 pk.next.ln, .int .i64 pk.next.col, .bool pk.next.made] TTok
    have HY := Lib.hid hY
    clear hb2
    cases hm : isMark pk.next ";" with
    | true =>
      rw [hm] at HMk
      have HM1 := Lib.hid hm
      clear hm hY
      go_wp2_with fail
      refine HMk.out.mono ?_
      rintro e w3 ⟨rfl, hb3⟩
      have HBe := Lib.hid (HBd.out.trans (hb3.mono HBd.out.size))
      have HT := Lib.hid (take_any w3 (HI.out.ps (HI.out.here HJ.out HBe.out)))
      clear hb3
      go_wp2_with fail
      refine HT.out.mono ?_
      rintro e w4 ⟨rfl, hp4, hk4⟩
      have HN4 := Lib.hid (HI.out.semi (HI.out.here HJ.out HBe.out) HM1.out hp4 hk4)
      clear hp4 hk4
      go_wp2_with fail
      go_roundg d0
      case measure => omega
      case rel => exact ⟨true, n, _, rfl, rfl, HN4.out⟩
    | false =>
      rw [hm] at HMk
      have HM1 := Lib.hid hm
      clear hm hY
      go_wp2_with fail
      refine HMk.out.mono ?_
      rintro e w3 ⟨rfl, hb3⟩
      have HBe := Lib.hid (HBd.out.trans (hb3.mono HBd.out.size))
      have hY3 := (HY.out.alloc (.cells #[.string ⟨#[59]⟩] TStr)).below hb3 (by simp; omega)
      obtain ⟨u0, u1, u2, u3, u4, u5⟩ := cells6 hY3
      have HB3 := Lib.hid (HBG.out pk.next w3)
      clear hb3 hY3
      cases f with
      | true =>
        cases hb : beg pk.next with
        | true =>
          rw [hb] at HB3
          have HBB := Lib.hid hb
          clear hb
          go_wp2_with fail
          refine HB3.out.mono ?_
          rintro e w4 ⟨rfl, hb4⟩
          have HBf := Lib.hid (HBe.out.trans (hb4.mono HBe.out.size))
          have HPT := Lib.hid (HI.out.part (HI.out.here HJ.out HBf.out) HM1.out HBB.out)
          clear hb4
          go_wp2_with fail
          refine HPT.out.mono ?_
          rintro e w5 ⟨rfl, p5, hi5⟩
          have HI5 := Lib.hid hi5
          clear hi5
          go_wp2_with fail
          go_roundg d0
          case measure => omega
          case rel => exact ⟨false, n + 1, p5, by go_num, rfl, HI5.out⟩
        | false =>
          rw [hb] at HB3
          have HBB := Lib.hid (show (true && beg pk.next) = false by rw [hb]; rfl)
          clear hb
          go_wp2_with fail
          refine HB3.out.mono ?_
          rintro e w4 ⟨rfl, hb4⟩
          have HBf := Lib.hid (HBe.out.trans (hb4.mono HBe.out.size))
          have HJ4 := Lib.hid (HI.out.here HJ.out HBf.out)
          clear hb4
          by_cases hn : (n : Int) < least
          · have q9 : decide ((n : Int) < least) = true := decide_eq_true hn
            have HF := Lib.hid (fail_any 60 w4 (HI.out.ps HJ4.out))
            have HEQ := Lib.hid (show (if (n : Int) < least then pk.fail 60 else pk) = pk.fail 60 from if_pos hn)
            go_wp2_with fail
            refine HF.out.mono ?_
            rintro e w6 ⟨rfl, hp6, hk6⟩
            have HMR := Lib.hid (mark_any "}" w6 hp6)
            rw [lit_rb] at HMR
            have HK6 := Lib.hid hk6
            clear hp6 hk6
            go_wp2_with fail
            refine HMR.out.mono ?_
            rintro e w7 ⟨rfl, hp7, hk7⟩
            have HP7 := Lib.hid hp7
            have HK7 := Lib.hid (HK6.out.trans hk7)
            clear hp7 hk7
            go_wp2_with fail
            rw [Exit.noGoto_normal]
            go_wp2_with fail
            refine bodyPost_end (by simp [results, Tryz.results60, go_sem]; rfl) rfl ?_
            exact ⟨rfl, d0, true, n, pk, w4, HJ4.out, HM1.out, HBB.out, by rw [HEQ.out]; exact HP7.out, HK7.out⟩
          · have q9 : decide ((n : Int) < least) = false := decide_eq_false hn
            have HEQ := Lib.hid (show (if (n : Int) < least then pk.fail 60 else pk) = pk from if_neg hn)
            have HMR := Lib.hid (mark_any "}" w4 (HI.out.ps HJ4.out))
            rw [lit_rb] at HMR
            go_wp2_with fail
            refine HMR.out.mono ?_
            rintro e w7 ⟨rfl, hp7, hk7⟩
            have HP7 := Lib.hid hp7
            have HK7 := Lib.hid hk7
            clear hp7 hk7
            go_wp2_with fail
            rw [Exit.noGoto_normal]
            go_wp2_with fail
            refine bodyPost_end (by simp [results, Tryz.results60, go_sem]; rfl) rfl ?_
            exact ⟨rfl, d0, true, n, pk, w4, HJ4.out, HM1.out, HBB.out, by rw [HEQ.out]; exact HP7.out, HK7.out⟩
      | false =>
        have HBB := Lib.hid (show (false && beg pk.next) = false from rfl)
        have HJ4 := Lib.hid (HI.out.here HJ.out HBe.out)
        by_cases hn : (n : Int) < least
        · have q9 : decide ((n : Int) < least) = true := decide_eq_true hn
          have HF := Lib.hid (fail_any 60 w3 (HI.out.ps HJ4.out))
          have HEQ := Lib.hid (show (if (n : Int) < least then pk.fail 60 else pk) = pk.fail 60 from if_pos hn)
          go_wp2_with fail
          refine HF.out.mono ?_
          rintro e w6 ⟨rfl, hp6, hk6⟩
          have HMR := Lib.hid (mark_any "}" w6 hp6)
          rw [lit_rb] at HMR
          have HK6 := Lib.hid hk6
          clear hp6 hk6
          go_wp2_with fail
          refine HMR.out.mono ?_
          rintro e w7 ⟨rfl, hp7, hk7⟩
          have HP7 := Lib.hid hp7
          have HK7 := Lib.hid (HK6.out.trans hk7)
          clear hp7 hk7
          go_wp2_with fail
          rw [Exit.noGoto_normal]
          go_wp2_with fail
          refine bodyPost_end (by simp [results, Tryz.results60, go_sem]; rfl) rfl ?_
          exact ⟨rfl, d0, false, n, pk, w3, HJ4.out, HM1.out, HBB.out, by rw [HEQ.out]; exact HP7.out, HK7.out⟩
        · have q9 : decide ((n : Int) < least) = false := decide_eq_false hn
          have HEQ := Lib.hid (show (if (n : Int) < least then pk.fail 60 else pk) = pk from if_neg hn)
          have HMR := Lib.hid (mark_any "}" w3 (HI.out.ps HJ4.out))
          rw [lit_rb] at HMR
          go_wp2_with fail
          refine HMR.out.mono ?_
          rintro e w7 ⟨rfl, hp7, hk7⟩
          have HP7 := Lib.hid hp7
          have HK7 := Lib.hid hk7
          clear hp7 hk7
          go_wp2_with fail
          rw [Exit.noGoto_normal]
          go_wp2_with fail
          refine bodyPost_end (by simp [results, Tryz.results60, go_sem]; rfl) rfl ?_
          exact ⟨rfl, d0, false, n, pk, w3, HJ4.out, HM1.out, HBB.out, by rw [HEQ.out]; exact HP7.out, HK7.out⟩
end Go.Proofs.YtdajihpfedbihaaGreat.Pa
/-
  CONTRACT of layer parse: a let is read.
-/
namespace Go.Proofs.YtdajihpfedbihaaGreat.Pa
open Go.RowKit Mm Tm Pm
set_option linter.unusedVariables false
set_option linter.unusedSimpArgs false
abbrev TCls : TypeId := 131
theorem Tclause : (Tryz.prog.info? 140).map (fun i => (i.zero, i.size, i.bytes)) = some (some (.agg #[.int .i64 0, .string ByteArray.empty, .int .i64 0, .int .i64 0, .int .i64 0, .bool false, .slice none 0 0, Value.nilFunc]), 8, 88) := by kernel_rfl
theorem kept_own {α : Type} {f : α → Item} {TB TE : TypeId} {k pb B bs : Nat} {sv : Value} {l : List α} {vs : List Value} {w : World} (h : Ls f TB TE k pb B w bs sv l vs) : ∀ b, (sv.ownBlock = some b ∨ b = bs) → B ≤ b := fun b e => e.elim (fun e => (h.own.lt b e).1) (fun e => by rw [e]; exact h.hbs)
def Let1Post (N pb : Nat) (fv : Value) (B bs : Nat) (sv : Value) (l : List Cl) (p1 : Pp) (wr : World) (e : Ending) (w' : World) : Prop := e = .returned (.tuple #[]) ∧ ∃ sv' vs', Ls Item.cl TCls TCl 8 pb B w' bs sv' l vs' ∧ PS N w' pb p1 fv ∧ Kept (fun b => b = pb ∨ sv.ownBlock = some b ∨ b = bs) wr w'
set_option maxRecDepth 100000 in
set_option maxHeartbeats 8000000 in
theorem let1_any {N pb d B bs bp : Nat} {pk p1 : Pp} {fv sv : Value} {l1 : List Cl} {vs : List Value} {c : Cl} (wr : World) (hL : Ls Item.cl TCls TCl 8 pb B wr bs sv l1 vs) (hbp : Box wr bp TPP #[ptr pb]) (h : PS N wr pb pk fv) (hc : clause d pk = some (c, p1)) (hpB : pb < B) (hbB : bp < B) (hN : N ≤ B) (hlen : l1.length ≤ 100000000)
    (ih : ∀ p r w, clause d p = some r → PS N w pb p fv → Calls Tryz.prog 67 #[ptr pb] w (ClPost N pb fv r.1 r.2 w)) :
    Calls Tryz.prog 143 #[ptr bs, ptr bp] wr (Let1Post N pb fv B bs sv (l1 ++ [c]) p1 wr) := by
  obtain ⟨i0, hi0, hi1, hi2, hi3⟩ := info_parts Tclause
  obtain ⟨a5, c5, rfl⟩ := hL.slice
  have HLb := Lib.hid (hL.below (Below.drew (Below.refl _ wr)))
  have HX0 := Lib.hid (show Box wr.drew bp TPP #[ptr pb] from hbp.drew)
  have HA := Lib.hid (ih pk (c, p1) wr.drew hc (h.below (Below.drew (Below.refl _ _))))
  have HL0 := Lib.hid hL
  have HP := Lib.hid h
  have u0 := hL.box.cell 0
  have u1 := hL.box.lt
  have x0 := hbp.cell 0
  have x1 := hbp.lt
  have HPB := Lib.hid hpB
  have HBB := Lib.hid hbB
  have HNB := Lib.hid hN
  have hle := hL.hbs
  clear hL hbp h hc ih hpB hbB hN
  go_enter Tryz.func143, Tryz.ntmps143
  go_region_law (first
    | (go_simp; go_at_call 67; refine HA.out.mono ?_; rintro e w5 ⟨t, a5', n5, k5, v5, rfl, hv5, hr5, hp5, hk5⟩; have HL5 := Lib.hid (HLb.out.kp hk5 HPB.out); have HX5 := Lib.hid (hk5.box HX0.out (by have := HPB.out; have := HBB.out; intro e; exact absurd (Box.same (show Box wr.drew pb TPP #[ptr pb] from e ▸ HX0.out) (Classical.choice ⟨HP.out.ex.choose_spec.choose_spec.1⟩)) (by decide))); have HR5 := Lib.hid hr5; have HV5 := Lib.hid hv5; have HP5 := Lib.hid hp5; have HK5 := Lib.hid hk5; have HS5 := Lib.hid (show wr.heap.size ≤ w5.heap.size from hk5.size); have m0 := HL5.out.box.cell 0; have y8 := HL5.out.box.lt; have y9 := (HL5.out.box.alloc (.cells #[.int .i64 t.kind, .string (toB t.text), .int .i64 t.n, .int .i64 t.ln, .int .i64 t.col, .bool t.made, .slice a5' n5 k5, v5] TCl)).cell 0; have y7 := HX5.out.cell 0; have y6 := HX5.out.lt; clear hr5 hp5 hk5 hv5)
    | (refine step_append_lies _ ?_ (.tmp 2) (.tmp 5) TCls ?_ B TCl i0 _ 8 88 Tryz.underlying131 hi0 hi1 hi2 hi3 rfl (by decide) (.slice a5 l1.length c5) l1.length vs ?_ (HL5.out.own.alloc _) ⟨w5.heap.size, 0, none⟩ 1 1 [.int .i64 t.kind, .string (toB t.text), .int .i64 t.n, .int .i64 t.ln, .int .i64 t.col, .bool t.made, .slice a5' n5 k5, v5] ?_ rfl ?_ ?_ (by decide) ?_ ?_ ?_ _ rfl ?_; exact rfl; exact rfl; exact rfl; exact rfl; exact news_new w5 #[.int .i64 t.kind, .string (toB t.text), .int .i64 t.n, .int .i64 t.ln, .int .i64 t.col, .bool t.made, .slice a5' n5 k5, v5] TCl; (intro u hu; simp only [List.mem_cons, List.not_mem_nil, or_false] at hu; rcases hu with rfl | rfl | rfl | rfl | rfl | rfl | rfl | rfl <;> first | rfl | exact HV5.out); (unfold maxLen; omega); omega; (have := HS5.out; simp; omega); intro g7 c7 w7 hown hgrow hat hlt7; have HM := Lib.hid (HL5.out.more (t := c) (v7 := .slice (some ⟨g7, 0, none⟩) (l1.length + 1) c7) (S := wr.heap.size) rfl HR5.out HL0.out.box.lt (fun g e => (HL0.out.own.lt g e).2) (Nat.le_trans HL0.out.hbs (Nat.le_of_lt HL0.out.box.lt)) (by decide) hown hgrow (hat.imp (fun e => by rw [own_some]; exact e.symm) (fun e => by rw [own_some, e]))); have hb7 := (HL5.out.box.alloc (.cells #[.int .i64 t.kind, .string (toB t.text), .int .i64 t.n, .int .i64 t.ln, .int .i64 t.col, .bool t.made, .slice a5' n5 k5, v5] TCl)).grown hgrow (fun e => HL5.out.nob e.symm); have p0 := hb7.cell 0; have p1' := hb7.free 0; have HK7 := Lib.hid ((((Kept.refl (fun b => (Value.slice a5 l1.length c5).ownBlock = some b ∨ b = bs) w5).alloc (.cells #[.int .i64 t.kind, .string (toB t.text), .int .i64 t.n, .int .i64 t.ln, .int .i64 t.col, .bool t.made, .slice a5' n5 k5, v5] TCl)).grown hgrow (fun k hk _ => .inl hk)).setCell (a := ⟨bs, 0, none⟩) (fun _ => .inr rfl) (.slice (some ⟨g7, 0, none⟩) (l1.length + 1) c7)); clear hb7 hown hgrow hat))
  all_goals
    refine bodyPost_end (by simp [results, Tryz.results143, go_sem]; rfl) rfl ?_
    have hge := kept_own HL5.out
    exact ⟨rfl, _, _, HM.out, HP5.out.frame HK7.out (fun b e => by have := hge b e; have := HNB.out; omega), (((Kept.refl (fun b => b = pb ∨ (Value.slice a5 l1.length c5).ownBlock = some b ∨ b = bs) wr).drew).trans (HK5.out.mono fun b _ e => .inl e)).trans (HK7.out.mono fun b _ e => .inr e)⟩
end Go.Proofs.YtdajihpfedbihaaGreat.Pa
/-
  CONTRACT of layer parse: a let is read, whole.
-/
namespace Go.Proofs.YtdajihpfedbihaaGreat.Pa
open Go.RowKit Mm Tm Pm
set_option linter.unusedVariables false
set_option linter.unusedSimpArgs false
theorem clauses_semi {d : Nat} {f : Bool} {p : Pp} (h : isMark p.next ";" = true) : clauses (d + 1) f p = clauses d true p.take.2 := by rw [clauses, if_pos h]
theorem clauses_part {d : Nat} {p : Pp} (h : isMark p.next ";" = false) (hb : beginsClause p.next = true) {n : Nat} {l : List Cl} {q : Pp} (hd : clauses (d + 1) true p = some (n, l, q)) : ∃ c p1 n2 l2, clause d p = some (c, p1) ∧ clauses d false p1 = some (n2, l2, q) ∧ n = n2 + 1 ∧ l = c :: l2 := by
  rw [clauses, if_neg (by rw [h]; simp), if_pos (by rw [hb]; rfl)] at hd
  obtain ⟨⟨t1, p1⟩, h1, h2⟩ := Option.bind_eq_some_iff.1 hd
  dsimp only at h2
  obtain ⟨⟨n2, l2, p2⟩, h3, h4⟩ := Option.bind_eq_some_iff.1 h2
  simp only [pure, Option.some.injEq, Prod.mk.injEq] at h4
  exact ⟨t1, p1, n2, l2, h1, by rw [h3, h4.2.2], h4.1.symm, h4.2.1.symm⟩
theorem clauses_end {d : Nat} {f : Bool} {p : Pp} (h : isMark p.next ";" = false) (hb : (f && beginsClause p.next) = false) {n : Nat} {l : List Cl} {q : Pp} (hd : clauses (d + 1) f p = some (n, l, q)) : n = 0 ∧ l = [] ∧ q = p := by
  rw [clauses, if_neg (by rw [h]; simp), if_neg (by rw [hb]; simp)] at hd
  simp only [pure, Option.some.injEq, Prod.mk.injEq] at hd
  exact ⟨hd.1.symm, hd.2.1.symm, hd.2.2.symm⟩
structure LetI (N pb : Nat) (fv : Value) (L : List Cl) (q : Pp) (total : Nat) (w : World) (B bs bp ba D : Nat) (ln col : Int) (d : Nat) (f : Bool) (n : Nat) (p : Pp) (wr : World) : Prop where
  ex : ∃ l1 l2 n2 sv vs, clauses d f p = some (n2, l2, q) ∧ L = l1 ++ l2 ∧ n + n2 = total ∧ l1.length = n ∧ Ls Item.cl TCls TCl 8 pb B wr bs sv l1 vs
  bx : Box wr bp TPP #[ptr pb]
  at_ : Box wr ba TPos #[.int .i64 ln, .int .i64 col]
  ps : PS N wr pb p fv
  kp : KP pb w wr
  len : n + p.rest.length ≤ 100000000
  le : d ≤ D
theorem LetI.blk {N pb : Nat} {fv : Value} {L : List Cl} {q : Pp} {total : Nat} {w : World} {B bs bp ba D : Nat} {ln col : Int} (hpB : pb < w.heap.size) (hwB : w.heap.size ≤ B) (hbB : bp < B) (haB : ba < B) (hN : N ≤ w.heap.size) (hbw : w.heap.size ≤ bp) (haw : w.heap.size ≤ ba)
    (ih : ∀ d', d' < D → ∀ p r w, clause d' p = some r → PS N w pb p fv → Calls Tryz.prog 67 #[ptr pb] w (ClPost N pb fv r.1 r.2 w)) :
    BlkI N pb fv beginsClause 143 #[ptr bs, ptr bp] (LetI N pb fv L q total w B bs bp ba D ln col) where
  ps := fun h => h.ps
  some := fun {d f n p w} h => by
    obtain ⟨l1, l2, n2, sv, vs, h1, _⟩ := h.ex
    cases d with
    | zero => simp [clauses] at h1
    | succ d => exact ⟨d, rfl⟩
  cnt := fun h => by have := h.len; omega
  here := fun h hb => by
    obtain ⟨l1, l2, n2, sv, vs, h1, h2, h3, h3', h4⟩ := h.ex
    exact ⟨⟨l1, l2, n2, sv, vs, h1, h2, h3, h3', h4.below hb⟩, h.bx.below hb h.bx.lt, h.at_.below hb h.at_.lt, h.ps.below hb, KP.here h.kp hb, h.len, h.le⟩
  semi := fun {d f n p w1 w'} h hm hp hk => by
    obtain ⟨l1, l2, n2, sv, vs, h1, h2, h3, h3', h4⟩ := h.ex
    rw [clauses_semi hm] at h1
    exact ⟨⟨l1, l2, n2, sv, vs, h1, h2, h3, h3', h4.kp hk (by omega)⟩, hk.box h.bx (by omega), hk.box h.at_ (by omega), hp, h.kp.trans hk, by have := take_len p; have := h.len; omega, by have := h.le; omega⟩
  part := fun {d n p wr} h hm hb => by
    obtain ⟨l1, l2, n2, sv, vs, h1, h2, h3, h3', h4⟩ := h.ex
    obtain ⟨c, p1, n2', l2', k1, k2, k3, k4⟩ := clauses_part hm hb h1
    have hge := kept_own h4
    refine (let1_any (d := d) wr h4 h.bx h.ps k1 (by omega) (by omega) (by omega) (by have := h.len; omega) (ih d (by have := h.le; omega))).mono ?_
    rintro e w' ⟨rfl, sv', vs', hl, hp, hk⟩
    refine ⟨rfl, p1, ⟨⟨l1 ++ [c], l2', n2', sv', vs', k2, by rw [h2, k4, List.append_assoc]; rfl, by omega, by rw [List.length_append, List.length_singleton, h3'], hl⟩, hk.box h.bx (fun e => e.elim (fun e => by omega) fun e => by have := hge _ e; omega), hk.box h.at_ (fun e => e.elim (fun e => by omega) fun e => by have := hge _ e; omega), hp, kept_new h.kp hk (fun b e q => e.elim id fun e => by have := hge b e; omega), ?_, by have := h.le; omega⟩⟩
    have := clause_less hb k1
    have := h.len
    omega
set_option maxRecDepth 100000 in
set_option maxHeartbeats 8000000 in
theorem let_any {N pb d : Nat} {p p1 p2 : Pp} {fv : Value} {n : Nat} {l : List Cl} {b : Lt} (w : World) (h : PS N w pb p fv) (h1 : clauses d true (p.take.2.mark "{").2 = some (n, l, p1)) (h2 : expr d (((if n < 1 then p1.fail 60 else p1).mark "}").2.word "in") = some (b, p2))
    (ih1 : ∀ d', d' < d → ∀ p r w, clause d' p = some r → PS N w pb p fv → Calls Tryz.prog 67 #[ptr pb] w (ClPost N pb fv r.1 r.2 w))
    (ih2 : ∀ p r w, expr d p = some r → PS N w pb p fv → Calls Tryz.prog 77 #[ptr pb] w (LtPost N pb fv (.lt r.1) r.2 w)) :
    Calls Tryz.prog 127 #[ptr pb] w (LtPost N pb fv (.lt (.let_ l b p.next.ln p.next.col)) p2 w) := by
  have HP := Lib.hid h
  have HB0 := Lib.hid ((Below.refl w.heap.size w).alloc (Nat.le_refl _) (.cells #[ptr pb] TPP))
  have HX0 := Lib.hid (Box.new w #[ptr pb] TPP)
  have HT := Lib.hid (take_any _ (h.below HB0.out))
  have HF := Lib.hid (take_fst p)
  have H1 := Lib.hid h1
  have H2 := Lib.hid h2
  have HI1 := Lib.hid ih1
  have HI2 := Lib.hid ih2
  have HPW := Lib.hid (show pb < w.heap.size from Nat.lt_of_lt_of_le h.lt h.size)
  clear h h1 h2 ih1 ih2
  go_enter Tryz.func127, Tryz.ntmps127
  go_wp2_with fail
  refine HT.out.mono ?_
  rintro e w1 ⟨rfl, hp1, hk1⟩
  rw [HF.out]
  have hf := tok_at p.next
  have hpw := HPW.out
  have hs1 : w.heap.size + 1 ≤ w1.heap.size := by have := hk1.size; rwa [World.size_alloc] at this
  have hb1 : Below w1.heap.size w1 (w1.alloc (oPos p.next.ln p.next.col)) := (Below.refl _ _).alloc (Nat.le_refl _) _
  have hx1 := (hk1.box HX0.out (by omega)).below hb1 (by omega)
  have ha1 : Box (w1.alloc (oPos p.next.ln p.next.col)) w1.heap.size TPos #[.int .i64 p.next.ln, .int .i64 p.next.col] := Box.new w1 _ _
  have HP1 := Lib.hid (hp1.below hb1)
  have HK1 := Lib.hid (KP.here ((Kept.of_below HB0.out (Nat.le_refl _) (fun b => b = pb)).trans hk1) hb1)
  obtain ⟨W1, hW1⟩ : ∃ W1, w1.alloc (oPos p.next.ln p.next.col) = W1 := ⟨_, rfl⟩
  rw [hW1] at HP1 HK1 hx1 ha1 hb1
  have hz1 : W1.heap.size = w1.heap.size + 1 := by rw [← hW1]; simp
  have hb2 : Below W1.heap.size W1 (W1.alloc (.cells #[.slice none 0 0] TCls)) := (Below.refl _ _).alloc (Nat.le_refl _) _
  have HX2 := Lib.hid (hx1.below hb2 hx1.lt)
  have HA2 := Lib.hid (ha1.below hb2 ha1.lt)
  have HP2 := Lib.hid (HP1.out.below hb2)
  have HK2 := Lib.hid (KP.here HK1.out hb2)
  have HL2 := Lib.hid (Ls.empty (B := W1.heap.size) (f := Item.cl) (TB := TCls) (TE := TCl) (k := 8) (pb := pb) W1 (Nat.le_refl _))
  have HBI := Lib.hid (LetI.blk (N := N) (pb := pb) (fv := fv) (L := l) (q := p1) (total := n) (w := w) (B := W1.heap.size) (bs := W1.heap.size) (bp := w.heap.size) (ba := w1.heap.size) (D := d) (ln := p.next.ln) (col := p.next.col) hpw (by omega) (by omega) (by omega) HP.out.size (Nat.le_refl _) (by omega) HI1.out)
  have HBK := Lib.hid (block_any (D := d) 1 _ HP2.out HBI.out beginsClause_any (enters_of Tryz.func85 (by kernel_rfl) rfl) (enters_of Tryz.func143 (by kernel_rfl) rfl) (fun w' hp hk => ⟨⟨[], l, n, _, _, H1.out, rfl, by omega, rfl, HL2.out.kp hk (by omega)⟩, hk.box HX2.out (by omega), hk.box HA2.out (by omega), hp, HK2.out.trans hk, by have := hp.len; omega, Nat.le_refl _⟩))
  have X2 := HX2.out.cell 0
  have x1 := hx1.cell 0
  have x2 := hx1.lt
  have HZ1 := Lib.hid hz1
  have HS1 := Lib.hid hs1
  rw [hz1] at HBK
  clear hp1 hk1 hb1 hx1 ha1 hb2
  go_wp2_with fail
  refine HBK.out.mono ?_
  rintro e w2 ⟨rfl, d2, f2, n2, pk, w0, hI, hns, hnb, hp2, hk2⟩
  obtain ⟨l1, l2, n3, sv, vs, q1, q2, q3, q3', q4⟩ := hI.ex
  have HLN := Lib.hid (show l1.length ≤ 100000000 by have := hI.len; omega)
  obtain ⟨rfl, rfl, rfl⟩ := clauses_end hns hnb q1
  rw [List.append_nil] at q2
  subst q2
  have hw := hz1
  have hx3 := hk2.box hI.bx (by omega)
  have HX3 := Lib.hid hx3
  have HA3 := Lib.hid (hk2.box hI.at_ (by omega))
  have HL3 := Lib.hid (q4.kp hk2 (by omega))
  have HK3 := Lib.hid (hI.kp.trans hk2)
  have HPE := Lib.hid (show (if (n2 : Int) < 1 then p1.fail 60 else p1) = (if n < 1 then p1.fail 60 else p1) by
    by_cases hn : n < 1
    · rw [if_pos hn, if_pos (by omega)]
    · rw [if_neg hn, if_neg (by omega)])
  rw [HPE.out] at hp2
  have HW3 := Lib.hid (word_any "in" _ hp2)
  rw [lit_in] at HW3
  have y0 := hx3.cell 0
  clear hI q1 q3 q3' q4 hp2 hk2 hns hnb hx3 hw
  go_wp2_with fail
  refine HW3.out.mono ?_
  rintro e w3 ⟨rfl, hp3, hk3⟩
  have hx4 := hk3.box HX3.out (by omega)
  have y0 := hx4.cell 0
  have HX4 := Lib.hid hx4
  have HA4 := Lib.hid (hk3.box HA3.out (by omega))
  have HL4 := Lib.hid (HL3.out.kp hk3 (by omega))
  have HK4 := Lib.hid (HK3.out.trans hk3)
  have HXE := Lib.hid (HI2.out _ (b, p2) w3 H2.out hp3)
  clear hp3 hk3 hx4
  go_wp2_with fail
  refine HXE.out.mono ?_
  rintro e w4 ⟨v4, rfl, hr4, hp4, hk4⟩
  have hna4 := one_not hr4.one1
  have hst4 := st_one hr4.one1
  have hb5 : Below w4.heap.size w4 (w4.alloc (.cells #[v4] TFE)) := (Below.refl _ _).alloc (Nat.le_refl _) _
  have HR5 := Lib.hid ((hr4.kept (Kept.of_below hb5 (Nat.le_refl _) (fun _ => False)) (fun b hz hx _ => hx)).mono (Z' := fun b => w.heap.size ≤ b) fun b hz _ => Nat.le_trans HK4.out.size hz)
  have HA5 := Lib.hid ((hk4.box HA4.out (by omega)).below hb5 (Nat.lt_of_lt_of_le HA4.out.lt hk4.size))
  have HL5 := Lib.hid ((HL4.out.kp hk4 (by omega)).below hb5)
  have HK5 := Lib.hid (KP.here (HK4.out.trans hk4) hb5)
  have HP5 := Lib.hid (hp4.below hb5)
  have HX5 := Lib.hid (Box.new w4 #[v4] TFE)
  have HS5 := Lib.hid (Nat.le_trans HK4.out.size hk4.size)
  clear hr4 hp4 hk4 hb5
  go_wp2_with fail
  go_ret
  have hz : ∀ b, w1.heap.size + 1 ≤ b → w.heap.size ≤ b := fun b hb => by have := HS1.out; omega
  have hbs := HL5.out.hbs
  have hbx := HL5.out.box
  exact ⟨_, rfl, .let_ HLN.out ⟨by have := HS1.out; omega, hbx⟩ ⟨HS5.out, HX5.out⟩ ⟨by have := HS1.out; omega, HA5.out⟩ ((HL5.out.rowz (by decide)).frame (Nat.le_refl _) (fun _ _ _ => rfl) fun b hb _ => hz b hb) (fun i t ht => (HL5.out.elr ht).mono fun b hb _ => hz b hb) HR5.out, HP5.out, HK5.out⟩
end Go.Proofs.YtdajihpfedbihaaGreat.Pa
