/-
  CONTRACTS of layer unify: the look for open variables, as a value; a side as the type that it is looked at as.
-/
import Derived.Test.YtcaioffdcbjbjaaGA
import Derived.Test.YtcaioffdcbjbjaaGD
import Derived.Test.YtcaioffdcbjbjaaGUnR
import Derived.Test.YtcaioffdcbjbjaaGUnW

namespace Go.Proofs.Ytcaioffdcbjbjaa.Un
open Go.RowKit Go.Shelf Mm Tm Mk Go.Maps Go.ChangeMaps Go.MapKept Go.WideMaps Rg
set_option linter.unusedVariables false
set_option linter.unusedSimpArgs false
abbrev TE : TypeId := 32
abbrev lookV (bt bs bd : Nat) : Value := .func (.func 39) #[] #[.pointer (some ⟨bt, 0, none⟩), .pointer (some ⟨bs, 0, none⟩), .pointer (some ⟨bd, 0, none⟩)]
def OpenPost (s : Nat) (x : Ty) (a : Option Addr) (c : Nat) (deep : Bool) (w : World) (e : Ending) (w' : World) : Prop :=
  ∃ bt bs bd : Nat, e = .returned (lookV bt bs bd) ∧ Box w' bt TT #[.int .i64 x.kd, .int .i64 x.n, .string x.nm, .slice a x.args.len c] ∧ Box w' bs TPSt #[.pointer (some ⟨s, 0, none⟩)] ∧ Box w' bd TB #[.bool deep] ∧ Below w.heap.size w w'
theorem open_any (s : Nat) (x : Ty) (a : Option Addr) (c : Nat) (deep : Bool) (w : World) :
    Calls Try.prog 36 #[.pointer (some ⟨s, 0, none⟩), .agg #[.int .i64 x.kd, .int .i64 x.n, .string x.nm, .slice a x.args.len c], .bool deep] w (OpenPost s x a c deep w) := by
  have HB := Lib.hid ((((Below.refl w.heap.size w).alloc (Nat.le_refl _) (.cells #[.pointer (some ⟨s, 0, none⟩)] TPSt)).alloc (by simp) (.cells #[.int .i64 x.kd, .int .i64 x.n, .string x.nm, .slice a x.args.len c] TT)).alloc (by simp; omega) (.cells #[.bool deep] TB))
  have HX0 := Lib.hid (((Box.new w #[.pointer (some ⟨s, 0, none⟩)] TPSt).alloc (.cells #[.int .i64 x.kd, .int .i64 x.n, .string x.nm, .slice a x.args.len c] TT)).alloc (.cells #[.bool deep] TB))
  have HX1 := Lib.hid ((Box.at_ (w := w.alloc (.cells #[.pointer (some ⟨s, 0, none⟩)] TPSt)) (k := w.heap.size + 1) #[.int .i64 x.kd, .int .i64 x.n, .string x.nm, .slice a x.args.len c] TT (by simp)).alloc (.cells #[.bool deep] TB))
  have HX2 := Lib.hid (Box.at_ (w := (w.alloc (.cells #[.pointer (some ⟨s, 0, none⟩)] TPSt)).alloc (.cells #[.int .i64 x.kd, .int .i64 x.n, .string x.nm, .slice a x.args.len c] TT)) (k := w.heap.size + 2) #[.bool deep] TB (by simp))
  go_enter Try.func36, Try.ntmps36
  go_wp2
  go_ret
  exact ⟨w.heap.size + 1, w.heap.size, w.heap.size + 2, rfl, HX1.out, HX0.out, HX2.out, HB.out⟩
/-- a side as the type that it is looked at as: where its parts lie -/
def AsTy (Z : Nat → Prop) (w : World) (sd : Side) (y : Ty) (a : Option Addr) (c : Nat) : Prop := asTyV sd = tyV y a c ∧ RdT Z w a y.args 0 ∧ y.args.len * 56 ≤ 140737488355328 ∧ y.nm.size ≤ 9223372036854775807
theorem side_as {Z : Nat → Prop} {w : World} {x : Ty} {a : Option Addr} {c : Nat} {sdp : Sd} {sd : Side} (h : SideR Z w x a c sdp sd) (hr : RdT Z w a x.args 0) (hl : x.args.len * 56 ≤ 140737488355328) (hn : x.nm.size ≤ 9223372036854775807) : ∃ a' c', AsTy Z w sd sdp.asTy a' c' := by
  cases sdp with
  | typ y =>
    obtain ⟨rfl, rfl, _, _⟩ := h
    exact ⟨a, c, rfl, hr, hl, hn⟩
  | var r f =>
    obtain ⟨h1, h2, _⟩ := h
    refine ⟨none, 0, ?_, trivial, by simp [Sd.asTy, Tys.len], Nat.zero_le _⟩
    unfold asTyV
    rw [h1, h2]
    rfl
/-- one mark is taken -/
theorem leaves_one {P : Program} {n : Nat} {fn : Func} {tmps : Array Value} {R : Ending → World → Prop} {D : Nat} (w : World) (hD : w.heap[D]? = some (.deferred (some []))) (h : ∀ w', Kept (fun b => b = D) w w' → LeavesInM Fence.wide n P fn tmps R [] .returning w') : LeavesInM Fence.wide n P fn tmps R [{ target := .collected D, args := #[] }] .returning w :=
  ⟨by simp, .inl ⟨D, _, rfl, run_takeDeferred hD, h _ (kept_put (X := fun b => b = D) w D _ rfl)⟩⟩
/-- what is being made stays through a call that turns none of its blocks -/
theorem SetI.kept {base : Nat} {Y : Nat → Prop} {X : Nat → Prop} {w w' : World} {mk s m : Nat} {nx : Int} {tv pv ov : Value} {st : St} (h : SetI base Y w mk s m nx tv pv ov st) (hk : Kept X w w') (h1 : ¬ X mk) (h2 : ¬ X s) (h3 : ¬ X m) (hX : ∀ b, X b → ¬ TyB TCh w b ∧ ¬ TyB TT w b) : SetI base Y w' mk s m nx tv pv ov st := by
  obtain ⟨vs, o1, o2⟩ := h.old
  refine ⟨hk.box h.box h1, hk.box h.sbox h2, h.kn.kept hk h3 (fun b hb => (hX b hb).2), ⟨vs, kept_own hk o1 (fun g e q => (hX g q).1 (own_tyB o1 e).2), ?_⟩, h.bmk, h.bm⟩
  exact o2.frame (fun ad hz => World.cell?_of_block (hk.block _ hz.lt fun e => (hX _ e).2 hz.2.1)) fun b hz => ⟨hz.1, hz.2.1.same (hk.block b hz.lt fun e => (hX b e).2 hz.2.1), hz.2.2⟩
/-- a block that holds no cells is none of them -/
theorem SetI.mark {base : Nat} {Y : Nat → Prop} {w w' : World} {mk s m D : Nat} {nx : Int} {tv pv ov : Value} {st : St} (h : SetI base Y w mk s m nx tv pv ov st) (hD : w.heap[D]? = some (.deferred (some []))) (hk : Kept (fun b => b = D) w w') : SetI base Y w' mk s m nx tv pv ov st := by
  have hne : ∀ t cs, ¬ Box w D t cs := fun t cs q => by unfold Box at q; rw [hD] at q; injection q with q; cases q
  refine h.kept hk (fun e => hne _ _ (by rw [← e]; exact h.box)) (fun e => hne _ _ (by rw [← e]; exact h.sbox)) (fun e => ?_) (fun b hb => ⟨fun ⟨cs, q⟩ => hne _ cs (by rw [← hb]; exact q), fun ⟨cs, q⟩ => hne _ cs (by rw [← hb]; exact q)⟩)
  obtain ⟨KS, ⟨Dt, ⟨es, clock, k1, _⟩, _⟩, _⟩ := h.kn
  rw [e, hD] at k1
  injection k1 with k1
  cases k1
/-- a block of another kind is none of them -/
theorem SetI.other {base : Nat} {Y : Nat → Prop} {w w' : World} {mk s m D : Nat} {nx : Int} {tv pv ov : Value} {st : St} {t : TypeId} {cs : Array Value} (h : SetI base Y w mk s m nx tv pv ov st) (hD : Box w D t cs) (hk : Kept (fun b => b = D) w w') (h1 : t ≠ TMg) (h2 : t ≠ TSt) (h3 : t ≠ TCh) (h4 : t ≠ TT) : SetI base Y w' mk s m nx tv pv ov st :=
  h.kept hk (fun e => h1 ((show Box w mk t cs by rw [e]; exact hD).same h.box)) (fun e => h2 ((show Box w s t cs by rw [e]; exact hD).same h.sbox)) (fun e => h.kn.ne hD e) (fun b hb => by subst hb; exact ⟨Box.notTyB hD h3, Box.notTyB hD h4⟩)
end Go.Proofs.Ytcaioffdcbjbjaa.Un
/-
  CONTRACT of layer unify: a variable of which nothing is known is bound, or the type has it in it.
-/
namespace Go.Proofs.Ytcaioffdcbjbjaa.Un
open Go.RowKit Go.Shelf Mm Tm Mk Go.Maps Go.ChangeMaps Go.MapKept Go.WideMaps Rg
set_option linter.unusedVariables false
set_option linter.unusedSimpArgs false
attribute [local go_sem] Oper.semAt_some
def hasN (n : Int) (l : List (Int × Fact)) : Bool := l.any fun y => decide (y.1 = n)
theorem hasN_snoc (n : Int) (l : List (Int × Fact)) (x : Int × Fact) : hasN n (l ++ [x]) = (hasN n l || decide (x.1 = n)) := by simp [hasN]
theorem any_fst {α β : Type} (n : Int) (l : List (Int × α)) (f : α → β) : l.any (fun y => decide (y.1 = n)) = (l.map fun y => (y.1, f y.2)).any fun y => decide (y.1 = n) := by
  induction l with
  | nil => rfl
  | cons x l ih => simp only [List.map_cons, List.any_cons, ih]
theorem hasN_eq {n : Int} {l : List (Int × Fact)} {L : List (Int × PF)} (h : l.map (fun y => (y.1, y.2.least)) = L.map (fun y => (y.1, y.2.least))) : hasN n l = hasV n L := by
  unfold hasN hasV
  rw [any_fst n l fun y => y.least, any_fst n L fun y => y.least, h]
theorem hasN_pre {n : Int} {l : List (Int × Fact)} {L : List (Int × PF)} {r : List (Int × Int)} (h : L.map (fun y => (y.1, y.2.least)) = l.map (fun y => (y.1, y.2.least)) ++ r) (hn : hasN n l = true) : hasV n L = true := by
  unfold hasV
  unfold hasN at hn
  rw [any_fst n L fun y => y.least, h, List.any_append, ← any_fst n l fun y => y.least, hn]
  rfl
def BindPost (base : Nat) (Y : Nat → Prop) (mk s m : Nat) (nx : Int) (tv pv : Value) (er : Int) (st' : St) (w : World) (e : Ending) (w' : World) : Prop := e = .returned (.int .i64 er) ∧ ∃ ov', SetI base Y w' mk s m nx tv pv ov' st' ∧ SK base mk m w w'
theorem SK.mark {base : Nat} {Y : Nat → Prop} {w w' : World} {mk s m D : Nat} {nx : Int} {tv pv ov : Value} {st : St} (hI : SetI base Y w mk s m nx tv pv ov st) (hk : SK base mk m w w') (hD : w.heap[D]? = some (.deferred (some []))) : w'.heap[D]? = some (.deferred (some [])) := by
  have hne : ∀ t cs, ¬ Box w D t cs := fun t cs q => by unfold Box at q; rw [hD] at q; injection q with q; cases q
  refine (hk.block D (Array.getElem?_eq_some_iff.1 hD).1 ?_).trans hD
  rintro ⟨_, (e | e) | ⟨t, _, cs, q⟩⟩
  · exact hne _ _ (by rw [e]; exact hI.box)
  · obtain ⟨KS, ⟨Dt, ⟨es, clock, k1, _⟩, _⟩, _⟩ := hI.kn
    rw [← e, hD] at k1
    injection k1 with k1
    cases k1
  · exact hne t cs q
/-- the end of a bind that is told OK: the result is stored, the mark is taken -/
theorem bind_end {base : Nat} {Y : Nat → Prop} {mk s m D : Nat} {nx : Int} {tv pv ov6 : Value} {st' : St} {w w6 W7 : World} {tmps : Array Value} (hI6 : SetI base Y w6 mk s m nx tv pv ov6 st') (hsk : SK base mk m w w6)
    (hXR : Box w6 (w.heap.size + 2) TE #[.int .i64 0]) (hD6 : w6.heap[D]? = some (.deferred (some []))) (hDw : w.heap.size + 2 < D) (hb : base ≤ w.heap.size) (hW7 : w6.setCell ⟨w.heap.size + 2, 0, none⟩ (.int .i64 0) = W7)
    (hres : ∀ W : World, W.cell? ⟨w.heap.size + 2, 0, none⟩ = some (.int .i64 0) → (results Try.f30 tmps).run Try.prog W = .ok (.int .i64 0) W) :
    LeavesInM Fence.wide 20 Try.prog Try.f30 tmps (BindPost base Y mk s m nx tv pv 0 st' w) [{ target := .collected D, args := #[] }] .returning W7 := by
  have hXR7 : Box W7 (w.heap.size + 2) TE #[.int .i64 0] := by rw [← hW7]; exact hXR.put 0 _
  have hI7 : SetI base Y W7 mk s m nx tv pv ov6 st' := hI6.other hXR (by rw [← hW7]; exact Kept.setCell (X := fun b => b = w.heap.size + 2) (Kept.refl _ _) (a := ⟨w.heap.size + 2, 0, none⟩) (fun _ => rfl) _) (by decide) (by decide) (by decide) (by decide)
  have hD7 : W7.heap[D]? = some (.deferred (some [])) := by rw [← hW7]; exact (Below.heap_setCell _ _ _ _ (by show D ≠ w.heap.size + 2; omega)).trans hD6
  have hk7 : SK base mk m w W7 := by
    rw [← hW7]
    exact hsk.setCell (a := ⟨w.heap.size + 2, 0, none⟩) (by show base ≤ w.heap.size + 2; omega) (fun q => absurd q (by show ¬ (w.heap.size + 2 < w.heap.size); omega)) _
  refine leaves_one W7 hD7 ?_
  intro w8 hk8
  have r8 := (hk8.box hXR7 (show ¬ w.heap.size + 2 = D by omega)).cell 0
  have hDl := (Array.getElem?_eq_some_iff.1 hD7).1
  exact ⟨.int .i64 0, hres w8 r8, rfl, ov6, hI7.mark hD7 hk8, KG.then_below hk7 (B := D) (Kept.below hk8 (Nat.le_of_lt hDl) (fun k e => by rw [e]; exact Nat.le_refl _)) (by omega)⟩
set_option maxRecDepth 100000 in
set_option maxHeartbeats 8000000 in
theorem bind_any {base : Nat} {Y : Nat → Prop} {mk s m q d c : Nat} {nx er l dd : Int} {h : Bool} {tv pv ov : Value} {st st' : St} {v is : Side} {sdp : Sd} {x : Ty} {a : Option Addr} (w : World) (hI : SetI base Y w mk s m nx tv pv ov st) (hb : base ≤ w.heap.size) (hY : ∀ b, Y b → b < w.heap.size)
    (hv : ErF v.f (.opn l dd h)) (hs : SideR (ZT base Y w) w x a c sdp is) (hx : RdT (ZU base Y w) w a x.args 0) (hl : x.args.len * 56 ≤ 140737488355328) (hnm : x.nm.size ≤ 9223372036854775807) (hd : d ≤ 1000000000) (hst : bindP q d st v.n h sdp = some (er, st')) :
    Calls Try.prog 30 #[.pointer (some ⟨mk, 0, none⟩), sideV v, sideV is] w (BindPost base Y mk s m nx tv pv er st' w) := by
  obtain ⟨L, hL, hst2⟩ := Option.bind_eq_some_iff.1 hst
  obtain ⟨W0, hW0⟩ : ∃ W0, ((w.alloc (.cells (sideC v) TSide)).alloc (.cells (sideC is) TSide)).alloc (.cells #[.int .i64 0] TE) = W0 := ⟨_, rfl⟩
  have hB0 : Below w.heap.size w W0 := by rw [← hW0]; exact (((Below.refl w.heap.size w).alloc (Nat.le_refl _) _).alloc (by simp) _).alloc (by simp; omega) _
  have hX0 : Box W0 w.heap.size TSide (sideC v) := by rw [← hW0]; exact ((Box.new w _ _).alloc _).alloc _
  have hX1 : Box W0 (w.heap.size + 1) TSide (sideC is) := by rw [← hW0]; exact (Box.at_ _ _ (by simp)).alloc _
  have hX2 : Box W0 (w.heap.size + 2) TE #[.int .i64 0] := by rw [← hW0]; exact Box.at_ _ _ (by simp)
  have hI0 := hI.below hB0
  have hx0 : RdT (ZU base Y W0) W0 a x.args 0 := (hx.below hB0 fun b hb => hb.lt).mono fun b hz => hz.elim (fun q => .inl ⟨q.1, Nat.lt_of_lt_of_le q.2 hB0.size⟩) fun q => .inr ⟨q.1, q.2.1.below hB0, q.2.2⟩
  have hs0 : SideR (ZU base Y W0) W0 x a c sdp is := by
    cases sdp with
    | typ y => exact hs
    | var r f => exact ⟨hs.1, hs.2.1, hs.2.2.1, hs.2.2.2.1.frame (fun ad hz => hB0.cell hz.lt) (fun b hz => .inr ⟨hz.1, hz.2.1.below hB0, hz.2.2⟩), hs.2.2.2.2⟩
  obtain ⟨a', c', hv1, hv2, hv3, hv4⟩ := side_as hs0 hx0 hl hnm
  have HAT := Lib.hid fun wq : World => asType_any (s := is) wq
  rw [hv1] at HAT
  have HV2 := Lib.hid hv2
  have HV3 := Lib.hid (And.intro hv3 hv4)
  have HI := Lib.hid hI
  have HI0 := Lib.hid hI0
  have HX0 := Lib.hid hX0
  have HX1 := Lib.hid hX1
  have HX2 := Lib.hid hX2
  have HB0 := Lib.hid hB0
  have HL := Lib.hid hL
  have HST := Lib.hid hst2
  have HS := Lib.hid hs
  have HXR := Lib.hid (And.intro hx (And.intro hl hnm))
  have hh : v.f.held = h := hv.2.2.2.2
  have H66 : Hid ((sideC v)[6]? = some (.bool h)) := Lib.hid (by rw [← hh]; rfl)
  obtain ⟨a0, _⟩ := hI0.box.cells4
  obtain ⟨x0, x1, x2, x3, x4, x5, x6, x7, x8⟩ := hX0.cells9
  rw [hh] at x6
  obtain ⟨y0, y1, y2, y3, y4, y5, y6, y7, y8⟩ := hX1.cells9
  have zmk := hI0.box.lt
  have z0 := hX0.lt
  have z1 := hX1.lt
  have z2 := hX2.lt
  clear hst hst2 hL hI hI0 hX0 hX1 hX2 hB0 hs hs0 hx hx0 hv1 hv2 hv3 hv4 hh hl hnm hv
  refine (callsIn_wide (n := 20)).1 ?_
  refine callsIn_of_wp_marks Try.func30 rfl trivial ?_ rfl
  simp only [Try.ntmps30, List.size_toArray, List.length_cons, List.length_nil, Nat.reduceAdd, Nat.reduceSub, Array.replicate_succ, Array.replicate_zero, List.push_toArray, List.append_toArray, List.nil_append, List.cons_append]
  refine wpIn_wide.2 ?_
  go_wp2_with fail
  go_region_held3 (fun w' => w'.cell? ⟨mk, 0, none⟩ = some (.pointer (some ⟨s, 0, none⟩)) ∧ w'.cell? ⟨w.heap.size, 6, none⟩ = some (.bool h) ∧ w'.cell? ⟨w.heap.size + 1, 0, none⟩ = some (.int .i64 is.f.kd) ∧ w'.cell? ⟨w.heap.size + 1, 1, none⟩ = some (.int .i64 is.f.n) ∧ w'.cell? ⟨w.heap.size + 1, 2, none⟩ = some (.string is.f.nm) ∧ w'.cell? ⟨w.heap.size + 1, 3, none⟩ = some (.slice is.f.a is.f.args.len is.f.c) ∧ w'.cell? ⟨w.heap.size + 1, 4, none⟩ = some (.int .i64 is.f.least) ∧ w'.cell? ⟨w.heap.size + 1, 5, none⟩ = some (.int .i64 is.f.depth) ∧ w'.cell? ⟨w.heap.size + 1, 6, none⟩ = some (.bool is.f.held) ∧ w'.cell? ⟨w.heap.size + 1, 7, none⟩ = some (.bool is.isVar) ∧ w'.cell? ⟨w.heap.size + 1, 8, none⟩ = some (.int .i64 is.n))
    (first
      | exact ⟨a0, x6, y0, y1, y2, y3, y4, y5, y6, y7, y8⟩
      | exact ⟨k0, k6, j0, j1, j2, j3, j4, j5, j6, j7, j8⟩
      | exact ⟨l0, l6, o0, o1, o2, o3, o4, o5, o6, o7, o8⟩
      | go_keep)
    (first
      | (go_at_call 37; refine (HAT.out W0.drew).mono ?_; rintro e w3 ⟨rfl, hb3⟩; unfold tyV; replace hb3 : Below W0.heap.size W0 w3 := ⟨hb3.os, hb3.tape, hb3.output, hb3.size, hb3.block⟩; have HB3 := Lib.hid hb3; obtain ⟨k0, _⟩ := (HI0.out.box.below hb3 zmk).cells4; have k6 : w3.cell? ⟨w.heap.size, 6, none⟩ = some (.bool h) := ((HX0.out.below hb3 z0).cell 6).trans H66.out; obtain ⟨j0, j1, j2, j3, j4, j5, j6, j7, j8⟩ := (HX1.out.below hb3 z1).cells9; clear hb3)
      | (go_at_call 36; refine (open_any s sdp.asTy a' c' h w3).mono ?_; rintro e w4 ⟨bt, bs, bd, rfl, hbt, hbs, hbd, hb4⟩; unfold lookV; have HB4 := Lib.hid (HB3.out.trans (hb4.mono HB3.out.size)); have HBT := Lib.hid (And.intro hbt (And.intro hbs hbd)); obtain ⟨l0, _⟩ := (HI0.out.box.below HB4.out zmk).cells4; have l6 : w4.cell? ⟨w.heap.size, 6, none⟩ = some (.bool h) := ((HX0.out.below HB4.out z0).cell 6).trans H66.out; obtain ⟨o0, o1, o2, o3, o4, o5, o6, o7, o8⟩ := (HX1.out.below HB4.out z1).cells9; clear hb4 hbt hbs hbd))
  go_wp2_with fail
  obtain ⟨hbt, hbs, hbd⟩ := HBT.out
  have hI4 := HI0.out.below HB4.out
  have zw4 := HB4.out.size
  have hx4 : RdT (ZU base Y w4) w4 a' sdp.asTy.args 0 := (HV2.out.below HB4.out fun b hb => hb.lt).mono fun b hz => hz.elim (fun q => .inl ⟨q.1, Nat.lt_of_lt_of_le q.2 HB4.out.size⟩) fun q => .inr ⟨q.1, q.2.1.below HB4.out, q.2.2⟩
  have HX4 := Lib.hid (And.intro (HX0.out.below HB4.out z0) (And.intro (HX1.out.below HB4.out z1) (HX2.out.below HB4.out z2)))
  have HI4 := Lib.hid hI4
  clear k0 k6 j0 j1 j2 j3 j4 j5 j6 j7 j8 a0 x0 x1 x2 x3 x4 x5 x6 x7 x8 y0 y1 y2 y3 y4 y5 y6 y7 y8 hW0 l0 l6 o0 o1 o2 o3 o4 o5 o6 o7 o8
  refine wpIn_wide.1 (range_own (n := 20) (X := fun _ _ => False) (by omega) (gf := 39) (lb := #[.pointer (some ⟨bt, 0, none⟩), .pointer (some ⟨bs, 0, none⟩), .pointer (some ⟨bd, 0, none⟩)]) rfl (enters_of Try.func39 (by kernel_rfl) rfl)
    (open_seq (n := 19) (base := base) (Y := Y) (by omega) w4 hI4.sbox hI4.kn hbt hbs hbd hx4 HV3.out.1 HV3.out.2 hd HL.out) (Below.refl _ _) (fun _ => rfl) (fun A b o _ _ _ _ q => q) (fun A C b _ h => h)
    (fun pre W' => Kept (fun b => w4.heap.size ≤ b) w4 W' ∧ hasN v.n pre = false)
    (fun cst pre W' => cst = .ret ∧ Kept (fun b => w4.heap.size ≤ b ∨ b = w.heap.size + 2) w4 W' ∧ Box W' (w.heap.size + 2) TE #[.int .i64 101] ∧ hasN v.n pre = true)
    (fun s A C h hs => ⟨h.1.trans (Kept.mono hs fun k _ q => q.1), h.2⟩) (fun c s A C h hs => ⟨h.1, h.2.1.trans (Kept.mono hs fun k _ q => .inl q.1), hs.box h.2.2.1 (fun q => by have := q.1; omega), h.2.2.2⟩) ⟨Kept.refl _ _, rfl⟩
    (fun xi ai W' => ∃ (b0 b1 b2 b3 b5 b8 b9 b10 b11 b12 b13 b14 b15 b16 b17 b18 b19 b20 b21 b22 b23 b24 b25 b26 b27 b28 b29 b30 b31 b32 b33 b34 b35 b36 b37 b38 b39 b40 b41 b42 b43 : Value), ai = { tmps := #[b0, b1, b2, b3, .pointer (some ⟨w.heap.size, 0, none⟩), b5, .pointer (some ⟨w.heap.size + 2, 0, none⟩), .int .i64 xi.1, b8, b9, b10, b11, b12, b13, b14, b15, b16, b17, b18, b19, b20, b21, b22, b23, b24, b25, b26, b27, b28, b29, b30, b31, b32, b33, b34, b35, b36, b37, b38, b39, b40, b41, b42, b43], defers := [] })
    (fun x a' A k o o' h _ _ => h) ?_ ?_ ?_ ?_)
  · rintro l2 pre xi Wa Ka hPA hsza hKa
    obtain ⟨xn, xf⟩ := xi
    simp only [encF, factV]
    gi_wp2
    refine hKa _ _ (Below.refl _ Wa) ?_
    (repeat apply Exists.intro)
    rfl
  · rintro l2 pre xi ai Wb hl2 hl2b ⟨hkp, hnp⟩ hlen hax
    obtain ⟨xn, xf⟩ := xi
    obtain ⟨b0, b1, b2, b3, b5, b8, b9, b10, b11, b12, b13, b14, b15, b16, b17, b18, b19, b20, b21, b22, b23, b24, b25, b26, b27, b28, b29, b30, b31, b32, b33, b34, b35, b36, b37, b38, b39, b40, b41, b42, b43, rfl⟩ := hax
    have hv8 : Wb.cell? ⟨w.heap.size, 8, none⟩ = some (.int .i64 v.n) := (Kept.box hkp HX4.out.1 (fun q => by omega)).cell 8
    have hr2 := Kept.box hkp HX4.out.2.2 (fun q => by omega)
    have r0 : Wb.cell? ⟨w.heap.size + 2, 0, none⟩ = some (.int .i64 0) := hr2.cell 0
    have rf := hr2.free 0
    have HKP := Lib.hid hkp
    have HNP := Lib.hid hnp
    have HR2 := Lib.hid hr2
    clear hkp hnp hr2
    by_cases hq : xn = v.n
    · have hqb : (xn == v.n) = true := by simpa using hq
      have HQ := Lib.hid hq
      clear hq
      gi_wp2
      refine ⟨Kept.setCell (X := fun b => b < w4.heap.size ∨ False) (Kept.refl _ _) (a := ⟨w.heap.size + 2, 0, none⟩) (fun _ => .inl (by show w.heap.size + 2 < _; omega)) _, rfl, ?_, HR2.out.put 0 _, ?_⟩
      · exact Kept.setCell (X := fun b => w4.heap.size ≤ b ∨ b = w.heap.size + 2) (HKP.out.mono fun k _ q => .inl q) (a := ⟨w.heap.size + 2, 0, none⟩) (fun _ => .inr rfl) _
      · rw [hasN_snoc, decide_eq_true (show (xn, xf).1 = v.n from HQ.out), Bool.or_true]
    · have hqb : (xn == v.n) = false := by simpa using hq
      have HQ := Lib.hid hq
      clear hq
      gi_wp2
      refine ⟨Kept.refl _ _, HKP.out, ?_⟩
      rw [hasN_snoc, HNP.out, decide_eq_false (show ¬ (xn, xf).1 = v.n from HQ.out)]
      rfl
  · rintro D xs Wd hD hS ⟨hkp, hnp⟩ hDef
    rw [hasN_eq hS] at hnp
    have hst := HST.out
    rw [hnp] at hst
    simp only [Bool.false_eq_true, if_false] at hst
    have hBd : Below w4.heap.size w4 Wd := Kept.below hkp (Nat.le_refl _) (fun k q => q)
    have hId := HI4.out.below hBd
    have HBW : Hid (Below w.heap.size w Wd) := Lib.hid ((HB0.out.trans (HB4.out.mono HB0.out.size)).trans (hBd.mono (by have := HB0.out.size; omega)))
    have hXV := HX4.out.1.below hBd (by omega)
    have hXS := HX4.out.2.1.below hBd (by omega)
    have hXR := HX4.out.2.2.below hBd (by omega)
    have HXV := Lib.hid hXV
    have HXS := Lib.hid hXS
    have HXR2 := Lib.hid hXR
    have HID := Lib.hid hId
    have HDEF := Lib.hid hDef
    have hbd : base ≤ Wd.heap.size := Nat.le_trans hb HBW.out.size
    have hDw : w.heap.size + 2 < D := by omega
    obtain ⟨x0, x1, x2, x3, x4, x5, x6, x7, x8⟩ := hXV.cells9
    obtain ⟨y0, y1, y2, y3, y4, y5, y6, y7, y8⟩ := hXS.cells9
    cases sdp with
    | var r f =>
      obtain ⟨hiv, hin, _⟩ := HS.out
      rw [hiv] at y7
      rw [hin] at y8
      simp only at hst
      obtain ⟨s1, hs1, he1⟩ := Option.map_eq_some_iff.1 hst
      simp only [Prod.mk.injEq] at he1
      obtain ⟨rfl, rfl⟩ := he1
      have HS1 := Lib.hid hs1
      have HRN : Hid ((sideC is)[8]? = some (.int .i64 r)) := Lib.hid (by rw [← hin]; rfl)
      clear hst hs1 hiv hin hkp hnp hBd hId hXV hXS hXR hDef hS x0 x1 x2 x3 x4 x5 x6 x7 y0 y1 y2 y3 y4 y5 y6
      go_wp2_with fail
      go_region_held3 (fun w' => w'.cell? ⟨w.heap.size, 8, none⟩ = some (.int .i64 v.n) ∧ w'.cell? ⟨w.heap.size + 1, 8, none⟩ = some (.int .i64 r))
        (first
          | exact ⟨x8, y8⟩
          | exact ⟨k0, k1⟩
          | exact ⟨l0, l1⟩
          | go_keep)
        (first
          | (go_at_call 21; refine (variable_any r Wd.drew).mono ?_; rintro e w5 ⟨rfl, hb5⟩; replace hb5 : Below Wd.heap.size Wd w5 := ⟨hb5.os, hb5.tape, hb5.output, hb5.size, hb5.block⟩; have HB5 := Lib.hid hb5; have X5 := HXV.out.below hb5 HXV.out.lt; have A5 := HXS.out.below hb5 HXS.out.lt; have k0 : w5.cell? ⟨w.heap.size, 8, none⟩ = some (.int .i64 v.n) := (hb5.cell (p := ⟨w.heap.size, 8, none⟩) HXV.out.lt).trans x8; have k1 : w5.cell? ⟨w.heap.size + 1, 8, none⟩ = some (.int .i64 r) := (hb5.cell (p := ⟨w.heap.size + 1, 8, none⟩) HXS.out.lt).trans y8; have HI5 := Lib.hid (HID.out.below hb5); clear hb5)
          | (go_at_call 35; refine (set_any (g := linkF r) (f := .link r) (n := v.n) w5 HI5.out ⟨rfl, rfl⟩ (linkF_R _ _ _) (Nat.le_trans hbd HB5.out.size) HS1.out).mono ?_; rintro e w6 ⟨rfl, ov6, si6, sk6⟩; have l0 : w6.cell? ⟨w.heap.size, 8, none⟩ = some (.int .i64 v.n) := (sk6.box X5 (fun e => HI5.out.notTB X5 e) (by decide)).cell 8; have l1 : w6.cell? ⟨w.heap.size + 1, 8, none⟩ = some (.int .i64 r) := ((sk6.box A5 (fun e => HI5.out.notTB A5 e) (by decide)).cell 8).trans HRN.out; have HSI := Lib.hid si6; have HSK := Lib.hid sk6; clear si6 sk6))
      clear k0 k1 l0 l1 x8 y7 y8 X5 A5
      have hXR6 := HSK.out.box (HXR2.out.below HB5.out HXR2.out.lt) (fun e => e.elim (fun e => absurd ((show Box w5 mk TE _ by rw [← e]; exact HXR2.out.below HB5.out HXR2.out.lt).same HI5.out.box) (by decide)) fun e => HI5.out.kn.ne (HXR2.out.below HB5.out HXR2.out.lt) e.symm) (by decide)
      have rf := hXR6.free 0
      have r0 := hXR6.cell 0
      have HXR6 := Lib.hid hXR6
      clear hXR6
      go_wp2_with fail
      obtain ⟨W7, hW7⟩ : ∃ W7, w6.setCell ⟨w.heap.size + 2, 0, none⟩ (.int .i64 0) = W7 := ⟨_, rfl⟩
      rw [hW7]
      have hD5 : w5.heap[D]? = some (.deferred (some [])) := (HB5.out.block D (Array.getElem?_eq_some_iff.1 HDEF.out).1).trans HDEF.out
      exact bind_end HSI.out ((KG.of_below (HBW.out.trans (HB5.out.mono HBW.out.size)) (Nat.le_refl _)).trans HSK.out) HXR6.out (SK.mark HI5.out HSK.out hD5) hDw hb hW7 (fun W q => by simp [results, Try.results30, go_sem, q])
    | typ yy =>
      obtain ⟨hyx, hsd, hk1, hk0⟩ := HS.out
      have e0 : is.f.kd = x.kd := by rw [hsd]; rfl
      have e1 : is.f.n = x.n := by rw [hsd]; rfl
      have e2 : is.f.nm = x.nm := by rw [hsd]; rfl
      have e3 : (Value.slice is.f.a is.f.args.len is.f.c) = .slice a x.args.len c := by rw [hsd]; rfl
      have e7 : is.isVar = false := by rw [hsd]
      rw [e0] at y0
      rw [e1] at y1
      rw [e2] at y2
      rw [e3] at y3
      rw [e7] at y7
      have HC := Lib.hid (show (sideC is)[0]? = some (.int .i64 x.kd) ∧ (sideC is)[1]? = some (.int .i64 x.n) ∧ (sideC is)[2]? = some (.string x.nm) ∧ (sideC is)[3]? = some (.slice a x.args.len c) by rw [← e0, ← e1, ← e2, ← e3]; exact ⟨rfl, rfl, rfl, rfl⟩)
      rw [hyx] at hst
      simp only at hst
      obtain ⟨rr, hr1, hst3⟩ := Option.bind_eq_some_iff.1 hst
      obtain ⟨s1, hs1, he1⟩ := Option.map_eq_some_iff.1 hst3
      simp only [Prod.mk.injEq] at he1
      obtain ⟨rfl, rfl⟩ := he1
      obtain ⟨st5, xs⟩ := rr
      have HS1 := Lib.hid hs1
      have HR1 := Lib.hid hr1
      have HK := Lib.hid (And.intro hk0 hk1)
      have hxd0 : RdT (ZU base Y Wd) Wd a x.args 0 := (HXR.out.1.below HBW.out fun b hb => hb.lt).mono fun b hz => hz.elim (fun q => .inl ⟨q.1, Nat.lt_of_lt_of_le q.2 HBW.out.size⟩) fun q => .inr ⟨q.1, q.2.1.below HBW.out, q.2.2⟩
      have hxd : RdT (ZU base Y Wd.drew) Wd.drew a x.args 0 := hxd0.drew
      have HFL := Lib.hid (flat_any x.args.nodes x (Nat.le_refl _) Y a c Wd.drew _ _ _ _ HID.out.drew hbd (fun b hb => Nat.lt_of_lt_of_le (hY b hb) HBW.out.size) hxd HXR.out.2.1 hr1)
      unfold tyV at HFL
      clear hst hst3 hs1 hr1 hyx hsd hk1 hk0 e0 e1 e2 e3 e7 hxd hxd0 hkp hnp hBd hId hXV hXS hXR hDef hS x0 x1 x2 x3 x4 x5 x6 x7 y4 y5 y6 y8
      go_wp2_with fail
      go_region_held3 (fun w' => w'.cell? ⟨w.heap.size, 8, none⟩ = some (.int .i64 v.n) ∧ w'.cell? ⟨w.heap.size + 1, 0, none⟩ = some (.int .i64 x.kd) ∧ w'.cell? ⟨w.heap.size + 1, 1, none⟩ = some (.int .i64 x.n) ∧ w'.cell? ⟨w.heap.size + 1, 2, none⟩ = some (.string x.nm) ∧ w'.cell? ⟨w.heap.size + 1, 3, none⟩ = some (.slice a x.args.len c))
        (first
          | exact ⟨x8, y0, y1, y2, y3⟩
          | exact ⟨k8, k0, k1, k2, k3⟩
          | exact ⟨l8, l0, l1, l2, l3⟩
          | go_keep)
        (first
          | (go_at_call 38; refine HFL.out.mono ?_; rintro e w5 ⟨a5, c5, rfl, hrd5, hlen5, _, ov5, si5, sk5⟩; replace sk5 : SK base mk m Wd w5 := KG.trans (KG.of_below ((Below.refl Wd.heap.size Wd).drew) (Nat.le_refl _)) sk5; have X5 := sk5.box HXV.out (fun e => HID.out.notTB HXV.out e) (by decide); have A5 := sk5.box HXS.out (fun e => HID.out.notTB HXS.out e) (by decide); have k8 : w5.cell? ⟨w.heap.size, 8, none⟩ = some (.int .i64 v.n) := X5.cell 8; have k0 : w5.cell? ⟨w.heap.size + 1, 0, none⟩ = some (.int .i64 x.kd) := (A5.cell 0).trans HC.out.1; have k1 : w5.cell? ⟨w.heap.size + 1, 1, none⟩ = some (.int .i64 x.n) := (A5.cell 1).trans HC.out.2.1; have k2 : w5.cell? ⟨w.heap.size + 1, 2, none⟩ = some (.string x.nm) := (A5.cell 2).trans HC.out.2.2.1; have k3 : w5.cell? ⟨w.heap.size + 1, 3, none⟩ = some (.slice a x.args.len c) := (A5.cell 3).trans HC.out.2.2.2; have HSET := Lib.hid (set_any (g := ⟨x.kd, x.n, x.nm, ofVars xs, a5, c5, 0, 0, false⟩) (f := .typ x.kd x.nm xs) (n := v.n) w5 si5 ⟨rfl, HK.out.1, HK.out.2, rfl, rfl⟩ ⟨hrd5, by rw [ofVars_len, hlen5]; exact HXR.out.2.1, HXR.out.2.2⟩ (Nat.le_trans hbd sk5.size) HS1.out); unfold factV at HSET; rw [ofVars_len] at HSET; have HI5 := Lib.hid si5; have HSK5 := Lib.hid sk5; have HA5 := Lib.hid (And.intro X5 A5); clear si5 sk5 hrd5 hlen5 X5 A5)
          | (go_at_call 35; refine HSET.out.mono ?_; rintro e w6 ⟨rfl, ov6, si6, sk6⟩; have X6 := sk6.box HA5.out.1 (fun e => HI5.out.notTB HA5.out.1 e) (by decide); have A6 := sk6.box HA5.out.2 (fun e => HI5.out.notTB HA5.out.2 e) (by decide); have l8 : w6.cell? ⟨w.heap.size, 8, none⟩ = some (.int .i64 v.n) := X6.cell 8; have l0 : w6.cell? ⟨w.heap.size + 1, 0, none⟩ = some (.int .i64 x.kd) := (A6.cell 0).trans HC.out.1; have l1 : w6.cell? ⟨w.heap.size + 1, 1, none⟩ = some (.int .i64 x.n) := (A6.cell 1).trans HC.out.2.1; have l2 : w6.cell? ⟨w.heap.size + 1, 2, none⟩ = some (.string x.nm) := (A6.cell 2).trans HC.out.2.2.1; have l3 : w6.cell? ⟨w.heap.size + 1, 3, none⟩ = some (.slice a x.args.len c) := (A6.cell 3).trans HC.out.2.2.2; have HSI := Lib.hid si6; have HSK := Lib.hid sk6; clear si6 sk6 X6 A6))
      clear k8 k0 k1 k2 k3 l8 l0 l1 l2 l3 x8 y0 y1 y2 y3 y7
      have hXR5 := HSK5.out.box HXR2.out (fun e => e.elim (fun e => absurd ((show Box Wd mk TE _ by rw [← e]; exact HXR2.out).same HID.out.box) (by decide)) fun e => HID.out.kn.ne HXR2.out e.symm) (by decide)
      have hXR6 := HSK.out.box hXR5 (fun e => e.elim (fun e => absurd ((show Box w5 mk TE _ by rw [← e]; exact hXR5).same HI5.out.box) (by decide)) fun e => HI5.out.kn.ne hXR5 e.symm) (by decide)
      have rf := hXR6.free 0
      have r0 := hXR6.cell 0
      have HXR6 := Lib.hid hXR6
      clear hXR6 hXR5
      go_wp2_with fail
      obtain ⟨W7, hW7⟩ : ∃ W7, w6.setCell ⟨w.heap.size + 2, 0, none⟩ (.int .i64 0) = W7 := ⟨_, rfl⟩
      rw [hW7]
      exact bind_end HSI.out (((KG.of_below HBW.out (Nat.le_refl _)).trans HSK5.out).trans HSK.out) HXR6.out (SK.mark HI5.out HSK.out (SK.mark HID.out HSK5.out HDEF.out)) hDw hb hW7 (fun W q => by simp [results, Try.results30, go_sem, q])
  · rintro D cst pre Wd hD ⟨rest, hSp⟩ ⟨rfl, hkp, hbx, hnp⟩ hDef
    have hst := HST.out
    rw [hasN_pre hSp hnp] at hst
    simp only [if_true, Option.some.injEq, Prod.mk.injEq] at hst
    obtain ⟨rfl, rfl⟩ := hst
    have r0 : Wd.cell? ⟨w.heap.size + 2, 0, none⟩ = some (.int .i64 101) := hbx.cell 0
    have HKP := Lib.hid (And.intro hkp hbx)
    clear hkp hbx hnp
    gi_wp2
    have hIs : SetI base Y Wd mk s m nx tv pv ov st := HI4.out.kept HKP.out.1 (fun q => by have := HI.out.box.lt; omega) (fun q => by have := HI.out.sbox.lt; omega) (fun q => by have := HI.out.kn.lt; omega) (fun b hb => ⟨fun q => hb.elim (fun e => by have := q.lt; omega) fun e => by subst e; exact Box.notTyB HX4.out.2.2 (by decide) q, fun q => hb.elim (fun e => by have := q.lt; omega) fun e => by subst e; exact Box.notTyB HX4.out.2.2 (by decide) q⟩)
    have hDl := (Array.getElem?_eq_some_iff.1 hDef).1
    refine leaves_one Wd hDef ?_
    intro w8 hk8
    have r8 : w8.cell? ⟨w.heap.size + 2, 0, none⟩ = some (.int .i64 101) := (hk8.box HKP.out.2 (show ¬ w.heap.size + 2 = D by omega)).cell 0
    refine ⟨.int .i64 101, by simp [results, Try.results30, go_sem, r8], rfl, ov, hIs.mark hDef hk8, ?_⟩
    have hkw : SK base mk m w Wd := KG.of_below (B := w.heap.size) (((HB0.out.trans (HB4.out.mono HB0.out.size))).trans (Kept.below HKP.out.1 (by omega) (fun k q => by omega))) (Nat.le_refl _)
    exact KG.then_below hkw (B := D) (Kept.below hk8 (Nat.le_of_lt hDl) (fun k e => by rw [e]; exact Nat.le_refl _)) (by omega)
end Go.Proofs.Ytcaioffdcbjbjaa.Un
/-
  WORDS ON MEMORY for layer unify: types being made the same: the pairs that wait, the pairs that were met; what a call may turn.
-/
namespace Go.Proofs.Ytcaioffdcbjbjaa.Un
open Go.RowKit Go.Shelf Mm Tm Mk Go.Maps Go.ChangeMaps Go.MapKept Go.WideMaps Rg
set_option linter.unusedVariables false
set_option linter.unusedSimpArgs false
abbrev TP2 : TypeId := 60
abbrev TPs : TypeId := 49
abbrev N0 : Nat → Prop := fun _ => False
theorem Tpair : (Try.prog.info? 60).map (fun i => (i.zero, i.size, i.bytes)) = some (some (.agg #[.int .i64 0, .int .i64 0, .string ByteArray.empty, .slice none 0 0, .int .i64 0, .int .i64 0, .string ByteArray.empty, .slice none 0 0]), 8, 112) := by kernel_rfl
/-- what a call that makes types the same may turn -/
abbrev KP (base mk m pm : Nat) (w w' : World) : Prop := KG base (fun t => t = TCh ∨ t = TP2) (fun b => b = mk ∨ b = m ∨ b = pm) w w'
theorem SK.kp {base mk m pm : Nat} {w w' : World} (h : SK base mk m w w') : KP base mk m pm w w' := KG.mono h (fun t e => .inl e) fun b _ e => e.elim (fun e => .inl e) fun e => .inr (.inl e)
/-- pairs of types as a row of types -/
def flat2 : List (Ty × Ty) → List Ty
  | [] => []
  | p :: l => p.1 :: p.2 :: flat2 l
theorem flat2_len : ∀ l : List (Ty × Ty), (flat2 l).length = l.length * 2
  | [] => rfl
  | p :: l => by rw [flat2, List.length_cons, List.length_cons, flat2_len l, List.length_cons]; omega
theorem flat2_append : ∀ l k : List (Ty × Ty), flat2 (l ++ k) = flat2 l ++ flat2 k
  | [], k => rfl
  | p :: l, k => by rw [List.cons_append, flat2, flat2_append l k]; rfl
/-- What waits to be made the same, the first of it last in the row. -/
def TodoI (base : Nat) (w : World) (tv : Value) (td : List (Ty × Ty)) : Prop := ∃ vs, w.ownsRow base TP2 8 tv td.length vs ∧ RowT (ZU base N0 w) w vs (flat2 td.reverse)
/-- types being made the same, in memory, with the pairs that were met -/
structure MkI (base : Nat) (w : World) (mk s m pm : Nat) (nx : Int) (tv ov : Value) (st : St) (M : PM) (cp : Nat) : Prop where
  si : SetI base N0 w mk s m nx tv (.map (some pm)) ov st
  pr : PrI w pm M cp
  ne : pm ≠ m
  bp : base ≤ pm
theorem pr_notTyB {w : World} {pm cp : Nat} {M : PM} {u : TypeId} (h : PrI w pm M cp) : ¬ TyB u w pm := by
  obtain ⟨F, h1, _⟩ := h
  exact map_notTyB h1
theorem PrI.nbox {w : World} {pm cp g : Nat} {M : PM} {t : TypeId} {cs : Array Value} (h : PrI w pm M cp) (hb : Box w g t cs) : pm ≠ g := by
  obtain ⟨F, h1, _⟩ := h
  exact h1.ne hb
section
variable {base : Nat} {w w' : World} {mk s m pm cp : Nat} {nx : Int} {tv tv' ov ov' : Value} {st st' : St} {M : PM} {td : List (Ty × Ty)}
theorem MkI.sk (h : MkI base w mk s m pm nx tv ov st M cp) (hk : SK base mk m w w') (hs : SetI base N0 w' mk s m nx tv (.map (some pm)) ov' st') : MkI base w' mk s m pm nx tv ov' st' M cp := by
  refine ⟨hs, h.pr.same (hk.block pm h.pr.lt ?_), h.ne, h.bp⟩
  rintro ⟨_, (e | e) | ⟨t, _, q⟩⟩
  · exact h.pr.nbox h.si.box e
  · exact h.ne e
  · exact pr_notTyB h.pr q
theorem MkI.below (h : MkI base w mk s m pm nx tv ov st M cp) (hb : Below w.heap.size w w') : MkI base w' mk s m pm nx tv ov st M cp :=
  ⟨h.si.below hb, h.pr.below hb, h.ne, h.bp⟩
theorem MkI.notD (h : MkI base w mk s m pm nx tv ov st M cp) {t : TypeId} (ht : t ≠ TMg) : ∀ b, (b = mk ∨ b = m ∨ b = pm) → ¬ TyB t w b := by
  rintro b (rfl | rfl | rfl)
  · exact Box.notTyB h.si.box (fun e => ht e.symm)
  · obtain ⟨KS, q, _⟩ := h.si.kn
    exact map_notTyB q
  · exact pr_notTyB h.pr
theorem zu_below (hb : Below w.heap.size w w') {b : Nat} (hz : ZU base N0 w b) : ZU base N0 w' b := hz.elim (fun q => .inl ⟨q.1, Nat.lt_of_lt_of_le q.2 hb.size⟩) fun q => .inr ⟨q.1, q.2.1.below hb, q.2.2⟩
theorem TodoI.below (h : TodoI base w tv td) (hb : Below w.heap.size w w') : TodoI base w' tv td := by
  obtain ⟨vs, h1, h2⟩ := h
  exact ⟨vs, own_here h1 hb, (h2.below hb fun b hz => hz.lt).mono fun b hz => zu_below hb hz⟩
theorem TodoI.sk (h : TodoI base w tv td) (hI : MkI base w mk s m pm nx tv' ov st M cp) (hk : SK base mk m w w') : TodoI base w' tv td := by
  obtain ⟨vs, h1, h2⟩ := h
  have hD : ∀ (t : TypeId), t ≠ TMg → ∀ b, (b = mk ∨ b = m) → ¬ TyB t w b := fun t ht b hb => hI.notD ht b (hb.elim (fun e => .inl e) fun e => .inr (.inl e))
  obtain ⟨z1, z2⟩ := KG.zu (Y := N0) hk (hD TT (by decide)) (by decide)
  exact ⟨vs, hk.own h1 (fun g e q => hD TP2 (by decide) g q (own_tyB h1 e).2) (by decide), h2.frame (fun b o hz => z1 ⟨b, o, none⟩ hz) z1 z2⟩
/-- types that are read stay through a call that makes types the same -/
theorem KP.rd {a : Option Addr} {t : Tys} (hI : MkI base w mk s m pm nx tv ov st M cp) (hk : KP base mk m pm w w') (hr : RdT (ZU base N0 w) w a t 0) : RdT (ZU base N0 w') w' a t 0 := by
  obtain ⟨z1, z2⟩ := KG.zu (Y := N0) hk (hI.notD (t := TT) (by decide)) (by decide)
  exact hr.frame (fun b o hz => z1 ⟨b, o, none⟩ hz) z1 z2
end
theorem tyB_one {w : World} {b : Nat} {t u : TypeId} (h : TyB t w b) (k : TyB u w b) : t = u := by
  obtain ⟨cs, hc⟩ := h
  obtain ⟨ds, hd⟩ := k
  exact Box.same (show Box w b t cs from hc) (show Box w b u ds from hd)
/-- rows of pairs but the one of what waits are as they were -/
def KeepP (tv : Value) (w w' : World) : Prop := ∀ b, TyB TP2 w b → tv.ownBlock ≠ some b → w'.heap[b]? = w.heap[b]?
theorem KeepP.refl (tv : Value) (w : World) : KeepP tv w w := fun _ _ _ => rfl
theorem KeepP.below {tv : Value} {w w' : World} (h : Below w.heap.size w w') : KeepP tv w w' := fun b hb _ => h.block b hb.lt
theorem KeepP.trans {tv : Value} {w w' w'' : World} (h : KeepP tv w w') (k : KeepP tv w' w'') : KeepP tv w w'' := fun b hb hn => (k b (hb.same (h b hb hn)) hn).trans (h b hb hn)
theorem SK.keep {base mk s m pm cp : Nat} {nx : Int} {tv tv' ov : Value} {st : St} {M : PM} {w w' : World} (hM : MkI base w mk s m pm nx tv' ov st M cp) (h : SK base mk m w w') : KeepP tv w w' := fun b hb _ => h.block b hb.lt (by
  rintro ⟨_, e | ⟨t, ht, q⟩⟩
  · exact hM.notD (t := TP2) (by decide) b (e.elim (fun e => .inl e) fun e => .inr (.inl e)) hb
  · rw [ht] at q
    exact absurd (tyB_one q hb) (by decide))
/-- what comes of a pair -/
def PairPost (base mk s m pm cp : Nat) (nx : Int) (tv : Value) (td : List (Ty × Ty)) (r : PR) (w : World) (e : Ending) (w' : World) : Prop :=
  e = .returned (.int .i64 r.err) ∧ ∃ tv' ov' cp', cp' ≤ cp + 1 ∧ MkI base w' mk s m pm nx tv' ov' r.st r.M cp' ∧ TodoI base w' tv' (r.more ++ td) ∧ KP base mk m pm w w' ∧ KeepP tv w w'
/-- a side of which more is known than which variables are the same -/
structure Closed (Z : Nat → Prop) (w : World) (f : Fact) (sd : Sd) : Prop where
  kd : f.kd = sd.kd
  k0 : f.kd ≠ 0
  nm : f.nm = sd.nm
  pt : f.args.toL = sd.parts
  rd : RdT Z w f.a f.args 0
  ln : f.args.len * 56 ≤ 140737488355328
  sz : f.nm.size ≤ 9223372036854775807
theorem closed_of {base : Nat} {w : World} {x : Ty} {a : Option Addr} {c : Nat} {sdp : Sd} {sd : Side} (h : SideR (ZT base N0 w) w x a c sdp sd) (ho : sdp.isOpn = false) (hr : RdT (ZU base N0 w) w a x.args 0) (hl : x.args.len * 56 ≤ 140737488355328) (hn : x.nm.size ≤ 9223372036854775807) : Closed (ZU base N0 w) w sd.f sdp := by
  cases sdp with
  | typ y =>
    obtain ⟨rfl, rfl, h1, h0⟩ := h
    exact ⟨rfl, h0, rfl, rfl, hr, hl, hn⟩
  | var r f =>
    obtain ⟨h1, h2, h3, h4, h5, h6⟩ := h
    cases f with
    | link r' => cases h5
    | opn l d h => cases ho
    | typ kd nm xs =>
      obtain ⟨e1, e2, e3, e4, e5⟩ := h3
      exact ⟨e1, by rw [e1]; exact e2, e4, by rw [e5, ofVars_toL]; rfl, h4.1.mono fun b hz => .inr hz, h4.2.1, h4.2.2⟩
/-- the row of what waits is another one -/
theorem SetI.tv {base : Nat} {Y : Nat → Prop} {w : World} {mk s m : Nat} {nx : Int} {tv pv ov : Value} {st : St} (h : SetI base Y w mk s m nx tv pv ov st) (v : Value) : SetI base Y (w.setCell ⟨mk, 1, none⟩ v) mk s m nx v pv ov st := by
  have hK : Kept (fun b => b = mk) w (w.setCell ⟨mk, 1, none⟩ v) := Kept.setCell (X := fun b => b = mk) (Kept.refl _ w) (a := ⟨mk, 1, none⟩) (fun _ => rfl) v
  obtain ⟨vs, o1, o2⟩ := h.old
  have hbx : ∀ t, t ≠ TMg → ¬ TyB t w mk := fun t ht => Box.notTyB h.box (fun e => ht e.symm)
  refine ⟨h.box.put 1 v, h.sbox.far (fun e => absurd ((show Box w s TMg _ by rw [← show mk = s from e]; exact h.box).same h.sbox) (by decide)) v, h.kn.kept hK (fun e => h.kn.ne h.box e) (fun b hb => by rw [hb]; exact hbx TT (by decide)), ⟨vs, own_far o1 h.box (by decide) 1 v, ?_⟩, h.bmk, h.bm⟩
  exact o2.frame (fun ad hz => World.cell?_of_block (hK.block _ hz.lt fun e => hbx TT (by decide) (by rw [← e]; exact hz.2.1))) fun b hz => ⟨hz.1, hz.2.1.same (hK.block b hz.lt fun e => hbx TT (by decide) (by rw [← e]; exact hz.2.1)), hz.2.2⟩
abbrev pairA (x y : Ty) (ax : Option Addr) (cx : Nat) (ay : Option Addr) (cy : Nat) : Array Value := #[.int .i64 x.kd, .int .i64 x.n, .string x.nm, .slice ax x.args.len cx, .int .i64 y.kd, .int .i64 y.n, .string y.nm, .slice ay y.args.len cy]
abbrev pairL (x y : Ty) (ax : Option Addr) (cx : Nat) (ay : Option Addr) (cy : Nat) : List Value := [.int .i64 x.kd, .int .i64 x.n, .string x.nm, .slice ax x.args.len cx, .int .i64 y.kd, .int .i64 y.n, .string y.nm, .slice ay y.args.len cy]
def TyR (base : Nat) (w : World) (x : Ty) (a : Option Addr) : Prop := RdT (ZU base N0 w) w a x.args 0 ∧ x.args.len * 56 ≤ 140737488355328 ∧ x.nm.size ≤ 9223372036854775807
/-- a pair more waits -/
theorem todo_push {base mk s m pm cp g5 c5 cx cy n : Nat} {nx : Int} {tv ov : Value} {st : St} {M : PM} {td : List (Ty × Ty)} {x y : Ty} {ax ay : Option Addr} {vs : List Value} {w w3 : World} {o : Obj} (hM : MkI base w mk s m pm nx tv ov st M cp) (hn : n = td.length) (ho : w.ownsRow base TP2 8 tv n vs) (hr : RowT (ZU base N0 w) w vs (flat2 td.reverse))
    (hx : TyR base w x ax) (hy : TyR base w y ay) (hown : w3.ownsRow base TP2 8 (.slice (some ⟨g5, 0, none⟩) (n + 1) c5) (n + 1) (vs ++ pairL x y ax cx ay cy)) (hgrow : (w.alloc o).drew.grownBy w3 tv.ownBlock) :
    MkI base (w3.setCell ⟨mk, 1, none⟩ (.slice (some ⟨g5, 0, none⟩) (n + 1) c5)) mk s m pm nx (.slice (some ⟨g5, 0, none⟩) (n + 1) c5) ov st M cp ∧ TodoI base (w3.setCell ⟨mk, 1, none⟩ (.slice (some ⟨g5, 0, none⟩) (n + 1) c5)) (.slice (some ⟨g5, 0, none⟩) (n + 1) c5) ((x, y) :: td) ∧
      KP base mk m pm w (w3.setCell ⟨mk, 1, none⟩ (.slice (some ⟨g5, 0, none⟩) (n + 1) c5)) ∧ KeepP tv w (w3.setCell ⟨mk, 1, none⟩ (.slice (some ⟨g5, 0, none⟩) (n + 1) c5)) := by
  have hK3 : Kept (fun b => tv.ownBlock = some b) w w3 := (((Kept.refl _ w).alloc o).drew).grown hgrow (fun k e _ => e)
  have hnot : ∀ b, tv.ownBlock = some b → TyB TP2 w b := fun b e => (own_tyB ho e).2
  have hmk : ¬ tv.ownBlock = some mk := fun e => Box.notTyB hM.si.box (by decide) (hnot _ e)
  have hS3 : SetI base N0 w3 mk s m nx tv (.map (some pm)) ov st := hM.si.kept hK3 hmk (fun e => Box.notTyB hM.si.sbox (by decide) (hnot _ e)) (fun e => hM.notD (t := TP2) (by decide) m (.inr (.inl rfl)) (hnot _ e)) (fun b hb => ⟨fun q => absurd (tyB_one (hnot _ hb) q) (by decide), fun q => absurd (tyB_one (hnot _ hb) q) (by decide)⟩)
  have hpmk : pm ≠ mk := hM.pr.nbox hM.si.box
  have hp3 := hM.pr.same (hK3.block pm hM.pr.lt (fun e => pr_notTyB hM.pr (hnot _ e)))
  have hp4 := hp3.same (Below.heap_setCell w3 ⟨mk, 1, none⟩ (.slice (some ⟨g5, 0, none⟩) (n + 1) c5) pm hpmk)
  have hKP : KP base mk m pm w (w3.setCell ⟨mk, 1, none⟩ (.slice (some ⟨g5, 0, none⟩) (n + 1) c5)) :=
    ((((KG.refl base (fun t => t = TCh ∨ t = TP2) (fun b => b = mk ∨ b = m ∨ b = pm) w).alloc o).drew).grown hgrow (fun k e _ => ⟨(own_tyB ho e).1, .inr ⟨TP2, .inr rfl, hnot k e⟩⟩)).setCell (a := ⟨mk, 1, none⟩) hM.si.bmk (fun _ => .inl (.inl rfl)) _
  obtain ⟨z1, z2⟩ := KG.zu (Y := N0) hKP (hM.notD (t := TT) (by decide)) (by decide)
  refine ⟨⟨hS3.tv _, hp4, hM.ne, hM.bp⟩, ⟨vs ++ pairL x y ax cx ay cy, by rw [List.length_cons, ← hn]; exact own_far hown hS3.box (by decide) 1 _, ?_⟩, hKP, fun b hb hn => (Below.heap_setCell _ _ _ _ (fun e => absurd (tyB_one (show TyB TP2 w mk by rw [← show b = mk from e]; exact hb) ⟨_, hM.si.box⟩) (by decide))).trans (hK3.block b hb.lt hn)⟩
  rw [List.reverse_cons, flat2_append]
  have h1 := RowT.snoc (c2 := cx) hx.2.2 hx.2.1 (hx.1.frame (fun b o hz => z1 ⟨b, o, none⟩ hz) z1 z2) (hr.frame (fun b o hz => z1 ⟨b, o, none⟩ hz) z1 z2)
  have h2 := RowT.snoc (c2 := cy) hy.2.2 hy.2.1 (hy.1.frame (fun b o hz => z1 ⟨b, o, none⟩ hz) z1 z2) h1
  rw [List.append_assoc, List.append_assoc] at h2
  exact h2
end Go.Proofs.Ytcaioffdcbjbjaa.Un
