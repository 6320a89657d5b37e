/-
  CONTRACTS of layer parse: guarded bodies are made (grown[Rhs], bodies$3); a right-hand side's function makes it.
-/
import Derived.Test.YtdajihpfedbihaaGreatGK

namespace Go.Proofs.YtdajihpfedbihaaGreat.Pa
open Go.RowKit Mm Tm Pm
set_option linter.unusedVariables false
set_option linter.unusedSimpArgs false
theorem Trh : (Tryz.prog.info? 102).map (fun i => (i.zero, i.size, i.bytes)) = some (some (.agg #[.slice none 0 0, .int .i64 0, .string ByteArray.empty, .int .i64 0, .slice none 0 0, .slice none 0 0, .slice none 0 0, .slice none 0 0, .int .i64 0, .int .i64 0]), 10, 168) := by kernel_rfl
abbrev TRhs : TypeId := 84
theorem R.one_gd {pb : Nat} {Z : Nat → Prop} {w : World} {t : Gd} {vs : List Value} (h : R pb Z w (.gd t) vs) : ∃ v, vs = [v] ∧ v.oneCell' = true := by cases h <;> exact ⟨_, rfl, rfl⟩
def MakesRh (N pb B E : Nat) (fv v : Value) (r : ExR) (p' : Pp) (w : World) : Prop :=
  ∃ k cap, v = .func (.func k) #[] cap ∧ Enters Tryz.prog k ∧ Calls Tryz.prog k cap w (RhsPost N pb B E fv r p' w)
theorem guards_cons {find : Name → Fx} {resolve : List Fx → List (Nat × Nat) × Nat × Int} {d : Nat} {f : Ft} {a : Gd} {l : List Gd} {r : List ExR × Ft} (h : growGuards find resolve (d + 1) f (a :: l) = some r) :
    ∃ g b e f1 x f2 es f3, a = .mk g b ∧ grow find resolve d f g = some (e, f1) ∧ grow find resolve d f1 b = some (x, f2) ∧ growGuards find resolve d f2 l = some (es, f3) ∧ r = (.mk [e] x :: es, f3) := by
  obtain ⟨g, b⟩ := a
  rw [growGuards] at h
  obtain ⟨⟨e, f1⟩, h1, h2⟩ := Option.bind_eq_some_iff.1 h
  dsimp only at h2
  obtain ⟨⟨x, f2⟩, h3, h4⟩ := Option.bind_eq_some_iff.1 h2
  dsimp only at h4
  obtain ⟨⟨es, f3⟩, h5, h6⟩ := Option.bind_eq_some_iff.1 h4
  exact ⟨g, b, e, f1, x, f2, es, f3, rfl, h1, h3, h5, (Option.some.inj h6).symm⟩
theorem gd_makes {find : Name → Fx} {resolve : List Fx → List (Nat × Nat) × Nat × Int} {F : World → Prop} {N pb B E d : Nat} {fv v : Value} {p0 : Pp} {g b : Lt} {e x : Ex} {f f1 f' : Ft} (w : World)
    (hF : ∀ w w', F w → KP pb w w' → F w') (ih : GrowC find resolve F N pb B E fv p0 d) (hg1 : grow find resolve d f g = some (e, f1)) (hg2 : grow find resolve d f1 b = some (x, f')) (hr : R pb (fun b => B ≤ b ∧ b < E) w (.gd (.mk g b)) [v])
    (hps : PS N w pb (pf p0 f) fv) (hf : F w) (hpB : pb < B) (hNB : N ≤ B) (hBE : B ≤ E) (hEw : E ≤ w.heap.size) : MakesRh N pb B E fv v (.mk [e] x) (pf p0 f') w := by
  cases hr with
  | gd c1 c2 r1 r2 => exact ⟨_, _, rfl, enters_of Tryz.func118 (by kernel_rfl) rfl, bodies2_any w hF ih hg1 hg2 c1 c2 r1 r2 hps hf hpB hNB hBE hEw⟩
structure GwG (find : Name → Fx) (resolve : List Fx → List (Nat × Nat) × Nat × Int) (F : World → Prop) (N pb B E : Nat) (fv : Value) (p0 : Pp) (L : List Gd) (es : List ExR) (f' : Ft) (w : World) (D k : Nat) (wr : World) (sv : Value) (es1 : List ExR) (vs : List Value) (fk : Ft) : Prop where
  run : ∃ d es2, d ≤ D ∧ growGuards find resolve d fk (L.drop k) = some (es2, f') ∧ es = es1 ++ es2
  own : OwnE EIt.rhs TRh 10 w.heap.size (Zn B E w.heap.size) wr sv es1 vs
  len : es1.length = k
  le : k ≤ L.length
  ps : PS N wr pb (pf p0 fk) fv
  kp : KP pb w wr
  hf : F wr
set_option maxRecDepth 100000 in
set_option maxHeartbeats 8000000 in
theorem grownR_any {find : Name → Fx} {resolve : List Fx → List (Nat × Nat) × Nat × Int} {F : World → Prop} {N pb B E d : Nat} {fv sv : Value} {p0 : Pp} {L : List Gd} {es : List ExR} {f f' : Ft} {C : Nat → List Value} (w : World)
    (hF : ∀ w w', F w → KP pb w w' → F w') (ih : ∀ d', d' < d → GrowC find resolve F N pb B E fv p0 d') (hg : growGuards find resolve d f L = some (es, f'))
    (hrow : RowZ (fun b => B ≤ b ∧ b < E) w sv L.length 1 C) (hel : ∀ i t, L[i]? = some t → R pb (fun b => B ≤ b ∧ b < E) w (.gd t) (C i)) (hps : PS N w pb (pf p0 f) fv) (hf : F w) (hpB : pb < B) (hNB : N ≤ B) (hBw : B ≤ E) (hEw : E ≤ w.heap.size) (hlen : L.length ≤ 100000001) :
    Calls Tryz.prog 120 #[sv] w (GrownPost EIt.rhs 10 N pb B E fv es (pf p0 f') w) := by
  obtain ⟨i0, hi0, hi1, hi2, hi3⟩ := info_parts Trh
  have hrow' := hrow
  obtain ⟨a0, c0, rfl, hc0, hrd⟩ := hrow
  have HRD := Lib.hid hrow'
  have HEL := Lib.hid hel
  have HIH := Lib.hid ih
  have HFF := Lib.hid hF
  have HPB := Lib.hid hpB
  have HNB := Lib.hid hNB
  have HBW := Lib.hid hBw
  have HEW := Lib.hid hEw
  have HLN := Lib.hid hlen
  have HF0 := Lib.hid hf
  have HNW := Lib.hid hps.size
  have HST := Lib.hid (GwG.mk (L := L) (es := es) (w := w) (D := d) (es1 := []) ⟨d, es, Nat.le_refl _, hg, rfl⟩ (OwnE.nil w.heap.size (Zn B E w.heap.size) w) rfl (Nat.zero_le _) hps (Kept.refl (fun b => b = pb) w) hf)
  clear hrow' hrd hel ih hF hpB hNB hBw hEw hlen hg hps hf
  go_enter Tryz.func120, Tryz.ntmps120
  go_wp2_with fail
  go_loopg [3, 8] L.length (fun dd v3 v8 wr => ∃ (k : Nat) (es1 : List ExR) (vs : List Value) (fk : Ft), k + dd = L.length ∧ v8 = .int .i64 k ∧ GwG find resolve F N pb B E fv p0 L es f' w d k wr v3 es1 vs fk)
  case atStart => exact ⟨0, _, _, _, by omega, rfl, HST.out⟩
  case round =>
    obtain ⟨k, es1, vs, fk, hk, rfl, hI⟩ := hrel
    obtain ⟨a5, c5, rfl⟩ := hI.own.slice
    have HI := Lib.hid hI
    have HK := Lib.hid hk
    have hkle : k ≤ L.length := by omega
    have hll := HLN.out
    by_cases hlt : k < L.length
    · have hlt' : (k : Int) < L.length := by omega
      obtain ⟨d2, es2, hd2, hg2, heq⟩ := hI.run
      rw [List.drop_eq_getElem_cons hlt] at hg2
      obtain ⟨d3, rfl⟩ : ∃ d3, d2 = d3 + 1 := by
        cases d2 with
        | zero => simp [growGuards] at hg2
        | succ d3 => exact ⟨d3, rfl⟩
      obtain ⟨gg, bb, ee, fa, xx, f1, es3, f2, hLk, k1, k1b, k2, k3⟩ := guards_cons hg2
      obtain ⟨e, he⟩ : ∃ e : ExR, e = .mk [ee] xx := ⟨_, rfl⟩
      have hrk := HEL.out k L[k] (List.getElem?_eq_getElem hlt)
      obtain ⟨vk, hvk, _⟩ := hrk.one_gd
      rw [hvk, hLk] at hrk
      have hrk' := hrk.kept hI.kp (fun b hz hx _ => by have hx : b = pb := hx; have := HPB.out; have := hz.1; omega)
      obtain ⟨kf, cap, rfl, egk, hcall⟩ := gd_makes wr HFF.out (HIH.out d3 (by omega)) k1 k1b hrk' hI.ps hI.hf HPB.out HNB.out HBW.out (Nat.le_trans HEW.out hI.kp.size)
      rw [← he] at hcall k3
      have HCALL := Lib.hid hcall
      have eg2 : ∀ args w, (callFunc kf args).run Tryz.prog w = .ok (.enter kf args) w := egk
      have HK2 := Lib.hid (show growGuards find resolve d3 f1 (L.drop (k + 1)) = some (es3, f2) from k2)
      have HK3 := Lib.hid (show es = es1 ++ (e :: es3) ∧ f' = f2 ∧ d3 ≤ d from by
        injection k3 with q1 q2
        exact ⟨by rw [heq, q1], q2, by omega⟩)
      have hrow2 := (HRD.out.frame hI.kp.size (fun b hz hl => hI.kp.block b hl fun x => by have x : b = pb := x; have := HPB.out; have := hz.1; omega) (fun b hz _ => hz) : RowZ (fun b => B ≤ b ∧ b < E) wr (.slice a0 L.length c0) L.length 1 C)
      obtain ⟨aa, cc, hq, _, hrd2⟩ := hrow2
      injection hq with hq1 hq2 hq3
      subst hq1 hq3
      obtain ⟨g, rfl, hgz, hgl, hcell⟩ := hrd2 k hlt
      have x0 := hcell 0 _ (by rw [hvk]; rfl)
      rw [Nat.mul_one, Nat.add_zero] at x0
      clear hI hk hd2 hg2 heq k1 k1b hLk k2 k3 hrk hrk' hvk hcall hrd2 hcell
      go_wp2_with fail
      refine HCALL.out.mono ?_
      rintro e' w5 ⟨ag, ng, cg, kd, nm, n, a1, n1, c1, a2, n2, c2, a3, n3, c3, a4, n4, c4, ln, col, rfl, hx5, hp5, hk5⟩
      have HX5 := Lib.hid hx5
      have HP5 := Lib.hid hp5
      have HK5 := Lib.hid hk5
      have HO5 := Lib.hid (HI.out.own.kept hk5 (fun b e _ => by have e : b = pb := e; have := HPB.out; have := HBW.out; have := HEW.out; exact ⟨by omega, fun q => by have := q.1; omega⟩))
      have hsB : w.heap.size ≤ w5.heap.size := Nat.le_trans HI.out.kp.size hk5.size
      clear hx5 hp5 hk5
      obtain ⟨ho5, _⟩ := id HO5.out
      have HW5 := Lib.hid ho5
      have hesl := HI.out.len
      have HESL := Lib.hid hesl
      have hbk : es1.length + 1 ≤ 100000001 := by omega
      clear ho5 hesl
      go_wp2_with (at_builtin; refine wpList_append_own_at _ rfl _ _ TRhs rfl w.heap.size TRh i0 _ 10 168 Tryz.underlying84 hi0 hi1 hi2 hi3 rfl (by decide) _ _ _ rfl (HW5.out.alloc _) ⟨w5.heap.size, 0, none⟩ 1 1 [.slice ag ng cg, .int .i64 kd, .string (toB nm), .int .i64 n, .slice a1 n1 c1, .slice a2 n2 c2, .slice a3 n3 c3, .slice a4 n4 c4, .int .i64 ln, .int .i64 col] rfl rfl (news_new w5 (rhCells ag ng cg kd nm n a1 n1 c1 a2 n2 c2 a3 n3 c3 a4 n4 c4 ln col) TRh) (fun u hu => by simp only [List.mem_cons, List.not_mem_nil, or_false] at hu; rcases hu with rfl | rfl | rfl | rfl | rfl | rfl | rfl | rfl | rfl | rfl <;> rfl) (by unfold maxLen; omega) (by omega) (by simp; omega) ?_)
      intro v7 w7 hown hgrow _ hat
      have HO7 := Lib.hid (OwnE.more (t := e) (new := [.slice ag ng cg, .int .i64 kd, .string (toB nm), .int .i64 n, .slice a1 n1 c1, .slice a2 n2 c2, .slice a3 n3 c3, .slice a4 n4 c4, .int .i64 ln, .int .i64 col]) HO5.out rfl (HX5.out.mono fun b hz _ => ⟨⟨hz.1, hz.2.imp id fun q => Nat.le_trans HI.out.kp.size q⟩, fun q => by have := HI.out.own.own.lt b q; have := HEW.out; rcases hz.2 with z | z <;> omega⟩) hown hgrow (by rwa [World.size_alloc]))
      have HK7 := Lib.hid (((Kept.refl (fun b => (Value.slice a5 es1.length c5).ownBlock = some b) w5).alloc (.cells (rhCells ag ng cg kd nm n a1 n1 c1 a2 n2 c2 a3 n3 c3 a4 n4 c4 ln col) TRh)).grown hgrow (fun k hk _ => hk))
      obtain ⟨a7, c7, rfl⟩ := own_slice hown
      clear hown hgrow hat
      go_wp2_with fail
      go_roundg (L.length - (k + 1))
      case measure => have := HK.out; omega
      case rel =>
        have hge : ∀ b, (Value.slice a5 es1.length c5).ownBlock = some b → w.heap.size ≤ b := fun b e => (HI.out.own.own.lt b e).1
        have hkp7 : KP pb w w7 := kept_new (HI.out.kp.trans HK5.out) HK7.out (fun b e q => by have := hge b e; omega)
        have h3 := HK3.out
        refine ⟨k + 1, es1 ++ [e], _, f1, by have := HK.out; omega, by go_num, ⟨⟨d3, es3, h3.2.2, by rw [h3.2.1]; exact HK2.out, by rw [h3.1, List.append_assoc]; rfl⟩, HO7.out, by rw [List.length_append, List.length_singleton, HESL.out], by omega, HP5.out.frame HK7.out (fun b e => Nat.le_trans HNW.out (hge b e)), hkp7, HFF.out _ _ HF0.out hkp7⟩⟩
    · have hge : ¬ (k : Int) < L.length := by omega
      obtain ⟨d2, es2, hd2, hg2, heq⟩ := hI.run
      rw [List.drop_eq_nil_of_le (by omega)] at hg2
      have hend : es = es1 ∧ f' = fk := by
        cases d2 with
        | zero => simp [growGuards] at hg2
        | succ d3 =>
          rw [growGuards] at hg2
          have := Option.some.inj hg2
          injection this with q1 q2
          exact ⟨by rw [heq, ← q1, List.append_nil], q2.symm⟩
      have HEND := Lib.hid hend
      clear hI hk hd2 hg2 heq hend
      go_wp2_with fail
      go_ret
      rw [HEND.out.1, HEND.out.2]
      exact ⟨a5, c5, _, rfl, HI.out.own.rowz (fun b hb => ⟨by have := HBW.out; have := HEW.out; omega, .inr hb⟩), fun i t ht => HI.out.own.ev ht, HI.out.ps, HI.out.kp⟩
set_option maxRecDepth 100000 in
set_option maxHeartbeats 8000000 in
theorem bodies3_any {find : Name → Fx} {resolve : List Fx → List (Nat × Nat) × Nat × Int} {F : World → Prop} {N pb B E d : Nat} {fv : Value} {p0 : Pp} {L : List Gd} {es : List ExR} {f f' : Ft} {bs : Nat} {sp : Value} {C : Nat → List Value} (w : World)
    (hF : ∀ w w', F w → KP pb w w' → F w') (ih : ∀ d', d' < d → GrowC find resolve F N pb B E fv p0 d') (hg : growGuards find resolve d f L = some (es, f'))
    (hbs : Cap (fun b => B ≤ b ∧ b < E) w bs 182 #[sp]) (hrow : RowZ (fun b => B ≤ b ∧ b < E) w sp L.length 1 C) (hel : ∀ i t, L[i]? = some t → R pb (fun b => B ≤ b ∧ b < E) w (.gd t) (C i))
    (hps : PS N w pb (pf p0 f) fv) (hf : F w) (hpB : pb < B) (hNB : N ≤ B) (hBE : B ≤ E) (hEw : E ≤ w.heap.size) (hlen : L.length ≤ 100000001) :
    Calls Tryz.prog 119 #[ptr bs] w (GrownPost EIt.rhs 10 N pb B E fv es (pf p0 f') w) := by
  have HG := Lib.hid (grownR_any w hF ih hg hrow hel hps hf hpB hNB hBE hEw hlen)
  have x0 := hbs.2.cell 0
  obtain ⟨ap, cp, rfl, _⟩ := hrow
  clear hF ih hg hbs hel hps hf hpB hNB hBE hEw hlen
  go_enter Tryz.func119, Tryz.ntmps119
  go_wp2_with fail
  refine HG.out.mono ?_
  rintro e w3 ⟨a3, c3, C3, rfl, hr3, he3, hp3, hk3⟩
  have H3 := Lib.hid (And.intro hr3 (And.intro he3 (And.intro hp3 hk3)))
  clear hr3 he3 hp3 hk3
  go_wp2_with fail
  go_ret
  exact ⟨a3, c3, C3, rfl, H3.out.1, H3.out.2.1, H3.out.2.2.1, H3.out.2.2.2⟩
/-- a function in memory that makes a list when it is called -/
def MakesL {α : Type} (g : α → EIt) (k N pb B E : Nat) (fv v : Value) (l : List α) (p' : Pp) (w : World) : Prop :=
  ∃ kf cap, v = .func (.func kf) #[] cap ∧ Enters Tryz.prog kf ∧ Calls Tryz.prog kf cap w (GrownPost g k N pb B E fv l p' w)
theorem rh_makes {find : Name → Fx} {resolve : List Fx → List (Nat × Nat) × Nat × Int} {F : World → Prop} {N pb B E d D : Nat} {fv v : Value} {p0 : Pp} {r : Rh} {l : List ExR} {f f' : Ft} (w : World) (hd : d ≤ D)
    (hF : ∀ w w', F w → KP pb w w' → F w') (ih : ∀ d', d' < D → GrowC find resolve F N pb B E fv p0 d') (hg : growRhs find resolve d f r = some (l, f')) (hr : R pb (fun b => B ≤ b ∧ b < E) w (.rh r) [v])
    (hps : PS N w pb (pf p0 f) fv) (hf : F w) (hpB : pb < B) (hNB : N ≤ B) (hBE : B ≤ E) (hEw : E ≤ w.heap.size) : MakesL EIt.rhs 10 N pb B E fv v l (pf p0 f') w := by
  cases d with
  | zero => simp [growRhs] at hg
  | succ d =>
    cases hr with
    | one c1 r1 =>
      rw [growRhs] at hg
      obtain ⟨⟨e, f1⟩, h1, h2⟩ := Option.bind_eq_some_iff.1 hg
      have h3 := Option.some.inj h2
      injection h3 with q1 q2
      subst q1 q2
      exact ⟨_, _, rfl, enters_of Tryz.func117 (by kernel_rfl) rfl, bodies1_any w (ih d (by omega)) h1 c1 r1 hps hf hpB hNB hBE hEw⟩
    | guards n1 c1 rw_ r1 =>
      rw [growRhs] at hg
      exact ⟨_, _, rfl, enters_of Tryz.func119 (by kernel_rfl) rfl, bodies3_any w hF (fun d' h => ih d' (by omega)) hg c1 rw_ r1 hps hf hpB hNB hBE hEw (by omega)⟩
end Go.Proofs.YtdajihpfedbihaaGreat.Pa
/-
  CONTRACT of layer parse: an alternative is made (cases$1$1).
-/
namespace Go.Proofs.YtdajihpfedbihaaGreat.Pa
open Go.RowKit Mm Tm Pm
set_option linter.unusedVariables false
set_option linter.unusedSimpArgs false
abbrev TAl : TypeId := 86
abbrev TFRr : TypeId := 138
abbrev alCells (kd : Int) (nm : ByteArray) (n : Int) (a : Option Addr) (m c : Nat) (ln col : Int) (ar : Option Addr) (nr cr : Nat) : Array Value :=
  #[.int .i64 kd, .string nm, .int .i64 n, .slice a m c, .int .i64 ln, .int .i64 col, .slice ar nr cr]
abbrev zAl : Obj := .cells #[.int .i64 0, .string ByteArray.empty, .int .i64 0, .slice none 0 0, .int .i64 0, .int .i64 0, .slice none 0 0] TAl
def AltPost (N pb B E : Nat) (fv : Value) (x : Pm.Pt) (l : List ExR) (p' : Pp) (w : World) (e : Ending) (w' : World) : Prop :=
  ∃ a c ar cr, e = .returned (.agg (alCells x.kd x.nm x.n a x.args.len c x.ln x.col ar l.length cr)) ∧
    EV (Zn B E w.heap.size) w' (.al (.mk x l)) [.int .i64 x.kd, .string x.nm, .int .i64 x.n, .slice a x.args.len c, .int .i64 x.ln, .int .i64 x.col, .slice ar l.length cr] ∧ PS N w' pb p' fv ∧ KP pb w w'
section
variable {find : Name → Fx} {resolve : List Fx → List (Nat × Nat) × Nat × Int} {F : World → Prop} {N pb B E d : Nat} {fv : Value} {p0 : Pp}
set_option maxRecDepth 100000 in
set_option maxHeartbeats 8000000 in
theorem cases11_any {D : Nat} {x : Pm.Pt} {r : Rh} {l : List ExR} {f f' : Ft} {bp br : Nat} {a : Option Addr} {c : Nat} {vr : Value} (w : World) (hd : d ≤ D)
    (hF : ∀ w w', F w → KP pb w w' → F w') (ih : ∀ d', d' < D → GrowC find resolve F N pb B E fv p0 d') (hg : growRhs find resolve d f r = some (l, f'))
    (hbp : Cap (fun b => B ≤ b ∧ b < E) w bp TPt #[.int .i64 x.kd, .string x.nm, .int .i64 x.n, .slice a x.args.len c, .int .i64 x.ln, .int .i64 x.col]) (hbr : Cap (fun b => B ≤ b ∧ b < E) w br TFRr #[vr])
    (hrd : RdP (fun b => (B ≤ b ∧ b < E) ∧ b < w.heap.size) w a x.args 0) (hn1 : x.nm.size ≤ 9223372036854775807) (hn2 : x.args.len * 72 ≤ 140737488355328) (hel : R pb (fun b => B ≤ b ∧ b < E) w (.rh r) [vr])
    (hps : PS N w pb (pf p0 f) fv) (hf : F w) (hpB : pb < B) (hNB : N ≤ B) (hBE : B ≤ E) (hEw : E ≤ w.heap.size) :
    Calls Tryz.prog 148 #[ptr bp, ptr br] w (AltPost N pb B E fv x l (pf p0 f') w) := by
  have hk0 : KP pb w (w.alloc zAl).drew := ((Kept.refl (fun b => b = pb) w).alloc zAl).drew
  have hz0 : (w.alloc zAl).heap.size = w.heap.size + 1 := by simp
  obtain ⟨kf, cap, rfl, egk, hcall⟩ := rh_makes (w.alloc zAl).drew hd hF ih hg (hel.kp hk0 hpB) (hps.below (((Below.refl w.heap.size w).alloc (Nat.le_refl _) zAl).drew)) (hF _ _ hf hk0) hpB hNB hBE (by show E ≤ (w.alloc zAl).heap.size; omega)
  have HG := Lib.hid hcall
  have eg2 : ∀ args w, (callFunc kf args).run Tryz.prog w = .ok (.enter kf args) w := egk
  have HBP := Lib.hid (hbp.kp hk0 hpB)
  have HBR := Lib.hid (hbr.kp hk0 hpB)
  have HX0 := Lib.hid (Box.new w #[.int .i64 0, .string ByteArray.empty, .int .i64 0, .slice none 0 0, .int .i64 0, .int .i64 0, .slice none 0 0] TAl)
  have HPB := Lib.hid hpB
  have HBE := Lib.hid hBE
  have HEW := Lib.hid hEw
  have HNW := Lib.hid hps.size
  have HK0 := Lib.hid hk0
  have HRD := Lib.hid hrd
  have HN1 := Lib.hid hn1
  have HN2 := Lib.hid hn2
  have HNE := Lib.hid (show w.heap.size ≠ pb by omega)
  obtain ⟨y0, y1, y2, y3, y4, y5⟩ := cells6 HBP.out.2
  have y6 : (w.alloc zAl).drew.cell? ⟨br, 0, none⟩ = some (.func (.func kf) #[] cap) := HBR.out.2.cell 0
  clear hF ih hg hbp hbr hel hps hf hpB hNB hBE hEw hk0 hcall egk hrd hn1 hn2
  go_enter Tryz.func148, Tryz.ntmps148
  go_wp2_with fail
  go_region_held3 (fun w' => w'.cell? ⟨bp, 0, none⟩ = some (.int .i64 x.kd) ∧ w'.cell? ⟨bp, 1, none⟩ = some (.string x.nm) ∧ w'.cell? ⟨bp, 2, none⟩ = some (.int .i64 x.n) ∧ w'.cell? ⟨bp, 3, none⟩ = some (.slice a x.args.len c) ∧ w'.cell? ⟨bp, 4, none⟩ = some (.int .i64 x.ln) ∧ w'.cell? ⟨bp, 5, none⟩ = some (.int .i64 x.col) ∧ w'.cell? ⟨br, 0, none⟩ = some (.func (.func kf) #[] cap))
    (first
      | exact ⟨y0, y1, y2, y3, y4, y5, y6⟩
      | exact ⟨m0, m1, m2, m3, m4, m5, m6⟩
      | (rw [hV]; exact ⟨o0, o1, o2, o3, o4, o5, o6⟩)
      | exact ⟨o0, o1, o2, o3, o4, o5, o6⟩)
    (first
      | (go_at_fn kf; refine HG.out.mono ?_; rintro e' w3 ⟨a3, c3, C3, rfl, hr3, he3, hp3, hk3⟩; have hbp3 := HBP.out.kp hk3 HPB.out; have hbr3 := HBR.out.kp hk3 HPB.out; obtain ⟨m0, m1, m2, m3, m4, m5⟩ := cells6 hbp3.2; have m6 := hbr3.2.cell 0; have hx3 := hk3.box HX0.out.drew HNE.out; obtain ⟨z0, z1, z2, z3, z4, z5, z6⟩ := hx3.cells7; obtain ⟨f0, f1, f2, f3, f4, f5, f6⟩ := hx3.free7; obtain ⟨V, hV, hvb, hvw⟩ := hx3.write7 (.int .i64 x.kd) (.string x.nm) (.int .i64 x.n) (.slice a x.args.len c) (.int .i64 x.ln) (.int .i64 x.col) (.slice a3 l.length c3); have hbp5 := hbp3.2.wrote hvw (by have := hbp3.1.2; have := HEW.out; omega); have hbr5 := hbr3.2.wrote hvw (by have := hbr3.1.2; have := HEW.out; omega); obtain ⟨o0, o1, o2, o3, o4, o5⟩ := cells6 hbp5; have o6 := hbr5.cell 0; have HR3 := Lib.hid hr3; have HE3 := Lib.hid he3; have HP3 := Lib.hid hp3; have HK3 := Lib.hid hk3; have HVB := Lib.hid hvb; have HVW := Lib.hid hvw; clear hr3 he3 hp3 hk3 hbp3 hbr3 hx3 hbp5 hbr5 hvb hvw))
  go_wp2_with fail
  obtain ⟨v0, v1, v2, v3, v4, v5, v6⟩ := HVB.out.cells7
  refine bodyPost_ret (v := .agg (alCells x.kd x.nm x.n a x.args.len c x.ln x.col a3 l.length c3)) (by simp [results, Tryz.results148, go_sem, v0, v1, v2, v3, v4, v5, v6]) rfl ?_
  have hE := HEW.out
  have hk : KP pb w V := kept_wrote (HK0.out.trans HK3.out) HVW.out (fun q => absurd q (Nat.lt_irrefl _))
  have hs : (w.alloc zAl).drew.heap.size = w.heap.size + 1 := by show (w.alloc zAl).heap.size = _; simp
  have hr := HR3.out
  have he := HE3.out
  rw [hs] at hr he
  have hpb := HPB.out
  exact ⟨a, c, a3, c3, rfl, .al (rdP_frame HRD.out hk.size (fun b hz hl => hk.block b hl fun e => by have e : b = pb := e; have := hz.1; omega) fun b hz _ => ⟨hz.1, .inl hz.2⟩) HN1.out HN2.out (hr.boxed HVW.out hE) (fun i e h => (he i e h).boxed HVW.out hE), HP3.out.frame (X := fun b => b = w.heap.size) (kept_wrote (Kept.refl (fun b => b = w.heap.size) _) HVW.out fun _ => rfl) (fun b e => by have := HNW.out; omega), hk⟩
/-- an alternative's function makes it -/
def MakesAl (N pb B E : Nat) (fv v : Value) (x : Pm.Pt) (l : List ExR) (p' : Pp) (w : World) : Prop :=
  ∃ k cap, v = .func (.func k) #[] cap ∧ Enters Tryz.prog k ∧ Calls Tryz.prog k cap w (AltPost N pb B E fv x l p' w)
theorem al_makes {D : Nat} {x : Pm.Pt} {r : Rh} {l : List ExR} {f f' : Ft} {v : Value} (w : World) (hd : d ≤ D)
    (hF : ∀ w w', F w → KP pb w w' → F w') (ih : ∀ d', d' < D → GrowC find resolve F N pb B E fv p0 d') (hg : growRhs find resolve d f r = some (l, f')) (hr : R pb (fun b => B ≤ b ∧ b < E) w (.al (.mk x r)) [v])
    (hps : PS N w pb (pf p0 f) fv) (hf : F w) (hpB : pb < B) (hNB : N ≤ B) (hBE : B ≤ E) (hEw : E ≤ w.heap.size) : MakesAl N pb B E fv v x l (pf p0 f') w := by
  cases hr with
  | al c1 c2 r1 n1 n2 r2 => exact ⟨_, _, rfl, enters_of Tryz.func148 (by kernel_rfl) rfl, cases11_any w hd hF ih hg c1 c2 r1 n1 n2 r2 hps hf hpB hNB hBE hEw⟩
end
end Go.Proofs.YtdajihpfedbihaaGreat.Pa
/-
  CONTRACTS of layer parse: alternatives are made (grown[Alt]).
-/
namespace Go.Proofs.YtdajihpfedbihaaGreat.Pa
open Go.RowKit Mm Tm Pm
set_option linter.unusedVariables false
set_option linter.unusedSimpArgs false
theorem Tal : (Tryz.prog.info? 86).map (fun i => (i.zero, i.size, i.bytes)) = some (some (.agg #[.int .i64 0, .string ByteArray.empty, .int .i64 0, .slice none 0 0, .int .i64 0, .int .i64 0, .slice none 0 0]), 7, 96) := by kernel_rfl
abbrev TAls : TypeId := 29
theorem R.one_al {pb : Nat} {Z : Nat → Prop} {w : World} {t : Al} {vs : List Value} (h : R pb Z w (.al t) vs) : ∃ v, vs = [v] ∧ v.oneCell' = true := by cases h <;> exact ⟨_, rfl, rfl⟩
theorem alts_cons {find : Name → Fx} {resolve : List Fx → List (Nat × Nat) × Nat × Int} {d : Nat} {f : Ft} {a : Al} {l : List Al} {r : List ExA × Ft} (h : growAlts find resolve (d + 1) f (a :: l) = some r) :
    ∃ x rh e f1 es f2, a = .mk x rh ∧ growRhs find resolve d f rh = some (e, f1) ∧ growAlts find resolve d f1 l = some (es, f2) ∧ r = (.mk x e :: es, f2) := by
  obtain ⟨x, rh⟩ := a
  rw [growAlts] at h
  obtain ⟨⟨e, f1⟩, h1, h2⟩ := Option.bind_eq_some_iff.1 h
  dsimp only at h2
  obtain ⟨⟨es, f2⟩, h3, h4⟩ := Option.bind_eq_some_iff.1 h2
  exact ⟨x, rh, e, f1, es, f2, rfl, h1, h3, (Option.some.inj h4).symm⟩
structure GwA (find : Name → Fx) (resolve : List Fx → List (Nat × Nat) × Nat × Int) (F : World → Prop) (N pb B E : Nat) (fv : Value) (p0 : Pp) (L : List Al) (es : List ExA) (f' : Ft) (w : World) (D k : Nat) (wr : World) (sv : Value) (es1 : List ExA) (vs : List Value) (fk : Ft) : Prop where
  run : ∃ d es2, d ≤ D ∧ growAlts find resolve d fk (L.drop k) = some (es2, f') ∧ es = es1 ++ es2
  own : OwnE EIt.al TAl 7 w.heap.size (Zn B E w.heap.size) wr sv es1 vs
  len : es1.length = k
  le : k ≤ L.length
  ps : PS N wr pb (pf p0 fk) fv
  kp : KP pb w wr
  hf : F wr
set_option maxRecDepth 100000 in
set_option maxHeartbeats 8000000 in
theorem grownA_any {find : Name → Fx} {resolve : List Fx → List (Nat × Nat) × Nat × Int} {F : World → Prop} {N pb B E d : Nat} {fv sv : Value} {p0 : Pp} {L : List Al} {es : List ExA} {f f' : Ft} {C : Nat → List Value} (w : World)
    (hF : ∀ w w', F w → KP pb w w' → F w') (ih : ∀ d', d' < d → GrowC find resolve F N pb B E fv p0 d') (hg : growAlts find resolve d f L = some (es, f'))
    (hrow : RowZ (fun b => B ≤ b ∧ b < E) w sv L.length 1 C) (hel : ∀ i t, L[i]? = some t → R pb (fun b => B ≤ b ∧ b < E) w (.al t) (C i)) (hps : PS N w pb (pf p0 f) fv) (hf : F w) (hpB : pb < B) (hNB : N ≤ B) (hBw : B ≤ E) (hEw : E ≤ w.heap.size) (hlen : L.length ≤ 100000001) :
    Calls Tryz.prog 150 #[sv] w (GrownPost EIt.al 7 N pb B E fv es (pf p0 f') w) := by
  obtain ⟨i0, hi0, hi1, hi2, hi3⟩ := info_parts Tal
  have hrow' := hrow
  obtain ⟨a0, c0, rfl, hc0, hrd⟩ := hrow
  have HRD := Lib.hid hrow'
  have HEL := Lib.hid hel
  have HIH := Lib.hid ih
  have HFF := Lib.hid hF
  have HPB := Lib.hid hpB
  have HNB := Lib.hid hNB
  have HBW := Lib.hid hBw
  have HEW := Lib.hid hEw
  have HLN := Lib.hid hlen
  have HF0 := Lib.hid hf
  have HNW := Lib.hid hps.size
  have HST := Lib.hid (GwA.mk (L := L) (es := es) (w := w) (D := d) (es1 := []) ⟨d, es, Nat.le_refl _, hg, rfl⟩ (OwnE.nil w.heap.size (Zn B E w.heap.size) w) rfl (Nat.zero_le _) hps (Kept.refl (fun b => b = pb) w) hf)
  clear hrow' hrd hel ih hF hpB hNB hBw hEw hlen hg hps hf
  go_enter Tryz.func150, Tryz.ntmps150
  go_wp2_with fail
  go_loopg [3, 8] L.length (fun dd v3 v8 wr => ∃ (k : Nat) (es1 : List ExA) (vs : List Value) (fk : Ft), k + dd = L.length ∧ v8 = .int .i64 k ∧ GwA find resolve F N pb B E fv p0 L es f' w d k wr v3 es1 vs fk)
  case atStart => exact ⟨0, _, _, _, by omega, rfl, HST.out⟩
  case round =>
    obtain ⟨k, es1, vs, fk, hk, rfl, hI⟩ := hrel
    obtain ⟨a5, c5, rfl⟩ := hI.own.slice
    have HI := Lib.hid hI
    have HK := Lib.hid hk
    have hkle : k ≤ L.length := by omega
    have hll := HLN.out
    by_cases hlt : k < L.length
    · have hlt' : (k : Int) < L.length := by omega
      obtain ⟨d2, es2, hd2, hg2, heq⟩ := hI.run
      rw [List.drop_eq_getElem_cons hlt] at hg2
      obtain ⟨d3, rfl⟩ : ∃ d3, d2 = d3 + 1 := by
        cases d2 with
        | zero => simp [growAlts] at hg2
        | succ d3 => exact ⟨d3, rfl⟩
      obtain ⟨xx, rr, ll, f1, es3, f2, hLk, k1, k2, k3⟩ := alts_cons hg2
      obtain ⟨e, he⟩ : ∃ e : ExA, e = .mk xx ll := ⟨_, rfl⟩
      have hrk := HEL.out k L[k] (List.getElem?_eq_getElem hlt)
      obtain ⟨vk, hvk, _⟩ := hrk.one_al
      rw [hvk, hLk] at hrk
      have hrk' := hrk.kept hI.kp (fun b hz hx _ => by have hx : b = pb := hx; have := HPB.out; have := hz.1; omega)
      obtain ⟨kf, cap, rfl, egk, hcall⟩ := al_makes wr (show d3 ≤ d by omega) HFF.out HIH.out k1 hrk' hI.ps hI.hf HPB.out HNB.out HBW.out (Nat.le_trans HEW.out hI.kp.size)
      rw [← he] at k3
      have HCALL := Lib.hid hcall
      have eg2 : ∀ args w, (callFunc kf args).run Tryz.prog w = .ok (.enter kf args) w := egk
      have HK2 := Lib.hid (show growAlts find resolve d3 f1 (L.drop (k + 1)) = some (es3, f2) from k2)
      have HK3 := Lib.hid (show es = es1 ++ (e :: es3) ∧ f' = f2 ∧ d3 ≤ d from by
        injection k3 with q1 q2
        exact ⟨by rw [heq, q1], q2, by omega⟩)
      have hrow2 := (HRD.out.frame hI.kp.size (fun b hz hl => hI.kp.block b hl fun x => by have x : b = pb := x; have := HPB.out; have := hz.1; omega) (fun b hz _ => hz) : RowZ (fun b => B ≤ b ∧ b < E) wr (.slice a0 L.length c0) L.length 1 C)
      obtain ⟨aa, cc, hq, _, hrd2⟩ := hrow2
      injection hq with hq1 hq2 hq3
      subst hq1 hq3
      obtain ⟨g, rfl, hgz, hgl, hcell⟩ := hrd2 k hlt
      have x0 := hcell 0 _ (by rw [hvk]; rfl)
      rw [Nat.mul_one, Nat.add_zero] at x0
      clear hI hk hd2 hg2 heq k1 hLk k2 k3 hrk hrk' hvk hcall hrd2 hcell
      go_wp2_with fail
      refine HCALL.out.mono ?_
      rintro e' w5 ⟨aa, ca, ar, cr, rfl, hx5, hp5, hk5⟩
      rw [← he] at hx5
      have HX5 := Lib.hid hx5
      have HP5 := Lib.hid hp5
      have HK5 := Lib.hid hk5
      have HO5 := Lib.hid (HI.out.own.kept hk5 (fun b e _ => by have e : b = pb := e; have := HPB.out; have := HBW.out; have := HEW.out; exact ⟨by omega, fun q => by have := q.1; omega⟩))
      have hsB : w.heap.size ≤ w5.heap.size := Nat.le_trans HI.out.kp.size hk5.size
      clear hx5 hp5 hk5
      obtain ⟨ho5, _⟩ := id HO5.out
      have HW5 := Lib.hid ho5
      have hesl := HI.out.len
      have HESL := Lib.hid hesl
      have hbk : es1.length + 1 ≤ 100000001 := by omega
      clear ho5 hesl
      go_wp2_with (at_builtin; refine wpList_append_own_at _ rfl _ _ TAls rfl w.heap.size TAl i0 _ 7 96 Tryz.underlying29 hi0 hi1 hi2 hi3 rfl (by decide) _ _ _ rfl (HW5.out.alloc _) ⟨w5.heap.size, 0, none⟩ 1 1 [.int .i64 xx.kd, .string xx.nm, .int .i64 xx.n, .slice aa xx.args.len ca, .int .i64 xx.ln, .int .i64 xx.col, .slice ar ll.length cr] rfl rfl (news_new w5 (alCells xx.kd xx.nm xx.n aa xx.args.len ca xx.ln xx.col ar ll.length cr) TAl) (fun u hu => by simp only [List.mem_cons, List.not_mem_nil, or_false] at hu; rcases hu with rfl | rfl | rfl | rfl | rfl | rfl | rfl <;> rfl) (by unfold maxLen; omega) (by omega) (by simp; omega) ?_)
      intro v7 w7 hown hgrow _ hat
      have HO7 := Lib.hid (OwnE.more (t := e) (new := [.int .i64 xx.kd, .string xx.nm, .int .i64 xx.n, .slice aa xx.args.len ca, .int .i64 xx.ln, .int .i64 xx.col, .slice ar ll.length cr]) HO5.out rfl (HX5.out.mono fun b hz _ => ⟨⟨hz.1, hz.2.imp id fun q => Nat.le_trans HI.out.kp.size q⟩, fun q => by have := HI.out.own.own.lt b q; have := HEW.out; rcases hz.2 with z | z <;> omega⟩) hown hgrow (by rwa [World.size_alloc]))
      have HK7 := Lib.hid (((Kept.refl (fun b => (Value.slice a5 es1.length c5).ownBlock = some b) w5).alloc (.cells (alCells xx.kd xx.nm xx.n aa xx.args.len ca xx.ln xx.col ar ll.length cr) TAl)).grown hgrow (fun k hk _ => hk))
      obtain ⟨a7, c7, rfl⟩ := own_slice hown
      clear hown hgrow hat
      go_wp2_with fail
      go_roundg (L.length - (k + 1))
      case measure => have := HK.out; omega
      case rel =>
        have hge : ∀ b, (Value.slice a5 es1.length c5).ownBlock = some b → w.heap.size ≤ b := fun b e => (HI.out.own.own.lt b e).1
        have hkp7 : KP pb w w7 := kept_new (HI.out.kp.trans HK5.out) HK7.out (fun b e q => by have := hge b e; omega)
        have h3 := HK3.out
        refine ⟨k + 1, es1 ++ [e], _, f1, by have := HK.out; omega, by go_num, ⟨⟨d3, es3, h3.2.2, by rw [h3.2.1]; exact HK2.out, by rw [h3.1, List.append_assoc]; rfl⟩, HO7.out, by rw [List.length_append, List.length_singleton, HESL.out], by omega, HP5.out.frame HK7.out (fun b e => Nat.le_trans HNW.out (hge b e)), hkp7, HFF.out _ _ HF0.out hkp7⟩⟩
    · have hge : ¬ (k : Int) < L.length := by omega
      obtain ⟨d2, es2, hd2, hg2, heq⟩ := hI.run
      rw [List.drop_eq_nil_of_le (by omega)] at hg2
      have hend : es = es1 ∧ f' = fk := by
        cases d2 with
        | zero => simp [growAlts] at hg2
        | succ d3 =>
          rw [growAlts] at hg2
          have := Option.some.inj hg2
          injection this with q1 q2
          exact ⟨by rw [heq, ← q1, List.append_nil], q2.symm⟩
      have HEND := Lib.hid hend
      clear hI hk hd2 hg2 heq hend
      go_wp2_with fail
      go_ret
      rw [HEND.out.1, HEND.out.2]
      exact ⟨a5, c5, _, rfl, HI.out.own.rowz (fun b hb => ⟨by have := HBW.out; have := HEW.out; omega, .inr hb⟩), fun i t ht => HI.out.own.ev ht, HI.out.ps, HI.out.kp⟩
end Go.Proofs.YtdajihpfedbihaaGreat.Pa
/-
  CONTRACT of layer parse: a case is made (cases$2).
-/
namespace Go.Proofs.YtdajihpfedbihaaGreat.Pa
open Go.RowKit Mm Tm Pm
set_option linter.unusedVariables false
set_option linter.unusedSimpArgs false
theorem RowZ.mono {Z Z' : Nat → Prop} {w : World} {v : Value} {n k : Nat} {C : Nat → List Value} (h : RowZ Z w v n k C) (hz : ∀ b, Z b → b < w.heap.size → Z' b) : RowZ Z' w v n k C := h.frame (Nat.le_refl _) (fun _ _ _ => rfl) hz
theorem Zn.weak {B E S S' b : Nat} (h : Zn B E S' b) (hs : S ≤ S') : Zn B E S b := ⟨h.1, h.2.imp id fun z => Nat.le_trans hs z⟩
section
variable {find : Name → Fx} {resolve : List Fx → List (Nat × Nat) × Nat × Int} {F : World → Prop} {N pb B E d : Nat} {fv : Value} {p0 : Pp}
set_option maxRecDepth 100000 in
set_option maxHeartbeats 8000000 in
theorem cases2_any {D : Nat} {o : Lt} {L : List Al} {e : Ex} {aq : List ExA} {f f1 f' : Ft} {ln col : Int} {bo bs ba : Nat} {vo sp : Value} {C : Nat → List Value} (w : World) (hd : d < D)
    (hF : ∀ w w', F w → KP pb w w' → F w') (ih : ∀ d', d' < D → GrowC find resolve F N pb B E fv p0 d') (hg1 : grow find resolve d f o = some (e, f1)) (hg2 : growAlts find resolve d f1 L = some (aq, f'))
    (hbo : Cap (fun b => B ≤ b ∧ b < E) w bo TFE #[vo]) (hbs : Cap (fun b => B ≤ b ∧ b < E) w bs TFAs #[sp]) (hba : Cap (fun b => B ≤ b ∧ b < E) w ba TPos #[.int .i64 ln, .int .i64 col]) (hel : R pb (fun b => B ≤ b ∧ b < E) w (.lt o) [vo])
    (hrow : RowZ (fun b => B ≤ b ∧ b < E) w sp L.length 1 C) (hels : ∀ i t, L[i]? = some t → R pb (fun b => B ≤ b ∧ b < E) w (.al t) (C i)) (hlen : L.length ≤ 100000001)
    (hps : PS N w pb (pf p0 f) fv) (hf : F w) (hpB : pb < B) (hNB : N ≤ B) (hBE : B ≤ E) (hEw : E ≤ w.heap.size) :
    Calls Tryz.prog 149 #[ptr bo, ptr bs, ptr ba] w (ExPost N pb B E fv (.mk 7 [] 0 [] [e] aq [] ln col) (pf p0 f') w) := by
  have hk0 : KP pb w (w.alloc zEx) := (Kept.refl (fun b => b = pb) w).alloc zEx
  have hz0 : (w.alloc zEx).heap.size = w.heap.size + 1 := by simp
  have hf0 := hF _ _ hf hk0
  obtain ⟨kf, cap, rfl, egk, hcall⟩ := ih d hd o f vo (w.alloc zEx) e f1 hg1 (hel.kp hk0 hpB) (hps.below ((Below.refl w.heap.size w).alloc (Nat.le_refl _) zEx)) hf0 (by omega)
  have HG := Lib.hid hcall
  have eg2 : ∀ args w, (callFunc kf args).run Tryz.prog w = .ok (.enter kf args) w := egk
  have HBS := Lib.hid (hbs.kp hk0 hpB)
  have HBA := Lib.hid (hba.kp hk0 hpB)
  have HRW := Lib.hid (hrow.kp hk0 hpB)
  have HEL := Lib.hid (show ∀ i t, L[i]? = some t → R pb (fun b => B ≤ b ∧ b < E) (w.alloc zEx) (.al t) (C i) from fun i t ht => (hels i t ht).kp hk0 hpB)
  have HIH := Lib.hid ih
  have HFF := Lib.hid hF
  have HF0 := Lib.hid hf0
  have HG2 := Lib.hid hg2
  have HX0 := Lib.hid (zbex w)
  have HPB := Lib.hid hpB
  have HNB := Lib.hid hNB
  have HBE := Lib.hid hBE
  have HEW := Lib.hid hEw
  have HDD := Lib.hid hd
  have HLN := Lib.hid hlen
  have HNW := Lib.hid hps.size
  have HK0 := Lib.hid hk0
  have HZ0 := Lib.hid hz0
  have HNE := Lib.hid (show w.heap.size ≠ pb by omega)
  have y9 := hbo.2.cell 0
  have l9 := hbo.2.lt
  obtain ⟨ap, cp, rfl, _⟩ := hrow
  clear hF ih hg1 hg2 hbo hbs hba hel hels hps hf hpB hNB hBE hEw hk0 hz0 hcall hf0 hd hlen
  go_enter Tryz.func149, Tryz.ntmps149
  go_wp2_with fail
  refine HG.out.mono ?_
  rintro e' w3 ⟨kd, nm, n, a1, n1, c1, a2, n2, c2, a3, n3, c3, a4, n4, c4, ln', col', rfl, hx, hp3, hk3⟩
  have hkA : KP pb (w.alloc zEx) (w3.alloc (.cells (exV kd nm n a1 n1 c1 a2 n2 c2 a3 n3 c3 a4 n4 c4 ln' col') TEx)).drew := (hk3.alloc _).drew
  have hszA : (w3.alloc (.cells (exV kd nm n a1 n1 c1 a2 n2 c2 a3 n3 c3 a4 n4 c4 ln' col') TEx)).drew.heap.size = w3.heap.size + 1 := by show (w3.alloc _).heap.size = _; simp
  have hs3 : w.heap.size + 1 ≤ w3.heap.size := by have := hk3.size; have := HZ0.out; omega
  have HGA := Lib.hid (grownA_any (w3.alloc (.cells (exV kd nm n a1 n1 c1 a2 n2 c2 a3 n3 c3 a4 n4 c4 ln' col') TEx)).drew HFF.out (fun d' h => HIH.out d' (by have := HDD.out; omega)) HG2.out (HRW.out.kp hkA HPB.out) (fun i t ht => (HEL.out i t ht).kp hkA HPB.out) (hp3.below (((Below.refl _ _).alloc (Nat.le_refl _) _).drew)) (HFF.out _ _ HF0.out hkA) HPB.out HNB.out HBE.out (by have := HEW.out; omega) HLN.out)
  have HBS3 := Lib.hid (HBS.out.kp hkA HPB.out)
  have HBA3 := Lib.hid (HBA.out.kp hkA HPB.out)
  have y0 : (w3.alloc (.cells (exV kd nm n a1 n1 c1 a2 n2 c2 a3 n3 c3 a4 n4 c4 ln' col') TEx)).drew.cell? ⟨bs, 0, none⟩ = some (.slice ap L.length cp) := HBS3.out.2.cell 0
  have y1 : (w3.alloc (.cells (exV kd nm n a1 n1 c1 a2 n2 c2 a3 n3 c3 a4 n4 c4 ln' col') TEx)).drew.cell? ⟨ba, 0, none⟩ = some (.int .i64 ln) := HBA3.out.2.cell 0
  have y2 : (w3.alloc (.cells (exV kd nm n a1 n1 c1 a2 n2 c2 a3 n3 c3 a4 n4 c4 ln' col') TEx)).drew.cell? ⟨ba, 1, none⟩ = some (.int .i64 col) := HBA3.out.2.cell 1
  have HXA := Lib.hid (((hk3.box HX0.out HNE.out).alloc (.cells (exV kd nm n a1 n1 c1 a2 n2 c2 a3 n3 c3 a4 n4 c4 ln' col') TEx)).drew)
  have HY3 := Lib.hid ((Box.new w3 (exV kd nm n a1 n1 c1 a2 n2 c2 a3 n3 c3 a4 n4 c4 ln' col') TEx).drew)
  have HX := Lib.hid hx
  have HKA := Lib.hid hkA
  have HSA := Lib.hid hszA
  have HS3 := Lib.hid hs3
  clear hx hp3 hk3 hkA hszA hs3
  go_wp2_with fail
  go_region_held3 (fun w' => w'.cell? ⟨bs, 0, none⟩ = some (.slice ap L.length cp) ∧ w'.cell? ⟨ba, 0, none⟩ = some (.int .i64 ln) ∧ w'.cell? ⟨ba, 1, none⟩ = some (.int .i64 col))
    (first
      | exact ⟨y0, y1, y2⟩
      | exact ⟨m0, m1, m2⟩
      | (rw [hV]; exact ⟨o0, o1, o2⟩)
      | exact ⟨o0, o1, o2⟩)
    (first
      | (go_at_call 150; refine HGA.out.mono ?_; rintro e w5 ⟨a5, c5, C5, rfl, hr5, he5, hp5, hk5⟩; have hbs3 := HBS3.out.kp hk5 HPB.out; have hba3 := HBA3.out.kp hk5 HPB.out; have m0 := hbs3.2.cell 0; have m1 := hba3.2.cell 0; have m2 := hba3.2.cell 1; have hx3 := hk5.box HXA.out HNE.out; have hy3 := hk5.box HY3.out (by have := HS3.out; have := HEW.out; have := HPB.out; have := HBE.out; omega); obtain ⟨z0, z1, z2, z3, z4, z5, z6, z7, z8⟩ := cells9 hx3; obtain ⟨f0, f1, f2, f3, f4, f5, f6, f7, f8⟩ := free9' hx3; obtain ⟨V, hV, hvb, hvw⟩ := hx3.write9 (.int .i64 7) (.string ⟨#[]⟩) (.int .i64 0) (.slice none 0 0) (.slice (some ⟨w3.heap.size, 0, none⟩) 1 1) (.slice a5 aq.length c5) (.slice none 0 0) (.int .i64 ln) (.int .i64 col); have hbs4 := hbs3.2.wrote hvw (by have := hbs3.1.2; have := HEW.out; omega); have hba4 := hba3.2.wrote hvw (by have := hba3.1.2; have := HEW.out; omega); have o0 := hbs4.cell 0; have o1 := hba4.cell 0; have o2 := hba4.cell 1; have HR5 := Lib.hid hr5; have HE5 := Lib.hid he5; have HP5 := Lib.hid hp5; have HK5 := Lib.hid hk5; have HY5 := Lib.hid hy3; have HVB := Lib.hid hvb; have HVW := Lib.hid hvw; clear hr5 he5 hp5 hk5 hbs3 hba3 hx3 hy3 hbs4 hba4 hvb hvw))
  go_wp2_with fail
  obtain ⟨v0, v1, v2, v3, v4, v5, v6, v7, v8⟩ := cells9 HVB.out
  refine bodyPost_ret (v := .agg (exV 7 [] 0 none 0 0 (some ⟨w3.heap.size, 0, none⟩) 1 1 a5 aq.length c5 none 0 0 ln col)) (by simp [results, Tryz.results149, go_sem, toB_nil, v0, v1, v2, v3, v4, v5, v6, v7, v8]) rfl ?_
  have hE := HEW.out
  have hpb := HPB.out
  have hbe := HBE.out
  have hs3 := HS3.out
  have hsA := HSA.out
  have hz0 := HZ0.out
  have hk5V : Kept (fun b => b = w.heap.size) w5 V := kept_wrote (Kept.refl (fun b => b = w.heap.size) w5) HVW.out fun _ => rfl
  have hk : KP pb w V := kept_new ((HK0.out.trans HKA.out).trans HK5.out) hk5V (fun b e q => by omega)
  have hb : Box V w3.heap.size TEx _ := HY5.out.wrote HVW.out (by omega)
  have hx := HX.out.ev
  rw [hz0] at hx
  have hx1 : EV (Zn B E (w.heap.size + 1)) w5 (.ex e) _ := ((hx.later (((Below.refl _ _).alloc (Nat.le_refl _) _).drew)).kept HK5.out fun b hz hx _ => by have hx : b = pb := hx; have := hz.1; omega)
  have hx' := hx1.boxed HVW.out hE
  have hr := HR5.out
  have he := HE5.out
  rw [hsA] at hr he
  refine ⟨7, [], 0, none, 0, 0, some ⟨w3.heap.size, 0, none⟩, 1, 1, a5, aq.length, c5, none, 0, 0, ln, col, rfl, ⟨.ex (Cb := fun _ => []) (RowZ.nil _ _ _ _) (RowZ.mk (n := 1) (k := 9) (vs := [.int .i64 kd, .string (toB nm), .int .i64 n, .slice a1 n1 c1, .slice a2 n2 c2, .slice a3 n3 c3, .slice a4 n4 c4, .int .i64 ln', .int .i64 col']) hb ⟨by omega, .inr (by omega)⟩ rfl) ((hr.mono (Z' := Zn B E (w.heap.size + 1)) fun b hz _ => hz.weak (by omega)).boxed HVW.out hE) (RowZ.nil _ _ _ _) (fun i e' h => ?_) (fun i e h => ((he i e h).mono (Z' := Zn B E (w.heap.size + 1)) fun b hz _ => hz.weak (by omega)).boxed HVW.out hE) (fun i e h => by simp at h), rfl⟩, HP5.out.frame hk5V (fun b e => by have := HNW.out; omega), hk⟩
  cases i with
  | zero =>
    simp at h
    subst h
    exact hx'
  | succ i => simp at h
end
end Go.Proofs.YtdajihpfedbihaaGreat.Pa
/-
  CONTRACT of layer parse: what was applied is made (apply$1).
-/
namespace Go.Proofs.YtdajihpfedbihaaGreat.Pa
open Go.RowKit Mm Tm Pm
set_option linter.unusedVariables false
set_option linter.unusedSimpArgs false
theorem growApp_cons {find : Name → Fx} {resolve : List Fx → List (Nat × Nat) × Nat × Int} {d : Nat} {f : Ft} {e : Ex} {a : Lt} {l : List Lt} {r : Ex × Ft} (h : growApp find resolve (d + 1) f e (a :: l) = some r) : ∃ x f1, grow find resolve d f a = some (x, f1) ∧ growApp find resolve d f1 (app e x) l = some r := by
  rw [growApp] at h
  obtain ⟨⟨x, f1⟩, h1, h2⟩ := Option.bind_eq_some_iff.1 h
  exact ⟨x, f1, h1, h2⟩
structure GwP (find : Name → Fx) (resolve : List Fx → List (Nat × Nat) × Nat × Int) (F : World → Prop) (N pb B E : Nat) (fv : Value) (p0 : Pp) (L : List Lt) (er : Ex) (f' : Ft) (w : World) (D be k : Nat) (wr : World) (e : Ex) (fk : Ft) (kd : Int) (nm : List UInt8) (n : Int) (a1 : Option Addr) (n1 c1 : Nat) (a2 : Option Addr) (n2 c2 : Nat) (a3 : Option Addr) (n3 c3 : Nat) (a4 : Option Addr) (n4 c4 : Nat) (ln col : Int) : Prop where
  run : ∃ d, d ≤ D ∧ growApp find resolve d fk e (L.drop k) = some (er, f')
  bx : Box wr be TEx (exV kd nm n a1 n1 c1 a2 n2 c2 a3 n3 c3 a4 n4 c4 ln col)
  ex : ExI (fun b => Zn B E (w.heap.size + 1) b ∧ b ≠ be) wr e kd nm n a1 n1 c1 a2 n2 c2 a3 n3 c3 a4 n4 c4 ln col
  rb : Box wr w.heap.size TEx #[.int .i64 0, .string ByteArray.empty, .int .i64 0, .slice none 0 0, .slice none 0 0, .slice none 0 0, .slice none 0 0, .int .i64 0, .int .i64 0]
  ps : PS N wr pb (pf p0 fk) fv
  kp : KP pb w wr
  hf : F wr
theorem ExI.step {pb B E S be : Nat} {w w5 : World} {e : Ex} {kd : Int} {nm : List UInt8} {n : Int} {a1 : Option Addr} {n1 c1 : Nat} {a2 : Option Addr} {n2 c2 : Nat} {a3 : Option Addr} {n3 c3 : Nat} {a4 : Option Addr} {n4 c4 : Nat} {ln col : Int} (h : ExI (fun b => Zn B E S b ∧ b ≠ be) w e kd nm n a1 n1 c1 a2 n2 c2 a3 n3 c3 a4 n4 c4 ln col) (hk : KP pb w.drew w5) (hp : pb < B) : ExI (fun b => Zn B E S b ∧ b ≠ be) w5 e kd nm n a1 n1 c1 a2 n2 c2 a3 n3 c3 a4 n4 c4 ln col :=
  ⟨(h.ev.later ((Below.refl w.heap.size w).drew)).kept hk fun b hz hx _ => by have hx : b = pb := hx; have := hz.1.1; omega, h.at_⟩
theorem ExI.arg {B E be : Nat} {w0 w w5 : World} {x : Ex} {kd : Int} {nm : List UInt8} {n : Int} {a1 : Option Addr} {n1 c1 : Nat} {a2 : Option Addr} {n2 c2 : Nat} {a3 : Option Addr} {n3 c3 : Nat} {a4 : Option Addr} {n4 c4 : Nat} {ln col : Int} (h : ExI (Zn B E w.drew.heap.size) w5 x kd nm n a1 n1 c1 a2 n2 c2 a3 n3 c3 a4 n4 c4 ln col) (hb : be < w.heap.size) (hs : w0.heap.size + 1 ≤ be) (hE : E ≤ w0.heap.size) : ExI (fun b => Zn B E (w0.heap.size + 1) b ∧ b ≠ be) w5 x kd nm n a1 n1 c1 a2 n2 c2 a3 n3 c3 a4 n4 c4 ln col :=
  ⟨h.ev.mono fun b hz _ => ⟨hz.weak (by show _ ≤ w.heap.size; omega), fun e => by have hz2 : b < E ∨ w.heap.size ≤ b := hz.2; omega⟩, h.at_⟩
theorem app_in {B E be : Nat} {w0 w w5 : World} (hk : w.drew.heap.size ≤ w5.heap.size) (hb : be < w.heap.size) (hs : w0.heap.size + 1 ≤ be) (hB : B ≤ E) (hE : E ≤ w0.heap.size) : ∀ b, w5.heap.size ≤ b → Zn B E (w0.heap.size + 1) b ∧ b ≠ be := fun b h => by
  have hk : w.heap.size ≤ w5.heap.size := hk
  exact ⟨⟨by omega, .inr (by omega)⟩, by omega⟩
section
variable {find : Name → Fx} {resolve : List Fx → List (Nat × Nat) × Nat × Int} {F : World → Prop} {N pb B E d : Nat} {fv : Value} {p0 : Pp}
set_option maxRecDepth 100000 in
set_option maxHeartbeats 8000000 in
theorem apply1_any {D : Nat} {a : Lt} {L : List Lt} {e0 er : Ex} {f f1 f' : Ft} {bs : Nat} {sp : Value} {C : Nat → List Value} (w : World) (hd : d < D)
    (hF : ∀ w w', F w → KP pb w w' → F w') (ih : ∀ d', d' < D → GrowC find resolve F N pb B E fv p0 d') (hg1 : grow find resolve d f a = some (e0, f1)) (hg2 : growApp find resolve d f1 e0 L = some (er, f'))
    (hbs : Cap (fun b => B ≤ b ∧ b < E) w bs TFEs #[sp]) (hrow : RowZ (fun b => B ≤ b ∧ b < E) w sp (L.length + 1) 1 C) (hels : ∀ i t, (a :: L)[i]? = some t → R pb (fun b => B ≤ b ∧ b < E) w (.lt t) (C i)) (hlen : L.length ≤ 100000000)
    (hps : PS N w pb (pf p0 f) fv) (hf : F w) (hpB : pb < B) (hNB : N ≤ B) (hBE : B ≤ E) (hEw : E ≤ w.heap.size) :
    Calls Tryz.prog 152 #[ptr bs] w (ExPost N pb B E fv er (pf p0 f') w) := by
  have hk0 : KP pb w (w.alloc zEx) := (Kept.refl (fun b => b = pb) w).alloc zEx
  have hz0 : (w.alloc zEx).heap.size = w.heap.size + 1 := by simp
  have hf0 := hF _ _ hf hk0
  have hr0 := hels 0 a rfl
  obtain ⟨v0, hv0, _⟩ := hr0.one_lt
  rw [hv0] at hr0
  obtain ⟨kf, cap, rfl, egk, hcall⟩ := ih d hd a f v0 (w.alloc zEx) e0 f1 hg1 (hr0.kp hk0 hpB) (hps.below ((Below.refl w.heap.size w).alloc (Nat.le_refl _) zEx)) hf0 (by omega)
  have HG := Lib.hid hcall
  have eg2 : ∀ args w, (callFunc kf args).run Tryz.prog w = .ok (.enter kf args) w := egk
  have HBS := Lib.hid (hbs.kp hk0 hpB)
  have HRW := Lib.hid hrow
  have HEL := Lib.hid hels
  have HIH := Lib.hid ih
  have HFF := Lib.hid hF
  have HF0 := Lib.hid hf0
  have HFW := Lib.hid hf
  have HG2 := Lib.hid hg2
  have HX0 := Lib.hid (zbex w)
  have HPB := Lib.hid hpB
  have HNB := Lib.hid hNB
  have HBE := Lib.hid hBE
  have HEW := Lib.hid hEw
  have HDD := Lib.hid hd
  have HLN := Lib.hid hlen
  have HNW := Lib.hid hps.size
  have HK0 := Lib.hid hk0
  have HZ0 := Lib.hid hz0
  have HNE := Lib.hid (show w.heap.size ≠ pb by omega)
  have y9 := hbs.2.cell 0
  have l9 := hbs.2.lt
  obtain ⟨ap, cp, rfl, hcp, hrd⟩ := hrow
  obtain ⟨g, rfl, hgz, hgl, hcell⟩ := hrd 0 (by omega)
  have hcw := hcell 0 _ (by rw [hv0]; rfl)
  rw [Nat.zero_mul, Nat.add_zero] at hcw
  have HCP := Lib.hid hcp
  clear hF ih hg1 hg2 hbs hels hps hf hpB hNB hBE hEw hk0 hz0 hcall hf0 hd hlen hr0 hrd hcell hv0 hcp hgz
  go_enter Tryz.func152, Tryz.ntmps152
  go_wp2_with fail
  refine HG.out.mono ?_
  rintro e' w1 ⟨kd, nm, n, a1, n1, c1, a2, n2, c2, a3, n3, c3, a4, n4, c4, ln, col, rfl, hx1, hp1, hk1⟩
  obtain ⟨W, hW⟩ : ∃ W, w1.alloc (.cells (exV kd nm n a1 n1 c1 a2 n2 c2 a3 n3 c3 a4 n4 c4 ln col) TEx) = W := ⟨_, rfl⟩
  have hbW : Below w1.heap.size w1 W := by rw [← hW]; exact (Below.refl _ _).alloc (Nat.le_refl _) _
  have hkW : KP pb (w.alloc zEx) W := hk1.here hbW
  have hs1 : w.heap.size + 1 ≤ w1.heap.size := by have := hk1.size; have := HZ0.out; omega
  have hsW : W.heap.size = w1.heap.size + 1 := by rw [← hW]; simp
  have y1 := (HBS.out.kp hkW HPB.out).2.cell 0
  have hbx : Box W w1.heap.size TEx (exV kd nm n a1 n1 c1 a2 n2 c2 a3 n3 c3 a4 n4 c4 ln col) := by rw [← hW]; exact Box.new w1 _ _
  have hx1' := hx1.ev
  rw [HZ0.out] at hx1'
  have HST := Lib.hid (GwP.mk (D := d) (L := L) (k := 0) (er := er) (f' := f') (w := w) ⟨d, Nat.le_refl _, HG2.out⟩ hbx ⟨(hx1'.frame hbW.size (fun b hz hl => hbW.block b hl) fun b hz hl => ⟨hz, Nat.ne_of_lt hl⟩ : EV _ W (.ex e0) _), hx1.at_⟩ (hkW.box HX0.out HNE.out) (hp1.below hbW) (HK0.out.trans hkW) (HFF.out _ _ HF0.out hkW))
  have HS1 := Lib.hid hs1
  have HSW := Lib.hid hsW
  have HKW := Lib.hid hkW
  clear hx1 hp1 hk1 hbW hkW hs1 hsW hbx hx1'
  rcases (show cp = 1 ∨ ∃ k, cp = k + 2 from (Nat.lt_or_ge cp 2).elim (fun q => .inl (by have := HCP.out; omega)) fun q => .inr ⟨cp - 2, by omega⟩) with rfl | ⟨kc, rfl⟩
  · have hl0 : L = [] := by
      have := HCP.out
      cases L with
      | nil => rfl
      | cons _ _ => simp at this
    subst hl0
    go_wp2_with fail
    go_loopg [12] 0 (fun dd v12 wr => ∃ (k : Nat) (e : Ex) (fk : Ft) (kd : Int) (nm : List UInt8) (n : Int) (a1 : Option Addr) (n1 c1 : Nat) (a2 : Option Addr) (n2 c2 : Nat) (a3 : Option Addr) (n3 c3 : Nat) (a4 : Option Addr) (n4 c4 : Nat) (ln col : Int), k + dd = 0 ∧ v12 = .int .i64 k ∧ GwP find resolve F N pb B E fv p0 [] er f' w d w1.heap.size k wr e fk kd nm n a1 n1 c1 a2 n2 c2 a3 n3 c3 a4 n4 c4 ln col)
    case atStart => exact ⟨0, e0, f1, kd, nm, n, a1, n1, c1, a2, n2, c2, a3, n3, c3, a4, n4, c4, ln, col, by omega, rfl, HST.out⟩
    case round =>
      obtain ⟨k, e, fk, kdr, nmr, nr, a1r, n1r, c1r, a2r, n2r, c2r, a3r, n3r, c3r, a4r, n4r, c4r, lnr, colr, hk, rfl, hI⟩ := hrel
      have HI := Lib.hid hI
      have hk0' : k = 0 := by omega
      have hge : ¬ (k : Int) < (0 : Nat) := by omega
      obtain ⟨d2, hd2, hg2⟩ := hI.run
      rw [List.drop_eq_nil_of_le (by simp)] at hg2
      have hend : er = e ∧ f' = fk := by
        cases d2 with
        | zero => simp [growApp] at hg2
        | succ d3 =>
          rw [growApp] at hg2
          have := Option.some.inj hg2
          injection this with q1 q2
          exact ⟨q1.symm, q2.symm⟩
      have HEND := Lib.hid hend
      obtain ⟨y0, y1, y2, y3, y4, y5, y6, y7, y8⟩ := cells9 hI.bx
      obtain ⟨z0, z1, z2, z3, z4, z5, z6, z7, z8⟩ := cells9 hI.rb
      obtain ⟨q0, q1, q2, q3, q4, q5, q6, q7, q8⟩ := free9' hI.rb
      obtain ⟨V, hV, hvb, hvw⟩ := hI.rb.write9 (.int .i64 kdr) (.string (toB nmr)) (.int .i64 nr) (.slice a1r n1r c1r) (.slice a2r n2r c2r) (.slice a3r n3r c3r) (.slice a4r n4r c4r) (.int .i64 lnr) (.int .i64 colr)
      have HVB := Lib.hid hvb
      have HVW := Lib.hid hvw
      clear hI hk hd2 hg2 hend hvb hvw
      go_wp2_with fail
      obtain ⟨v0, v1, v2, v3, v4, v5, v6, v7, v8⟩ := cells9 HVB.out
      refine bodyPost_ret (v := .agg (exV kdr nmr nr a1r n1r c1r a2r n2r c2r a3r n3r c3r a4r n4r c4r lnr colr)) (by simp [results, Tryz.results152, go_sem, v0, v1, v2, v3, v4, v5, v6, v7, v8]) rfl ?_
      rw [HEND.out.1, HEND.out.2]
      have hkV : Kept (fun b => b = w.heap.size) wr V := kept_wrote (Kept.refl (fun b => b = w.heap.size) wr) HVW.out fun _ => rfl
      have hE := HEW.out
      exact ⟨kdr, nmr, nr, a1r, n1r, c1r, a2r, n2r, c2r, a3r, n3r, c3r, a4r, n4r, c4r, lnr, colr, rfl, ⟨HI.out.ex.ev.frame hkV.size (fun b hz hl => hkV.block b hl fun e => by rcases hz.1.2 with z | z <;> omega) (fun b hz _ => hz.1.weak (by omega)), HI.out.ex.at_⟩, HI.out.ps.frame hkV (fun b e => by have := HNW.out; omega), kept_new HI.out.kp hkV (fun b e q => by omega)⟩
  · have hq4 : (kc + 2 : Nat) ≠ 1 := by omega
    go_wp2_with fail
    go_loopg [12] L.length (fun dd v12 wr => ∃ (k : Nat) (e : Ex) (fk : Ft) (kd : Int) (nm : List UInt8) (n : Int) (a1 : Option Addr) (n1 c1 : Nat) (a2 : Option Addr) (n2 c2 : Nat) (a3 : Option Addr) (n3 c3 : Nat) (a4 : Option Addr) (n4 c4 : Nat) (ln col : Int), k + dd = L.length ∧ v12 = .int .i64 k ∧ GwP find resolve F N pb B E fv p0 L er f' w d w1.heap.size k wr e fk kd nm n a1 n1 c1 a2 n2 c2 a3 n3 c3 a4 n4 c4 ln col)
    case atStart => exact ⟨0, e0, f1, kd, nm, n, a1, n1, c1, a2, n2, c2, a3, n3, c3, a4, n4, c4, ln, col, by omega, rfl, HST.out⟩
    case round =>
      obtain ⟨k, e, fk, kdr, nmr, nr, a1r, n1r, c1r, a2r, n2r, c2r, a3r, n3r, c3r, a4r, n4r, c4r, lnr, colr, hk, rfl, hI⟩ := hrel
      have HI := Lib.hid hI
      have HK := Lib.hid hk
      have hll := HLN.out
      have hkle : k ≤ L.length := by omega
      by_cases hlt : k < L.length
      · have hlt' : (k : Int) < L.length := by omega
        obtain ⟨d2, hd2, hg2⟩ := hI.run
        rw [List.drop_eq_getElem_cons hlt] at hg2
        obtain ⟨d3, rfl⟩ : ∃ d3, d2 = d3 + 1 := by
          cases d2 with
          | zero => simp [growApp] at hg2
          | succ d3 => exact ⟨d3, rfl⟩
        obtain ⟨x, f2, k1, k2⟩ := growApp_cons hg2
        have hrk := (HEL.out (k + 1) L[k] (by rw [List.getElem?_cons_succ]; exact List.getElem?_eq_getElem hlt)).kp hI.kp HPB.out
        obtain ⟨vk, hvk, _⟩ := hrk.one_lt
        rw [hvk] at hrk
        have hkd : KP pb wr wr.drew := (Kept.refl (fun b => b = pb) wr).drew
        obtain ⟨kg, capg, rfl, egk2, hcall2⟩ := HIH.out d3 (by have := HDD.out; omega) L[k] fk vk wr.drew x f2 k1 (hrk.kp hkd HPB.out) (hI.ps.below ((Below.refl wr.heap.size wr).drew)) (HFF.out _ _ hI.hf hkd) (Nat.le_trans HEW.out hI.kp.size)
        have HC2 := Lib.hid hcall2
        have eg3 : ∀ args w, (callFunc kg args).run Tryz.prog w = .ok (.enter kg args) w := egk2
        have HRUN := Lib.hid (show ∃ d', d' ≤ d ∧ growApp find resolve d' f2 (app e x) (L.drop (k + 1)) = some (er, f') from ⟨d3, by omega, k2⟩)
        obtain ⟨aa, cc, hq, _, hrd2⟩ := HRW.out.kp hI.kp HPB.out
        injection hq with hq1 hq2 hq3
        subst hq1 hq3
        obtain ⟨g', hgq, hgz, hgl2, hcell⟩ := hrd2 (k + 1) (by omega)
        injection hgq with hgq
        injection hgq with hgq
        subst hgq
        have xk := hcell 0 _ (by rw [hvk]; rfl)
        rw [Nat.mul_one, Nat.add_zero, Nat.add_comm] at xk
        obtain ⟨y0, y1, y2, y3, y4, y5, y6, y7, y8⟩ := cells9 hI.bx
        have HSR := Lib.hid (show w1.heap.size < wr.heap.size from hI.bx.lt)
        have HPW := Lib.hid (show w1.heap.size ≠ pb by have := HS1.out; have := HPB.out; have := HBE.out; have := HEW.out; omega)
        clear hI hk hd2 hg2 k1 k2 hrk hvk hcall2 hrd2 hcell hgz hkd
        go_wp2_with fail
        go_region_with (first
          | (go_at_fn kg; refine HC2.out.mono ?_; rintro e' w5 ⟨kdx, nmx, nx, a1x, n1x, c1x, a2x, n2x, c2x, a3x, n3x, c3x, a4x, n4x, c4x, lnx, colx, rfl, hx5, hp5, hk5⟩; have hbx5 := hk5.box HI.out.bx.drew HPW.out; obtain ⟨m0, m1, m2, m3, m4, m5, m6, m7, m8⟩ := cells9 hbx5; have HEX5 := Lib.hid (ExI.step (w := wr) HI.out.ex hk5 HPB.out); have HXX5 := Lib.hid (ExI.arg hx5 HSR.out HS1.out HEW.out); have HBX5 := Lib.hid hbx5; have HP5 := Lib.hid hp5; have HK5 := Lib.hid hk5; have HAPP := Lib.hid (app_any w5 HEX5.out HXX5.out (app_in hk5.size HSR.out HS1.out HBE.out HEW.out)); clear hx5 hp5 hk5 hbx5)
          | (go_at_call 135; refine HAPP.out.mono ?_; rintro e' w6 ⟨kdy, nmy, ny, a1y, n1y, c1y, a2y, n2y, c2y, a3y, n3y, c3y, a4y, n4y, c4y, lny, coly, rfl, hx6, hb6⟩; have hbx6 := HBX5.out.below hb6 HBX5.out.lt; obtain ⟨z0, z1, z2, z3, z4, z5, z6, z7, z8⟩ := cells9 hbx6; obtain ⟨q0, q1, q2, q3, q4, q5, q6, q7, q8⟩ := free9' hbx6; obtain ⟨V, hV, hvb, hvw⟩ := hbx6.write9 (.int .i64 kdy) (.string (toB nmy)) (.int .i64 ny) (.slice a1y n1y c1y) (.slice a2y n2y c2y) (.slice a3y n3y c3y) (.slice a4y n4y c4y) (.int .i64 lny) (.int .i64 coly); have HX6 := Lib.hid hx6; have HB6 := Lib.hid hb6; have HVB := Lib.hid hvb; have HVW := Lib.hid hvw; clear hx6 hb6 hbx6 hvb hvw))
        all_goals
          go_wp2_with fail
          go_roundg (L.length - (k + 1))
          case measure => have := HK.out; omega
          case rel =>
            have hkV : Kept (fun b => b = w1.heap.size) w6 V := kept_wrote (Kept.refl (fun b => b = w1.heap.size) w6) HVW.out fun _ => rfl
            have hk6 : KP pb wr w6 := KP.here (((Kept.refl (fun b => b = pb) wr).drew).trans HK5.out) HB6.out
            have hkp : KP pb w V := kept_new (HI.out.kp.trans hk6) hkV (fun b e q => by have := HS1.out; omega)
            exact ⟨k + 1, app e x, f2, kdy, nmy, ny, a1y, n1y, c1y, a2y, n2y, c2y, a3y, n3y, c3y, a4y, n4y, c4y, lny, coly, by have := HK.out; omega, by go_num, ⟨HRUN.out, HVB.out, ⟨HX6.out.ev.frame hkV.size (fun b hz hl => hkV.block b hl hz.2) (fun b hz _ => hz), HX6.out.at_⟩, (hk6.box HI.out.rb HNE.out).wrote HVW.out (by have := HS1.out; omega), (HP5.out.below HB6.out).frame hkV (fun b e => by have := HNW.out; have := HS1.out; omega), hkp, HFF.out _ _ HFW.out hkp⟩⟩
      · have hge : ¬ (k : Int) < (L.length : Nat) := by omega
        obtain ⟨d2, hd2, hg2⟩ := hI.run
        rw [List.drop_eq_nil_of_le (by omega)] at hg2
        have hend : er = e ∧ f' = fk := by
          cases d2 with
          | zero => simp [growApp] at hg2
          | succ d3 =>
            rw [growApp] at hg2
            have := Option.some.inj hg2
            injection this with q1 q2
            exact ⟨q1.symm, q2.symm⟩
        have HEND := Lib.hid hend
        obtain ⟨y0, y1, y2, y3, y4, y5, y6, y7, y8⟩ := cells9 hI.bx
        obtain ⟨z0, z1, z2, z3, z4, z5, z6, z7, z8⟩ := cells9 hI.rb
        obtain ⟨q0, q1, q2, q3, q4, q5, q6, q7, q8⟩ := free9' hI.rb
        obtain ⟨V, hV, hvb, hvw⟩ := hI.rb.write9 (.int .i64 kdr) (.string (toB nmr)) (.int .i64 nr) (.slice a1r n1r c1r) (.slice a2r n2r c2r) (.slice a3r n3r c3r) (.slice a4r n4r c4r) (.int .i64 lnr) (.int .i64 colr)
        have HVB := Lib.hid hvb
        have HVW := Lib.hid hvw
        clear hI hk hd2 hg2 hend hvb hvw
        go_wp2_with fail
        obtain ⟨v0, v1, v2, v3, v4, v5, v6, v7, v8⟩ := cells9 HVB.out
        refine bodyPost_ret (v := .agg (exV kdr nmr nr a1r n1r c1r a2r n2r c2r a3r n3r c3r a4r n4r c4r lnr colr)) (by simp [results, Tryz.results152, go_sem, v0, v1, v2, v3, v4, v5, v6, v7, v8]) rfl ?_
        rw [HEND.out.1, HEND.out.2]
        have hkV : Kept (fun b => b = w.heap.size) wr V := kept_wrote (Kept.refl (fun b => b = w.heap.size) wr) HVW.out fun _ => rfl
        have hE := HEW.out
        exact ⟨kdr, nmr, nr, a1r, n1r, c1r, a2r, n2r, c2r, a3r, n3r, c3r, a4r, n4r, c4r, lnr, colr, rfl, ⟨HI.out.ex.ev.frame hkV.size (fun b hz hl => hkV.block b hl fun e => by rcases hz.1.2 with z | z <;> omega) (fun b hz _ => hz.1.weak (by omega)), HI.out.ex.at_⟩, HI.out.ps.frame hkV (fun b e => by have := HNW.out; omega), kept_new HI.out.kp hkV (fun b e q => by omega)⟩
end
end Go.Proofs.YtdajihpfedbihaaGreat.Pa
/-
  CONTRACTS of layer parse: a row is made (expr$1), where row's call is known; a row behind a fault.
-/
namespace Go.Proofs.YtdajihpfedbihaaGreat.Pa
open Go.RowKit Mm Tm Pm
set_option linter.unusedVariables false
set_option linter.unusedSimpArgs false
section
variable {N pb B E : Nat} {fv : Value}
set_option maxRecDepth 100000 in
set_option maxHeartbeats 8000000 in
theorem expr1_any {e : Ex} {p p' : Pp} {bp bo bq : Nat} {ao aq : Option Addr} {no co nq cq : Nat} (w : World)
    (hbp : Cap (fun b => B ≤ b ∧ b < E) w bp TPP #[ptr pb]) (hbo : Cap (fun b => B ≤ b ∧ b < E) w bo TFEs #[.slice ao no co]) (hbq : Cap (fun b => B ≤ b ∧ b < E) w bq TToks #[.slice aq nq cq])
    (hrow : Calls Tryz.prog 103 #[ptr pb, .slice ao no co, .slice aq nq cq] (w.alloc zEx) (ExPost N pb B E fv e p' (w.alloc zEx)))
    (hps : PS N w pb p fv) (hpB : pb < B) (hNB : N ≤ B) (hBE : B ≤ E) (hEw : E ≤ w.heap.size) :
    Calls Tryz.prog 102 #[ptr bp, ptr bo, ptr bq] w (ExPost N pb B E fv e p' w) := by
  have HG := Lib.hid hrow
  have HX0 := Lib.hid (zbex w)
  have HEW := Lib.hid hEw
  have HNW := Lib.hid hps.size
  have HK0 := Lib.hid (show KP pb w (w.alloc zEx) from (Kept.refl (fun b => b = pb) w).alloc zEx)
  have HZ0 := Lib.hid (show (w.alloc zEx).heap.size = w.heap.size + 1 by simp)
  have HNE := Lib.hid (show w.heap.size ≠ pb by omega)
  have x0 := hbp.2.cell 0
  have x1 := hbo.2.cell 0
  have x2 := hbq.2.cell 0
  have l0 := hbp.2.lt
  have l1 := hbo.2.lt
  have l2 := hbq.2.lt
  clear hrow hbp hbo hbq hps hpB hNB hBE hEw
  go_enter Tryz.func102, Tryz.ntmps102
  go_wp2_with fail
  refine HG.out.mono ?_
  rintro e' w3 ⟨kd, nm, n, a1, n1, c1, a2, n2, c2, a3, n3, c3, a4, n4, c4, ln, col, rfl, hx, hp3, hk3⟩
  have hx3 := hk3.box HX0.out HNE.out
  obtain ⟨z0, z1, z2, z3, z4, z5, z6, z7, z8⟩ := cells9 hx3
  obtain ⟨q0, q1, q2, q3, q4, q5, q6, q7, q8⟩ := free9' hx3
  obtain ⟨V, hV, hvb, hvw⟩ := hx3.write9 (.int .i64 kd) (.string (toB nm)) (.int .i64 n) (.slice a1 n1 c1) (.slice a2 n2 c2) (.slice a3 n3 c3) (.slice a4 n4 c4) (.int .i64 ln) (.int .i64 col)
  have HX := Lib.hid hx
  have HP3 := Lib.hid hp3
  have HK3 := Lib.hid hk3
  have HVB := Lib.hid hvb
  have HVW := Lib.hid hvw
  clear hx hp3 hk3 hx3 hvb hvw
  go_wp2_with fail
  obtain ⟨v0, v1, v2, v3, v4, v5, v6, v7, v8⟩ := cells9 HVB.out
  refine bodyPost_ret (v := .agg (exV kd nm n a1 n1 c1 a2 n2 c2 a3 n3 c3 a4 n4 c4 ln col)) (by simp [results, Tryz.results102, go_sem, v0, v1, v2, v3, v4, v5, v6, v7, v8]) rfl ?_
  have hkV : Kept (fun b => b = w.heap.size) w3 V := kept_wrote (Kept.refl (fun b => b = w.heap.size) w3) HVW.out fun _ => rfl
  have hx := HX.out.ev
  rw [HZ0.out] at hx
  exact ⟨kd, nm, n, a1, n1, c1, a2, n2, c2, a3, n3, c3, a4, n4, c4, ln, col, rfl, ⟨hx.boxed HVW.out HEW.out, HX.out.at_⟩, HP3.out.frame hkV (fun b e => by have := HNW.out; omega), kept_new (HK0.out.trans HK3.out) hkV (fun b e q => by omega)⟩
set_option maxRecDepth 100000 in
set_option maxHeartbeats 8000000 in
theorem row_fault {p : Pp} {ao aq : Option Addr} {no co nq cq : Nat} (w : World) (hps : PS N w pb p fv) (he : p.err ≠ 0) :
    Calls Tryz.prog 103 #[ptr pb, .slice ao no co, .slice aq nq cq] w (ExPost N pb B E fv zeroEx p w) := by
  have HP := Lib.hid hps
  obtain ⟨⟨ra, rc, h1, h2, h3⟩, h4, h5, h6⟩ := hps
  have x4 := h1.cell 4
  have hlt := h1.lt
  have hb : (p.err != 0) = true := by simpa using he
  have HB2 := Lib.hid (((Below.refl w.heap.size w).alloc (Nat.le_refl _) (.cells #[.slice aq nq cq] TToks)).alloc (by simp) zEx)
  have HS1 := Lib.hid (show (w.alloc (.cells #[.slice aq nq cq] TToks)).heap.size = w.heap.size + 1 by simp)
  have HX := Lib.hid (zbex (w.alloc (.cells #[.slice aq nq cq] TToks)))
  clear h1 h2 h3 h4 h5 h6 he
  go_enter Tryz.func103, Tryz.ntmps103
  go_wp2_with fail
  have hx := HX.out
  rw [HS1.out] at hx
  obtain ⟨v0, v1, v2, v3, v4, v5, v6, v7, v8⟩ := cells9 hx
  refine bodyPost_ret (v := .agg (exCells 0 [] 0 0 0)) (by simp [results, Tryz.results103, go_sem, toB_nil, v0, v1, v2, v3, v4, v5, v6, v7, v8]) rfl ?_
  exact ⟨0, [], 0, none, 0, 0, none, 0, 0, none, 0, 0, none, 0, 0, 0, 0, rfl, ⟨EV.leaf _ _ _ _ _ _ _, rfl⟩, HP.out.below HB2.out, Kept.of_below HB2.out (Nat.le_refl _) _⟩
end
end Go.Proofs.YtdajihpfedbihaaGreat.Pa
/-
  CONTRACT of layer parse: a let is made (let$2), where the bindings' call is known.
-/
namespace Go.Proofs.YtdajihpfedbihaaGreat.Pa
open Go.RowKit Mm Tm Pm
set_option linter.unusedVariables false
set_option linter.unusedSimpArgs false
section
variable {find : Name → Fx} {resolve : List Fx → List (Nat × Nat) × Nat × Int} {F : World → Prop} {N pb B E d : Nat} {fv : Value} {p0 : Pp}
set_option maxRecDepth 100000 in
set_option maxHeartbeats 8000000 in
theorem let2_any {bl : List ExB} {b : Lt} {e : Ex} {f f1 f' : Ft} {ln col : Int} {bs bb ba : Nat} {ap : Option Addr} {np cp : Nat} {vb : Value} (w : World)
    (hF : ∀ w w', F w → KP pb w w' → F w') (ih : GrowC find resolve F N pb B E fv p0 d) (hg : grow find resolve d f1 b = some (e, f'))
    (hbinds : Calls Tryz.prog 69 #[.slice ap np cp] (w.alloc zEx) (GrownPost EIt.bd 4 N pb B E fv bl (pf p0 f1) (w.alloc zEx)))
    (hbs : Cap (fun b => B ≤ b ∧ b < E) w bs TCls #[.slice ap np cp]) (hbb : Cap (fun b => B ≤ b ∧ b < E) w bb TFE #[vb]) (hba : Cap (fun b => B ≤ b ∧ b < E) w ba TPos #[.int .i64 ln, .int .i64 col]) (hel : R pb (fun b => B ≤ b ∧ b < E) w (.lt b) [vb])
    (hps : PS N w pb (pf p0 f) fv) (hf : F w) (hpB : pb < B) (hNB : N ≤ B) (hBE : B ≤ E) (hEw : E ≤ w.heap.size) :
    Calls Tryz.prog 145 #[ptr bs, ptr bb, ptr ba] w (ExPost N pb B E fv (.mk 6 [] 0 [] [e] [] bl ln col) (pf p0 f') w) := by
  have hk0 : KP pb w (w.alloc zEx) := (Kept.refl (fun b => b = pb) w).alloc zEx
  have HGB := Lib.hid hbinds
  have HBB := Lib.hid (hbb.kp hk0 hpB)
  have HBA := Lib.hid (hba.kp hk0 hpB)
  have HEL := Lib.hid (hel.kp hk0 hpB)
  have HIH := Lib.hid ih
  have HG2 := Lib.hid hg
  have HFF := Lib.hid hF
  have HF0 := Lib.hid (hF _ _ hf hk0)
  have HX0 := Lib.hid (zbex w)
  have HPB := Lib.hid hpB
  have HBE := Lib.hid hBE
  have HEW := Lib.hid hEw
  have HNW := Lib.hid hps.size
  have HK0 := Lib.hid hk0
  have HZ0 := Lib.hid (show (w.alloc zEx).heap.size = w.heap.size + 1 by simp)
  have HNE := Lib.hid (show w.heap.size ≠ pb by omega)
  have x0 := hbs.2.cell 0
  have l0 := hbs.2.lt
  clear hF ih hg hbinds hbs hbb hba hel hps hf hpB hNB hBE hEw hk0
  go_enter Tryz.func145, Tryz.ntmps145
  go_wp2_with fail
  refine HGB.out.mono ?_
  rintro e' wb ⟨ab, cb, Cb, rfl, hrb, heb, hpb, hkb⟩
  have hkd : KP pb (w.alloc zEx) wb.drew := hkb.drew
  have hsb : w.heap.size + 1 ≤ wb.heap.size := by have := hkb.size; have := HZ0.out; omega
  obtain ⟨kf, cap, rfl, egk, hcall⟩ := HIH.out b f1 vb wb.drew e f' HG2.out (HEL.out.kp hkd HPB.out) (hpb.below ((Below.refl _ _).drew)) (HFF.out _ _ HF0.out hkd) (by have := HEW.out; show E ≤ wb.heap.size; omega)
  have HG := Lib.hid hcall
  have eg2 : ∀ args w, (callFunc kf args).run Tryz.prog w = .ok (.enter kf args) w := egk
  have HBB3 := Lib.hid (HBB.out.kp hkd HPB.out)
  have HBA3 := Lib.hid (HBA.out.kp hkd HPB.out)
  have y3 : wb.drew.cell? ⟨bb, 0, none⟩ = some (.func (.func kf) #[] cap) := HBB3.out.2.cell 0
  have y1 : wb.drew.cell? ⟨ba, 0, none⟩ = some (.int .i64 ln) := HBA3.out.2.cell 0
  have y2 : wb.drew.cell? ⟨ba, 1, none⟩ = some (.int .i64 col) := HBA3.out.2.cell 1
  have HXB := Lib.hid ((hkb.box HX0.out HNE.out).drew)
  have HRB := Lib.hid hrb
  have HEB := Lib.hid heb
  have HKB := Lib.hid hkd
  have HSB := Lib.hid hsb
  clear hrb heb hpb hkb hkd hsb hcall egk
  go_wp2_with fail
  go_region_held3 (fun w' => w'.cell? ⟨bb, 0, none⟩ = some (.func (.func kf) #[] cap) ∧ w'.cell? ⟨ba, 0, none⟩ = some (.int .i64 ln) ∧ w'.cell? ⟨ba, 1, none⟩ = some (.int .i64 col))
    (first
      | exact ⟨y3, y1, y2⟩
      | exact ⟨m3, m1, m2⟩
      | exact ⟨n3, n1, n2⟩
      | (rw [hV]; exact ⟨o3, o1, o2⟩)
      | exact ⟨o3, o1, o2⟩)
    (first
      | (go_at_fn kf; refine HG.out.mono ?_; rintro e' w3 ⟨kd, nm, n, a1, n1', c1, a2, n2', c2, a3, n3', c3, a4, n4, c4, ln', col', rfl, hx, hp3, hk3⟩; have hbb3 := HBB3.out.kp hk3 HPB.out; have hba3 := HBA3.out.kp hk3 HPB.out; have m3 := hbb3.2.cell 0; have m1 := hba3.2.cell 0; have m2 := hba3.2.cell 1; have hx3 := hk3.box HXB.out HNE.out; have hbb4 := hbb3.2.alloc (.cells (exV kd nm n a1 n1' c1 a2 n2' c2 a3 n3' c3 a4 n4 c4 ln' col') TEx); have hba4 := hba3.2.alloc (.cells (exV kd nm n a1 n1' c1 a2 n2' c2 a3 n3' c3 a4 n4 c4 ln' col') TEx); have hx4 := hx3.alloc (.cells (exV kd nm n a1 n1' c1 a2 n2' c2 a3 n3' c3 a4 n4 c4 ln' col') TEx); have n3 := hbb4.cell 0; have n1 := hba4.cell 0; have n2 := hba4.cell 1; obtain ⟨z0, z1, z2, z3, z4, z5, z6, z7, z8⟩ := cells9 hx4; obtain ⟨f0, f1', f2, f3, f4, f5, f6, f7, f8⟩ := free9' hx4; obtain ⟨V, hV, hvb, hvw⟩ := hx4.write9 (.int .i64 6) (.string ⟨#[]⟩) (.int .i64 0) (.slice none 0 0) (.slice (some ⟨w3.heap.size, 0, none⟩) 1 1) (.slice none 0 0) (.slice ab bl.length cb) (.int .i64 ln) (.int .i64 col); have hbb5 := hbb4.wrote hvw (by have := hbb3.1.2; have := HEW.out; omega); have hba5 := hba4.wrote hvw (by have := hba3.1.2; have := HEW.out; omega); have o3 := hbb5.cell 0; have o1 := hba5.cell 0; have o2 := hba5.cell 1; have HX := Lib.hid hx; have HP3 := Lib.hid hp3; have HK3 := Lib.hid hk3; have HVB := Lib.hid hvb; have HVW := Lib.hid hvw; clear hx hp3 hk3 hbb3 hba3 hx3 hbb4 hba4 hx4 hbb5 hba5 hvb hvw))
  go_wp2_with fail
  obtain ⟨v0, v1, v2, v3, v4, v5, v6, v7, v8⟩ := cells9 HVB.out
  refine bodyPost_ret (v := .agg (exV 6 [] 0 none 0 0 (some ⟨w3.heap.size, 0, none⟩) 1 1 none 0 0 ab bl.length cb ln col)) (by simp [results, Tryz.results145, go_sem, toB_nil, v0, v1, v2, v3, v4, v5, v6, v7, v8]) rfl ?_
  have hE := HEW.out
  have hpb := HPB.out
  have hbe := HBE.out
  have hsb := HSB.out
  have hk3V : Kept (fun b => b = w.heap.size) w3 V := kept_wrote ((Kept.refl (fun b => b = w.heap.size) w3).alloc _) HVW.out fun _ => rfl
  have hk : KP pb w V := kept_new ((HK0.out.trans HKB.out).trans HK3.out) hk3V (fun b e q => by omega)
  have hs3 : wb.heap.size ≤ w3.heap.size := HK3.out.size
  have hb : Box V w3.heap.size TEx [.int .i64 kd, .string (toB nm), .int .i64 n, .slice a1 n1' c1, .slice a2 n2' c2, .slice a3 n3' c3, .slice a4 n4 c4, .int .i64 ln', .int .i64 col'].toArray := (Box.new w3 _ _).wrote HVW.out (by omega)
  have hblk : ∀ b, Zn B E (w.alloc zEx).heap.size b → b < wb.heap.size → V.heap[b]? = wb.heap[b]? := fun b hz hl => by
    have hz0 := HZ0.out
    have hz1 := hz.1
    have hne : b ≠ w.heap.size := fun e => by rcases hz.2 with z | z <;> omega
    have e2 : w3.heap[b]? = wb.drew.heap[b]? := HK3.out.block b hl fun e => by have e : b = pb := e; omega
    exact (hk3V.block b (Nat.lt_of_lt_of_le hl hs3) hne).trans e2
  have hzw : ∀ b, Zn B E (w.alloc zEx).heap.size b → b < wb.heap.size → Zn B E w.heap.size b := fun b hz _ => hz.weak (by rw [HZ0.out]; omega)
  have hx := HX.out.ev
  have hx' : EV (Zn B E w.heap.size) V (.ex e) _ := hx.frame hk3V.size (fun b hz hl => hk3V.block b hl fun e => by have hz2 : b < E ∨ wb.heap.size ≤ b := hz.2; omega) fun b hz _ => hz.weak (by show _ ≤ wb.heap.size; omega)
  refine ⟨6, [], 0, none, 0, 0, some ⟨w3.heap.size, 0, none⟩, 1, 1, none, 0, 0, ab, bl.length, cb, ln, col, rfl, ⟨.ex (Cl := fun _ => []) (RowZ.nil _ _ _ _) (RowZ.mk hb ⟨by omega, .inr (by omega)⟩ rfl) (RowZ.nil _ _ _ _) (HRB.out.frame (Nat.le_trans hs3 hk3V.size) hblk hzw) (fun i e' h => ?_) (fun i e h => by simp at h) (fun i b h => (HEB.out i b h).frame (Nat.le_trans hs3 hk3V.size) hblk hzw), rfl⟩, HP3.out.frame hk3V (fun b e => by have := HNW.out; omega), hk⟩
  cases i with
  | zero =>
    simp at h
    subst h
    exact hx'
  | succ i => simp at h
end
end Go.Proofs.YtdajihpfedbihaaGreat.Pa
