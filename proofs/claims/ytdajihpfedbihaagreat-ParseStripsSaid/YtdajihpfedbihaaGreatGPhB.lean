/-
  CONTRACT of layer parse: bindings of clauses (binds).
-/
import Derived.Test.YtdajihpfedbihaaGreatGPhA

namespace Go.Proofs.YtdajihpfedbihaaGreat.Pa
open Go.RowKit Mm Tm Pm
set_option linter.unusedVariables false
set_option linter.unusedSimpArgs false
theorem Tbd : (Tryz.prog.info? 51).map (fun i => (i.zero, i.size, i.bytes)) = some (some (.agg #[.string ByteArray.empty, .slice none 0 0, .int .i64 0, .int .i64 0]), 4, 56) := by kernel_rfl
theorem Tcc : (Tryz.prog.info? 100).map (fun i => (i.zero, i.size, i.bytes)) = some (some (.agg #[.slice none 0 0, .slice none 0 0]), 2, 48) := by kernel_rfl
section
variable {find : Name → Fx} {resolve : List Fx → List (Nat × Nat) × Nat × Int}
theorem binds_cons {d : Nat} {f : Ft} {acc : List ExB} {a : Cl} {l : List Cl} {r : List ExB × Ft} (h : growBinds find resolve (d + 1) f acc (a :: l) = some r) :
    ∃ t ps rh e f1, a = .mk t ps rh ∧ growRhs find resolve d f rh = some (e, f1) ∧ (acc = [] → growBinds find resolve d f1 [.mk t.text [.mk ps e] t.ln t.col] l = some r) ∧
      (∀ init nm cs ln col, acc = init ++ [.mk nm cs ln col] → (nm = t.text → growBinds find resolve d f1 (init ++ [.mk nm (cs ++ [.mk ps e]) ln col]) l = some r) ∧ (nm ≠ t.text → growBinds find resolve d f1 (init ++ [.mk nm cs ln col] ++ [.mk t.text [.mk ps e] t.ln t.col]) l = some r)) := by
  obtain ⟨t, ps, rh⟩ := a
  rw [growBinds] at h
  obtain ⟨⟨e, f1⟩, h1, h2⟩ := Option.bind_eq_some_iff.1 h
  dsimp only at h2
  refine ⟨t, ps, rh, e, f1, rfl, h1, fun q => ?_, fun init nm cs ln col q => ⟨fun e' => ?_, fun e' => ?_⟩⟩
  · subst q
    exact h2
  · subst q
    rw [List.getLast?_append] at h2
    simp only [List.getLast?_singleton, Option.some_or] at h2
    rw [if_pos e', List.dropLast_concat] at h2
    exact h2
  · subst q
    rw [List.getLast?_append] at h2
    simp only [List.getLast?_singleton, Option.some_or] at h2
    rw [if_neg e'] at h2
    exact h2
theorem binds_nil {d : Nat} {f : Ft} {acc : List ExB} {r : List ExB × Ft} (h : growBinds find resolve d f acc [] = some r) : r = (acc, f) := by
  cases d with
  | zero => simp [growBinds] at h
  | succ d => rw [growBinds] at h; exact (Option.some.inj h).symm
/-- the bindings made so far -/
def BdM (B0 : Nat) (Q : Nat → Prop) (w : World) (sv : Value) (acc : List ExB) (k : Nat) : Prop :=
  (acc = [] ∧ sv = .slice none 0 0) ∨ ∃ init nm cs ln col vs sc us, acc = init ++ [.mk nm cs ln col] ∧ init.length < k ∧ cs.length ≤ k ∧ BdL B0 Q w sv init nm cs ln col vs sc us
structure BwI (find : Name → Fx) (resolve : List Fx → List (Nat × Nat) × Nat × Int) (F : World → Prop) (N pb B E : Nat) (fv : Value) (p0 : Pp) (L : List Cl) (bl : List ExB) (f' : Ft) (w : World) (D k : Nat) (wr : World) (sv : Value) (acc : List ExB) (fk : Ft) : Prop where
  run : ∃ d, d ≤ D ∧ growBinds find resolve d fk acc (L.drop k) = some (bl, f')
  mem : BdM w.heap.size (Zn B E w.heap.size) wr sv acc k
  le : k ≤ L.length
  ps : PS N wr pb (pf p0 fk) fv
  kp : KP pb w wr
  hf : F wr
variable {F : World → Prop} {N pb B E d : Nat} {fv : Value} {p0 : Pp}
abbrev clO (t : Tk) (a : Option Addr) (n c : Nat) (v : Value) : Obj := .cells #[.int .i64 t.kind, .string (toB t.text), .int .i64 t.n, .int .i64 t.ln, .int .i64 t.col, .bool t.made, .slice a n c, v] TCl
set_option maxRecDepth 100000 in
set_option maxHeartbeats 8000000 in
theorem binds_any {L : List Cl} {bl : List ExB} {f f' : Ft} {sp : Value} {C : Nat → List Value} (w : World)
    (hF : ∀ w w', F w → KP pb w w' → F w') (ih : ∀ d', d' < d → GrowC find resolve F N pb B E fv p0 d') (hg : growBinds find resolve d f [] L = some (bl, f'))
    (hrow : RowZ (fun b => B ≤ b ∧ b < E) w sp L.length 8 C) (hels : ∀ i c, L[i]? = some c → R pb (fun b => B ≤ b ∧ b < E) w (.cl c) (C i)) (hlen : L.length ≤ 100000000)
    (hps : PS N w pb (pf p0 f) fv) (hf : F w) (hpB : pb < B) (hNB : N ≤ B) (hBE : B ≤ E) (hEw : E ≤ w.heap.size) :
    Calls Tryz.prog 69 #[sp] w (GrownPost EIt.bd 4 N pb B E fv bl (pf p0 f') w) := by
  obtain ⟨i0, hi0, hi1, hi2, hi3⟩ := info_parts Tbd
  obtain ⟨j0, hj0, hj1, hj2, hj3⟩ := info_parts Tcc
  have hrow' := hrow
  obtain ⟨a0, c0, rfl, hc0, hrd⟩ := hrow
  have HRD := Lib.hid hrow'
  have HEL := Lib.hid hels
  have HIH := Lib.hid ih
  have HFF := Lib.hid hF
  have HPB := Lib.hid hpB
  have HNB := Lib.hid hNB
  have HBW := Lib.hid hBE
  have HEW := Lib.hid hEw
  have HLN := Lib.hid hlen
  have HF0 := Lib.hid hf
  have HNW := Lib.hid hps.size
  have HQ := Lib.hid (show ∀ b, w.heap.size ≤ b → Zn B E w.heap.size b from fun b hb => ⟨by omega, .inr hb⟩)
  have HST := Lib.hid (BwI.mk (B := B) (E := E) (L := L) (bl := bl) (w := w) (D := d) (k := 0) ⟨d, Nat.le_refl _, hg⟩ (.inl ⟨rfl, rfl⟩) (Nat.zero_le _) hps (Kept.refl (fun b => b = pb) w) hf)
  clear hrow' hrd hels ih hF hpB hNB hBE hEw hlen hg hps hf
  go_enter Tryz.func69, Tryz.ntmps69
  go_wp2_with fail
  go_loopg [3, 9] L.length (fun dd v3 v9 wr => ∃ (k : Nat) (acc : List ExB) (fk : Ft), k + dd = L.length ∧ v9 = .int .i64 k ∧ BwI find resolve F N pb B E fv p0 L bl f' w d k wr v3 acc fk)
  case atStart => exact ⟨0, _, _, by omega, rfl, HST.out⟩
  case round =>
    obtain ⟨k, acc, fk, hk, rfl, hI⟩ := hrel
    have HI := Lib.hid hI
    have HK := Lib.hid hk
    have hkle : k ≤ L.length := by omega
    have hll := HLN.out
    by_cases hlt : k < L.length
    · have hlt' : (k : Int) < L.length := by omega
      obtain ⟨d2, hd2, hg2⟩ := hI.run
      rw [List.drop_eq_getElem_cons hlt] at hg2
      obtain ⟨d3, rfl⟩ : ∃ d3, d2 = d3 + 1 := by
        cases d2 with
        | zero => simp [growBinds] at hg2
        | succ d3 => exact ⟨d3, rfl⟩
      obtain ⟨t, ps, rh, el, f1, hLk, hgr, hN0, hN1⟩ := binds_cons hg2
      have hrk := HEL.out k L[k] (List.getElem?_eq_getElem hlt)
      rw [hLk] at hrk
      obtain ⟨Ck, hCk⟩ : ∃ Ck, C k = Ck := ⟨_, rfl⟩
      rw [hCk] at hrk
      have hrow2 := HRD.out.kp hI.kp HPB.out
      obtain ⟨aa, cc, hq, _, hrd2⟩ := hrow2
      injection hq with hq1 hq2 hq3
      subst hq1 hq3
      obtain ⟨g, rfl, hgz, hgl, hcell⟩ := hrd2 k hlt
      rw [hCk] at hcell
      have hrkw := hrk.kp hI.kp HPB.out
      cases hrkw with
      | @cl _ _ _ ac cc' vr hp1 hp2 hp3 hr4 =>
        have m0 := hcell 0 _ rfl
        have m1 := hcell 1 _ rfl
        have m2 := hcell 2 _ rfl
        have m3 := hcell 3 _ rfl
        have m4 := hcell 4 _ rfl
        have m5 := hcell 5 _ rfl
        have m6 := hcell 6 _ rfl
        have m7 := hcell 7 _ rfl
        rw [Nat.add_zero] at m0
        obtain ⟨kf, cap, rfl, egk, _⟩ := rh_makes wr (show d3 ≤ d by omega) HFF.out HIH.out hgr hr4 hI.ps hI.hf HPB.out HNB.out HBW.out (Nat.le_trans HEW.out hI.kp.size)
        have HALL := Lib.hid (show ∀ (W : World) (X : Nat → Prop), Kept X wr W → (∀ b, X b → w.heap.size ≤ b) → Calls Tryz.prog kf cap W (GrownPost EIt.rhs 10 N pb B E fv el (pf p0 f1) W) from fun W X hk hX => by
          have hE := HEW.out
          have hkp : KP pb w W := kept_new hI.kp hk (fun b x q => by have := hX b x; omega)
          obtain ⟨kf', cap', hq, _, hc⟩ := rh_makes W (show d3 ≤ d by omega) HFF.out HIH.out hgr (hr4.kept hk fun b hz x _ => by have := hX b x; have := hz.2; omega) (hI.ps.frame hk fun b x => Nat.le_trans HNW.out (hX b x)) (HFF.out _ _ HF0.out hkp) HPB.out HNB.out HBW.out (Nat.le_trans hE hkp.size)
          injection hq with hq1 hq2 hq3
          injection hq1 with hq1
          subst hq1 hq3
          exact hc)
        have eg2 : ∀ args w, (callFunc kf args).run Tryz.prog w = .ok (.enter kf args) w := egk
        have HP1 := Lib.hid hp1
        have HP2 := Lib.hid hp2
        have HN0 := Lib.hid hN0
        have HN1 := Lib.hid hN1
        have HD3 := Lib.hid (show d3 ≤ d by omega)
        have HLW := Lib.hid (show E ≤ wr.heap.size from Nat.le_trans HEW.out hI.kp.size)
        have hst := st_one (v := .func (.func kf) #[] cap) rfl
        obtain ⟨W1, hW1, hX1, hB1⟩ : ∃ W1, (wr.alloc (clO t ac ps.length cc' Value.nilFunc)).setCell ⟨wr.heap.size, 7, none⟩ (.func (.func kf) #[] cap) = W1 ∧ Box W1 wr.heap.size TCl #[.int .i64 t.kind, .string (toB t.text), .int .i64 t.n, .int .i64 t.ln, .int .i64 t.col, .bool t.made, .slice ac ps.length cc', .func (.func kf) #[] cap] ∧ Below wr.heap.size wr W1 :=
          ⟨_, rfl, (Box.new wr _ _).put 7 _, ((Below.refl wr.heap.size wr).alloc (Nat.le_refl _) _).setCell (Nat.le_refl _) _⟩
        obtain ⟨n0, n1, n2, n3, n4, n5, n6, n7⟩ := cells8 hX1
        have HZ1 := Lib.hid (show W1.heap.size = wr.heap.size + 1 by rw [← hW1, World.size_setCell, World.size_alloc])
        have HB1 := Lib.hid hB1
        have HX1 := Lib.hid hX1
        have l1 := hX1.lt
        clear hX1 hB1
        have hmem := hI.mem
        clear hI hk hd2 hg2 hLk hgr hN0 hN1 hrk hCk hrd2 hcell hp1 hp2 hp3 hr4 egk hgz
        rcases hmem with ⟨hacc, rfl⟩ | ⟨init, nm, cs, ln, col, vs, sc, us, hacc, hin, hcn, hL⟩
        · have HACC := Lib.hid hacc
          have HIN := Lib.hid (show 0 < k + 1 by omega)
          clear hacc
          go_wp2_with fail
          go_quiet (fail)
          
          have hX2 := HX1.out.drewN nq
          have hB2 : Below wr.heap.size wr (W1.drewN nq) := below_drewN HB1.out nq
          have hK2 : Kept (fun b => w.heap.size ≤ b) wr (W1.drewN nq) := Kept.of_below hB2 (Nat.le_refl _) _
          have hZ2 : (W1.drewN nq).heap.size = wr.heap.size + 1 := HZ1.out
          
          have hO2 := OwnE.nil (f := EIt.bd) (TE := TBd) (k := 4) w.heap.size (Zn B E w.heap.size) (W1.drewN nq)
          clear n0 n1 n2 n3 n4 n5 n6 n7 hB2 HB1 HX1 HZ1 hZ2
          generalize W1.drewN nq = W2 at hX2 hK2 hO2 ⊢
          
          have HO2 := Lib.hid hO2
          have HX2 := Lib.hid hX2
          have HK2 := Lib.hid hK2
          obtain ⟨z0, z1, z2, z3, z4, z5, z6, z7⟩ := cells8 hX2
          have hsw2 : w.heap.size ≤ W2.heap.size := Nat.le_trans HI.out.kp.size hK2.size
          clear hO2 hX2 hK2
          go_wp2_with (at_builtin; go_loud (refine wpList_append_own_at _ rfl _ _ 24 rfl w.heap.size TBd i0 _ 4 56 Tryz.underlying24 hi0 hi1 hi2 hi3 rfl (by decide) _ _ _ rfl (HO2.out.own.alloc _) ⟨W2.heap.size, 0, none⟩ 1 1 [.string (toB t.text), .slice none 0 0, .int .i64 t.ln, .int .i64 t.col] rfl rfl (news_new W2 #[.string (toB t.text), .slice none 0 0, .int .i64 t.ln, .int .i64 t.col] TBd) (fun u hu => by simp only [List.mem_cons, List.not_mem_nil, or_false] at hu; rcases hu with rfl | rfl | rfl | rfl <;> rfl) (by unfold maxLen; have hl0 : ([] : List ExB).length = 0 := rfl; omega) (by have hl0 : ([] : List ExB).length = 0 := rfl; omega) (by simp; omega) ?_))
          intro v7 w7 hown hgrow _ hat
          have hL7 := BdL.open_ (nm := t.text) (ln := t.ln) (col := t.col) HO2.out hown hgrow (by rwa [World.size_alloc])
          obtain ⟨g5, c5, rfl, hg5, hg5l, hc5⟩ := own_form hown
          have hX7 := (HX2.out.alloc (.cells #[.string (toB t.text), .slice none 0 0, .int .i64 t.ln, .int .i64 t.col] TBd)).grown hgrow (own_ne HO2.out.own HX2.out (by decide))
          have hK7 : Kept (fun b => w.heap.size ≤ b) wr w7 := (HK2.out.alloc (.cells #[.string (toB t.text), .slice none 0 0, .int .i64 t.ln, .int .i64 t.col] TBd)).grown hgrow (fun b hb _ => (HO2.out.own.lt b hb).1)
          have hs7 := BdL.slot (init := ([] : List ExB)) hL7
          simp only [List.length_nil, Nat.zero_mul, Nat.zero_add] at hs7
          have y7 := hs7.2.1
          have HQG := Lib.hid hg5
          have HL7 := Lib.hid hL7
          have HX7 := Lib.hid hX7
          have HK7 := Lib.hid hK7
          clear hown hgrow hat hs7 hg5 hL7 hX7 hK7 z0 z1 z2 z3 z4 z5 z6 z7 hsw2
          obtain ⟨z0, z1, z2, z3, z4, z5, z6, z7⟩ := cells8 HX7.out
          go_wp2_with fail
          have hX2 := HX7.out
          have hL2 := HL7.out
          have hK2 := HK7.out
          clear HX2 HK2 HO2
          generalize w7 = W2 at hX2 hK2 hL2 y7 z0 z1 z2 z3 z4 z5 z6 z7 ⊢
          clear z0 z1 z2 z3 z4 z5 z6 z7
          
          have hX9 := hX2.drew
          have hL9 := hL2.drew
          obtain ⟨z0, z1, z2, z3, z4, z5, z6, z7⟩ := cells8 hX2
          have HC9 := Lib.hid (HALL.out W2.drew _ hK2.drew (fun b x => x))
          have HX9 := Lib.hid hX9
          have HL9 := Lib.hid hL9
          have HK2 := Lib.hid hK2
          have HSW2 := Lib.hid (show w.heap.size ≤ W2.drew.heap.size from Nat.le_trans HI.out.kp.size HK2.out.size)
          have HSP := Lib.hid (show wr.heap.size ≠ pb by have := HPB.out; have := HBW.out; have := HLW.out; omega)
          clear hX9 hL9 hX2 hL2 hK2
          skip
          have hwr : IntKind.i64.wrap (0 : Int) = (0 : Int) := IntWalk.i64_in _ (by omega)
          go_region_law (first
            | (go_simp; go_at_fn kf; go_loud (refine HC9.out.mono ?_; rintro e w5 ⟨ar, cr, Cr, rfl, hr5, he5, hp5, hk5⟩; have hX5 := hk5.box HX9.out HSP.out; have HL5 := Lib.hid (HL9.out.kept hk5 (fun b e _ => by clear hwr; have e : b = pb := e; have := HPB.out; have := HBW.out; have := HEW.out; exact ⟨by omega, fun q => by have := q.1; omega⟩)); obtain ⟨m0, m1, m2, m3, m4, m5, m6, m7⟩ := cells8 hX5; have hs5 := BdL.slot (init := ([] : List ExB)) HL5.out; simp only [List.length_nil, Nat.zero_mul, Nat.zero_add] at hs5; have k1 := hs5.2.1; have hl5 := hX5.lt; have hX5a := hX5.alloc (.cells #[.slice ac ps.length cc', .slice ar el.length cr] TCc); have k6 := (cells8 hX5a).2.2.2.2.2.2.1; have hs5b := (BdL.kept HL5.out (X := fun _ => False) (Kept.of_below ((Below.refl w5.heap.size w5).alloc (Nat.le_refl _) (.cells #[.slice ac ps.length cc', .slice ar el.length cr] TCc)) (Nat.le_refl _) _) fun b q => q.elim); have hs5a := BdL.slot (init := ([] : List ExB)) hs5b; simp only [List.length_nil, Nat.zero_mul, Nat.zero_add] at hs5a; have k2 := hs5a.2.1; have HR5 := Lib.hid hr5; have HE5 := Lib.hid he5; have HP5 := Lib.hid hp5; have HK5 := Lib.hid hk5; have HX5 := Lib.hid hX5; have HS5 := Lib.hid (show w.heap.size ≤ w5.heap.size from Nat.le_trans HI.out.kp.size (Nat.le_trans HK2.out.size hk5.size)); clear hr5 he5 hp5 hk5 hX5 hX5a hs5 hs5a hs5b))
            | go_loud (refine step_append_lies _ ?_ (.tmp 49) (.tmp 56) 49 ?_ w.heap.size TCc j0 _ 2 48 Tryz.underlying49 hj0 hj1 hj2 hj3 rfl (by decide) (.slice none 0 0) ([] : List ExC).length ([] : List Value) ?_ (HL5.out.cls.own.alloc _) ⟨w5.heap.size, 0, none⟩ 1 1 [.slice ac ps.length cc', .slice ar el.length cr] ?_ rfl ?_ ?_ (by decide) ?_ ?_ ?_ _ rfl ?_; exact rfl; exact rfl; exact rfl; exact rfl; exact news_new w5 #[.slice ac ps.length cc', .slice ar el.length cr] TCc; (intro u hu; simp only [List.mem_cons, List.not_mem_nil, or_false] at hu; rcases hu with rfl | rfl <;> rfl); (clear hwr; unfold maxLen; have hlc0 : ([] : List ExC).length = 0 := rfl; omega); (clear hwr; have hlc0 : ([] : List ExC).length = 0 := rfl; omega); (clear hwr; have := HS5.out; simp; omega); intro g7 c7 w7 hown hgrow hat hlt7; go_loud (have HM7 := Lib.hid (BdL.add (init := ([] : List ExB)) (c := .mk ps el) HL5.out rfl (cl_new (init := ([] : List ExB)) HL9.out HP1.out HP2.out HR5.out HE5.out HLW.out HEW.out HK2.out.drew HK5.out HSW2.out HPB.out) hown hgrow (hat.imp (fun e => by rw [own_some]; exact e.symm) (fun e => by rw [own_some, e]))); have hs7 := BdL.slot7 (init := ([] : List ExB)) HL5.out hgrow; simp only [List.length_nil, Nat.zero_mul, Nat.zero_add] at hs7; have p0 := hs7.1; have p1 := hs7.2; have HK7 := Lib.hid ((((Kept.refl (fun b => w.heap.size ≤ b) w5).alloc (.cells #[.slice ac ps.length cc', .slice ar el.length cr] TCc)).grown hgrow (fun b hb _ => (HL5.out.cls.own.lt b hb).1)).setCell (a := ⟨g5, 1, none⟩) (fun _ => HQG.out) (.slice (some ⟨g7, 0, none⟩) (([] : List ExC).length + 1) c7)); clear hown hgrow hat hs7)))
          all_goals
            clear hwr
            go_wp2_with fail
            go_roundg (L.length - (k + 1))
            case measure => have := HK.out; omega
            case rel =>
              have hkk : Kept (fun b => w.heap.size ≤ b ∨ b = pb) wr _ := (((HK2.out.drew).mono fun b _ e => .inl e).trans (HK5.out.mono fun b _ e => .inr e)).trans (HK7.out.mono fun b _ e => .inl e)
              have hkp := kept_new HI.out.kp hkk (fun b y q => y.elim (fun y => absurd y (by omega)) id)
              exact ⟨k + 1, [.mk t.text [.mk ps el] t.ln t.col], f1, by have := HK.out; omega, by go_num, ⟨⟨d3, HD3.out, HN0.out HACC.out⟩, .inr ⟨[], t.text, [.mk ps el], t.ln, t.col, [], _, _, rfl, Nat.succ_pos _, Nat.succ_le_succ (Nat.zero_le _), HM7.out⟩, by omega, HP5.out.frame HK7.out (fun b e => Nat.le_trans HNW.out e), hkp, HFF.out _ _ HF0.out hkp⟩⟩
        · by_cases hnm : nm = t.text
          · have HACC := Lib.hid hacc
            have HIN := Lib.hid hin
            obtain ⟨g5, c5, rfl, hg5, hg5l, hc5⟩ := own_form hL.own
            obtain ⟨as5, cs5, rfl⟩ := hL.cls.slice
            have hs5 := hL.slot
            obtain ⟨m, hm⟩ : ∃ m, init.length = m := ⟨_, rfl⟩
            rw [hm] at hs5
            have hml : m < 100000000 := by omega
            have y0 : W1.cell? ⟨g5, m * 4, none⟩ = some (.string (toB nm)) := (HB1.out.cell (p := ⟨g5, m * 4, none⟩) hg5l).trans hs5.1
            have y1 : W1.cell? ⟨g5, m * 4 + 1, none⟩ = some (.slice as5 cs.length cs5) := (HB1.out.cell (p := ⟨g5, m * 4 + 1, none⟩) hg5l).trans hs5.2.1
            rw [hm] at hc5
            have HLL := Lib.hid hL
            have qz : ((m : Int) + 1 == 0) = false := by
              have : ¬ ((m : Int) + 1 = 0) := by omega
              simpa using this
            rw [hm]
            have HM := Lib.hid hm
            
            have qn : ((toB nm).toList == (toB t.text).toList) = true := by rw [hnm]; simp
            have HNM := Lib.hid hnm
            have HQG := Lib.hid hg5
            clear hacc hin hL hm hnm hs5 hg5
            go_wp2_with fail
            go_quiet (fail)
            
            have hX2 := HX1.out.drewN nq
            have hB2 : Below wr.heap.size wr (W1.drewN nq) := below_drewN HB1.out nq
            have hK2 : Kept (fun b => w.heap.size ≤ b) wr (W1.drewN nq) := Kept.of_below hB2 (Nat.le_refl _) _
            have hZ2 : (W1.drewN nq).heap.size = wr.heap.size + 1 := HZ1.out
            
            have hL2 := HLL.out.kept (X := fun _ => False) (Kept.of_below hB2 (Nat.le_refl _) _) fun b q => q.elim
            have y2 : (W1.drewN nq).cell? ⟨g5, m * 4 + 1, none⟩ = some (.slice as5 cs.length cs5) := y1
            clear n0 n1 n2 n3 n4 n5 n6 n7 y0 y1 hB2 HB1 HX1 HZ1 hZ2
            generalize W1.drewN nq = W2 at hX2 hK2 hL2 y2 ⊢
            go_wp2_with fail
            
            have hX9 := hX2.drew
            have hL9 := hL2.drew
            obtain ⟨z0, z1, z2, z3, z4, z5, z6, z7⟩ := cells8 hX2
            have HC9 := Lib.hid (HALL.out W2.drew _ hK2.drew (fun b x => x))
            have HX9 := Lib.hid hX9
            have HL9 := Lib.hid hL9
            have HK2 := Lib.hid hK2
            have HSW2 := Lib.hid (show w.heap.size ≤ W2.drew.heap.size from Nat.le_trans HI.out.kp.size HK2.out.size)
            have HSP := Lib.hid (show wr.heap.size ≠ pb by have := HPB.out; have := HBW.out; have := HLW.out; omega)
            clear hX9 hL9 hX2 hL2 hK2
            have hmi : (m : Int) < m + 1 := Int.lt_succ _
            have hwr : IntKind.i64.wrap (m : Int) = (m : Int) := IntWalk.i64_in _ (by omega)
            go_region_law (first
              | (go_simp; go_at_fn kf; go_loud (refine HC9.out.mono ?_; rintro e w5 ⟨ar, cr, Cr, rfl, hr5, he5, hp5, hk5⟩; have hX5 := hk5.box HX9.out HSP.out; have HL5 := Lib.hid (HL9.out.kept hk5 (fun b e _ => by clear hwr; have e : b = pb := e; have := HPB.out; have := HBW.out; have := HEW.out; exact ⟨by omega, fun q => by have := q.1; omega⟩)); obtain ⟨m0, m1, m2, m3, m4, m5, m6, m7⟩ := cells8 hX5; have hs5 := BdL.slot (init := init) HL5.out; rw [HM.out] at hs5; have k1 := hs5.2.1; have hl5 := hX5.lt; have hX5a := hX5.alloc (.cells #[.slice ac ps.length cc', .slice ar el.length cr] TCc); have k6 := (cells8 hX5a).2.2.2.2.2.2.1; have hs5b := (BdL.kept HL5.out (X := fun _ => False) (Kept.of_below ((Below.refl w5.heap.size w5).alloc (Nat.le_refl _) (.cells #[.slice ac ps.length cc', .slice ar el.length cr] TCc)) (Nat.le_refl _) _) fun b q => q.elim); have hs5a := BdL.slot (init := init) hs5b; rw [HM.out] at hs5a; have k2 := hs5a.2.1; have HR5 := Lib.hid hr5; have HE5 := Lib.hid he5; have HP5 := Lib.hid hp5; have HK5 := Lib.hid hk5; have HX5 := Lib.hid hX5; have HS5 := Lib.hid (show w.heap.size ≤ w5.heap.size from Nat.le_trans HI.out.kp.size (Nat.le_trans HK2.out.size hk5.size)); clear hr5 he5 hp5 hk5 hX5 hX5a hs5 hs5a hs5b))
              | go_loud (refine step_append_lies _ ?_ (.tmp 49) (.tmp 56) 49 ?_ w.heap.size TCc j0 _ 2 48 Tryz.underlying49 hj0 hj1 hj2 hj3 rfl (by decide) (.slice as5 cs.length cs5) cs.length us ?_ (HL5.out.cls.own.alloc _) ⟨w5.heap.size, 0, none⟩ 1 1 [.slice ac ps.length cc', .slice ar el.length cr] ?_ rfl ?_ ?_ (by decide) ?_ ?_ ?_ _ rfl ?_; exact rfl; exact rfl; exact rfl; exact rfl; exact news_new w5 #[.slice ac ps.length cc', .slice ar el.length cr] TCc; (intro u hu; simp only [List.mem_cons, List.not_mem_nil, or_false] at hu; rcases hu with rfl | rfl <;> rfl); (clear hwr; unfold maxLen; have hlc0 : ([] : List ExC).length = 0 := rfl; omega); (clear hwr; have hlc0 : ([] : List ExC).length = 0 := rfl; omega); (clear hwr; have := HS5.out; simp; omega); intro g7 c7 w7 hown hgrow hat hlt7; go_loud (have HM7 := Lib.hid (BdL.add (init := init) (c := .mk ps el) HL5.out rfl (cl_new (init := init) HL9.out HP1.out HP2.out HR5.out HE5.out HLW.out HEW.out HK2.out.drew HK5.out HSW2.out HPB.out) hown hgrow (hat.imp (fun e => by rw [own_some]; exact e.symm) (fun e => by rw [own_some, e]))); have hs7 := BdL.slot7 (init := init) HL5.out hgrow; rw [HM.out] at hs7; have p0 := hs7.1; have p1 := hs7.2; have HK7 := Lib.hid ((((Kept.refl (fun b => w.heap.size ≤ b) w5).alloc (.cells #[.slice ac ps.length cc', .slice ar el.length cr] TCc)).grown hgrow (fun b hb _ => (HL5.out.cls.own.lt b hb).1)).setCell (a := ⟨g5, m * 4 + 1, none⟩) (fun _ => HQG.out) (.slice (some ⟨g7, 0, none⟩) (cs.length + 1) c7)); clear hown hgrow hat hs7)))
            all_goals
              clear hwr
              go_wp2_with fail
              go_roundg (L.length - (k + 1))
              case measure => have := HK.out; omega
              case rel =>
                have hkk : Kept (fun b => w.heap.size ≤ b ∨ b = pb) wr _ := (((HK2.out.drew).mono fun b _ e => .inl e).trans (HK5.out.mono fun b _ e => .inr e)).trans (HK7.out.mono fun b _ e => .inl e)
                have hkp := kept_new HI.out.kp hkk (fun b y q => y.elim (fun y => absurd y (by omega)) id)
                exact ⟨k + 1, init ++ [.mk nm (cs ++ [.mk ps el]) ln col], f1, by have := HK.out; omega, by go_num, ⟨⟨d3, HD3.out, (HN1.out init nm cs ln col HACC.out).1 HNM.out⟩, .inr ⟨init, nm, cs ++ [.mk ps el], ln, col, vs, _, _, rfl, by have := HIN.out; omega, by rw [List.length_append, List.length_singleton]; omega, by have := HM7.out; rw [HM.out] at this; exact this⟩, by omega, HP5.out.frame HK7.out (fun b e => Nat.le_trans HNW.out e), hkp, HFF.out _ _ HF0.out hkp⟩⟩
          · have HACC := Lib.hid hacc
            have HIN := Lib.hid hin
            obtain ⟨g5, c5, rfl, hg5, hg5l, hc5⟩ := own_form hL.own
            obtain ⟨as5, cs5, rfl⟩ := hL.cls.slice
            have hs5 := hL.slot
            obtain ⟨m, hm⟩ : ∃ m, init.length = m := ⟨_, rfl⟩
            rw [hm] at hs5
            have hml : m < 100000000 := by omega
            have y0 : W1.cell? ⟨g5, m * 4, none⟩ = some (.string (toB nm)) := (HB1.out.cell (p := ⟨g5, m * 4, none⟩) hg5l).trans hs5.1
            have y1 : W1.cell? ⟨g5, m * 4 + 1, none⟩ = some (.slice as5 cs.length cs5) := (HB1.out.cell (p := ⟨g5, m * 4 + 1, none⟩) hg5l).trans hs5.2.1
            rw [hm] at hc5
            have HLL := Lib.hid hL
            have qz : ((m : Int) + 1 == 0) = false := by
              have : ¬ ((m : Int) + 1 = 0) := by omega
              simpa using this
            rw [hm]
            have HM := Lib.hid hm
            
            have qn : ((toB nm).toList == (toB t.text).toList) = false := by
              rw [toB_toList, toB_toList]
              exact beq_eq_false_iff_ne.2 hnm
            have HNM := Lib.hid hnm
            obtain ⟨acc2, hacc2⟩ : ∃ acc2, init ++ [ExB.mk nm cs ln col] = acc2 := ⟨_, rfl⟩
            obtain ⟨vs2, hvs2⟩ : ∃ vs2, vs ++ [.string (toB nm), .slice as5 cs.length cs5, .int .i64 ln, .int .i64 col] = vs2 := ⟨_, rfl⟩
            have hln : acc2.length = m + 1 := by rw [← hacc2, List.length_append, List.length_singleton, hm]
            have HA2 := Lib.hid hacc2
            have HV2 := Lib.hid hvs2
            have HLN1 := Lib.hid hln
            clear hacc hin hL hm hnm hs5 hln hacc2 hvs2
            go_wp2_with fail
            go_quiet (fail)
            
            have hX2 := HX1.out.drewN nq
            have hB2 : Below wr.heap.size wr (W1.drewN nq) := below_drewN HB1.out nq
            have hK2 : Kept (fun b => w.heap.size ≤ b) wr (W1.drewN nq) := Kept.of_below hB2 (Nat.le_refl _) _
            have hZ2 : (W1.drewN nq).heap.size = wr.heap.size + 1 := HZ1.out
            
            have hO2 := (HLL.out.kept (X := fun _ => False) (Kept.of_below hB2 (Nat.le_refl _) _) fun b q => q.elim).whole HQ.out
            rw [show (Value.slice (some ⟨g5, 0, none⟩) (init.length + 1) c5) = .slice (some ⟨g5, 0, none⟩) (m + 1) c5 by rw [HM.out], HA2.out, HV2.out] at hO2
            clear n0 n1 n2 n3 n4 n5 n6 n7 y0 y1 hB2 HB1 HX1 HZ1 hZ2 HLL hg5 hg5l hc5
            generalize W1.drewN nq = W2 at hX2 hK2 hO2 ⊢
            
            have HO2 := Lib.hid hO2
            have HX2 := Lib.hid hX2
            have HK2 := Lib.hid hK2
            obtain ⟨z0, z1, z2, z3, z4, z5, z6, z7⟩ := cells8 hX2
            have hsw2 : w.heap.size ≤ W2.heap.size := Nat.le_trans HI.out.kp.size hK2.size
            clear hO2 hX2 hK2
            go_wp2_with (at_builtin; go_loud (refine wpList_append_own_at _ rfl _ _ 24 rfl w.heap.size TBd i0 _ 4 56 Tryz.underlying24 hi0 hi1 hi2 hi3 rfl (by decide) _ _ _ rfl (HO2.out.own.alloc _) ⟨W2.heap.size, 0, none⟩ 1 1 [.string (toB t.text), .slice none 0 0, .int .i64 t.ln, .int .i64 t.col] rfl rfl (news_new W2 #[.string (toB t.text), .slice none 0 0, .int .i64 t.ln, .int .i64 t.col] TBd) (fun u hu => by simp only [List.mem_cons, List.not_mem_nil, or_false] at hu; rcases hu with rfl | rfl | rfl | rfl <;> rfl) (by unfold maxLen; have hl0 := HLN1.out; omega) (by have hl0 := HLN1.out; omega) (by simp; omega) ?_))
            intro v7 w7 hown hgrow _ hat
            have hL7 := BdL.open_ (nm := t.text) (ln := t.ln) (col := t.col) HO2.out hown hgrow (by rwa [World.size_alloc])
            obtain ⟨g5, c5, rfl, hg5, hg5l, hc5⟩ := own_form hown
            have hX7 := (HX2.out.alloc (.cells #[.string (toB t.text), .slice none 0 0, .int .i64 t.ln, .int .i64 t.col] TBd)).grown hgrow (own_ne HO2.out.own HX2.out (by decide))
            have hK7 : Kept (fun b => w.heap.size ≤ b) wr w7 := (HK2.out.alloc (.cells #[.string (toB t.text), .slice none 0 0, .int .i64 t.ln, .int .i64 t.col] TBd)).grown hgrow (fun b hb _ => (HO2.out.own.lt b hb).1)
            have hs7 := BdL.slot (init := acc2) hL7
            rw [HLN1.out] at hs7
            (try rw [HLN1.out] at hc5)
            (try rw [HLN1.out])
            have y7 := hs7.2.1
            have HQG := Lib.hid hg5
            have HL7 := Lib.hid hL7
            have HX7 := Lib.hid hX7
            have HK7 := Lib.hid hK7
            clear hown hgrow hat hs7 hg5 hL7 hX7 hK7 z0 z1 z2 z3 z4 z5 z6 z7 hsw2
            obtain ⟨z0, z1, z2, z3, z4, z5, z6, z7⟩ := cells8 HX7.out
            go_wp2_with fail
            have hX2 := HX7.out
            have hL2 := HL7.out
            have hK2 := HK7.out
            clear HX2 HK2 HO2
            generalize w7 = W2 at hX2 hK2 hL2 y7 z0 z1 z2 z3 z4 z5 z6 z7 ⊢
            clear z0 z1 z2 z3 z4 z5 z6 z7
            
            have hX9 := hX2.drew
            have hL9 := hL2.drew
            obtain ⟨z0, z1, z2, z3, z4, z5, z6, z7⟩ := cells8 hX2
            have HC9 := Lib.hid (HALL.out W2.drew _ hK2.drew (fun b x => x))
            have HX9 := Lib.hid hX9
            have HL9 := Lib.hid hL9
            have HK2 := Lib.hid hK2
            have HSW2 := Lib.hid (show w.heap.size ≤ W2.drew.heap.size from Nat.le_trans HI.out.kp.size HK2.out.size)
            have HSP := Lib.hid (show wr.heap.size ≠ pb by have := HPB.out; have := HBW.out; have := HLW.out; omega)
            clear hX9 hL9 hX2 hL2 hK2
            have hmi : (m : Int) + 1 < m + 1 + 1 := Int.lt_succ _
            have hmi2 : (0 : Int) ≤ (m : Int) + 1 := by omega
            have hwr : IntKind.i64.wrap ((m : Int) + 1) = ((m : Int) + 1) := IntWalk.i64_in _ (by omega)
            go_region_law (first
              | (go_simp; go_at_fn kf; go_loud (refine HC9.out.mono ?_; rintro e w5 ⟨ar, cr, Cr, rfl, hr5, he5, hp5, hk5⟩; have hX5 := hk5.box HX9.out HSP.out; have HL5 := Lib.hid (HL9.out.kept hk5 (fun b e _ => by clear hwr; have e : b = pb := e; have := HPB.out; have := HBW.out; have := HEW.out; exact ⟨by omega, fun q => by have := q.1; omega⟩)); obtain ⟨m0, m1, m2, m3, m4, m5, m6, m7⟩ := cells8 hX5; have hs5 := BdL.slot (init := acc2) HL5.out; rw [HLN1.out] at hs5; have k1 := hs5.2.1; have hl5 := hX5.lt; have hX5a := hX5.alloc (.cells #[.slice ac ps.length cc', .slice ar el.length cr] TCc); have k6 := (cells8 hX5a).2.2.2.2.2.2.1; have hs5b := (BdL.kept HL5.out (X := fun _ => False) (Kept.of_below ((Below.refl w5.heap.size w5).alloc (Nat.le_refl _) (.cells #[.slice ac ps.length cc', .slice ar el.length cr] TCc)) (Nat.le_refl _) _) fun b q => q.elim); have hs5a := BdL.slot (init := acc2) hs5b; rw [HLN1.out] at hs5a; have k2 := hs5a.2.1; have HR5 := Lib.hid hr5; have HE5 := Lib.hid he5; have HP5 := Lib.hid hp5; have HK5 := Lib.hid hk5; have HX5 := Lib.hid hX5; have HS5 := Lib.hid (show w.heap.size ≤ w5.heap.size from Nat.le_trans HI.out.kp.size (Nat.le_trans HK2.out.size hk5.size)); clear hr5 he5 hp5 hk5 hX5 hX5a hs5 hs5a hs5b))
              | go_loud (refine step_append_lies _ ?_ (.tmp 49) (.tmp 56) 49 ?_ w.heap.size TCc j0 _ 2 48 Tryz.underlying49 hj0 hj1 hj2 hj3 rfl (by decide) (.slice none 0 0) ([] : List ExC).length ([] : List Value) ?_ (HL5.out.cls.own.alloc _) ⟨w5.heap.size, 0, none⟩ 1 1 [.slice ac ps.length cc', .slice ar el.length cr] ?_ rfl ?_ ?_ (by decide) ?_ ?_ ?_ _ rfl ?_; exact rfl; exact rfl; exact rfl; exact rfl; exact news_new w5 #[.slice ac ps.length cc', .slice ar el.length cr] TCc; (intro u hu; simp only [List.mem_cons, List.not_mem_nil, or_false] at hu; rcases hu with rfl | rfl <;> rfl); (clear hwr; unfold maxLen; have hlc0 : ([] : List ExC).length = 0 := rfl; omega); (clear hwr; have hlc0 : ([] : List ExC).length = 0 := rfl; omega); (clear hwr; have := HS5.out; simp; omega); intro g7 c7 w7 hown hgrow hat hlt7; go_loud (have HM7 := Lib.hid (BdL.add (init := acc2) (c := .mk ps el) HL5.out rfl (cl_new (init := acc2) HL9.out HP1.out HP2.out HR5.out HE5.out HLW.out HEW.out HK2.out.drew HK5.out HSW2.out HPB.out) hown hgrow (hat.imp (fun e => by rw [own_some]; exact e.symm) (fun e => by rw [own_some, e]))); have hs7 := BdL.slot7 (init := acc2) HL5.out hgrow; rw [HLN1.out] at hs7; have p0 := hs7.1; have p1 := hs7.2; have HK7 := Lib.hid ((((Kept.refl (fun b => w.heap.size ≤ b) w5).alloc (.cells #[.slice ac ps.length cc', .slice ar el.length cr] TCc)).grown hgrow (fun b hb _ => (HL5.out.cls.own.lt b hb).1)).setCell (a := ⟨g5, (m + 1) * 4 + 1, none⟩) (fun _ => HQG.out) (.slice (some ⟨g7, 0, none⟩) (([] : List ExC).length + 1) c7)); clear hown hgrow hat hs7)))
            all_goals
              clear hwr
              go_wp2_with fail
              go_roundg (L.length - (k + 1))
              case measure => have := HK.out; omega
              case rel =>
                have hkk : Kept (fun b => w.heap.size ≤ b ∨ b = pb) wr _ := (((HK2.out.drew).mono fun b _ e => .inl e).trans (HK5.out.mono fun b _ e => .inr e)).trans (HK7.out.mono fun b _ e => .inl e)
                have hkp := kept_new HI.out.kp hkk (fun b y q => y.elim (fun y => absurd y (by omega)) id)
                exact ⟨k + 1, acc2 ++ [.mk t.text [.mk ps el] t.ln t.col], f1, by have := HK.out; omega, by go_num, ⟨⟨d3, HD3.out, by rw [← HA2.out]; exact (HN1.out init nm cs ln col HACC.out).2 HNM.out⟩, .inr ⟨acc2, t.text, [.mk ps el], t.ln, t.col, _, _, _, rfl, by rw [HLN1.out]; have := HIN.out; have := HM.out; omega, Nat.succ_le_succ (Nat.zero_le _), by have := HM7.out; rw [HLN1.out] at this; exact this⟩, by omega, HP5.out.frame HK7.out (fun b e => Nat.le_trans HNW.out e), hkp, HFF.out _ _ HF0.out hkp⟩⟩
    · have hge : ¬ (k : Int) < L.length := by omega
      obtain ⟨d2, hd2, hg2⟩ := hI.run
      rw [List.drop_eq_nil_of_le (by omega)] at hg2
      have hend := binds_nil hg2
      injection hend with q1 q2
      have HEND := Lib.hid (And.intro q1 q2)
      have hmem := hI.mem
      clear hI hk hd2 hg2 q1 q2
      rcases hmem with ⟨hacc, rfl⟩ | ⟨init, nm, cs, ln, col, vs, sc, us, hacc, hin, hcn, hL⟩
      · have HA := Lib.hid hacc
        clear hacc
        go_wp2_with fail
        go_ret
        rw [HEND.out.1, HEND.out.2, HA.out]
        exact ⟨none, 0, fun _ => [], rfl, RowZ.nil _ _ _ _, fun i t ht => by simp at ht, HI.out.ps, HI.out.kp⟩
      · have HA := Lib.hid hacc
        have HO := Lib.hid (hL.whole HQ.out)
        obtain ⟨g5, c5, rfl, _⟩ := own_form hL.own
        clear hacc hin hcn hL
        go_wp2_with fail
        go_ret
        rw [HEND.out.1, HEND.out.2, HA.out]
        have hl : (init ++ [ExB.mk nm cs ln col]).length = init.length + 1 := by rw [List.length_append, List.length_singleton]
        have hz := HO.out.rowz HQ.out
        exact ⟨some ⟨g5, 0, none⟩, c5, _, by rw [hl]; rfl, by rw [hl] at hz ⊢; exact hz, fun i t ht => HO.out.ev ht, HI.out.ps, HI.out.kp⟩
end
end Go.Proofs.YtdajihpfedbihaaGreat.Pa
