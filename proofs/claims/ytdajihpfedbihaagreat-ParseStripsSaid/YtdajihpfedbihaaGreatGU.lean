/-
  CONTRACTS of layer parse: a program of clauses is made of what was read (program$2). WORDS: tokens as layer layout lays them.
-/
import Derived.Test.YtdajihpfedbihaaGreatGR
import Derived.Test.YtdajihpfedbihaaGreatGTc

namespace Go.Proofs.YtdajihpfedbihaaGreat.Pa
open Go.RowKit Mm Tm Pm
set_option linter.unusedVariables false
set_option linter.unusedSimpArgs false
theorem fxnil (pb : Nat) (w : World) : FxF pb none 0 [] w := RowZ.nil _ _ _ _
theorem growC_fix {N pb B E : Nat} {af : Option Addr} {cf : Nat} {fixes : List Fx} {p0 : Pp} (hfx : fixes.length ≤ 9223372036854775807) (hpB : pb < B) (hNB : N ≤ B) (hBE : B ≤ E) : ∀ d, GrowC (findD fixes) resolveD (FxF pb af cf fixes) N pb B E (.slice af fixes.length cf) p0 d :=
  growC_all (fun w w' h k => h.kp k) hpB hNB hBE (fun d ih => row_any hfx hpB hNB hBE d ih) (fun d ih cs f l f' sp C w hg hrow hels hlen hps hf hEw => binds_any w (fun w w' h k => h.kp k) ih hg hrow hels hlen hps hf hpB hNB hBE hEw)
/-- a program in memory: its bindings -/
structure BdV (S : Nat) (w : World) (bl : List ExB) (ab : Option Addr) (cb : Nat) (Cb : Nat → List Value) : Prop where
  row : RowZ (fun b => S ≤ b) w (.slice ab bl.length cb) bl.length 4 Cb
  el : ∀ i t, bl[i]? = some t → EV (fun b => S ≤ b) w (.bd t) (Cb i)
theorem BdV.frame {S S' : Nat} {w w' : World} {bl : List ExB} {ab : Option Addr} {cb : Nat} {Cb : Nat → List Value} (h : BdV S w bl ab cb Cb) {X : Nat → Prop} (hk : Kept X w w') (hX : ∀ b, X b → b < S) (hS : S' ≤ S) : BdV S' w' bl ab cb Cb :=
  ⟨h.row.frame hk.size (fun b hz hl => hk.block b hl fun x => by have := hX b x; omega) fun b hz _ => by omega, fun i t ht => (h.el i t ht).frame hk.size (fun b hz hl => hk.block b hl fun x => by have := hX b x; omega) fun b hz _ => by omega⟩
theorem BdV.later {S : Nat} {w w' : World} {bl : List ExB} {ab : Option Addr} {cb : Nat} {Cb : Nat → List Value} (h : BdV S w bl ab cb Cb) (hb : Below w.heap.size w w') : BdV S w' bl ab cb Cb :=
  h.frame (X := fun _ => False) (Kept.of_below hb (Nat.le_refl _) _) (fun b q => q.elim) (Nat.le_refl _)
def Prg2Post (N pb br : Nat) (bl : List ExB) (p' : Pp) (w : World) (e : Ending) (w' : World) : Prop :=
  ∃ ab cb Cb, e = .returned (.agg #[.slice none 0 0, .slice none 0 0, .slice ab bl.length cb]) ∧ BdV br w' bl ab cb Cb ∧ PS N w' pb p' (.slice none 0 0) ∧ Kept (fun b => b = pb ∨ b = br) w w'
set_option maxRecDepth 100000 in
set_option maxHeartbeats 8000000 in
theorem prog2_any {N pb S bp br bs d : Nat} {L : List Cl} {sv : Value} {C : Nat → List Value} {bl : List ExB} {p0 : Pp} {f f' : Ft} (w : World) (h : PrgR pb S w L bp br bs sv C) (hg : growBinds (findD []) resolveD d f [] L = some (bl, f')) (hps : PS N w pb (pf p0 f) (.slice none 0 0)) (hN : N ≤ S) :
    Calls Tryz.prog 68 #[ptr bp, ptr br, ptr bs] w (Prg2Post N pb br bl (pf p0 f') w) := by
  have hpS : pb < S := Nat.lt_of_lt_of_le hps.lt hN
  have h2 := h.h2
  have h3 := h.h3
  have hbr := h.rd.lt
  obtain ⟨W0, hW0⟩ : ∃ W0, w.alloc (.cells #[.slice none 0 0, .slice none 0 0, .slice none 0 0] TPg) = W0 := ⟨_, rfl⟩
  have hb0 : Below w.heap.size w W0 := by rw [← hW0]; exact (Below.refl _ _).alloc (Nat.le_refl _) _
  have hz0 : W0.heap.size = w.heap.size + 1 := by rw [← hW0]; simp
  have hR0 : Box W0 w.heap.size TPg #[.slice none 0 0, .slice none 0 0, .slice none 0 0] := by rw [← hW0]; exact Box.new w _ _
  have hrd0 := h.rd.below hb0 hbr
  obtain ⟨W1, hW1, hrd1, hw1⟩ : ∃ W1, W0.setCell ⟨br, 1, none⟩ (.slice none 0 0) = W1 ∧ Box W1 br TPg #[.slice none 0 0, .slice none 0 0, .slice none 0 0] ∧ Wrote W0 W1 br := ⟨_, rfl, hrd0.put 1 _, (Wrote.refl _ _).set _ _⟩
  have hk1 : Kept (fun b => b = br) w W1 := kept_wrote (Kept.of_below hb0 (Nat.le_refl _) _) hw1 fun _ => rfl
  have hps1 : PS N W1 pb (pf p0 f) (.slice none 0 0) := hps.frame hk1 fun b e => by have e : b = br := e; omega
  obtain ⟨ra, rc, hpx, _, _⟩ := (hps.below hb0).ex
  have x3 := hpx.cell 3
  have l3 := hpx.lt
  have hbx := h.bx.below hb0 h.bx.lt
  have x0 := hbx.cell 0
  have l0 := hbx.lt
  have r1 := hrd0.cell 1
  have r1' := hrd0.free 1
  have l1 := hrd0.lt
  have hcl1 := hk1.box h.cl (by omega)
  have x2 := hcl1.cell 0
  have l2 := hcl1.lt
  have hrow1 := (h.row.frame hk1.size (fun b hz hl => hk1.block b hl (fun e => by have e : b = br := e; omega)) (fun b hz hl => ⟨hz, hl⟩) : RowZ (fun b => br + 1 ≤ b ∧ b < w.heap.size) W1 sv L.length 8 C)
  have hel1 : ∀ i c, L[i]? = some c → R pb (fun b => br + 1 ≤ b ∧ b < w.heap.size) W1 (.cl c) (C i) := fun i c hc => (h.el i c hc).frame hk1.size (fun b hz hl => hk1.block b hl (fun e => by have e : b = br := e; omega)) fun b hz hl => ⟨hz, hl⟩
  have hs1 : W1.heap.size = w.heap.size + 1 := by rw [hw1.size, hz0]
  have hbnd := binds_any (F := FxF pb none 0 []) (E := w.heap.size) (B := br + 1) (p0 := p0) W1 (fun w w' h k => h.kp k) (fun d' _ => growC_fix (fixes := []) (Nat.zero_le _) (by omega) (by omega) (by omega) d') hg hrow1 hel1 h.len hps1 (fxnil _ _) (by omega) (by omega) (by omega) (by omega)
  obtain ⟨asv, csv, rfl, _⟩ := h.row
  have HB := Lib.hid hbnd
  have HRD1 := Lib.hid hrd1
  have HR1 := Lib.hid (hR0.wrote hw1 (by omega))
  have HK1 := Lib.hid hk1
  have HS1 := Lib.hid hs1
  have HBR := Lib.hid (show br ≠ pb by omega)
  have HRP := Lib.hid (show w.heap.size ≠ pb by omega)
  have HNB := Lib.hid (show N ≤ br by omega)
  have HBW := Lib.hid hbr
  clear h hg hps hN hpS h2 h3 hbr hb0 hz0 hR0 hrd0 hrd1 hw1 hk1 hps1 hpx hbx hcl1 hrow1 hel1 hs1 hbnd
  go_enter Tryz.func68, Tryz.ntmps68
  go_wp2_with fail
  refine HB.out.mono ?_
  rintro e w2 ⟨ab, cb, Cb, rfl, hr2, he2, hp2, hk2⟩
  have hrd2 := hk2.box HRD1.out HBR.out
  have hres2 := hk2.box HR1.out HRP.out
  obtain ⟨V, hV, hvb, hvw⟩ : ∃ V, w2.setCell ⟨br, 2, none⟩ (.slice ab bl.length cb) = V ∧ Box V br TPg #[.slice none 0 0, .slice none 0 0, .slice ab bl.length cb] ∧ Wrote w2 V br := ⟨_, rfl, hrd2.put 2 _, (Wrote.refl _ _).set _ _⟩
  have hresV := hres2.wrote hvw (by have := HBW.out; omega)
  obtain ⟨U, hU, hub, huw⟩ : ∃ U, ((V.setCell ⟨w.heap.size, 0, none⟩ (.slice none 0 0)).setCell ⟨w.heap.size, 1, none⟩ (.slice none 0 0)).setCell ⟨w.heap.size, 2, none⟩ (.slice ab bl.length cb) = U ∧ Box U w.heap.size TPg #[.slice none 0 0, .slice none 0 0, .slice ab bl.length cb] ∧ Wrote V U w.heap.size := ⟨_, rfl, ((hresV.put 0 _).put 1 _).put 2 _, (((Wrote.refl _ _).set _ _).set _ _).set _ _⟩
  have g2 := hrd2.cell 2
  have g2' := hrd2.free 2
  have lg := hrd2.lt
  have k0 := hvb.cell 0
  have k1 := hvb.cell 1
  have k2 := hvb.cell 2
  have lk := hvb.lt
  have j0 := hresV.cell 0
  have j1 := hresV.cell 1
  have j2 := hresV.cell 2
  have j0' := hresV.free 0
  have j1' := hresV.free 1
  have j2' := hresV.free 2
  have lj := hresV.lt
  have HR2 := Lib.hid hr2
  have HE2 := Lib.hid he2
  have HP2 := Lib.hid hp2
  have HK2 := Lib.hid hk2
  have HVW := Lib.hid hvw
  have HUB := Lib.hid hub
  have HUW := Lib.hid huw
  clear hr2 he2 hp2 hk2 hrd2 hres2 hvb hvw hresV hub huw x0 x2 x3 r1 r1'
  go_wp2_with fail
  have v0 := HUB.out.cell 0
  have v1 := HUB.out.cell 1
  have v2 := HUB.out.cell 2
  refine bodyPost_ret (v := .agg #[.slice none 0 0, .slice none 0 0, .slice ab bl.length cb]) (by simp [results, Tryz.results68, go_sem, v0, v1, v2]) rfl ?_
  have hbw := HBW.out
  have hs1 := HS1.out
  have hkU : Kept (fun b => b = br ∨ b = w.heap.size) w2 U := kept_wrote (kept_wrote (Kept.refl _ w2) HVW.out fun _ => .inl rfl) HUW.out fun _ => .inr rfl
  have hz : ∀ b, Zn (br + 1) w.heap.size W1.heap.size b → ¬ (b = br ∨ b = w.heap.size) := fun b hz e => by
    have := hz.1
    rcases hz.2 with z | z <;> rcases e with e | e <;> omega
  exact ⟨ab, cb, Cb, rfl, ⟨HR2.out.frame hkU.size (fun b q hl => hkU.block b hl (hz b q)) fun b q _ => by have := q.1; omega, fun i t ht => (HE2.out i t ht).frame hkU.size (fun b q hl => hkU.block b hl (hz b q)) fun b q _ => by have := q.1; omega⟩, HP2.out.frame hkU fun b e => by have := HNB.out; rcases e with e | e <;> omega, kept_new ((HK1.out.mono fun b _ e => .inr e).trans (HK2.out.mono fun b _ e => .inl e)) hkU fun b e q => e.elim (fun e => .inr e) fun e => absurd q (by omega)⟩
end Go.Proofs.YtdajihpfedbihaaGreat.Pa
/-
  CONTRACTS of layer parse: all of a source is read, and a program made of it (whole, Program), where its tops are clauses.
-/
namespace Go.Proofs.YtdajihpfedbihaaGreat.Pa
open Go.RowKit Mm Tm Pm
set_option linter.unusedVariables false
set_option linter.unusedSimpArgs false
abbrev TFa : TypeId := 45
def toM (t : Lx.Tok) : Ly.TokM := ⟨t.kind, ⟨t.text.toArray⟩, t.num, t.line, t.col, false⟩
def ofM (t : Ly.TokM) : Tk := ⟨t.kind, t.text.data.toList, t.num, t.line, t.col, t.made⟩
theorem cells_toM (l : List Lx.Tok) : Lx.toksCells l = Ly.tmsCells (l.map toM) := by
  induction l with
  | nil => rfl
  | cons t l ih =>
    show Lx.tokCells t ++ Lx.toksCells l = Ly.tmCells (toM t) ++ Ly.tmsCells (l.map toM)
    rw [ih]
    rfl
theorem owns_toM {w : World} {B : Nat} {v : Value} {l : List Lx.Tok} (h : Lx.OwnsT w B v l) : Ly.OwnsM w B v (l.map toM) := by
  unfold Ly.OwnsM
  rw [List.length_map, ← cells_toM]
  exact h
theorem rd_ofM {w : World} {B : Nat} {v : Value} {L : List Ly.TokM} {Z : Nat → Prop} (h : Ly.OwnsM w B v L) (hT : ∀ t ∈ L.map ofM, t.text.length ≤ 9223372036854775807) (hZ : ∀ b, v.ownBlock = some b → Z b) : ∃ a c, v = .slice a (L.map ofM).length c ∧ (L.map ofM).length ≤ c ∧ RdTk Z w a (L.map ofM) := by
  rw [List.length_map]
  obtain ⟨a, c, rfl⟩ := own_slice h
  by_cases h0 : L.length = 0
  · have : L = [] := List.length_eq_zero_iff.1 h0
    subst this
    exact ⟨a, c, rfl, Nat.zero_le _, fun i t ht => by simp at ht⟩
  · obtain ⟨g, rfl, _, hg, hc, hcell⟩ := own_at h (by omega)
    refine ⟨_, c, rfl, hc, fun i t ht => ?_⟩
    rw [List.getElem?_map] at ht
    obtain ⟨x, hx, rfl⟩ := Option.map_eq_some_iff.1 ht
    have hi : i < L.length := (List.getElem?_eq_some_iff.1 hx).1
    have hk : Ly.tk L i = x := by unfold Ly.tk; rw [List.getD_eq_getElem?_getD, hx]; rfl
    have key : ∀ j, j < 6 → w.cell? ⟨g, i * 6 + j, none⟩ = (Ly.tmCells x)[j]? := fun j hj => by rw [← hk]; exact (hcell _ (by omega)).trans (Ly.tms_get L i hi j hj)
    have ht : toB (ofM x).text = x.text := by
      show (⟨x.text.data.toList.toArray⟩ : ByteArray) = x.text
      cases x.text
      simp
    refine ⟨g, 0, rfl, hZ g rfl, ?_, ?_, ?_, ?_, ?_, ?_, hT _ (List.mem_map_of_mem (List.mem_of_getElem? hx))⟩
    · rw [Nat.zero_add]; exact key 0 (by omega)
    · rw [Nat.zero_add, ht]; exact key 1 (by omega)
    · rw [Nat.zero_add]; exact key 2 (by omega)
    · rw [Nat.zero_add]; exact key 3 (by omega)
    · rw [Nat.zero_add]; exact key 4 (by omega)
    · rw [Nat.zero_add]; exact key 5 (by omega)
/-- the parser at first -/
def pp0 (l : List Tk) : Pp := ⟨l, (0, 0), [], 0, (0, 0)⟩
/-- the tokens that the parser reads -/
def laidTk (l : List UInt8) : List Tk := (Ly.layAll ((Lx.lexed l).toks.map toM)).map ofM
structure SrcOk (s : ByteArray) (TK : List Tk) : Prop where
  size : s.size ≤ 9223372036854775807
  lex : (Lx.lexed s.data.toList).err = 0
  few : (Lx.lexed s.data.toList).toks.length ≤ 100000000
  laid : laidTk s.data.toList = TK
  len : TK.length ≤ 100000000
  txt : ∀ t ∈ TK, t.text.length ≤ 9223372036854775807
/-- the tokens of a source, laid -/
theorem toks_any {s : ByteArray} {TK : List Tk} (h : SrcOk s TK) (w : World) : Calls Tryz.prog 43 #[.string s] w fun e w' => ∃ a n c x y, e = .returned (.tuple #[.slice a n c, .agg #[.int .i64 0, .int .i64 x, .int .i64 y]]) ∧ Below w.heap.size w w' ∧
    ∀ W, Below w'.heap.size w' W → Calls Tryz.prog 58 #[.slice a n c] W fun e w'' => ∃ a2 c2, e = .returned (.slice a2 TK.length c2) ∧ TK.length ≤ c2 ∧ RdTk (fun b => W.heap.size ≤ b ∧ b < w''.heap.size) w'' a2 TK ∧ Below W.heap.size W w'' := by
  refine (Lx.tokens_any s h.size w).mono ?_
  rintro e w' ⟨v, rfl, ho, hb⟩
  have hm := owns_toM ho
  have hlx := h.lex
  obtain ⟨a, c, rfl⟩ := own_slice hm
  refine ⟨a, _, c, _, _, by rw [hlx], hb, fun W hW => ?_⟩
  refine (Ly.Lay_any (L := (Lx.lexed s.data.toList).toks.map toM) (by rw [List.length_map]; exact h.few) W (((Ly.shows_own hm).below hW (Nat.le_refl _)).mono hW.size)).mono ?_
  rintro e w'' ⟨v2, rfl, ho2, hb2⟩
  obtain ⟨a2, c2, rfl, h3, h4⟩ := rd_ofM (Z := fun b => W.heap.size ≤ b ∧ b < w''.heap.size) ho2 (by intro t ht; exact h.txt t (by rw [← h.laid]; exact ht)) fun b e => ho2.lt b e
  have e : (Ly.layAll ((Lx.lexed s.data.toList).toks.map toM)).map ofM = TK := h.laid
  rw [e] at h3 h4 ⊢
  exact ⟨a2, c2, rfl, h3, h4, hb2⟩
abbrev parV (a : Option Addr) (n c : Nat) (fv : Value) (e x y : Int) (l1 l2 : Int) : Array Value := #[.slice a n c, .int .i64 l1, .int .i64 l2, fv, .int .i64 e, .int .i64 x, .int .i64 y]
def ProgPost (pb : Nat) (bl : List ExB) (w : World) (e : Ending) (w' : World) : Prop :=
  ∃ ab cb Cb, e = .returned (.tuple #[.agg #[.slice none 0 0, .slice none 0 0, .slice ab bl.length cb], .agg #[.int .i64 0, .int .i64 0, .int .i64 0]]) ∧ BdV w.heap.size w' bl ab cb Cb ∧ Kept (fun b => b = pb) w w'
set_option maxRecDepth 100000 in
set_option maxHeartbeats 8000000 in
theorem wholeP_ok {pb d d2 : Nat} {s : ByteArray} {TK : List Tk} {L : List Cl} {p2 p3 : Pp} {bl : List ExB} {f' : Ft} (w : World) (hpar : Box w pb TPar (parV none 0 0 (.slice none 0 0) 0 0 0 0 0)) (hs : SrcOk s TK) (hrd : cTops d true ((pp0 TK).mark "{").2 = some (L, p2)) (hp3 : (p2.mark "}").2 = p3) (hend : p3.rest = []) (herr : p3.err = 0)
    (hg : growBinds (findD []) resolveD d2 (p3.err, p3.at_.1, p3.at_.2) [] L = some (bl, f')) (hf' : f'.1 = 0) :
    Calls Tryz.prog 41 #[ptr pb, .string s, .func (.func 42) #[ptr pb] #[]] w (ProgPost pb bl w) := by
  have hpl := hpar.lt
  obtain ⟨W1, hW1⟩ : ∃ W1, ((w.alloc (.cells #[.slice none 0 0, .slice none 0 0, .slice none 0 0] TPg)).alloc (.cells #[.int .i64 0, .int .i64 0, .int .i64 0] TFa)).alloc (.cells #[.slice none 0 0, .slice none 0 0, .slice none 0 0] TPg) = W1 := ⟨_, rfl⟩
  have hb1 : Below w.heap.size w W1 := by rw [← hW1]; exact (((Below.refl _ _).alloc (Nat.le_refl _) _).alloc (by simp) _).alloc (by simp; omega) _
  have hz1 : W1.heap.size = w.heap.size + 1 + 1 + 1 := by rw [← hW1]; simp
  have hA1 : Box W1 w.heap.size TPg #[.slice none 0 0, .slice none 0 0, .slice none 0 0] := by rw [← hW1]; exact ((Box.new w _ _).alloc _).alloc _
  have hF1 : Box W1 (w.heap.size + 1) TFa #[.int .i64 0, .int .i64 0, .int .i64 0] := by rw [← hW1]; exact (Box.at_ _ _ (by simp)).alloc _
  have HT := Lib.hid (toks_any hs W1)
  have HP1 := Lib.hid (hpar.below hb1 hpl)
  have HA1 := Lib.hid hA1
  have HF1 := Lib.hid hF1
  have HB1 := Lib.hid hb1
  have HZ1 := Lib.hid hz1
  have HRD := Lib.hid hrd
  have HE := Lib.hid hend
  have HER := Lib.hid herr
  have HP3 := Lib.hid hp3
  have HG := Lib.hid hg
  have HF' := Lib.hid hf'
  have HTL := Lib.hid hs.len
  have HPL := Lib.hid hpl
  have HEN := Lib.hid (enters_of (P := Tryz.prog) Tryz.func42 (by kernel_rfl) rfl)
  clear hpar hs hrd hp3 hend herr hg hf' hb1 hz1 hA1 hF1 hpl
  go_enter Tryz.func41, Tryz.ntmps41
  go_wp2_with fail
  refine HT.out.mono ?_
  rintro e w2 ⟨a, n, c, x, y, rfl, hb2, hlay⟩
  obtain ⟨W3, hW3⟩ : ∃ W3, w2.alloc (.cells #[.int .i64 0, .int .i64 x, .int .i64 y] TFa) = W3 := ⟨_, rfl⟩
  have hb3 : Below w2.heap.size w2 W3 := by rw [← hW3]; exact (Below.refl _ _).alloc (Nat.le_refl _) _
  have hx3 : Box W3 w2.heap.size TFa #[.int .i64 0, .int .i64 x, .int .i64 y] := by rw [← hW3]; exact Box.new w2 _ _
  have n0 := hx3.cell 0
  have ln := hx3.lt
  have HLAY := Lib.hid (hlay W3 hb3)
  have HB3 := Lib.hid (show Below W1.heap.size W1 W3 from hb2.trans (hb3.mono hb2.size))
  clear hb2 hlay hb3 hx3
  go_wp2_with fail
  refine HLAY.out.mono ?_
  rintro e w4 ⟨a2, c2, rfl, hc2, hr4, hb4⟩
  have hb14 : Below W1.heap.size W1 w4 := HB3.out.trans (hb4.mono HB3.out.size)
  have hp4 := HP1.out.below hb14 HP1.out.lt
  obtain ⟨V, hV, hvb, hvw⟩ : ∃ V, w4.setCell ⟨pb, 0, none⟩ (.slice a2 TK.length c2) = V ∧ Box V pb TPar (parV a2 TK.length c2 (.slice none 0 0) 0 0 0 0 0) ∧ Wrote w4 V pb := ⟨_, rfl, hp4.put 0 _, (Wrote.refl _ _).set _ _⟩
  have hw3 : w.heap.size + 3 ≤ W3.heap.size := by have := HB3.out.size; have := HZ1.out; omega
  have hps : PS w4.heap.size V pb (pp0 TK) (.slice none 0 0) := ⟨⟨a2, c2, hvb, hc2, hr4.frame (fun b o hz => World.cell?_of_block (hvw.block b (by have := HPL.out; omega))) fun b hz => ⟨hz.2, by have := HPL.out; omega⟩⟩, by have := hp4.lt; exact this, by rw [hvw.size]; exact Nat.le_refl _, HTL.out⟩
  have HPR := Lib.hid (program_any V hps HRD.out)
  rw [HP3.out] at HPR
  have y0 := hp4.cell 0
  have y0' := hp4.free 0
  have ly := hp4.lt
  have HVW := Lib.hid hvw
  have HB14 := Lib.hid hb14
  have egp : ∀ args w, (callFunc 42 args).run Tryz.prog w = .ok (.enter 42 args) w := HEN.out
  have HWS := Lib.hid hw3
  have HS34 := Lib.hid hb4.size
  clear hc2 hr4 hb4 hb14 hp4 hvb hvw hps n0 ln hw3
  go_wp2_with fail
  refine HPR.out.mono ?_
  rintro e w6 ⟨bp, br, bs, sv, C, rfl, hpr, hp6, hk6⟩
  have hp6' := hp6
  obtain ⟨⟨ra, rc, g1, g2, g3⟩, g4, g5, g6⟩ := hp6'
  rw [HE.out] at g1
  have k0 := g1.cell 0
  have k4 := g1.cell 4
  rw [HER.out] at k4
  have lk := g1.lt
  have HG2 := Lib.hid (prog2_any (p0 := p3) w6 hpr HG.out hp6 (by rw [HVW.out.size]; exact Nat.le_refl _))
  have HK6 := Lib.hid hk6
  have HBR := Lib.hid hpr.h2
  clear hpr hp6 hk6 g1 g2 g3 g4 g5 g6
  go_wp2_with fail
  refine HG2.out.mono ?_
  rintro e w7 ⟨ab, cb, Cb, rfl, hbd, hp7, hk7⟩
  obtain ⟨W8, hW8⟩ : ∃ W8, w7.alloc (.cells #[.slice none 0 0, .slice none 0 0, .slice ab bl.length cb] TPg) = W8 := ⟨_, rfl⟩
  have hb8 : Below w7.heap.size w7 W8 := by rw [← hW8]; exact (Below.refl _ _).alloc (Nat.le_refl _) _
  have hx8 : Box W8 w7.heap.size TPg #[.slice none 0 0, .slice none 0 0, .slice ab bl.length cb] := by rw [← hW8]; exact Box.new w7 _ _
  obtain ⟨⟨ra8, rc8, g1, _, _⟩, _, _, _⟩ := hp7.below hb8
  have q4 := g1.cell 4
  rw [show (pf p3 f').err = 0 from HF'.out] at q4
  have lq := g1.lt
  have m0 := hx8.cell 0
  have m1 := hx8.cell 1
  have m2 := hx8.cell 2
  have lm := hx8.lt
  have hws := HWS.out
  have hVs := HVW.out.size
  have hbr := HBR.out
  have hpl := HPL.out
  have hs34 := HS34.out
  have hA7 := hk7.box (HK6.out.box ((HA1.out.below HB14.out HA1.out.lt).wrote HVW.out (by omega)) (by omega)) (fun e => by rcases e with e | e <;> omega)
  have hF7 := hk7.box (HK6.out.box ((HF1.out.below HB14.out HF1.out.lt).wrote HVW.out (by omega)) (by omega)) (fun e => by rcases e with e | e <;> omega)
  have hA8 := hA7.below hb8 hA7.lt
  have hF8 := hF7.below hb8 hF7.lt
  obtain ⟨U, hU, hub, huw⟩ : ∃ U, ((W8.setCell ⟨w.heap.size, 0, none⟩ (.slice none 0 0)).setCell ⟨w.heap.size, 1, none⟩ (.slice none 0 0)).setCell ⟨w.heap.size, 2, none⟩ (.slice ab bl.length cb) = U ∧ Box U w.heap.size TPg #[.slice none 0 0, .slice none 0 0, .slice ab bl.length cb] ∧ Wrote W8 U w.heap.size := ⟨_, rfl, ((hA8.put 0 _).put 1 _).put 2 _, (((Wrote.refl _ _).set _ _).set _ _).set _ _⟩
  have hFU := hF8.wrote huw (by omega)
  obtain ⟨X, hX, hxb, hxw⟩ : ∃ X, ((U.setCell ⟨w.heap.size + 1, 0, none⟩ (.int .i64 0)).setCell ⟨w.heap.size + 1, 1, none⟩ (.int .i64 0)).setCell ⟨w.heap.size + 1, 2, none⟩ (.int .i64 0) = X ∧ Box X (w.heap.size + 1) TFa #[.int .i64 0, .int .i64 0, .int .i64 0] ∧ Wrote U X (w.heap.size + 1) := ⟨_, rfl, ((hFU.put 0 _).put 1 _).put 2 _, (((Wrote.refl _ _).set _ _).set _ _).set _ _⟩
  have r0 := hA8.cell 0
  have r1 := hA8.cell 1
  have r2 := hA8.cell 2
  have r0' := hA8.free 0
  have r1' := hA8.free 1
  have r2' := hA8.free 2
  have lr := hA8.lt
  have t0 := hFU.cell 0
  have t1 := hFU.cell 1
  have t2 := hFU.cell 2
  have t0' := hFU.free 0
  have t1' := hFU.free 1
  have t2' := hFU.free 2
  have lt0 := hFU.lt
  have HUB := Lib.hid (hub.wrote hxw (by omega))
  have HXB := Lib.hid hxb
  have HUW := Lib.hid huw
  have HXW := Lib.hid hxw
  have HBD := Lib.hid (hbd.later hb8)
  have HB8 := Lib.hid hb8
  have HK7 := Lib.hid hk7
  clear hbd hp7 hk7 hb8 hx8 g1 hA7 hF7 hA8 hF8 hub huw hFU hxb hxw k0 k4 hws hVs hbr hpl hs34
  go_wp2_with fail
  have v0 := HUB.out.cell 0
  have v1 := HUB.out.cell 1
  have v2 := HUB.out.cell 2
  have u0 := HXB.out.cell 0
  have u1 := HXB.out.cell 1
  have u2 := HXB.out.cell 2
  refine bodyPost_ret (v := .tuple #[.agg #[.slice none 0 0, .slice none 0 0, .slice ab bl.length cb], .agg #[.int .i64 0, .int .i64 0, .int .i64 0]]) (by simp [results, Tryz.results41, go_sem, v0, v1, v2, u0, u1, u2]) rfl ?_
  have hws := HWS.out
  have hVs := HVW.out.size
  have hbr := HBR.out
  have hpl := HPL.out
  have hs34 := HS34.out
  have hkX : Kept (fun b => b = w.heap.size ∨ b = w.heap.size + 1) W8 X := kept_wrote (kept_wrote (Kept.refl _ W8) HUW.out fun _ => .inl rfl) HXW.out fun _ => .inr rfl
  have hk0 : Kept (fun b => b = pb) w V := kept_wrote (Kept.of_below (HB1.out.trans (HB14.out.mono HB1.out.size)) (Nat.le_refl _) _) HVW.out fun _ => rfl
  have hk8 : Kept (fun b => b = pb) w W8 := kept_new (hk0.trans HK6.out) (Kept.trans HK7.out (Kept.of_below HB8.out (Nat.le_refl _) _)) fun b e q => e.elim id fun e => absurd q (by omega)
  exact ⟨ab, cb, Cb, rfl, HBD.out.frame hkX (fun b e => by omega) (by omega), kept_new hk8 hkX fun b e q => absurd q (by omega)⟩
end Go.Proofs.YtdajihpfedbihaaGreat.Pa
