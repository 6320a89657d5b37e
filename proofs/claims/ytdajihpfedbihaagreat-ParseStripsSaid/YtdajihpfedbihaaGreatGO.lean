/-
  CONTRACTS of layer parse: how an operator binds is looked up (fix.Find), a row is resolved (fix.Resolve), in this layer's words.
-/
import Derived.Test.YtdajihpfedbihaaGreatGB
import Derived.Test.YtdajihpfedbihaaGreatGL
import Derived.Test.YtdajihpfedbihaaGreatGN

namespace Go.Proofs.YtdajihpfedbihaaGreat.Pa
open Go.RowKit Mm Tm Pm
set_option linter.unusedVariables false
set_option linter.unusedSimpArgs false
abbrev fxV (f : Fx) : Value := .agg #[.string (toB f.op), .int .i64 f.assoc, .int .i64 f.level, .int .i64 f.ln, .int .i64 f.col]
def fxCells (f : Fx) : List Value := [.string (toB f.op), .int .i64 f.assoc, .int .i64 f.level, .int .i64 f.ln, .int .i64 f.col]
/-- a row of ways to bind -/
def RowFx (Z : Nat → Prop) (w : World) (v : Value) (l : List Fx) : Prop := RowZ Z w v l.length 5 fun i => fxCells (l.getD i default)
def fxRow (l : List Fx) : Go.Proofs.YtdajihpfedbihaaGreat.Fx.Row := ⟨fun i => toB (l.getD i default).op, fun i => (l.getD i default).assoc, fun i => (l.getD i default).level, fun i => (l.getD i default).ln, fun i => (l.getD i default).col⟩
theorem RowFx.reads {Z : Nat → Prop} {w : World} {a : Option Addr} {c : Nat} {l : List Fx} (h : RowFx Z w (.slice a l.length c) l) : Go.Proofs.YtdajihpfedbihaaGreat.Fx.Reads w w.heap.size a l.length (fxRow l) := by
  obtain ⟨a', c', hq, _, hrd⟩ := h
  injection hq with q1 q2 q3
  subst q1 q3
  intro i hi
  obtain ⟨g, rfl, _, hl, hc⟩ := hrd i hi
  have e0 : (⟨g, 0, none⟩ : Addr).add (i * 5) = ⟨g, i * 5, none⟩ := by
    simp [Addr.add]
    exact fun h => h.symm
  exact ⟨⟨g, 0, none⟩, rfl, hl, by rw [e0]; exact hc 0 _ rfl, by rw [e0]; exact hc 1 _ rfl, by rw [e0]; exact hc 2 _ rfl, by rw [e0]; exact hc 3 _ rfl, by rw [e0]; exact hc 4 _ rfl⟩
/-- how an operator binds -/
def findD : List Fx → Name → Fx
  | [], s => ⟨s, Go.Proofs.YtdajihpfedbihaaGreat.Fx.defA s, Go.Proofs.YtdajihpfedbihaaGreat.Fx.defL s, 0, 0⟩
  | f :: l, s => if f.op = s then f else findD l s
theorem toB_eq {a b : List UInt8} (h : toB a = toB b) : a = b := by rw [← toB_toList a, h, toB_toList]
theorem findD_is (l : List Fx) (s : Name) : ∀ d k, k + d = l.length → Go.Proofs.YtdajihpfedbihaaGreat.Fx.findAt (fxRow l) (toB s) k d = ⟨toB (findD (l.drop k) s).op, (findD (l.drop k) s).assoc, (findD (l.drop k) s).level, (findD (l.drop k) s).ln, (findD (l.drop k) s).col⟩ := by
  intro d
  induction d with
  | zero =>
    intro k hk
    rw [List.drop_eq_nil_of_le (by omega)]
    rfl
  | succ d ih =>
    intro k hk
    have hlt : k < l.length := by omega
    have hg : l.getD k default = l[k] := by rw [List.getD_eq_getElem?_getD, List.getElem?_eq_getElem hlt]; rfl
    rw [List.drop_eq_getElem_cons hlt]
    unfold findD
    show (if toB (l.getD k default).op = toB s then _ else _) = _
    rw [hg]
    by_cases he : l[k].op = s
    · rw [if_pos he, if_pos (by rw [he])]
      simp only [fxRow]
      rw [hg]
    · rw [if_neg he, if_neg fun e => he (toB_eq e)]
      exact ih (k + 1) (by omega)
theorem findD_any {Z : Nat → Prop} {a : Option Addr} {c : Nat} {l : List Fx} (s : Name) (w : World) (h : RowFx Z w (.slice a l.length c) l) (hl : l.length ≤ 9223372036854775807) :
    Calls Tryz.prog 131 #[.slice a l.length c, .string (toB s)] w fun e w' => e = .returned (fxV (findD l s)) ∧ Below w.heap.size w w' := by
  have k := Go.Proofs.YtdajihpfedbihaaGreat.Fx.find_is (c := c) (findD_is l s l.length 0 (Nat.zero_add _)) hl w h.reads
  rw [List.drop_zero] at k
  exact k.mono fun e w' h => h
/-- what fix.Resolve ends with -/
def ResvPost (l : List Fx) (w : World) (e : Ending) (w' : World) : Prop :=
  ∃ a c, e = .returned (.tuple #[.slice a (resolveD l).1.length c, .int .i64 ((resolveD l).2.1 : Nat), .int .i64 (resolveD l).2.2]) ∧
    RowZ (fun b => w.heap.size ≤ b) w' (.slice a (resolveD l).1.length c) (resolveD l).1.length 2 (fun i => [.int .i64 (((resolveD l).1.getD i (0, 0)).1 : Nat), .int .i64 (((resolveD l).1.getD i (0, 0)).2 : Nat)]) ∧ Below w.heap.size w w'
theorem resolveD_any {Z : Nat → Prop} {a : Option Addr} {c : Nat} {l : List Fx} (w : World) (h : RowFx Z w (.slice a l.length c) l) (hl : l.length ≤ 9223372036854775807) :
    Calls Tryz.prog 132 #[.slice a l.length c] w (ResvPost l w) := by
  refine (Go.Proofs.YtdajihpfedbihaaGreat.Fx.resolve_any a l.length c (fxRow l) hl w h.reads).mono ?_
  rintro x w' ⟨v, F, T, i, e, rfl, hr, h0, h1, hb⟩
  obtain ⟨q1, q2, q3⟩ := Fm.res_same (resD_is (fxRow l).A (fxRow l).L l.length) hr
  subst q1 q2
  by_cases he : (resD (fxRow l).A (fxRow l).L l.length).2 = 0
  · have ho := h0 he
    have hlist : (resolveD l).1 = (List.range l.length).map fun k => (frD (fxRow l).A (fxRow l).L k k, toD (fxRow l).A (fxRow l).L k (l.length - (k + 1)) (k + 1)) := if_pos he
    obtain ⟨a', c', rfl⟩ := own_slice ho
    have hlen : (resolveD l).1.length = l.length := by rw [hlist]; simp
    refine ⟨a', c', by rw [hlen]; rfl, ?_, hb⟩
    rw [hlen]
    by_cases hn : l.length = 0
    · exact ⟨a', c', rfl, by omega, fun i hi => by omega⟩
    · obtain ⟨g, rfl, hg1, hg2, hg3, hg4⟩ := own_at ho (by omega)
      refine ⟨_, c', rfl, hg3, fun i hi => ⟨g, rfl, hg1, hg2, fun j u hu => ?_⟩⟩
      have hgi : (resolveD l).1.getD i (0, 0) = (F i, T i) := by
        rw [hlist, List.getD_eq_getElem?_getD, List.getElem?_map, List.getElem?_range hi]
        show (_, _) = _
        rw [(q3 he i hi).1, (q3 he i hi).2]
      have hsp := Go.Proofs.YtdajihpfedbihaaGreat.Fx.span_at F T l.length i hi
      simp only [hgi] at hu
      match j, hu with
      | 0, hu =>
        simp at hu
        subst hu
        rw [Nat.add_zero, hg4 _ (by omega)]
        exact hsp.1
      | 1, hu =>
        simp at hu
        subst hu
        rw [hg4 _ (by omega)]
        exact hsp.2
      | j + 2, hu => simp at hu
  · have hnil : (resolveD l).1 = [] := if_neg he
    have hlen : (resolveD l).1.length = 0 := by rw [hnil]; rfl
    obtain rfl := h1 he
    refine ⟨none, 0, by rw [hlen]; rfl, ?_, hb⟩
    rw [hlen]
    exact RowZ.nil _ _ _ _
end Go.Proofs.YtdajihpfedbihaaGreat.Pa
/-
  WHAT WAS READ MAKES WHAT IT COMES TO, for every fuel, where the calls of row and binds are known.
-/
namespace Go.Proofs.YtdajihpfedbihaaGreat.Pa
open Go.RowKit Mm Tm Pm
set_option linter.unusedVariables false
set_option linter.unusedSimpArgs false
section
variable (find : Name → Fx) (resolve : List Fx → List (Nat × Nat) × Nat × Int) (F : World → Prop) (N pb B E : Nat) (fv : Value) (p0 : Pp)
/-- row's call makes what the row comes to -/
def RowMakes (d : Nat) : Prop := ∀ (operands : List Lt) (ops : List Tk) (f : Ft) (e : Ex) (f' : Ft) (so sq : Value) (C : Nat → List Value) (w : World), grow find resolve d f (.row operands ops) = some (e, f') →
  RowZ (fun b => B ≤ b ∧ b < E) w so operands.length 1 C → RowTks (fun b => B ≤ b ∧ b < E) w sq ops → (∀ i t, operands[i]? = some t → R pb (fun b => B ≤ b ∧ b < E) w (.lt t) (C i)) → operands.length ≤ 100000001 → ops.length ≤ 100000000 →
  PS N w pb (pf p0 f) fv → F w → E ≤ w.heap.size → Calls Tryz.prog 103 #[ptr pb, so, sq] w (ExPost N pb B E fv e (pf p0 f') w)
/-- binds's call makes the bindings -/
def BindsMakes (d : Nat) : Prop := ∀ (cs : List Cl) (f : Ft) (l : List ExB) (f' : Ft) (sp : Value) (C : Nat → List Value) (w : World), growBinds find resolve d f [] cs = some (l, f') →
  RowZ (fun b => B ≤ b ∧ b < E) w sp cs.length 8 C → (∀ i c, cs[i]? = some c → R pb (fun b => B ≤ b ∧ b < E) w (.cl c) (C i)) → cs.length ≤ 100000000 →
  PS N w pb (pf p0 f) fv → F w → E ≤ w.heap.size → Calls Tryz.prog 69 #[sp] w (GrownPost EIt.bd 4 N pb B E fv l (pf p0 f') w)
end
section
variable {find : Name → Fx} {resolve : List Fx → List (Nat × Nat) × Nat × Int} {F : World → Prop} {N pb B E : Nat} {fv : Value} {p0 : Pp}
theorem growC_all (hF : ∀ w w', F w → KP pb w w' → F w') (hpB : pb < B) (hNB : N ≤ B) (hBE : B ≤ E)
    (hrow : ∀ d, (∀ d', d' < d → GrowC find resolve F N pb B E fv p0 d') → RowMakes find resolve F N pb B E fv p0 d) (hbinds : ∀ d, (∀ d', d' < d → GrowC find resolve F N pb B E fv p0 d') → BindsMakes find resolve F N pb B E fv p0 d) :
    ∀ d, GrowC find resolve F N pb B E fv p0 d := by
  intro d
  induction d using Nat.strongRecOn with
  | ind d ih =>
    intro t f v w e f' hg hr hps hf hEw
    cases d with
    | zero => simp [grow] at hg
    | succ d =>
      have hk0 : KP pb w (w.alloc zEx) := (Kept.refl (fun b => b = pb) w).alloc zEx
      have hb0 : Below w.heap.size w (w.alloc zEx) := (Below.refl w.heap.size w).alloc (Nat.le_refl _) zEx
      have hs0 : E ≤ (w.alloc zEx).heap.size := by rw [World.size_alloc]; omega
      have ihd : ∀ d', d' < d → GrowC find resolve F N pb B E fv p0 d' := fun d' h => ih d' (by omega)
      cases hr with
      | none => rw [grow] at hg; cases hg
      | leaf hc =>
        rw [grow] at hg
        injection hg with hg
        injection hg with q1 q2
        subst q1 q2
        exact ⟨_, _, rfl, enters_of Tryz.func163 (by kernel_rfl) rfl, leaf1_any w hps hc⟩
      | row n1 n2 h1 h2 h3 h4 h5 h6 =>
        have hc := hrow (d + 1) ih _ _ _ _ _ _ _ _ (w.alloc zEx) hg (h4.kp hk0 hpB) (RowZ.kp h5 hk0 hpB) (fun i t ht => (h6 i t ht).kp hk0 hpB) n1 n2 (hps.below hb0) (hF _ _ hf hk0) hs0
        obtain ⟨ao, co, rfl, _⟩ := h4
        obtain ⟨aq, cq, rfl, _⟩ := h5
        exact ⟨_, _, rfl, enters_of Tryz.func102 (by kernel_rfl) rfl, expr1_any w h1 h2 h3 hc hps hpB hNB hBE hEw⟩
      | lam h1 h2 h3 h4 h5 =>
        rw [grow] at hg
        obtain ⟨⟨e1, f1⟩, k1, k2⟩ := Option.bind_eq_some_iff.1 hg
        injection k2 with k2
        injection k2 with q1 q2
        subst q1 q2
        exact ⟨_, _, rfl, enters_of Tryz.func142 (by kernel_rfl) rfl, lambda1_any w hF (ih d (by omega)) k1 h1 h2 h3 h4 h5 hps hf hpB hNB hBE hEw⟩
      | let_ n1 h1 h2 h3 h4 h5 h6 =>
        rw [grow] at hg
        obtain ⟨⟨l1, f1⟩, k1, k2⟩ := Option.bind_eq_some_iff.1 hg
        dsimp only at k2
        obtain ⟨⟨e2, f2⟩, k3, k4⟩ := Option.bind_eq_some_iff.1 k2
        injection k4 with k4
        injection k4 with q1 q2
        subst q1 q2
        have hc := hbinds d ihd _ _ _ _ _ _ (w.alloc zEx) k1 (h4.kp hk0 hpB) (fun i t ht => (h5 i t ht).kp hk0 hpB) n1 (hps.below hb0) (hF _ _ hf hk0) hs0
        obtain ⟨ao, co, rfl, _⟩ := h4
        exact ⟨_, _, rfl, enters_of Tryz.func145 (by kernel_rfl) rfl, let2_any w hF (ih d (by omega)) k3 hc h1 h2 h3 h6 hps hf hpB hNB hBE hEw⟩
      | choice n1 h1 h2 h3 h4 =>
        rw [grow] at hg
        obtain ⟨⟨e1, f1⟩, k1, k2⟩ := Option.bind_eq_some_iff.1 hg
        injection k2 with k2
        injection k2 with q1 q2
        subst q1 q2
        exact ⟨_, _, rfl, enters_of Tryz.func146 (by kernel_rfl) rfl, choice1_any w hF ihd k1 h1 h2 h3 h4 hps hf hpB hNB hBE hEw n1⟩
      | cases_ n1 h1 h2 h3 h4 h5 h6 =>
        rw [grow] at hg
        obtain ⟨⟨e1, f1⟩, k1, k2⟩ := Option.bind_eq_some_iff.1 hg
        dsimp only at k2
        obtain ⟨⟨l2, f2⟩, k3, k4⟩ := Option.bind_eq_some_iff.1 k2
        injection k4 with k4
        injection k4 with q1 q2
        subst q1 q2
        exact ⟨_, _, rfl, enters_of Tryz.func149 (by kernel_rfl) rfl, cases2_any w (Nat.lt_succ_self d) hF ih k1 k3 h1 h2 h3 h4 h5 h6 (by omega) hps hf hpB hNB hBE hEw⟩
      | @app parts bs sp C n1 h1 h2 h3 =>
        cases parts with
        | nil => rw [grow] at hg; cases hg
        | cons a l =>
          rw [grow] at hg
          obtain ⟨⟨e1, f1⟩, k1, k2⟩ := Option.bind_eq_some_iff.1 hg
          exact ⟨_, _, rfl, enters_of Tryz.func152 (by kernel_rfl) rfl, apply1_any w (Nat.lt_succ_self d) hF ih k1 k2 h1 h2 h3 (by simp at n1; omega) hps hf hpB hNB hBE hEw⟩
end
end Go.Proofs.YtdajihpfedbihaaGreat.Pa
/-
  CONTRACTS of layer parse: an expression alone; how a word tells the side.
-/
namespace Go.Proofs.YtdajihpfedbihaaGreat.Pa
open Go.RowKit Mm Tm Pm
set_option linter.unusedVariables false
set_option linter.unusedSimpArgs false
end Go.Proofs.YtdajihpfedbihaaGreat.Pa
