/-
  WORDS on layer parse: a map keyed by spans; where each span's operator stands.
-/
import Derived.Test.YtdajihpfedbihaaGreatGA
import Derived.Test.YtdajihpfedbihaaGreatGO
import Derived.WideKeyEntry
import Derived.DeepKeys4
namespace Go.Proofs.YtdajihpfedbihaaGreat.Pa
open Go.RowKit Mm Tm Pm Mk Go.Maps Go.ChangeMaps Go.MapKept Go.WideMaps
set_option linter.unusedVariables false
set_option linter.unusedSimpArgs false
abbrev TSp : TypeId := 119
abbrev TMs : TypeId := 187
theorem laidOut : laidOutB Tryz.prog = true := by kernel_rfl
theorem rowSp : TSp < Tryz.prog.types.size := of_decide_eq_true (by kernel_rfl)
theorem wideSp : (match Tryz.prog.underlying TSp with | some (.array _ _) | some (.struct _) => true | _ => false) = true := by rw [Tryz.underlying119]
set_option maxRecDepth 100000 in
theorem lawSp : WideMaps.KeyLaw Tryz.prog TSp := deep_law_laid laidOut (m := 2) (by omega) rowSp (by kernel_rfl) wideSp
theorem keySp : Keyed Tryz.prog TSp := Keyed.of_law lawSp
theorem cellsSp : Tryz.prog.cellsOf TSp = 2 := by kernel_rfl
theorem cellsIn : Tryz.prog.cellsOf 3 = 1 := by kernel_rfl
theorem deepSp : Tryz.prog.keyType TSp = true := by kernel_rfl
theorem formedSp {c0 c1 : Value} : (Value.agg #[c0, c1]).formed Tryz.prog TSp = true := by simp [Value.formed, Tryz.underlying119, cellsSp]
abbrev spV (s : Nat × Nat) : Value := .agg #[.int .i64 s.1, .int .i64 s.2]
def litS (s : Nat × Nat) : Lit := .string (keyBytes [.int .i64 s.1, .int .i64 s.2])
theorem litS_key (s : Nat × Nat) : WideAt.IsKeyLit (litS s) := by simp [litS, WideAt.IsKeyLit]
theorem wf_nat {n : Nat} (h : n ≤ 9223372036854775807) : (Lit.int .i64 n).wf = true := by
  have hm : IntKind.i64.min = -9223372036854775808 := by decide
  have hx : IntKind.i64.max = 9223372036854775807 := by decide
  simp [Lit.wf, hm, hx]
  omega
theorem key_span {s : Nat × Nat} (ha : s.1 ≤ 9223372036854775807) (hb : s.2 ≤ 9223372036854775807) : keyOf Tryz.prog TSp (spV s) = some (litS s) := by
  obtain ⟨m, hm⟩ : ∃ m, Tryz.prog.types.size = m + 1 := ⟨Tryz.prog.types.size - 1, by have : 1 ≤ Tryz.prog.types.size := of_decide_eq_true (by kernel_rfl); omega⟩
  have e0 : (Value.agg #[.int .i64 s.1, .int .i64 s.2]).cells.toList = [.int .i64 s.1, .int .i64 s.2] := rfl
  unfold keyOf
  rw [Tryz.underlying119]
  simp only [deepSp, formedSp, Bool.and_self, if_true, e0, hm]
  have q : ∀ n : Nat, n ≤ 9223372036854775807 → Tryz.prog.keyLits (m + 1) 3 [.int .i64 n] = some [.int .i64 n] := fun n hn => by
    unfold Program.keyLits
    rw [Tryz.underlying3]
    simp [wf_nat hn]
  unfold Program.keyLits
  rw [Tryz.underlying119]
  simp [cellsSp, cellsIn, q s.1 ha, q s.2 hb, litS]
set_option maxRecDepth 100000 in
theorem litS_inj {s t : Nat × Nat} (h1 : s.1 ≤ 9223372036854775807) (h2 : s.2 ≤ 9223372036854775807) (h3 : t.1 ≤ 9223372036854775807) (h4 : t.2 ≤ 9223372036854775807) (h : litS s = litS t) : s = t := by
  have k1 := key_span h1 h2
  have k2 := key_span h3 h4
  rw [← h] at k2
  have k3 := lawSp.inj k1 k2
  injection k3 with k3
  simp at k3
  exact Prod.ext (by have := k3.1; omega) (by have := k3.2; omega)
/-- what the map reads as, behind so many spans -/
noncomputable def rootsF (l : List (Nat × Nat)) : Nat → FK
  | 0 => fun _ => none
  | k + 1 => updK (rootsF l k) (litS (l.getD k (0, 0))) (.int .i64 (k : Nat))
/-- the last place of a span among the first so many -/
def lastAt (l : List (Nat × Nat)) (s : Nat × Nat) : Nat → Option Nat
  | 0 => none
  | k + 1 => if l[k]? = some s then some k else lastAt l s k
theorem lastAt_is (l : List (Nat × Nat)) (s : Nat × Nat) : ∀ k, (List.range k).reverse.find? (fun i => l[i]? = some s) = lastAt l s k := by
  intro k
  induction k with
  | zero => rfl
  | succ k ih =>
    rw [List.range_succ, List.reverse_append, List.reverse_singleton, List.singleton_append, List.find?_cons]
    unfold lastAt
    by_cases h : l[k]? = some s
    · simp [h]
    · simp only [h, decide_false, if_false]
      exact ih
theorem lastAt_lt {l : List (Nat × Nat)} {s : Nat × Nat} : ∀ {k i}, lastAt l s k = some i → i < k
  | 0, i, h => by cases h
  | k + 1, i, h => by
    unfold lastAt at h
    split at h
    · injection h with h; omega
    · have := lastAt_lt h; omega
theorem rootsF_is {l : List (Nat × Nat)} (hl : ∀ s ∈ l, s.1 ≤ 9223372036854775807 ∧ s.2 ≤ 9223372036854775807) {s : Nat × Nat} (h1 : s.1 ≤ 9223372036854775807) (h2 : s.2 ≤ 9223372036854775807) : ∀ k, k ≤ l.length → rootsF l k (litS s) = (lastAt l s k).map fun i => .int .i64 (i : Nat) := by
  intro k
  induction k with
  | zero => intro _; rfl
  | succ k ih =>
    intro hk
    have hlt : k < l.length := hk
    have hg : l.getD k (0, 0) = l[k] := by rw [List.getD_eq_getElem?_getD, List.getElem?_eq_getElem hlt]; rfl
    have hm := hl l[k] (List.getElem_mem hlt)
    unfold rootsF lastAt updK
    rw [hg, List.getElem?_eq_getElem hlt]
    by_cases e : l[k] = s
    · rw [if_pos (by rw [e]), if_pos (by rw [e])]
      rfl
    · rw [if_neg fun q => e (litS_inj h1 h2 hm.1 hm.2 q).symm, if_neg fun q => e (by injection q)]
      exact ih (by omega)
end Go.Proofs.YtdajihpfedbihaaGreat.Pa
/-
  CONTRACT of layer parse: what a span of a row comes to (row$1), the row's parts made.
-/
namespace Go.Proofs.YtdajihpfedbihaaGreat.Pa
open Go.RowKit Mm Tm Pm Mk Go.Maps Go.ChangeMaps Go.MapKept Go.WideMaps
set_option linter.unusedVariables false
set_option linter.unusedSimpArgs false
abbrev TFg : TypeId := 189
abbrev growV (bm bp bg bo : Nat) : Value := .func (.func 134) #[] #[ptr bm, ptr bp, ptr bg, ptr bo]
/-- what the closure holds: the map, the parts, itself, the operators -/
structure GwS (Z : Nat → Prop) (w : World) (bm bp bg bo : Nat) (ops : List Tk) (parts : List Ex) (roots : List (Nat × Nat)) : Prop where
  mp : ∃ m c, Box w bm TMs #[.map (some m)] ∧ MapK w Tryz.prog TSp m (rootsF roots roots.length) c
  ps : ∃ a c C, Box w bp TExs #[.slice a parts.length c] ∧ RowZ Z w (.slice a parts.length c) parts.length 9 C ∧ ∀ i e, parts[i]? = some e → EV Z w (.ex e) (C i)
  self : Box w bg TFg #[growV bm bp bg bo]
  op : ∃ a c, Box w bo TToks #[.slice a ops.length c] ∧ RowTks Z w (.slice a ops.length c) ops
theorem GwS.later {Z Z' : Nat → Prop} {w w' : World} {bm bp bg bo : Nat} {ops : List Tk} {parts : List Ex} {roots : List (Nat × Nat)} (h : GwS Z w bm bp bg bo ops parts roots) (hb : Below w.heap.size w w') (hz : ∀ b, Z b → b < w.heap.size → Z' b) : GwS Z' w' bm bp bg bo ops parts roots := by
  obtain ⟨⟨m, c, h1, h2⟩, ⟨a, c', C, h3, h4, h5⟩, h6, ⟨a2, c2, h7, h8⟩⟩ := h
  exact ⟨⟨m, c, h1.below hb h1.lt, h2.below hb h2.lt⟩, ⟨a, c', C, h3.below hb h3.lt, h4.frame hb.size (fun b _ hl => hb.block b hl) hz, fun i e he => (h5 i e he).frame hb.size (fun b _ hl => hb.block b hl) hz⟩, h6.below hb h6.lt, ⟨a2, c2, h7.below hb h7.lt, RowZ.frame h8 hb.size (fun b _ hl => hb.block b hl) hz⟩⟩
theorem zeroIn (u : World) : (zeroValue 3).run Tryz.prog u = .ok (.int .i64 0) u := by kernel_rfl
/-- an expression's cells in a row -/
theorem EV.nine {Z : Nat → Prop} {w : World} {e : Ex} {cs : List Value} (h : EV Z w (.ex e) cs) : ∃ kd nm n a1 n1 c1 a2 n2 c2 a3 n3 c3 a4 n4 c4 ln col, cs = [.int .i64 kd, .string (toB nm), .int .i64 n, .slice a1 n1 c1, .slice a2 n2 c2, .slice a3 n3 c3, .slice a4 n4 c4, .int .i64 ln, .int .i64 col] ∧ ExI Z w e kd nm n a1 n1 c1 a2 n2 c2 a3 n3 c3 a4 n4 c4 ln col := by
  cases h with
  | ex h1 h2 h3 h4 h5 h6 h7 =>
    have k1 := h1
    obtain ⟨a1, c1, rfl, _⟩ := h1
    have k2 := h2
    obtain ⟨a2, c2, rfl, _⟩ := h2
    have k3 := h3
    obtain ⟨a3, c3, rfl, _⟩ := h3
    have k4 := h4
    obtain ⟨a4, c4, rfl, _⟩ := h4
    exact ⟨_, _, _, a1, _, c1, a2, _, c2, a3, _, c3, a4, _, c4, _, _, rfl, .ex k1 k2 k3 k4 h5 h6 h7, rfl⟩
theorem six25 {w : World} {bl br bo g k n c : Nat} {t : Tk} {x0 x1 x2 x3 x4 x5 x6 x7 x8 y0 y1 y2 y3 y4 y5 y6 y7 y8 : Value} (hl : Box w bl TEx #[x0, x1, x2, x3, x4, x5, x6, x7, x8]) (hr : Box w br TEx #[y0, y1, y2, y3, y4, y5, y6, y7, y8]) (ho : Box w bo TToks #[.slice (some ⟨g, 0, none⟩) n c])
    (ht : ∀ j u, (tokCells t)[j]? = some u → w.cell? ⟨g, k * 6 + j, none⟩ = some u) :
    w.cell? ⟨bl, 0, none⟩ = some x0 ∧ w.cell? ⟨bl, 1, none⟩ = some x1 ∧ w.cell? ⟨bl, 2, none⟩ = some x2 ∧ w.cell? ⟨bl, 3, none⟩ = some x3 ∧ w.cell? ⟨bl, 4, none⟩ = some x4 ∧ w.cell? ⟨bl, 5, none⟩ = some x5 ∧ w.cell? ⟨bl, 6, none⟩ = some x6 ∧ w.cell? ⟨bl, 7, none⟩ = some x7 ∧ w.cell? ⟨bl, 8, none⟩ = some x8 ∧
    w.cell? ⟨br, 0, none⟩ = some y0 ∧ w.cell? ⟨br, 1, none⟩ = some y1 ∧ w.cell? ⟨br, 2, none⟩ = some y2 ∧ w.cell? ⟨br, 3, none⟩ = some y3 ∧ w.cell? ⟨br, 4, none⟩ = some y4 ∧ w.cell? ⟨br, 5, none⟩ = some y5 ∧ w.cell? ⟨br, 6, none⟩ = some y6 ∧ w.cell? ⟨br, 7, none⟩ = some y7 ∧ w.cell? ⟨br, 8, none⟩ = some y8 ∧
    w.cell? ⟨bo, 0, none⟩ = some (.slice (some ⟨g, 0, none⟩) n c) ∧ w.cell? ⟨g, k * 6, none⟩ = some (.int .i64 t.kind) ∧ w.cell? ⟨g, k * 6 + 1, none⟩ = some (.string (toB t.text)) ∧ w.cell? ⟨g, k * 6 + 2, none⟩ = some (.int .i64 t.n) ∧ w.cell? ⟨g, k * 6 + 3, none⟩ = some (.int .i64 t.ln) ∧ w.cell? ⟨g, k * 6 + 4, none⟩ = some (.int .i64 t.col) ∧ w.cell? ⟨g, k * 6 + 5, none⟩ = some (.bool t.made) := by
  obtain ⟨a0, a1, a2, a3, a4, a5, a6, a7, a8⟩ := cells9 hl
  obtain ⟨b0, b1, b2, b3, b4, b5, b6, b7, b8⟩ := cells9 hr
  have t0 := ht 0 _ rfl
  rw [Nat.add_zero] at t0
  exact ⟨a0, a1, a2, a3, a4, a5, a6, a7, a8, b0, b1, b2, b3, b4, b5, b6, b7, b8, ho.cell 0, t0, ht 1 _ rfl, ht 2 _ rfl, ht 3 _ rfl, ht 4 _ rfl, ht 5 _ rfl⟩
section
variable {bm bp bg bo : Nat} {ops : List Tk} {parts : List Ex} {roots : List (Nat × Nat)}
set_option maxRecDepth 100000 in
set_option maxHeartbeats 8000000 in
theorem row1_any (hl : ∀ s ∈ roots, s.1 ≤ 9223372036854775807 ∧ s.2 ≤ 9223372036854775807) (hrl : roots.length ≤ 100000000) : ∀ (d : Nat) (Z : Nat → Prop) (s : Nat × Nat) (e : Ex) (w : World), spanGrow ops parts roots d s = some e → GwS Z w bm bp bg bo ops parts roots → (∀ b, w.heap.size ≤ b → Z b) → s.1 ≤ 1000000000 → s.2 ≤ 1000000000 →
    Calls Tryz.prog 134 #[spV s, ptr bm, ptr bp, ptr bg, ptr bo] w (ExNew Z e w) := by
  intro d
  induction d with
  | zero => intro Z s e w hg; cases hg
  | succ d ih =>
    intro Z s e w hg hS hZ hs1 hs2
    rw [spanGrow, lastAt_is] at hg
    have hroot := rootsF_is hl (s := s) (by omega) (by omega) roots.length (Nat.le_refl _)
    have hkey := key_span (s := s) (by omega) (by omega)
    obtain ⟨W1, hW1⟩ : ∃ W1, (w.alloc (.cells #[.int .i64 s.1, .int .i64 s.2] TSp)).alloc (.cells #[.int .i64 0, .string ⟨#[]⟩, .int .i64 0, .slice none 0 0, .slice none 0 0, .slice none 0 0, .slice none 0 0, .int .i64 0, .int .i64 0] TEx) = W1 := ⟨_, rfl⟩
    have hb1 : Below w.heap.size w W1 := by rw [← hW1]; exact ((Below.refl _ _).alloc (Nat.le_refl _) _).alloc (by simp) _
    have hz1 : W1.heap.size = w.heap.size + 1 + 1 := by rw [← hW1]; simp
    have hXs : Box W1 w.heap.size TSp #[.int .i64 s.1, .int .i64 s.2] := by rw [← hW1]; exact (Box.new w _ _).alloc _
    have hX0 : Box W1 (w.heap.size + 1) TEx #[.int .i64 0, .string ⟨#[]⟩, .int .i64 0, .slice none 0 0, .slice none 0 0, .slice none 0 0, .slice none 0 0, .int .i64 0, .int .i64 0] := by rw [← hW1]; exact Box.at_ _ _ (by simp)
    have hS1 := hS.later hb1 (Z' := fun b => Z b ∧ b ≠ w.heap.size + 1) (fun b hz hb => ⟨hz, by omega⟩)
    have hZ1 : ∀ b, W1.heap.size ≤ b → Z b ∧ b ≠ w.heap.size + 1 := fun b hb => ⟨hZ b (by omega), by omega⟩
    obtain ⟨⟨m, cm, hm1, hm2⟩, ⟨ap, cp, Cp, hp1, hp2, hp3⟩, hs, ⟨ao, co, ho1, ho2⟩⟩ := id hS1
    have x0 := hm1.cell 0
    have x1 := hXs.cell 0
    have x2 := hXs.cell 1
    have x3 := hp1.cell 0
    have x4 := hs.cell 0
    have l0 := hm1.lt
    have l1 := hXs.lt
    have l2 := hX0.lt
    have l3 := hp1.lt
    have l4 := hs.lt
    have HMK := Lib.hid hm2
    have HKEY := Lib.hid hkey
    have HZZ := Lib.hid hZ
    have HZ1 := Lib.hid hZ1
    have HB1 := Lib.hid hb1
    have HX0 := Lib.hid hX0
    have HXS := Lib.hid hXs
    have HSZ := Lib.hid hz1
    have HIH := Lib.hid ih
    cases hlast : lastAt roots s roots.length with
    | none =>
      rw [hlast] at hg hroot
      have hg : parts[s.1]? = some e := hg
      have hlt : s.1 < parts.length := (List.getElem?_eq_some_iff.1 hg).1
      obtain ⟨a', c', hq, _, hrd⟩ := hp2
      injection hq with hq1 hq2 hq3
      subst hq1 hq3
      obtain ⟨g, rfl, hgz, hgl, hcell⟩ := hrd s.1 hlt
      obtain ⟨kd, nm, n, a1, n1, c1, a2, n2, c2, a3, n3, c3, a4, n4, c4, ln, col, hC, hE⟩ := (hp3 s.1 e hg).nine
      rw [hC] at hcell
      have m0 := hcell 0 _ rfl
      have m1 := hcell 1 _ rfl
      have m2 := hcell 2 _ rfl
      have m3 := hcell 3 _ rfl
      have m4 := hcell 4 _ rfl
      have m5 := hcell 5 _ rfl
      have m6 := hcell 6 _ rfl
      have m7 := hcell 7 _ rfl
      have m8 := hcell 8 _ rfl
      rw [Nat.add_zero] at m0
      have hlt' : (s.1 : Int) < parts.length := by omega
      have HN := Lib.hid hroot
      have HE := Lib.hid hE
      obtain ⟨z0, z1, z2, z3, z4, z5, z6, z7, z8⟩ := cells9 hX0
      obtain ⟨f0, f1, f2, f3, f4, f5, f6, f7, f8⟩ := free9' hX0
      obtain ⟨V, hV, hvb, hvw⟩ := hX0.write9 (.int .i64 kd) (.string (toB nm)) (.int .i64 n) (.slice a1 n1 c1) (.slice a2 n2 c2) (.slice a3 n3 c3) (.slice a4 n4 c4) (.int .i64 ln) (.int .i64 col)
      have HVB := Lib.hid hvb
      have HVW := Lib.hid hvw
      clear hg hroot hkey hb1 hz1 hXs hX0 hS1 hZ1 hm1 hm2 hp1 hp3 hs ho1 ho2 hrd hgz hC hE hcell hvb hvw hS hZ ih hl hlast hrl
      go_enter Tryz.func134, Tryz.ntmps134
      go_wp2_with (at_lookup; refine wpList_look_okK _ rfl _ _ TMs rfl TSp 3 keySp Tryz.underlying187 (zeroIn _) m _ _ rfl HMK.out _ _ (litS_key s) rfl HKEY.out ?_; rw [HN.out, Option.map_none, Option.getD_none, Option.isSome_none])
      obtain ⟨v0, v1, v2, v3, v4, v5, v6, v7, v8⟩ := cells9 HVB.out
      refine bodyPost_ret (v := .agg (exV kd nm n a1 n1 c1 a2 n2 c2 a3 n3 c3 a4 n4 c4 ln col)) (by simp [results, Tryz.results134, go_sem, v0, v1, v2, v3, v4, v5, v6, v7, v8]) rfl ?_
      exact ⟨kd, nm, n, a1, n1, c1, a2, n2, c2, a3, n3, c3, a4, n4, c4, ln, col, rfl, ⟨HE.out.ev.frame (by rw [HVW.out.size]; exact Nat.le_refl _) (fun b hz hl => HVW.out.block b hz.2) fun b hz _ => hz.1, HE.out.at_⟩, HVW.out.below HB1.out (Nat.le_succ _)⟩
    | some i =>
      rw [hlast] at hg hroot
      have hilt := lastAt_lt hlast
      dsimp only at hg
      obtain ⟨el, hgl, hg⟩ := Option.bind_eq_some_iff.1 hg
      obtain ⟨er, hgr, hg⟩ := Option.bind_eq_some_iff.1 hg
      obtain ⟨o, hgo, hg⟩ := Option.bind_eq_some_iff.1 hg
      obtain rfl : app (app (variable_ o) el) er = e := Option.some.inj hg
      have hc1 := ih _ (s.1, i) el W1 hgl hS1 hZ1 hs1 (by show i ≤ 1000000000; omega)
      have HC1 := Lib.hid hc1
      have HSS := Lib.hid hS1
      have hio : i < ops.length := (List.getElem?_eq_some_iff.1 hgo).1
      obtain ⟨a', c', hq, _, hrd⟩ := ho2
      injection hq with hq1 hq2 hq3
      subst hq1 hq3
      have HNO := Lib.hid (show bo ≠ w.heap.size + 1 by obtain ⟨_, _, _, ⟨_, _, hoW, _⟩⟩ := hS; have := hoW.lt; omega)
      obtain ⟨g, rfl, hgZ, hgl', hcell⟩ := hrd i hio
      have HNG := Lib.hid (show g ≠ w.heap.size + 1 from hgZ.2)
      have hdo : ops.getD i noTk = o := by rw [List.getD_eq_getElem?_getD, hgo]; rfl
      dsimp only at hcell
      rw [hdo] at hcell
      have HTK1 := Lib.hid hcell
      have HGL1 := Lib.hid hgl'
      have HBO1 := Lib.hid ho1
      have HBG1 := Lib.hid hs
      have HN := Lib.hid hroot
      have hib : i < 100000000 := by omega
      have hio' : (i : Int) < ops.length := by omega
      have HGR := Lib.hid hgr
      have HS2 := Lib.hid hs2
      clear hg hroot hkey hb1 hz1 hXs hX0 hS1 hZ1 hm1 hm2 hp1 hp2 hp3 hs ho1 hrd hcell hS hZ ih hl hlast hrl hgo hc1 hgl hgr hdo hilt hs2 hgl' hgZ
      go_enter Tryz.func134, Tryz.ntmps134
      go_wp2_with (at_lookup; refine wpList_look_okK _ rfl _ _ TMs rfl TSp 3 keySp Tryz.underlying187 (zeroIn _) m _ _ rfl HMK.out _ _ (litS_key s) rfl HKEY.out ?_; rw [HN.out, Option.map_some, Option.getD_some, Option.isSome_some])
      refine HC1.out.mono ?_
      rintro e' w2 ⟨kd2, nm2, n2, a12, n12, c12, a22, n22, c22, a32, n32, c32, a42, n42, c42, ln2, col2, rfl, hx2, hb2⟩
      obtain ⟨W3, hW3⟩ : ∃ W3, w2.alloc (.cells (exV kd2 nm2 n2 a12 n12 c12 a22 n22 c22 a32 n32 c32 a42 n42 c42 ln2 col2) TEx) = W3 := ⟨_, rfl⟩
      have hb3 : Below W1.heap.size W1 W3 := by rw [← hW3]; exact hb2.alloc hb2.size _
      have hb23 : Below w2.heap.size w2 W3 := by rw [← hW3]; exact (Below.refl _ _).alloc (Nat.le_refl _) _
      have hBL3 : Box W3 w2.heap.size TEx #[.int .i64 kd2, .string (toB nm2), .int .i64 n2, .slice a12 n12 c12, .slice a22 n22 c22, .slice a32 n32 c32, .slice a42 n42 c42, .int .i64 ln2, .int .i64 col2] := by rw [← hW3]; exact Box.new w2 _ _
      have hz3 : W3.heap.size = w2.heap.size + 1 := by rw [← hW3]; simp
      have hc2 := HIH.out _ (i + 1, s.2) er W3 HGR.out (HSS.out.later hb3 fun b hz _ => hz) (fun b hb => HZ1.out b (Nat.le_trans hb3.size hb)) (by show i + 1 ≤ 1000000000; omega) HS2.out
      have ecast : ((i + 1 : Nat) : Int) = (i : Int) + 1 := by omega
      dsimp only [spV] at hc2
      rw [ecast] at hc2
      have HC2 := Lib.hid hc2
      have x4 := (HBG1.out.below hb3 HBG1.out.lt).cell 0
      have x5 := (HXS.out.below hb3 HXS.out.lt).cell 1
      have HNL := Lib.hid (show w2.heap.size ≠ w.heap.size + 1 by have := hb2.size; have := HSZ.out; omega)
      have HX2 := Lib.hid (⟨hx2.ev.later hb23, hx2.at_⟩ : ExI _ W3 el kd2 nm2 n2 a12 n12 c12 a22 n22 c22 a32 n32 c32 a42 n42 c42 ln2 col2)
      have HB3 := Lib.hid hb3
      have HBL3 := Lib.hid hBL3
      have HZ3 := Lib.hid hz3
      have HBO3 := Lib.hid (HBO1.out.below hb3 HBO1.out.lt)
      have HTK3 := Lib.hid (show ∀ j u, (tokCells o)[j]? = some u → _ from fun j u hu => (hb3.cell (p := ⟨g, i * 6 + j, none⟩) HGL1.out).trans (HTK1.out j u hu))
      have HGL3 := Lib.hid (Nat.lt_of_lt_of_le HGL1.out hb3.size)
      have HRX3 := Lib.hid (HX0.out.below hb3 HX0.out.lt)
      have l6 := hBL3.lt
      clear hc2 ecast hx2 hb2 hb3 hb23 hBL3 hz3 x0 x1 x2 x3
      go_wp2_with fail
      refine HC2.out.mono ?_
      rintro e' w4 ⟨kd4, nm4, n4, a14, n14, c14, a24, n24, c24, a34, n34, c34, a44, n44, c44, ln4, col4, rfl, hx4, hb4⟩
      obtain ⟨W5, hW5⟩ : ∃ W5, w4.alloc (.cells (exV kd4 nm4 n4 a14 n14 c14 a24 n24 c24 a34 n34 c34 a44 n44 c44 ln4 col4) TEx) = W5 := ⟨_, rfl⟩
      have hb5 : Below W3.heap.size W3 W5 := by rw [← hW5]; exact hb4.alloc hb4.size _
      have hb45 : Below w4.heap.size w4 W5 := by rw [← hW5]; exact (Below.refl _ _).alloc (Nat.le_refl _) _
      have hBR5 : Box W5 w4.heap.size TEx #[.int .i64 kd4, .string (toB nm4), .int .i64 n4, .slice a14 n14 c14, .slice a24 n24 c24, .slice a34 n34 c34, .slice a44 n44 c44, .int .i64 ln4, .int .i64 col4] := by rw [← hW5]; exact Box.new w4 _ _
      have hd5 : Below W5.heap.size W5 W5.drew := (Below.refl _ _).drew
      have hb5d : Below W3.heap.size W3 W5.drew := hb5.drew
      have HBL5 := Lib.hid (HBL3.out.below hb5d HBL3.out.lt)
      have HBR5 := Lib.hid hBR5.drew
      have HBO5 := Lib.hid (HBO3.out.below hb5d HBO3.out.lt)
      have HTK5 := Lib.hid (show ∀ j u, (tokCells o)[j]? = some u → _ from fun j u hu => (hb5d.cell (p := ⟨g, i * 6 + j, none⟩) HGL3.out).trans (HTK3.out j u hu))
      have HGL5 := Lib.hid (Nat.lt_of_lt_of_le HGL3.out hb5d.size)
      have HRX5 := Lib.hid (HRX3.out.below hb5d HRX3.out.lt)
      have HNR := Lib.hid (show w4.heap.size ≠ w.heap.size + 1 by have := hb4.size; have := HB3.out.size; have := HSZ.out; omega)
      have HX25 := Lib.hid (⟨HX2.out.ev.later hb5d, HX2.out.at_⟩ : ExI _ W5.drew el kd2 nm2 n2 a12 n12 c12 a22 n22 c22 a32 n32 c32 a42 n42 c42 ln2 col2)
      have HX45 := Lib.hid (⟨(hx4.ev.later hb45).later hd5, hx4.at_⟩ : ExI _ W5.drew er kd4 nm4 n4 a14 n14 c14 a24 n24 c24 a34 n34 c34 a44 n44 c44 ln4 col4)
      have HB5 := Lib.hid (show Below W1.heap.size W1 W5.drew from HB3.out.trans (hb5d.mono HB3.out.size))
      have HVAR := Lib.hid (variable_any o W5.drew)
      have hLL := six25 HBL5.out HBR5.out HBO5.out HTK5.out
      obtain ⟨q0, q1, q2, q3, q4, q5, q6, q7, q8, r0, r1, r2, r3, r4, r5, r6, r7, r8, t9, t0, t1, t2, t3, t4, t5⟩ := hLL
      have l7 := hBR5.lt
      clear hx4 hb4 hb5 hb45 hBR5 hd5 hb5d x4 x5
      go_wp2_with fail
      go_region_held3 (fun w' => w'.cell? ⟨w2.heap.size, 0, none⟩ = some (.int .i64 kd2) ∧ w'.cell? ⟨w2.heap.size, 1, none⟩ = some (.string (toB nm2)) ∧ w'.cell? ⟨w2.heap.size, 2, none⟩ = some (.int .i64 n2) ∧ w'.cell? ⟨w2.heap.size, 3, none⟩ = some (.slice a12 n12 c12) ∧ w'.cell? ⟨w2.heap.size, 4, none⟩ = some (.slice a22 n22 c22) ∧ w'.cell? ⟨w2.heap.size, 5, none⟩ = some (.slice a32 n32 c32) ∧ w'.cell? ⟨w2.heap.size, 6, none⟩ = some (.slice a42 n42 c42) ∧ w'.cell? ⟨w2.heap.size, 7, none⟩ = some (.int .i64 ln2) ∧ w'.cell? ⟨w2.heap.size, 8, none⟩ = some (.int .i64 col2) ∧ w'.cell? ⟨w4.heap.size, 0, none⟩ = some (.int .i64 kd4) ∧ w'.cell? ⟨w4.heap.size, 1, none⟩ = some (.string (toB nm4)) ∧ w'.cell? ⟨w4.heap.size, 2, none⟩ = some (.int .i64 n4) ∧ w'.cell? ⟨w4.heap.size, 3, none⟩ = some (.slice a14 n14 c14) ∧ w'.cell? ⟨w4.heap.size, 4, none⟩ = some (.slice a24 n24 c24) ∧ w'.cell? ⟨w4.heap.size, 5, none⟩ = some (.slice a34 n34 c34) ∧ w'.cell? ⟨w4.heap.size, 6, none⟩ = some (.slice a44 n44 c44) ∧ w'.cell? ⟨w4.heap.size, 7, none⟩ = some (.int .i64 ln4) ∧ w'.cell? ⟨w4.heap.size, 8, none⟩ = some (.int .i64 col4) ∧ w'.cell? ⟨bo, 0, none⟩ = some (.slice (some ⟨g, 0, none⟩) ops.length co) ∧ w'.cell? ⟨g, i * 6, none⟩ = some (.int .i64 o.kind) ∧ w'.cell? ⟨g, i * 6 + 1, none⟩ = some (.string (toB o.text)) ∧ w'.cell? ⟨g, i * 6 + 2, none⟩ = some (.int .i64 o.n) ∧ w'.cell? ⟨g, i * 6 + 3, none⟩ = some (.int .i64 o.ln) ∧ w'.cell? ⟨g, i * 6 + 4, none⟩ = some (.int .i64 o.col) ∧ w'.cell? ⟨g, i * 6 + 5, none⟩ = some (.bool o.made))
        (first
          | exact six25 HBL5.out HBR5.out HBO5.out HTK5.out
          | exact six25 HBL6.out HBR6.out HBO6.out HTK6.out
          | exact six25 HBL7.out HBR7.out HBO7.out HTK7.out
          | exact six25 HBL8.out HBR8.out HBO8.out HTK8.out
          | (rw [hV]; exact six25 HBLV.out HBRV.out HBOV.out HTKV.out)
          | exact six25 HBLV.out HBRV.out HBOV.out HTKV.out)
        (first
          | (have h := HA2; clear h; go_at_call 135; refine HA2.out.mono ?_; rintro e8 w8 ⟨kd8, nm8, n8, a18, n18, c18, a28, n28, c28, a38, n38, c38, a48, n48, c48, ln8, col8, rfl, hx8, hb8⟩; have HBL8 := Lib.hid (HBL7.out.below hb8 HBL7.out.lt); have HBR8 := Lib.hid (HBR7.out.below hb8 HBR7.out.lt); have HBO8 := Lib.hid (HBO7.out.below hb8 HBO7.out.lt); have HTK8 := Lib.hid (show ∀ j u, (tokCells o)[j]? = some u → _ from fun j u hu => (hb8.cell (p := ⟨g, i * 6 + j, none⟩) HGL7.out).trans (HTK7.out j u hu)); have HGL8 := Lib.hid (Nat.lt_of_lt_of_le HGL7.out hb8.size); have HRX8 := Lib.hid (HRX7.out.below hb8 HRX7.out.lt); obtain ⟨z0, z1, z2, z3, z4, z5, z6, z7, z8⟩ := cells9 HRX8.out; obtain ⟨f0, f1, f2, f3, f4, f5, f6, f7, f8⟩ := free9' HRX8.out; obtain ⟨V, hV, hvb, hvw⟩ := HRX8.out.write9 (.int .i64 kd8) (.string (toB nm8)) (.int .i64 n8) (.slice a18 n18 c18) (.slice a28 n28 c28) (.slice a38 n38 c38) (.slice a48 n48 c48) (.int .i64 ln8) (.int .i64 col8); have HX8 := Lib.hid hx8; have HB8 := Lib.hid (show Below W1.heap.size W1 w8 from HB7.out.trans (hb8.mono HB7.out.size)); have HVB := Lib.hid hvb; have HVW := Lib.hid hvw; have HBLV := Lib.hid (HBL8.out.wrote hvw HNL.out); have HBRV := Lib.hid (HBR8.out.wrote hvw HNR.out); have HBOV := Lib.hid (HBO8.out.wrote hvw HNO.out); have HTKV := Lib.hid (show ∀ j u, (tokCells o)[j]? = some u → _ from fun j u hu => (World.cell?_of_block (hvw.block g HNG.out)).trans (HTK8.out j u hu)); clear hx8 hb8 hvb hvw)
          | (have h := HA1; clear h; go_at_call 135; refine HA1.out.mono ?_; rintro e7 w7 ⟨kd7, nm7, n7, a17, n17, c17, a27, n27, c27, a37, n37, c37, a47, n47, c47, ln7, col7, rfl, hx7, hb7⟩; have HBL7 := Lib.hid (HBL6.out.below hb7 HBL6.out.lt); have HBR7 := Lib.hid (HBR6.out.below hb7 HBR6.out.lt); have HBO7 := Lib.hid (HBO6.out.below hb7 HBO6.out.lt); have HTK7 := Lib.hid (show ∀ j u, (tokCells o)[j]? = some u → _ from fun j u hu => (hb7.cell (p := ⟨g, i * 6 + j, none⟩) HGL6.out).trans (HTK6.out j u hu)); have HGL7 := Lib.hid (Nat.lt_of_lt_of_le HGL6.out hb7.size); have HRX7 := Lib.hid (HRX6.out.below hb7 HRX6.out.lt); have HA2 := Lib.hid (app_any w7 hx7 (⟨HX46.out.ev.later hb7, HX46.out.at_⟩ : ExI _ w7 er kd4 nm4 n4 a14 n14 c14 a24 n24 c24 a34 n34 c34 a44 n44 c44 ln4 col4) (fun b hb => HZ1.out b (Nat.le_trans (Nat.le_trans HB6.out.size hb7.size) hb))); have HB7 := Lib.hid (show Below W1.heap.size W1 w7 from HB6.out.trans (hb7.mono HB6.out.size)); clear HA1 hx7 hb7)
          | (go_at_call 136; refine HVAR.out.mono ?_; rintro e6 w6 ⟨rfl, hb6⟩; have HBL6 := Lib.hid (HBL5.out.below hb6 HBL5.out.lt); have HBR6 := Lib.hid (HBR5.out.below hb6 HBR5.out.lt); have HBO6 := Lib.hid (HBO5.out.below hb6 HBO5.out.lt); have HTK6 := Lib.hid (show ∀ j u, (tokCells o)[j]? = some u → _ from fun j u hu => (hb6.cell (p := ⟨g, i * 6 + j, none⟩) HGL5.out).trans (HTK5.out j u hu)); have HGL6 := Lib.hid (Nat.lt_of_lt_of_le HGL5.out hb6.size); have HRX6 := Lib.hid (HRX5.out.below hb6 HRX5.out.lt); have HX46 := Lib.hid (⟨HX45.out.ev.later hb6, HX45.out.at_⟩ : ExI _ w6 er kd4 nm4 n4 a14 n14 c14 a24 n24 c24 a34 n34 c34 a44 n44 c44 ln4 col4); have HA1 := Lib.hid (app_any w6 (⟨EV.leaf _ _ 1 o.text 0 o.ln o.col, rfl⟩ : ExI _ w6 (variable_ o) 1 o.text 0 none 0 0 none 0 0 none 0 0 none 0 0 o.ln o.col) (⟨HX25.out.ev.later hb6, HX25.out.at_⟩ : ExI _ w6 el kd2 nm2 n2 a12 n12 c12 a22 n22 c22 a32 n32 c32 a42 n42 c42 ln2 col2) (fun b hb => HZ1.out b (Nat.le_trans (Nat.le_trans HB5.out.size hb6.size) hb))); have HB6 := Lib.hid (show Below W1.heap.size W1 w6 from HB5.out.trans (hb6.mono HB5.out.size)); clear hb6))
      go_wp2_with fail
      obtain ⟨v0, v1, v2, v3, v4, v5, v6, v7, v8⟩ := cells9 HVB.out
      refine bodyPost_ret (v := .agg (exV kd8 nm8 n8 a18 n18 c18 a28 n28 c28 a38 n38 c38 a48 n48 c48 ln8 col8)) (by simp [results, Tryz.results134, go_sem, v0, v1, v2, v3, v4, v5, v6, v7, v8]) rfl ?_
      exact ⟨kd8, nm8, n8, a18, n18, c18, a28, n28, c28, a38, n38, c38, a48, n48, c48, ln8, col8, rfl, ⟨HX8.out.ev.frame (by rw [HVW.out.size]; exact Nat.le_refl _) (fun b hz hl => HVW.out.block b hz.2) fun b hz _ => hz.1, HX8.out.at_⟩, HVW.out.below (HB1.out.trans (HB8.out.mono HB1.out.size)) (Nat.le_succ _)⟩
end
end Go.Proofs.YtdajihpfedbihaaGreat.Pa
