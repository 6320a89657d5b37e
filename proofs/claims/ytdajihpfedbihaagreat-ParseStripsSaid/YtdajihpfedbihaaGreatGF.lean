/-
  WORDS on layer parse: what was read, as functions in memory that make it when they are called. CONTRACTS: a leaf; a clause's name.
-/
import Derived.Test.YtdajihpfedbihaaGreatGE
import Derived.Deep.AppendLies
import Derived.Deep.RegionLaw
namespace Go.Proofs.YtdajihpfedbihaaGreat.Pa
open Go.RowKit Mm Tm Pm
set_option linter.unusedVariables false
set_option linter.unusedSimpArgs false
abbrev TEx : TypeId := 33
abbrev TCl : TypeId := 140
abbrev TFE : TypeId := 149
/-- what a function in memory makes -/
inductive Item where
  | lt (t : Lt)
  | rh (r : Rh)
  | gd (g : Gd)
  | al (a : Al)
  | cl (c : Cl)
/-- a variable that was captured -/
def Cap (Z : Nat → Prop) (w : World) (b : Nat) (t : TypeId) (cs : Array Value) : Prop := Z b ∧ Box w b t cs
/-- a row whose elements have k cells each -/
def RowZ (Z : Nat → Prop) (w : World) (v : Value) (n k : Nat) (C : Nat → List Value) : Prop :=
  ∃ a c, v = .slice a n c ∧ n ≤ c ∧ ∀ i, i < n → ∃ g, a = some ⟨g, 0, none⟩ ∧ Z g ∧ g < w.heap.size ∧ ∀ j u, (C i)[j]? = some u → w.cell? ⟨g, i * k + j, none⟩ = some u
def tokCells (t : Tk) : List Value := [.int .i64 t.kind, .string (toB t.text), .int .i64 t.n, .int .i64 t.ln, .int .i64 t.col, .bool t.made]
/-- a row of tokens, of texts -/
def RowTks (Z : Nat → Prop) (w : World) (v : Value) (l : List Tk) : Prop := RowZ Z w v l.length 6 fun i => tokCells (l.getD i noTk)
def RowBs (Z : Nat → Prop) (w : World) (v : Value) (l : List (List UInt8)) : Prop := RowZ Z w v l.length 1 fun i => [.string (toB (l.getD i []))]
abbrev ptr (b : Nat) : Value := .pointer (some ⟨b, 0, none⟩)
abbrev exCells (kd : Int) (name : List UInt8) (n ln col : Int) : Array Value := #[.int .i64 kd, .string (toB name), .int .i64 n, .slice none 0 0, .slice none 0 0, .slice none 0 0, .slice none 0 0, .int .i64 ln, .int .i64 col]
/-- what was read lies in memory, in blocks of Z -/
inductive R (pb : Nat) (Z : Nat → Prop) (w : World) : Item → List Value → Prop
  | none : R pb Z w (.lt .none) [Value.nilFunc]
  | leaf {kd : Int} {name : List UInt8} {n ln col : Int} {b : Nat} : Cap Z w b TEx (exCells kd name n ln col) → R pb Z w (.lt (.leaf kd name n ln col)) [.func (.func 163) #[] #[ptr b]]
  | row {operands : List Lt} {ops : List Tk} {bp bo bq : Nat} {so sq : Value} {C : Nat → List Value} : operands.length ≤ 100000001 → ops.length ≤ 100000000 → Cap Z w bp 108 #[ptr pb] → Cap Z w bo 169 #[so] → Cap Z w bq 104 #[sq] →
      RowZ Z w so operands.length 1 C → RowTks Z w sq ops → (∀ i t, operands[i]? = some t → R pb Z w (.lt t) (C i)) → R pb Z w (.lt (.row operands ops)) [.func (.func 102) #[] #[ptr bp, ptr bo, ptr bq]]
  | lam {params : List (List UInt8)} {body : Lt} {ln col : Int} {bs bb ba : Nat} {sp vb : Value} : Cap Z w bs 27 #[sp] → Cap Z w bb TFE #[vb] → Cap Z w ba TPos #[.int .i64 ln, .int .i64 col] → RowBs Z w sp params → R pb Z w (.lt body) [vb] →
      R pb Z w (.lt (.lam params body ln col)) [.func (.func 142) #[] #[ptr bs, ptr bb, ptr ba]]
  | let_ {cs : List Cl} {body : Lt} {ln col : Int} {bs bb ba : Nat} {sp vb : Value} {C : Nat → List Value} : cs.length ≤ 100000000 → Cap Z w bs 131 #[sp] → Cap Z w bb TFE #[vb] → Cap Z w ba TPos #[.int .i64 ln, .int .i64 col] → RowZ Z w sp cs.length 8 C →
      (∀ i c, cs[i]? = some c → R pb Z w (.cl c) (C i)) → R pb Z w (.lt body) [vb] → R pb Z w (.lt (.let_ cs body ln col)) [.func (.func 145) #[] #[ptr bs, ptr bb, ptr ba]]
  | choice {parts : List Lt} {ln col : Int} {bs ba : Nat} {sp : Value} {C : Nat → List Value} : parts.length ≤ 100000001 → Cap Z w bs 169 #[sp] → Cap Z w ba TPos #[.int .i64 ln, .int .i64 col] → RowZ Z w sp parts.length 1 C → (∀ i t, parts[i]? = some t → R pb Z w (.lt t) (C i)) →
      R pb Z w (.lt (.choice parts ln col)) [.func (.func 146) #[] #[ptr bs, ptr ba]]
  | cases_ {o : Lt} {aa : List Al} {ln col : Int} {bo bs ba : Nat} {vo sp : Value} {C : Nat → List Value} : aa.length ≤ 100000000 → Cap Z w bo TFE #[vo] → Cap Z w bs 199 #[sp] → Cap Z w ba TPos #[.int .i64 ln, .int .i64 col] → R pb Z w (.lt o) [vo] → RowZ Z w sp aa.length 1 C →
      (∀ i a, aa[i]? = some a → R pb Z w (.al a) (C i)) → R pb Z w (.lt (.cases_ o aa ln col)) [.func (.func 149) #[] #[ptr bo, ptr bs, ptr ba]]
  | app {parts : List Lt} {bs : Nat} {sp : Value} {C : Nat → List Value} : parts.length ≤ 100000001 → Cap Z w bs 169 #[sp] → RowZ Z w sp parts.length 1 C → (∀ i t, parts[i]? = some t → R pb Z w (.lt t) (C i)) →
      R pb Z w (.lt (.app parts)) [.func (.func 152) #[] #[ptr bs]]
  | one {body : Lt} {bb : Nat} {vb : Value} : Cap Z w bb TFE #[vb] → R pb Z w (.lt body) [vb] → R pb Z w (.rh (.one body)) [.func (.func 117) #[] #[ptr bb]]
  | guards {gs : List Gd} {bs : Nat} {sp : Value} {C : Nat → List Value} : gs.length ≤ 100000000 → Cap Z w bs 182 #[sp] → RowZ Z w sp gs.length 1 C → (∀ i g, gs[i]? = some g → R pb Z w (.gd g) (C i)) →
      R pb Z w (.rh (.guards gs)) [.func (.func 119) #[] #[ptr bs]]
  | gd {g b : Lt} {bg bb : Nat} {vg vb : Value} : Cap Z w bg TFE #[vg] → Cap Z w bb TFE #[vb] → R pb Z w (.lt g) [vg] → R pb Z w (.lt b) [vb] → R pb Z w (.gd (.mk g b)) [.func (.func 118) #[] #[ptr bg, ptr bb]]
  | al {x : Pm.Pt} {r : Rh} {bp br : Nat} {a : Option Addr} {c : Nat} {vr : Value} : Cap Z w bp TPt #[.int .i64 x.kd, .string x.nm, .int .i64 x.n, .slice a x.args.len c, .int .i64 x.ln, .int .i64 x.col] → Cap Z w br 138 #[vr] → RdP (fun b => Z b ∧ b < w.heap.size) w a x.args 0 → x.nm.size ≤ 9223372036854775807 → x.args.len * 72 ≤ 140737488355328 → R pb Z w (.rh r) [vr] →
      R pb Z w (.al (.mk x r)) [.func (.func 148) #[] #[ptr bp, ptr br]]
  | cl {t : Tk} {ps : List Pm.Pt} {r : Rh} {a : Option Addr} {c : Nat} {vr : Value} : RdP (fun b => Z b ∧ b < w.heap.size) w a (Pts.ofL ps) 0 → ps.length ≤ 100000000 → t.text.length ≤ 9223372036854775807 → R pb Z w (.rh r) [vr] →
      R pb Z w (.cl (.mk t ps r)) (tokCells t ++ [.slice a ps.length c, vr])
theorem Cap.frame {Z Z' : Nat → Prop} {w w' : World} {b : Nat} {t : TypeId} {cs : Array Value} (h : Cap Z w b t cs) (hb : ∀ b, Z b → b < w.heap.size → w'.heap[b]? = w.heap[b]?) (hz : ∀ b, Z b → b < w.heap.size → Z' b) : Cap Z' w' b t cs :=
  ⟨hz b h.1 h.2.lt, (hb b h.1 h.2.lt).trans h.2⟩
theorem RowZ.frame {Z Z' : Nat → Prop} {w w' : World} {v : Value} {n k : Nat} {C : Nat → List Value} (h : RowZ Z w v n k C) (hs : w.heap.size ≤ w'.heap.size) (hb : ∀ b, Z b → b < w.heap.size → w'.heap[b]? = w.heap[b]?) (hz : ∀ b, Z b → b < w.heap.size → Z' b) : RowZ Z' w' v n k C := by
  obtain ⟨a, c, h1, h2, h3⟩ := h
  refine ⟨a, c, h1, h2, fun i hi => ?_⟩
  obtain ⟨g, k1, k2, k3, k4⟩ := h3 i hi
  exact ⟨g, k1, hz g k2 k3, Nat.lt_of_lt_of_le k3 hs, fun j u hu => (World.cell?_of_block (hb g k2 k3)).trans (k4 j u hu)⟩
theorem rdP_frame {Z Z' : Nat → Prop} {w w' : World} {a : Option Addr} {t : Pts} (h : RdP (fun b => Z b ∧ b < w.heap.size) w a t 0) (hs : w.heap.size ≤ w'.heap.size) (hb : ∀ b, Z b → b < w.heap.size → w'.heap[b]? = w.heap[b]?) (hz : ∀ b, Z b → b < w.heap.size → Z' b) : RdP (fun b => Z' b ∧ b < w'.heap.size) w' a t 0 :=
  h.frame (fun b o q => World.cell?_of_block (hb b q.1 q.2)) (fun ad q => World.cell?_of_block (hb _ q.1 q.2)) fun b q => ⟨hz b q.1 q.2, Nat.lt_of_lt_of_le q.2 hs⟩
/-- what lies in blocks that are kept, is kept -/
theorem R.frame {pb : Nat} {Z Z' : Nat → Prop} {w w' : World} {it : Item} {vs : List Value} (h : R pb Z w it vs) (hs : w.heap.size ≤ w'.heap.size) (hb : ∀ b, Z b → b < w.heap.size → w'.heap[b]? = w.heap[b]?) (hz : ∀ b, Z b → b < w.heap.size → Z' b) : R pb Z' w' it vs := by
  induction h with
  | none => exact .none
  | leaf h => exact .leaf (h.frame hb hz)
  | row n1 n2 h1 h2 h3 h4 h5 _ ih => exact .row n1 n2 (h1.frame hb hz) (h2.frame hb hz) (h3.frame hb hz) (h4.frame hs hb hz) (RowZ.frame h5 hs hb hz) ih
  | lam h1 h2 h3 h4 _ ih => exact .lam (h1.frame hb hz) (h2.frame hb hz) (h3.frame hb hz) (RowZ.frame h4 hs hb hz) ih
  | let_ n1 h1 h2 h3 h4 _ _ ih1 ih2 => exact .let_ n1 (h1.frame hb hz) (h2.frame hb hz) (h3.frame hb hz) (h4.frame hs hb hz) ih1 ih2
  | choice n1 h1 h2 h3 _ ih => exact .choice n1 (h1.frame hb hz) (h2.frame hb hz) (h3.frame hs hb hz) ih
  | cases_ n1 h1 h2 h3 _ h5 _ ih1 ih2 => exact .cases_ n1 (h1.frame hb hz) (h2.frame hb hz) (h3.frame hb hz) ih1 (h5.frame hs hb hz) ih2
  | app n1 h1 h2 _ ih => exact .app n1 (h1.frame hb hz) (h2.frame hs hb hz) ih
  | one h1 _ ih => exact .one (h1.frame hb hz) ih
  | guards n1 h1 h2 _ ih => exact .guards n1 (h1.frame hb hz) (h2.frame hs hb hz) ih
  | gd h1 h2 _ _ ih1 ih2 => exact .gd (h1.frame hb hz) (h2.frame hb hz) ih1 ih2
  | al h1 h2 h3 h4 h5 _ ih => exact .al (h1.frame hb hz) (h2.frame hb hz) (rdP_frame h3 hs hb hz) h4 h5 ih
  | cl h1 h2 h3 _ ih => exact .cl (rdP_frame h1 hs hb hz) h2 h3 ih
theorem R.mono {pb : Nat} {Z Z' : Nat → Prop} {w : World} {it : Item} {vs : List Value} (h : R pb Z w it vs) (hz : ∀ b, Z b → b < w.heap.size → Z' b) : R pb Z' w it vs := h.frame (Nat.le_refl _) (fun _ _ _ => rfl) hz
theorem R.kept {pb : Nat} {Z : Nat → Prop} {w w' : World} {it : Item} {vs : List Value} {X : Nat → Prop} (h : R pb Z w it vs) (hk : Kept X w w') (hX : ∀ b, Z b → X b → b < w.heap.size → False) : R pb Z w' it vs := h.frame hk.size (fun b hz hl => hk.block b hl fun x => hX b hz x hl) (fun _ hz _ => hz)
/-- what a reader of an expression ends with -/
def LtPost (N pb : Nat) (fv : Value) (it : Item) (p' : Pp) (w : World) (e : Ending) (w' : World) : Prop := ∃ v, e = .returned v ∧ R pb (fun b => w.heap.size ≤ b) w' it [v] ∧ PS N w' pb p' fv ∧ KP pb w w'
set_option maxRecDepth 100000 in
set_option maxHeartbeats 4000000 in
theorem leaf_any {pb : Nat} (kd : Int) (name : List UInt8) (n ln col : Int) (w : World) : Calls Tryz.prog 158 #[.agg (exCells kd name n ln col)] w fun e w' => ∃ v, e = .returned v ∧ R pb (fun b => w.heap.size ≤ b) w' (.lt (.leaf kd name n ln col)) [v] ∧ Below w.heap.size w w' := by
  have HB := Lib.hid ((Below.refl w.heap.size w).alloc (Nat.le_refl _) (.cells (exCells kd name n ln col) TEx))
  have HX := Lib.hid (Box.new w (exCells kd name n ln col) TEx)
  go_enter Tryz.func158, Tryz.ntmps158
  go_wp2_with fail
  go_ret
  exact ⟨_, rfl, .leaf ⟨Nat.le_refl _, HX.out⟩, HB.out⟩
set_option maxRecDepth 100000 in
set_option maxHeartbeats 4000000 in
theorem fname_any {N pb : Nat} {p : Pp} {fv : Value} (w : World) (h : PS N w pb p fv) : Calls Tryz.prog 90 #[.pointer (some ⟨pb, 0, none⟩)] w (TakePost N pb fv (fname p) w) := by
  have HP := Lib.hid h
  have HB0 := Lib.hid ((Below.refl w.heap.size w).alloc (Nat.le_refl _) zTok)
  have HX0 := Lib.hid (zbox w)
  have HN := Lib.hid (next_any (w.alloc zTok) (h.below HB0.out))
  have HNE := Lib.hid (show w.heap.size ≠ pb by have := h.lt; have := h.size; omega)
  clear h
  by_cases hk : p.next.kind = 1
  · have q : (p.next.kind == 1) = true := by simpa using hk
    have HE := Lib.hid (show fname p = p.take by unfold fname; rw [if_pos hk])
    clear hk
    go_enter Tryz.func90, Tryz.ntmps90
    go_wp2_with fail
    refine HN.out.mono ?_
    rintro e w1 ⟨rfl, hb1⟩
    have HB1 := Lib.hid (HB0.out.trans (hb1.mono (by simp)))
    have HX1 := Lib.hid (HX0.out.below hb1 (by simp))
    have HT := Lib.hid (take_any w1 (HP.out.below HB1.out))
    have hf := tok_kind p.next w1
    clear hb1
    go_wp2_with fail
    refine HT.out.mono ?_
    rintro e w2 ⟨rfl, hp2, hk2⟩
    have hX2 := hk2.box HX1.out HNE.out
    obtain ⟨z0, z1, z2, z3, z4, z5⟩ := cells6 hX2
    obtain ⟨y0, y1, y2, y3, y4, y5⟩ := free6 hX2
    have HP2 := Lib.hid hp2
    have HK2 := Lib.hid ((Kept.of_below HB1.out (Nat.le_refl _) (fun b => b = pb)).trans hk2)
    generalize p.take = r at HP2 HE
    obtain ⟨t, p2⟩ := r
    obtain ⟨V, hV, hvb, hvw⟩ := write6 hX2 (.int .i64 t.kind) (.string (toB t.text)) (.int .i64 t.n) (.int .i64 t.ln) (.int .i64 t.col) (.bool t.made)
    have HVB := Lib.hid hvb
    have HVW := Lib.hid hvw
    clear hp2 hk2 hX2 hvb hvw
    go_wp2_with fail
    obtain ⟨v0, v1, v2, v3, v4, v5⟩ := cells6 HVB.out
    refine bodyPost_ret (v := tokV t) (by simp [results, Tryz.results90, go_sem, v0, v1, v2, v3, v4, v5]) rfl ?_
    rw [HE.out]
    exact ⟨rfl, HP2.out.frame (X := fun b => b = w.heap.size) (kept_wrote (Kept.refl (fun b => b = w.heap.size) _) HVW.out fun _ => rfl) (fun b e => by have := HP.out.size; omega), kept_wrote HK2.out HVW.out (fun q => absurd q (Nat.lt_irrefl _))⟩
  · have q : (p.next.kind == 1) = false := by simpa using hk
    have HE := Lib.hid (show fname p = (((p.mark "(").2.kind 3).1, (((p.mark "(").2.kind 3).2.mark ")").2) by unfold fname; rw [if_neg hk])
    clear hk
    go_enter Tryz.func90, Tryz.ntmps90
    go_wp2_with fail
    refine HN.out.mono ?_
    rintro e w1 ⟨rfl, hb1⟩
    have HB1 := Lib.hid (HB0.out.trans (hb1.mono (by simp)))
    have HX1 := Lib.hid (HX0.out.below hb1 (by simp))
    have HM := Lib.hid (mark_any "(" w1 (HP.out.below HB1.out))
    rw [lit_lp] at HM
    have hf := tok_kind p.next w1
    clear hb1
    go_wp2_with fail
    refine HM.out.mono ?_
    rintro e w2 ⟨rfl, hp2, hk2⟩
    have HX2 := Lib.hid (hk2.box HX1.out HNE.out)
    have HK2 := Lib.hid ((Kept.of_below HB1.out (Nat.le_refl _) (fun b => b = pb)).trans hk2)
    have HKD := Lib.hid (kind_any 3 w2 hp2)
    clear hp2 hk2
    go_wp2_with fail
    refine HKD.out.mono ?_
    rintro e w3 ⟨rfl, hp3, hk3⟩
    generalize hr : (p.mark "(").2.kind 3 = r at *
    obtain ⟨t, p3⟩ := r
    have hB3 := (Below.refl w3.heap.size w3).alloc (Nat.le_refl _) (oTok t)
    have HX3 := Lib.hid ((hk3.box HX2.out HNE.out).alloc (oTok t))
    have HY3 := Lib.hid (Box.new w3 #[.int .i64 t.kind, .string (toB t.text), .int .i64 t.n, .int .i64 t.ln, .int .i64 t.col, .bool t.made] TTok)
    have HK3 := Lib.hid ((HK2.out.trans hk3).alloc (oTok t))
    have HM3 := Lib.hid (mark_any ")" _ (hp3.below hB3))
    rw [lit_rp] at HM3
    have HS3 := Lib.hid (show w.heap.size + 1 ≤ w3.heap.size from Nat.lt_of_lt_of_le HX2.out.lt hk3.size)
    clear hp3 hk3 hB3
    go_wp2_with fail
    refine HM3.out.mono ?_
    rintro e w4 ⟨rfl, hp4, hk4⟩
    have hX4 := hk4.box HX3.out HNE.out
    have hY4 := hk4.box HY3.out (by have := HP.out.lt; have := HP.out.size; have := HS3.out; omega)
    obtain ⟨t0, t1, t2, t3, t4, t5⟩ := cells6 hY4
    obtain ⟨z0, z1, z2, z3, z4, z5⟩ := cells6 hX4
    obtain ⟨y0, y1, y2, y3, y4, y5⟩ := free6 hX4
    obtain ⟨V, hV, hvb, hvw⟩ := write6 hX4 (.int .i64 t.kind) (.string (toB t.text)) (.int .i64 t.n) (.int .i64 t.ln) (.int .i64 t.col) (.bool t.made)
    have HVB := Lib.hid hvb
    have HVW := Lib.hid hvw
    have HP4 := Lib.hid hp4
    have HK4 := Lib.hid (HK3.out.trans hk4)
    clear hp4 hk4 hX4 hY4 hvb hvw
    go_wp2_with fail
    obtain ⟨v0, v1, v2, v3, v4, v5⟩ := cells6 HVB.out
    refine bodyPost_ret (v := tokV t) (by simp [results, Tryz.results90, go_sem, v0, v1, v2, v3, v4, v5]) rfl ?_
    rw [HE.out]
    exact ⟨rfl, HP4.out.frame (X := fun b => b = w.heap.size) (kept_wrote (Kept.refl (fun b => b = w.heap.size) _) HVW.out fun _ => rfl) (fun b e => by have := HP.out.size; omega), kept_wrote HK4.out HVW.out (fun q => absurd q (Nat.lt_irrefl _))⟩
end Go.Proofs.YtdajihpfedbihaaGreat.Pa
/-
  CONTRACTS of layer parse: one aexp is read.
-/
namespace Go.Proofs.YtdajihpfedbihaaGreat.Pa
open Go.RowKit Mm Tm Pm
set_option linter.unusedVariables false
set_option linter.unusedSimpArgs false
theorem toB_nil : toB [] = ⟨#[]⟩ := rfl
theorem cells9 {w : World} {g : Nat} {t : TypeId} {a0 a1 a2 a3 a4 a5 a6 a7 a8 : Value} (h : Box w g t #[a0, a1, a2, a3, a4, a5, a6, a7, a8]) : w.cell? ⟨g, 0, none⟩ = some a0 ∧ w.cell? ⟨g, 1, none⟩ = some a1 ∧ w.cell? ⟨g, 2, none⟩ = some a2 ∧ w.cell? ⟨g, 3, none⟩ = some a3 ∧ w.cell? ⟨g, 4, none⟩ = some a4 ∧ w.cell? ⟨g, 5, none⟩ = some a5 ∧ w.cell? ⟨g, 6, none⟩ = some a6 ∧ w.cell? ⟨g, 7, none⟩ = some a7 ∧ w.cell? ⟨g, 8, none⟩ = some a8 :=
  ⟨h.cell 0, h.cell 1, h.cell 2, h.cell 3, h.cell 4, h.cell 5, h.cell 6, h.cell 7, h.cell 8⟩
set_option maxRecDepth 100000 in
set_option maxHeartbeats 4000000 in
theorem variable_any (t : Tk) (w : World) : Calls Tryz.prog 136 #[tokV t] w fun e w' => e = .returned (.agg (exCells 1 t.text 0 t.ln t.col)) ∧ Below w.heap.size w w' := by
  have HB := Lib.hid (((Below.refl w.heap.size w).alloc (Nat.le_refl _) (oTok t)).alloc (by simp) (.cells (exCells 1 t.text 0 t.ln t.col) TEx))
  have HX := Lib.hid (Box.new (w.alloc (oTok t)) (exCells 1 t.text 0 t.ln t.col) TEx)
  rw [World.size_alloc] at HX
  go_enter Tryz.func136, Tryz.ntmps136
  go_wp2_with fail
  obtain ⟨v0, v1, v2, v3, v4, v5, v6, v7, v8⟩ := cells9 HX.out
  refine bodyPost_ret (v := .agg (exCells 1 t.text 0 t.ln t.col)) (by simp [results, Tryz.results136, go_sem, v0, v1, v2, v3, v4, v5, v6, v7, v8]) rfl ?_
  exact ⟨rfl, HB.out⟩
/-- what begins with an operator behind a bracket -/
def signP (p : Pp) : Lt × Pp := if p.take.1.text = str "-" ∧ p.take.2.next.kind = 4 then (.leaf 3 [] p.take.2.below.1.n p.take.2.below.1.ln p.take.2.below.1.col, p.take.2.below.2) else (.leaf 1 p.take.1.text 0 p.take.1.ln p.take.1.col, (p.take.2.mark ")").2)
/-- a leaf that was made behind: it lies in blocks that are new -/
theorem LtPost.leaf {N pb : Nat} {fv : Value} {it : Item} {p' : Pp} {w w1 w2 : World} {v : Value} {B : Nat} (hr : R pb (fun b => B ≤ b) w2 it [v]) (hB : w.heap.size ≤ B) (hp : PS N w1 pb p' fv) (hk : KP pb w w1) (hb : Below w1.heap.size w1 w2) : LtPost N pb fv it p' w (.returned v) w2 :=
  ⟨v, rfl, hr.mono fun b hz _ => Nat.le_trans hB hz, hp.below hb, hk.trans (Kept.of_below hb (Nat.le_refl _) _)⟩
set_option maxRecDepth 100000 in
set_option maxHeartbeats 4000000 in
theorem sign_any {N pb : Nat} {p : Pp} {fv : Value} (w : World) (h : PS N w pb p fv) : Calls Tryz.prog 159 #[.pointer (some ⟨pb, 0, none⟩)] w (LtPost N pb fv (.lt (signP p).1) (signP p).2 w) := by
  have HP := Lib.hid h
  have HT := Lib.hid (take_any w h)
  clear h
  have HS := Lib.hid (show signP p = if p.take.1.text = str "-" ∧ p.take.2.next.kind = 4 then (.leaf 3 [] p.take.2.below.1.n p.take.2.below.1.ln p.take.2.below.1.col, p.take.2.below.2) else (.leaf 1 p.take.1.text 0 p.take.1.ln p.take.1.col, (p.take.2.mark ")").2) from rfl)
  generalize p.take = r at HT HS
  obtain ⟨t, q⟩ := r
  have hsm : str "-" = [45] := by kernel_rfl
  by_cases hm : t.text = str "-"
  · have g1 : ((toB t.text).toList == [45]) = true := by rw [toB_toList, hm, hsm]; simp
    by_cases hk : q.next.kind = 4
    · have g2 : (q.next.kind == 4) = true := by simpa using hk
      have HE := Lib.hid (show signP p = (.leaf 3 [] q.below.1.n q.below.1.ln q.below.1.col, q.below.2) by rw [HS.out, if_pos ⟨hm, hk⟩])
      clear hm hk hsm
      go_enter Tryz.func159, Tryz.ntmps159
      go_wp2_with fail
      refine HT.out.mono ?_
      rintro e w1 ⟨rfl, hp1, hk1⟩
      have hB1 := (Below.refl w1.heap.size w1).alloc (Nat.le_refl _) (oTok t)
      have HP1 := Lib.hid (hp1.below hB1)
      have HK1 := Lib.hid (hk1.alloc (oTok t))
      have hY1 := Box.new w1 #[.int .i64 t.kind, .string (toB t.text), .int .i64 t.n, .int .i64 t.ln, .int .i64 t.col, .bool t.made] TTok
      have HY1 := Lib.hid hY1
      have HSZ := Lib.hid (show w.heap.size ≤ w1.heap.size from hk1.size)
      have HNY := Lib.hid (show w1.heap.size ≠ pb by have := HP.out.lt; have := HP.out.size; have := hk1.size; omega)
      obtain ⟨u0, u1, u2, u3, u4, u5⟩ := cells6 hY1
      clear hp1 hk1 hB1 hY1

      have HN := Lib.hid (next_any _ HP1.out)
      have hf := tok_kind q.next
      go_wp2_with fail
      refine HN.out.mono ?_
      rintro e w2 ⟨rfl, hb2⟩
      have HP2 := Lib.hid (HP1.out.below hb2)
      have HY2 := Lib.hid (HY1.out.below hb2 HY1.out.lt)
      have HK2 := Lib.hid (KP.here HK1.out hb2)
      clear hb2

      have HBL := Lib.hid (below_any w2 HP2.out)
      go_wp2_with fail
      refine HBL.out.mono ?_
      rintro e w3 ⟨rfl, hp3, hk3⟩
      generalize hbl : q.below = u at *
      obtain ⟨t5, p5⟩ := u
      have hB3 := (Below.refl w3.heap.size w3).alloc (Nat.le_refl _) (oTok t5)
      have hZ3 := Box.new w3 #[.int .i64 t5.kind, .string (toB t5.text), .int .i64 t5.n, .int .i64 t5.ln, .int .i64 t5.col, .bool t5.made] TTok
      obtain ⟨s0, s1, s2, s3, s4, s5⟩ := cells6 hZ3
      have HP3 := Lib.hid (hp3.below hB3)
      have HK3 := Lib.hid ((HK2.out.trans hk3).alloc (oTok t5))
      have HL := Lib.hid (leaf_any (pb := pb) 3 [] t5.n t5.ln t5.col (w3.alloc (oTok t5)))
      unfold exCells at HL
      rw [toB_nil] at HL
      clear hp3 hk3 hB3 hZ3
      go_wp2_with fail
      refine HL.out.mono ?_
      rintro e w5 ⟨v5, rfl, hr5, hb5⟩
      have HR5 := Lib.hid hr5
      have HB5 := Lib.hid hb5
      clear hr5 hb5
      go_wp2_with fail
      go_ret
      rw [HE.out]
      exact LtPost.leaf HR5.out HK3.out.size HP3.out HK3.out HB5.out
    · have g2 : (q.next.kind == 4) = false := by simpa using hk
      have HE := Lib.hid (show signP p = (.leaf 1 t.text 0 t.ln t.col, (q.mark ")").2) by rw [HS.out, if_neg (fun h => hk h.2)])
      clear hm hk hsm
      go_enter Tryz.func159, Tryz.ntmps159
      go_wp2_with fail
      refine HT.out.mono ?_
      rintro e w1 ⟨rfl, hp1, hk1⟩
      have hB1 := (Below.refl w1.heap.size w1).alloc (Nat.le_refl _) (oTok t)
      have HP1 := Lib.hid (hp1.below hB1)
      have HK1 := Lib.hid (hk1.alloc (oTok t))
      have hY1 := Box.new w1 #[.int .i64 t.kind, .string (toB t.text), .int .i64 t.n, .int .i64 t.ln, .int .i64 t.col, .bool t.made] TTok
      have HY1 := Lib.hid hY1
      have HSZ := Lib.hid (show w.heap.size ≤ w1.heap.size from hk1.size)
      have HNY := Lib.hid (show w1.heap.size ≠ pb by have := HP.out.lt; have := HP.out.size; have := hk1.size; omega)
      obtain ⟨u0, u1, u2, u3, u4, u5⟩ := cells6 hY1
      clear hp1 hk1 hB1 hY1

      have HN := Lib.hid (next_any _ HP1.out)
      have hf := tok_kind q.next
      go_wp2_with fail
      refine HN.out.mono ?_
      rintro e w2 ⟨rfl, hb2⟩
      have HP2 := Lib.hid (HP1.out.below hb2)
      have HY2 := Lib.hid (HY1.out.below hb2 HY1.out.lt)
      have HK2 := Lib.hid (KP.here HK1.out hb2)
      clear hb2

      have HM := Lib.hid (mark_any ")" _ HP2.out)
      rw [lit_rp] at HM
      go_wp2_with fail
      refine HM.out.mono ?_
      rintro e w3 ⟨rfl, hp3, hk3⟩
      have hY3 := hk3.box HY2.out HNY.out
      obtain ⟨s0, s1, s2, s3, s4, s5⟩ := cells6 hY3
      have HP3 := Lib.hid hp3
      have HK3 := Lib.hid (HK2.out.trans hk3)
      have HV := Lib.hid (variable_any t w3)
      clear hp3 hk3 hY3
      go_wp2_with fail
      refine HV.out.mono ?_
      rintro e w4 ⟨rfl, hb4⟩
      have HB4 := Lib.hid hb4
      have HL := Lib.hid (leaf_any (pb := pb) 1 t.text 0 t.ln t.col w4)
      clear hb4
      go_wp2_with fail
      refine HL.out.mono ?_
      rintro e w5 ⟨v5, rfl, hr5, hb5⟩
      have HR5 := Lib.hid hr5
      have HB5 := Lib.hid hb5
      clear hr5 hb5
      go_wp2_with fail
      go_ret
      rw [HE.out]
      exact LtPost.leaf HR5.out (Nat.le_trans HK3.out.size HB4.out.size) HP3.out HK3.out (HB4.out.trans (HB5.out.mono HB4.out.size))
  · have g1 : ((toB t.text).toList == [45]) = false := by rw [toB_toList]; simpa [hsm] using hm
    have HE := Lib.hid (show signP p = (.leaf 1 t.text 0 t.ln t.col, (q.mark ")").2) by rw [HS.out, if_neg (fun h => hm h.1)])
    clear hm hsm
    go_enter Tryz.func159, Tryz.ntmps159
    go_wp2_with fail
    refine HT.out.mono ?_
    rintro e w1 ⟨rfl, hp1, hk1⟩
    have hB1 := (Below.refl w1.heap.size w1).alloc (Nat.le_refl _) (oTok t)
    have HP1 := Lib.hid (hp1.below hB1)
    have HK1 := Lib.hid (hk1.alloc (oTok t))
    have hY1 := Box.new w1 #[.int .i64 t.kind, .string (toB t.text), .int .i64 t.n, .int .i64 t.ln, .int .i64 t.col, .bool t.made] TTok
    have HY1 := Lib.hid hY1
    have HSZ := Lib.hid (show w.heap.size ≤ w1.heap.size from hk1.size)
    have HNY := Lib.hid (show w1.heap.size ≠ pb by have := HP.out.lt; have := HP.out.size; have := hk1.size; omega)
    obtain ⟨u0, u1, u2, u3, u4, u5⟩ := cells6 hY1
    clear hp1 hk1 hB1 hY1

    have HM := Lib.hid (mark_any ")" _ HP1.out)
    rw [lit_rp] at HM
    go_wp2_with fail
    refine HM.out.mono ?_
    rintro e w3 ⟨rfl, hp3, hk3⟩
    have hY3 := hk3.box HY1.out HNY.out
    obtain ⟨s0, s1, s2, s3, s4, s5⟩ := cells6 hY3
    have HP3 := Lib.hid hp3
    have HK3 := Lib.hid (HK1.out.trans hk3)
    have HV := Lib.hid (variable_any t w3)
    clear hp3 hk3 hY3
    go_wp2_with fail
    refine HV.out.mono ?_
    rintro e w4 ⟨rfl, hb4⟩
    have HB4 := Lib.hid hb4
    have HL := Lib.hid (leaf_any (pb := pb) 1 t.text 0 t.ln t.col w4)
    clear hb4
    go_wp2_with fail
    refine HL.out.mono ?_
    rintro e w5 ⟨v5, rfl, hr5, hb5⟩
    have HR5 := Lib.hid hr5
    have HB5 := Lib.hid hb5
    clear hr5 hb5
    go_wp2_with fail
    go_ret
    rw [HE.out]
    exact LtPost.leaf HR5.out (Nat.le_trans HK3.out.size HB4.out.size) HP3.out HK3.out (HB4.out.trans (HB5.out.mono HB4.out.size))
section
variable {d : Nat} {p : Pp}
theorem aexp_name (h : p.next.kind = 1) : aexp (d + 1) p = some (.leaf 1 p.next.text 0 p.next.ln p.next.col, p.take.2) := by rw [aexp]; dsimp only; rw [if_pos h]; rfl
theorem aexp_con (h1 : ¬ p.next.kind = 1) (h : p.next.kind = 2) : aexp (d + 1) p = some (.leaf 2 p.next.text 0 p.next.ln p.next.col, p.take.2) := by rw [aexp]; dsimp only; rw [if_neg h1, if_pos h]; rfl
theorem aexp_int (h1 : ¬ p.next.kind = 1) (h2 : ¬ p.next.kind = 2) (h : p.next.kind = 4) : aexp (d + 1) p = some (.leaf 3 [] p.number.1.n p.next.ln p.next.col, p.number.2) := by rw [aexp]; dsimp only; rw [if_neg h1, if_neg h2, if_pos h]; rfl
theorem aexp_no (h1 : ¬ p.next.kind = 1) (h2 : ¬ p.next.kind = 2) (h4 : ¬ p.next.kind = 4) (hm : (p.mark "(").1 = false) : aexp (d + 1) p = some (.none, (p.mark "(").2) := by
  rw [aexp]; dsimp only; rw [if_neg h1, if_neg h2, if_neg h4]; simp only [hm]; rfl
theorem aexp_sign (h1 : ¬ p.next.kind = 1) (h2 : ¬ p.next.kind = 2) (h4 : ¬ p.next.kind = 4) (hm : (p.mark "(").1 = true) (hk : (p.mark "(").2.next.kind = 3) : aexp (d + 1) p = some (signP (p.mark "(").2) := by
  rw [aexp]; dsimp only; rw [if_neg h1, if_neg h2, if_neg h4]; simp only [hm]; rw [if_pos trivial, if_pos hk]; unfold signP; split <;> rfl
theorem aexp_in (h1 : ¬ p.next.kind = 1) (h2 : ¬ p.next.kind = 2) (h4 : ¬ p.next.kind = 4) (hm : (p.mark "(").1 = true) (hk : ¬ (p.mark "(").2.next.kind = 3) : aexp (d + 1) p = (expr d (p.mark "(").2).bind fun r => some (r.1, (r.2.mark ")").2) := by
  rw [aexp]; dsimp only; rw [if_neg h1, if_neg h2, if_neg h4]; simp only [hm]; rw [if_pos trivial, if_neg hk]; rfl
end
set_option maxRecDepth 100000 in
set_option maxHeartbeats 4000000 in
theorem aexp_any {N pb d : Nat} {p : Pp} {fv : Value} {r : Lt × Pp} (w : World) (h : PS N w pb p fv) (hd : aexp (d + 1) p = some r)
    (ih : ∀ p r w, expr d p = some r → PS N w pb p fv → Calls Tryz.prog 77 #[.pointer (some ⟨pb, 0, none⟩)] w (LtPost N pb fv (.lt r.1) r.2 w)) :
    Calls Tryz.prog 151 #[.pointer (some ⟨pb, 0, none⟩)] w (LtPost N pb fv (.lt r.1) r.2 w) := by
  have HP := Lib.hid h
  have HN := Lib.hid (next_any w h)
  clear h
  by_cases k1 : p.next.kind = 1
  · have q1 : (p.next.kind == 1) = true := by simpa using k1
    have HE := Lib.hid (Option.some.inj ((aexp_name k1).symm.trans hd))
    have HF := Lib.hid (take_fst p)
    clear k1 hd ih
    go_enter Tryz.func151, Tryz.ntmps151
    go_wp2_with fail
    refine HN.out.mono ?_
    rintro e w1 ⟨rfl, hb1⟩
    have hB1 := hb1.alloc hb1.size (oTok p.next)
    have HY1 := Lib.hid (Box.new w1 #[.int .i64 p.next.kind, .string (toB p.next.text), .int .i64 p.next.n, .int .i64 p.next.ln, .int .i64 p.next.col, .bool p.next.made] TTok)
    have HP1 := Lib.hid (HP.out.below hB1)
    have HB1 := Lib.hid hB1
    have HNT := Lib.hid (show w1.heap.size ≠ pb by have := HP.out.lt; have := HP.out.size; have := hb1.size; omega)
    clear hb1 hB1

    have HT := Lib.hid (take_any (w1.alloc (oTok p.next)).drew (HP1.out.below (Below.drew (Below.refl _ _))))
    obtain ⟨u0, u1, u2, u3, u4, u5⟩ := cells6 HY1.out
    go_wp2_with fail
    go_region_held3 (fun w' => w'.cell? ⟨w1.heap.size, 3, none⟩ = some (.int .i64 p.next.ln) ∧ w'.cell? ⟨w1.heap.size, 4, none⟩ = some (.int .i64 p.next.col))
      (first
        | exact ⟨u3, u4⟩
        | exact ⟨m3, m4⟩
        | exact ⟨o3, o4⟩)
      (first
        | (go_at_call 84; refine HT.out.mono ?_; rintro e w2 ⟨rfl, hp2, hk2⟩; rw [HF.out]; unfold tokV; have hf := tok_text2 p.next; have hY2 := hk2.box HY1.out.drew HNT.out; obtain ⟨m0, m1, m2, m3, m4, m5⟩ := cells6 hY2; have HY2 := Lib.hid hY2; have HP2 := Lib.hid hp2; have HK2 := Lib.hid (((Kept.of_below HB1.out (Nat.le_refl _) (fun b => b = pb)).drew).trans hk2); have HL := Lib.hid (leaf_any (pb := pb) 1 p.next.text 0 p.next.ln p.next.col w2); clear hp2 hk2 hY2)
        | (go_at_call 158; refine HL.out.mono ?_; rintro e w3 ⟨v3, rfl, hr3, hb3⟩; have hY3 := HY2.out.below hb3 HY2.out.lt; obtain ⟨o0, o1, o2, o3, o4, o5⟩ := cells6 hY3; have HR3 := Lib.hid hr3; have HB3 := Lib.hid hb3; clear hr3 hb3 hY3))
    go_wp2_with fail
    go_ret
    rw [← HE.out]
    exact LtPost.leaf HR3.out HK2.out.size HP2.out HK2.out HB3.out
  · have q1 : (p.next.kind == 1) = false := by simpa using k1
    by_cases k2 : p.next.kind = 2
    · have q2 : (p.next.kind == 2) = true := by simpa using k2
      have HE := Lib.hid (Option.some.inj ((aexp_con k1 k2).symm.trans hd))
      have HF := Lib.hid (take_fst p)
      clear k1 k2 hd ih
      go_enter Tryz.func151, Tryz.ntmps151
      go_wp2_with fail
      refine HN.out.mono ?_
      rintro e w1 ⟨rfl, hb1⟩
      have hB1 := hb1.alloc hb1.size (oTok p.next)
      have HY1 := Lib.hid (Box.new w1 #[.int .i64 p.next.kind, .string (toB p.next.text), .int .i64 p.next.n, .int .i64 p.next.ln, .int .i64 p.next.col, .bool p.next.made] TTok)
      have HP1 := Lib.hid (HP.out.below hB1)
      have HB1 := Lib.hid hB1
      have HNT := Lib.hid (show w1.heap.size ≠ pb by have := HP.out.lt; have := HP.out.size; have := hb1.size; omega)
      clear hb1 hB1

      have HT := Lib.hid (take_any (w1.alloc (oTok p.next)).drew (HP1.out.below (Below.drew (Below.refl _ _))))
      obtain ⟨u0, u1, u2, u3, u4, u5⟩ := cells6 HY1.out
      go_wp2_with fail
      go_region_held3 (fun w' => w'.cell? ⟨w1.heap.size, 3, none⟩ = some (.int .i64 p.next.ln) ∧ w'.cell? ⟨w1.heap.size, 4, none⟩ = some (.int .i64 p.next.col))
        (first
          | exact ⟨u3, u4⟩
          | exact ⟨m3, m4⟩
          | exact ⟨o3, o4⟩)
        (first
          | (go_at_call 84; refine HT.out.mono ?_; rintro e w2 ⟨rfl, hp2, hk2⟩; rw [HF.out]; unfold tokV; have hf := tok_text2 p.next; have hY2 := hk2.box HY1.out.drew HNT.out; obtain ⟨m0, m1, m2, m3, m4, m5⟩ := cells6 hY2; have HY2 := Lib.hid hY2; have HP2 := Lib.hid hp2; have HK2 := Lib.hid (((Kept.of_below HB1.out (Nat.le_refl _) (fun b => b = pb)).drew).trans hk2); have HL := Lib.hid (leaf_any (pb := pb) 2 p.next.text 0 p.next.ln p.next.col w2); clear hp2 hk2 hY2)
          | (go_at_call 158; refine HL.out.mono ?_; rintro e w3 ⟨v3, rfl, hr3, hb3⟩; have hY3 := HY2.out.below hb3 HY2.out.lt; obtain ⟨o0, o1, o2, o3, o4, o5⟩ := cells6 hY3; have HR3 := Lib.hid hr3; have HB3 := Lib.hid hb3; clear hr3 hb3 hY3))
      go_wp2_with fail
      go_ret
      rw [← HE.out]
      exact LtPost.leaf HR3.out HK2.out.size HP2.out HK2.out HB3.out
    · have q2 : (p.next.kind == 2) = false := by simpa using k2
      by_cases k4 : p.next.kind = 4
      · have q4 : (p.next.kind == 4) = true := by simpa using k4
        have HE := Lib.hid (Option.some.inj ((aexp_int k1 k2 k4).symm.trans hd))
        clear k1 k2 k4 hd ih
        go_enter Tryz.func151, Tryz.ntmps151
        go_wp2_with fail
        refine HN.out.mono ?_
        rintro e w1 ⟨rfl, hb1⟩
        have hB1 := hb1.alloc hb1.size (oTok p.next)
        have HY1 := Lib.hid (Box.new w1 #[.int .i64 p.next.kind, .string (toB p.next.text), .int .i64 p.next.n, .int .i64 p.next.ln, .int .i64 p.next.col, .bool p.next.made] TTok)
        have HP1 := Lib.hid (HP.out.below hB1)
        have HB1 := Lib.hid hB1
        have HNT := Lib.hid (show w1.heap.size ≠ pb by have := HP.out.lt; have := HP.out.size; have := hb1.size; omega)
        clear hb1 hB1

        have HT := Lib.hid (number_any (w1.alloc (oTok p.next)).drew (HP1.out.below (Below.drew (Below.refl _ _))))
        obtain ⟨u0, u1, u2, u3, u4, u5⟩ := cells6 HY1.out
        go_wp2_with fail
        go_region_held3 (fun w' => w'.cell? ⟨w1.heap.size, 3, none⟩ = some (.int .i64 p.next.ln) ∧ w'.cell? ⟨w1.heap.size, 4, none⟩ = some (.int .i64 p.next.col))
          (first
            | exact ⟨u3, u4⟩
            | exact ⟨m3, m4⟩
            | exact ⟨o3, o4⟩)
          (first
            | (go_at_call 138; refine HT.out.mono ?_; rintro e w2 ⟨rfl, hp2, hk2⟩; unfold tokV; have hf := tok_n2 p.number.1; have hY2 := hk2.box HY1.out.drew HNT.out; obtain ⟨m0, m1, m2, m3, m4, m5⟩ := cells6 hY2; have HY2 := Lib.hid hY2; have HP2 := Lib.hid hp2; have HK2 := Lib.hid (((Kept.of_below HB1.out (Nat.le_refl _) (fun b => b = pb)).drew).trans hk2); have HL := Lib.hid (leaf_any (pb := pb) 3 [] p.number.1.n p.next.ln p.next.col w2); unfold exCells at HL; rw [toB_nil] at HL; clear hp2 hk2 hY2)
            | (go_at_call 158; refine HL.out.mono ?_; rintro e w3 ⟨v3, rfl, hr3, hb3⟩; have hY3 := HY2.out.below hb3 HY2.out.lt; obtain ⟨o0, o1, o2, o3, o4, o5⟩ := cells6 hY3; have HR3 := Lib.hid hr3; have HB3 := Lib.hid hb3; clear hr3 hb3 hY3))
        go_wp2_with fail
        go_ret
        rw [← HE.out]
        exact LtPost.leaf HR3.out HK2.out.size HP2.out HK2.out HB3.out
      · have q4 : (p.next.kind == 4) = false := by simpa using k4
        cases hm : (p.mark "(").1 with
        | false =>
          have HE := Lib.hid (Option.some.inj ((aexp_no k1 k2 k4 hm).symm.trans hd))
          have HM0 := Lib.hid hm
          clear k1 k2 k4 hd ih hm
          go_enter Tryz.func151, Tryz.ntmps151
          go_wp2_with fail
          refine HN.out.mono ?_
          rintro e w1 ⟨rfl, hb1⟩
          have hB1 := hb1.alloc hb1.size (oTok p.next)
          have HY1 := Lib.hid (Box.new w1 #[.int .i64 p.next.kind, .string (toB p.next.text), .int .i64 p.next.n, .int .i64 p.next.ln, .int .i64 p.next.col, .bool p.next.made] TTok)
          have HP1 := Lib.hid (HP.out.below hB1)
          have HB1 := Lib.hid hB1
          have HNT := Lib.hid (show w1.heap.size ≠ pb by have := HP.out.lt; have := HP.out.size; have := hb1.size; omega)
          clear hb1 hB1

          have HT := Lib.hid (mark_any "(" _ HP1.out)
          rw [lit_lp] at HT
          obtain ⟨u0, u1, u2, u3, u4, u5⟩ := cells6 HY1.out
          go_wp2_with fail
          refine HT.out.mono ?_
          rintro e w2 ⟨rfl, hp2, hk2⟩
          rw [HM0.out]
          have HP2 := Lib.hid hp2
          have HK2 := Lib.hid ((Kept.of_below HB1.out (Nat.le_refl _) (fun b => b = pb)).trans hk2)
          clear hp2 hk2

          go_wp2_with fail
          go_ret
          rw [← HE.out]
          exact ⟨Value.nilFunc, rfl, .none, HP2.out, HK2.out⟩
        | true =>
          have HM0 := Lib.hid hm
          by_cases hk3 : (p.mark "(").2.next.kind = 3
          · have HE := Lib.hid (Option.some.inj ((aexp_sign k1 k2 k4 hm hk3).symm.trans hd))
            have g3 : ((p.mark "(").2.next.kind == 3) = true := by simpa using hk3
            clear k1 k2 k4 hd ih hm hk3
            go_enter Tryz.func151, Tryz.ntmps151
            go_wp2_with fail
            refine HN.out.mono ?_
            rintro e w1 ⟨rfl, hb1⟩
            have hB1 := hb1.alloc hb1.size (oTok p.next)
            have HY1 := Lib.hid (Box.new w1 #[.int .i64 p.next.kind, .string (toB p.next.text), .int .i64 p.next.n, .int .i64 p.next.ln, .int .i64 p.next.col, .bool p.next.made] TTok)
            have HP1 := Lib.hid (HP.out.below hB1)
            have HB1 := Lib.hid hB1
            have HNT := Lib.hid (show w1.heap.size ≠ pb by have := HP.out.lt; have := HP.out.size; have := hb1.size; omega)
            clear hb1 hB1

            have HT := Lib.hid (mark_any "(" _ HP1.out)
            rw [lit_lp] at HT
            obtain ⟨u0, u1, u2, u3, u4, u5⟩ := cells6 HY1.out
            go_wp2_with fail
            refine HT.out.mono ?_
            rintro e w2 ⟨rfl, hp2, hk2⟩
            rw [HM0.out]
            have HP2 := Lib.hid hp2
            have HK2 := Lib.hid ((Kept.of_below HB1.out (Nat.le_refl _) (fun b => b = pb)).trans hk2)
            clear hp2 hk2

            have HN2 := Lib.hid (next_any w2 HP2.out)
            generalize hpp : (p.mark "(").2 = pp at *
            have hf := tok_kind pp.next
            go_wp2_with fail
            refine HN2.out.mono ?_
            rintro e w3 ⟨rfl, hb3⟩
            have HP3 := Lib.hid (HP2.out.below hb3)
            have HK3 := Lib.hid (KP.here HK2.out hb3)
            clear hb3

            have HSG := Lib.hid (sign_any w3 HP3.out)
            go_wp2_with fail
            refine HSG.out.mono ?_
            rintro e w4 ⟨v4, rfl, hr4, hp4, hk4⟩
            have HR4 := Lib.hid hr4
            have HP4 := Lib.hid hp4
            have HK4 := Lib.hid (HK3.out.trans hk4)
            clear hr4 hp4 hk4
            go_wp2_with fail
            go_ret
            rw [← HE.out]
            exact ⟨v4, rfl, HR4.out.mono fun b hz _ => Nat.le_trans HK3.out.size hz, HP4.out, HK4.out⟩
          · have hd' := (aexp_in k1 k2 k4 hm hk3).symm.trans hd
            obtain ⟨r1, hr1, hr2⟩ := Option.bind_eq_some_iff.1 hd'
            have HE := Lib.hid (Option.some.inj hr2)
            have HR1 := Lib.hid hr1
            have HIH := Lib.hid ih
            have g3 : ((p.mark "(").2.next.kind == 3) = false := by simpa using hk3
            clear k1 k2 k4 hd hd' hr1 hr2 ih hm hk3
            go_enter Tryz.func151, Tryz.ntmps151
            go_wp2_with fail
            refine HN.out.mono ?_
            rintro e w1 ⟨rfl, hb1⟩
            have hB1 := hb1.alloc hb1.size (oTok p.next)
            have HY1 := Lib.hid (Box.new w1 #[.int .i64 p.next.kind, .string (toB p.next.text), .int .i64 p.next.n, .int .i64 p.next.ln, .int .i64 p.next.col, .bool p.next.made] TTok)
            have HP1 := Lib.hid (HP.out.below hB1)
            have HB1 := Lib.hid hB1
            have HNT := Lib.hid (show w1.heap.size ≠ pb by have := HP.out.lt; have := HP.out.size; have := hb1.size; omega)
            clear hb1 hB1

            have HT := Lib.hid (mark_any "(" _ HP1.out)
            rw [lit_lp] at HT
            obtain ⟨u0, u1, u2, u3, u4, u5⟩ := cells6 HY1.out
            go_wp2_with fail
            refine HT.out.mono ?_
            rintro e w2 ⟨rfl, hp2, hk2⟩
            rw [HM0.out]
            have HP2 := Lib.hid hp2
            have HK2 := Lib.hid ((Kept.of_below HB1.out (Nat.le_refl _) (fun b => b = pb)).trans hk2)
            clear hp2 hk2

            have HN2 := Lib.hid (next_any w2 HP2.out)
            generalize hpp : (p.mark "(").2 = pp at *
            have hf := tok_kind pp.next
            go_wp2_with fail
            refine HN2.out.mono ?_
            rintro e w3 ⟨rfl, hb3⟩
            have HP3 := Lib.hid (HP2.out.below hb3)
            have HK3 := Lib.hid (KP.here HK2.out hb3)
            clear hb3

            have HX := Lib.hid (HIH.out pp r1 w3 HR1.out HP3.out)
            go_wp2_with fail
            refine HX.out.mono ?_
            rintro e w4 ⟨v4, rfl, hr4, hp4, hk4⟩
            have HR4 := Lib.hid hr4
            have HM4 := Lib.hid (mark_any ")" w4 hp4)
            rw [lit_rp] at HM4
            have HK4 := Lib.hid (HK3.out.trans hk4)
            have HS4 := Lib.hid (show w3.heap.size ≤ w4.heap.size from hk4.size)
            clear hr4 hp4 hk4
            go_wp2_with fail
            refine HM4.out.mono ?_
            rintro e w5 ⟨rfl, hp5, hk5⟩
            have HP5 := Lib.hid hp5
            have HR5 := Lib.hid (HR4.out.kept hk5 (fun b hz hx _ => by subst hx; have := HP.out.lt; have := HP.out.size; have := HK3.out.size; omega))
            have HK5 := Lib.hid (HK4.out.trans hk5)
            clear hp5 hk5
            go_wp2_with fail
            go_ret
            rw [← HE.out]
            exact ⟨v4, rfl, HR5.out.mono fun b hz _ => Nat.le_trans HK3.out.size hz, HP5.out, HK5.out⟩
end Go.Proofs.YtdajihpfedbihaaGreat.Pa
/-
  WORDS on layer parse: a row of what was read, while it grows. CONTRACT: what is applied.
-/
namespace Go.Proofs.YtdajihpfedbihaaGreat.Pa
open Go.RowKit Mm Tm Pm
set_option linter.unusedVariables false
set_option linter.unusedSimpArgs false
/-- the cells of the i-th element -/
def elC (vs : List Value) (k i : Nat) : List Value := (vs.drop (i * k)).take k
/-- a row of the call's own, in a variable, of what was read -/
structure Ls {α : Type} (f : α → Item) (TB TE : TypeId) (k pb B : Nat) (w : World) (bs : Nat) (sv : Value) (l : List α) (vs : List Value) : Prop where
  box : Box w bs TB #[sv]
  own : w.ownsRow B TE k sv l.length vs
  el : ∀ i t, l[i]? = some t → R pb (fun b => B ≤ b ∧ b ≠ bs ∧ sv.ownBlock ≠ some b) w (f t) (elC vs k i)
  hbs : B ≤ bs
  nob : sv.ownBlock ≠ some bs
section
variable {α : Type} {f : α → Item} {TB TE : TypeId} {k pb B : Nat} {w w' : World} {bs : Nat} {sv : Value} {l : List α} {vs : List Value}
theorem Ls.kept (h : Ls f TB TE k pb B w bs sv l vs) {X : Nat → Prop} (hk : Kept X w w') (hX : ∀ b, X b → b < w.heap.size → B ≤ b → False) : Ls f TB TE k pb B w' bs sv l vs := by
  refine ⟨hk.box h.box fun x => hX _ x h.box.lt h.hbs, ⟨h.own.1, ?_⟩, fun i t ht => (h.el i t ht).kept hk fun b hz hx hl => hX b hx hl hz.1, h.hbs, h.nob⟩
  rcases h.own.2 with q | ⟨g, cap, cur, rfl, hg, hh, r⟩
  · exact .inl q
  · exact .inr ⟨g, cap, cur, rfl, hg, (hk.block g (lt_of_block hh) fun x => hX g x (lt_of_block hh) hg).trans hh, r⟩
theorem Ls.below (h : Ls f TB TE k pb B w bs sv l vs) (hb : Below w.heap.size w w') : Ls f TB TE k pb B w' bs sv l vs := h.kept (X := fun _ => False) (Kept.of_below hb (Nat.le_refl _) _) fun b q => q.elim
theorem Ls.kp (h : Ls f TB TE k pb B w bs sv l vs) (hk : KP pb w w') (hp : pb < B) : Ls f TB TE k pb B w' bs sv l vs := h.kept hk fun b e _ hB => by have e : b = pb := e; omega
theorem Ls.slice (h : Ls f TB TE k pb B w bs sv l vs) : ∃ a c, sv = .slice a l.length c := own_slice h.own
theorem elC_old {vs new : List Value} {k i n : Nat} (hl : vs.length = n * k) (hi : i < n) : elC (vs ++ new) k i = elC vs k i := by
  have h1 : i * k + k ≤ n * k := by rw [← Nat.succ_mul]; exact Nat.mul_le_mul_right k hi
  unfold elC
  rw [List.drop_append_of_le_length (by omega), List.take_append_of_le_length (by rw [List.length_drop]; omega)]
theorem elC_new {vs new : List Value} {k n : Nat} (hl : vs.length = n * k) (hn : new.length = k) : elC (vs ++ new) k n = new := by
  unfold elC
  rw [← hl, List.drop_left, ← hn, List.take_length]
/-- one more -/
theorem Ls.more (h : Ls f TB TE k pb B w bs sv l vs) {t : α} {new : List Value} {S : Nat} {w7 : World} {v7 : Value} {o : Obj} (hn : new.length = k) (hr : R pb (fun b => S ≤ b) w (f t) new) (hS1 : bs < S) (hS2 : ∀ g, sv.ownBlock = some g → g < S) (hS3 : B ≤ S) (hT : TE ≠ TB)
    (hown : w7.ownsRow B TE k v7 (l.length + 1) (vs ++ new)) (hg : (w.alloc o).grownBy w7 sv.ownBlock) (hat : v7.ownBlock = sv.ownBlock ∨ v7.ownBlock = some (w.alloc o).heap.size) :
    Ls f TB TE k pb B (w7.setCell ⟨bs, 0, none⟩ v7) bs v7 (l ++ [t]) (vs ++ new) := by
  have hsz : (w.alloc o).heap.size = w.heap.size + 1 := by simp
  have hb7 : Box w7 bs TB #[sv] := (h.box.alloc o).grown hg (fun e => h.nob e.symm)
  have hnb : v7.ownBlock ≠ some bs := by
    rcases hat with q | q
    · rw [q]; exact h.nob
    · rw [q, hsz]; intro e; injection e with e; have := h.box.lt; omega
  have fr : ∀ {it : Item} {us : List Value} {Z : Nat → Prop}, R pb Z w it us → (∀ b, Z b → b < w.heap.size → B ≤ b ∧ b ≠ bs ∧ sv.ownBlock ≠ some b) → R pb (fun b => B ≤ b ∧ b ≠ bs ∧ v7.ownBlock ≠ some b) (w7.setCell ⟨bs, 0, none⟩ v7) it us := by
    intro it us Z hR hZ
    refine hR.frame ?_ (fun b hz hl => ?_) fun b hz hl => ?_
    · rw [World.size_setCell]; have := hg.size; omega
    · obtain ⟨q1, q2, q3⟩ := hZ b hz hl
      rw [Below.heap_setCell w7 ⟨bs, 0, none⟩ v7 b q2, hg.block b (by omega) (fun e => q3 e.symm), Below.heap_alloc w o b hl]
    · obtain ⟨q1, q2, q3⟩ := hZ b hz hl
      refine ⟨q1, q2, ?_⟩
      rcases hat with q | q
      · rw [q]; exact q3
      · rw [q, hsz]; intro e; injection e with e; omega
  refine ⟨hb7.put 0 v7, ?_, fun i u hu => ?_, h.hbs, hnb⟩
  · rw [List.length_append, List.length_singleton]
    exact own_far hown hb7 hT 0 v7
  · by_cases hi : i < l.length
    · rw [List.getElem?_append_left hi] at hu
      rw [elC_old h.own.1 hi]
      exact fr (h.el i u hu) fun b hz _ => hz
    · have hil : i = l.length := by
        have := (List.getElem?_eq_some_iff.1 hu).1
        rw [List.length_append, List.length_singleton] at this
        omega
      subst hil
      simp at hu
      subst hu
      rw [elC_new h.own.1 hn]
      refine fr hr fun b hz _ => ⟨Nat.le_trans hS3 hz, by have : S ≤ b := hz; omega, fun e => ?_⟩
      have := hS2 b e
      have : S ≤ b := hz
      omega
/-- the row as it is read -/
theorem Ls.rowz (h : Ls f TB TE k pb B w bs sv l vs) (hk : 0 < k) : RowZ (fun b => B ≤ b) w sv l.length k (elC vs k) := by
  obtain ⟨a, c, rfl⟩ := h.slice
  by_cases h0 : l.length = 0
  · exact ⟨a, c, rfl, by omega, fun i hi => by omega⟩
  · obtain ⟨g, rfl, h1, h2, h3, h4⟩ := own_at h.own (by omega)
    refine ⟨_, c, rfl, h3, fun i hi => ⟨g, rfl, h1, h2, fun j u hu => ?_⟩⟩
    have hj : j < k := by
      have := (List.getElem?_eq_some_iff.1 hu).1
      unfold elC at this
      rw [List.length_take] at this
      omega
    have hle : i * k + k ≤ l.length * k := by rw [← Nat.succ_mul]; exact Nat.mul_le_mul_right k hi
    rw [h4 _ (by omega)]
    unfold elC at hu
    rw [List.getElem?_take_of_lt hj, List.getElem?_drop] at hu
    exact hu
theorem Ls.elr (h : Ls f TB TE k pb B w bs sv l vs) {i : Nat} {t : α} (ht : l[i]? = some t) : R pb (fun b => B ≤ b) w (f t) (elC vs k i) := (h.el i t ht).mono fun b hz _ => hz.1
end
theorem Tfe : (Tryz.prog.info? 149).map (fun i => (i.zero, i.size, i.bytes)) = some (some Value.nilFunc, 1, 8) := by kernel_rfl
theorem elC_one (v : Value) : elC [v] 1 0 = [v] := rfl
abbrev TFEs : TypeId := 169
/-- a row of one function, made at once -/
theorem Ls.first {pb B : Nat} {w : World} {t : Lt} {v : Value} (hr : R pb (fun b => B ≤ b) w (.lt t) [v]) (hB : B ≤ w.heap.size) :
    Ls Item.lt TFEs TFE 1 pb B ((w.alloc (.cells #[v] TFE)).alloc (.cells #[.slice (some ⟨w.heap.size, 0, none⟩) 1 1] TFEs)) (w.heap.size + 1) (.slice (some ⟨w.heap.size, 0, none⟩) 1 1) [t] [v] := by
  have hb0 : Box ((w.alloc (.cells #[v] TFE)).alloc (.cells #[.slice (some ⟨w.heap.size, 0, none⟩) 1 1] TFEs)) w.heap.size TFE #[v] := (Box.new w #[v] TFE).alloc _
  refine ⟨Box.at_ _ _ (by simp), ⟨rfl, .inr ⟨w.heap.size, 1, #[v], rfl, hB, hb0, by simp, by decide, by simp, rfl⟩⟩, fun i u hu => ?_, by omega, by simp [Value.ownBlock]⟩
  cases i with
  | succ i => simp at hu
  | zero =>
    simp at hu
    subst hu
    rw [elC_one]
    refine hr.frame (by simp; omega) (fun b hz hl => ?_) fun b hz hl => ⟨hz, by omega, by simp [Value.ownBlock]; omega⟩
    rw [Below.heap_alloc _ _ b (by simp; omega), Below.heap_alloc _ _ b hl]
end Go.Proofs.YtdajihpfedbihaaGreat.Pa
/-
  CONTRACT of layer parse: a function and its arguments are read.
-/
namespace Go.Proofs.YtdajihpfedbihaaGreat.Pa
open Go.RowKit Mm Tm Pm
set_option linter.unusedVariables false
set_option linter.unusedSimpArgs false
theorem R.one_lt {pb : Nat} {Z : Nat → Prop} {w : World} {t : Lt} {vs : List Value} (h : R pb Z w (.lt t) vs) : ∃ v, vs = [v] ∧ v.oneCell' = true := by cases h <;> exact ⟨_, rfl, rfl⟩
theorem R.one1 {pb : Nat} {Z : Nat → Prop} {w : World} {t : Lt} {v : Value} (h : R pb Z w (.lt t) [v]) : v.oneCell' = true := by
  obtain ⟨u, h1, h2⟩ := h.one_lt
  injection h1 with h1
  rw [h1]
  exact h2
theorem one_not {v : Value} (h : v.oneCell' = true) : ∀ cs, v = .agg cs → False := by
  rintro cs rfl
  cases h
theorem aexps_yes {d : Nat} {p : Pp} (h : beginsAexp p.next = true) {l : List Lt} {q : Pp} (hd : aexps (d + 1) p = some (l, q)) : ∃ t p1 l2, aexp d p = some (t, p1) ∧ aexps d p1 = some (l2, q) ∧ l = t :: l2 := by
  rw [aexps, if_pos h] at hd
  obtain ⟨⟨t1, p1⟩, h1, h2⟩ := Option.bind_eq_some_iff.1 hd
  dsimp only at h2
  obtain ⟨⟨t2, p2⟩, h3, h4⟩ := Option.bind_eq_some_iff.1 h2
  simp only [pure, Option.some.injEq, Prod.mk.injEq] at h4
  exact ⟨t1, p1, t2, h1, by rw [h3, h4.2], h4.1.symm⟩
theorem aexps_no {d : Nat} {p : Pp} (h : beginsAexp p.next = false) {l : List Lt} {q : Pp} (hd : aexps (d + 1) p = some (l, q)) : l = [] ∧ q = p := by
  rw [aexps, if_neg (by rw [h]; simp)] at hd
  simp only [pure, Option.some.injEq, Prod.mk.injEq] at hd
  exact ⟨hd.1.symm, hd.2.symm⟩
structure AxL (N pb : Nat) (fv : Value) (L : List Lt) (q : Pp) (w : World) (bs n d : Nat) (wr : World) (l1 l2 : List Lt) (pk : Pp) (sv : Value) (vs : List Value) : Prop where
  run : aexps d pk = some (l2, q)
  eq : L = l1 ++ l2
  ls : Ls Item.lt TFEs TFE 1 pb w.heap.size wr bs sv l1 vs
  ps : PS N wr pb pk fv
  kp : KP pb w wr
  le : d ≤ n
  len : l1.length + pk.rest.length ≤ 100000001
theorem AxL.succ {N pb : Nat} {fv : Value} {L : List Lt} {q : Pp} {w : World} {bs n d : Nat} {wr : World} {l1 l2 : List Lt} {pk : Pp} {sv : Value} {vs : List Value} (h : AxL N pb fv L q w bs n d wr l1 l2 pk sv vs) : ∃ d0, d = d0 + 1 := by
  cases d with
  | zero => have := h.run; simp [aexps] at this
  | succ d => exact ⟨d, rfl⟩
theorem own_some {g n c : Nat} : (Value.slice (some ⟨g, 0, none⟩) n c).ownBlock = some g := rfl
set_option maxRecDepth 100000 in
set_option maxHeartbeats 8000000 in
theorem apply_any {N pb d : Nat} {p p1 p2 : Pp} {fv : Value} {a : Lt} {l : List Lt} (w : World) (h : PS N w pb p fv) (h1 : aexp d p = some (a, p1)) (h2 : aexps d p1 = some (l, p2))
    (ih : ∀ d', d' ≤ d → ∀ p r w, aexp d' p = some r → PS N w pb p fv → Calls Tryz.prog 151 #[.pointer (some ⟨pb, 0, none⟩)] w (LtPost N pb fv (.lt r.1) r.2 w)) :
    Calls Tryz.prog 130 #[.pointer (some ⟨pb, 0, none⟩)] w (LtPost N pb fv (.lt (.app (a :: l))) p2 w) := by
  obtain ⟨i0, hi0, hi1, hi2, hi3⟩ := info_parts Tfe
  have HP := Lib.hid h
  have HIH := Lib.hid ih
  have HA0 := Lib.hid (ih d (Nat.le_refl _) p (a, p1) w h1 h)
  have H2 := Lib.hid h2
  have HPW := Lib.hid (show pb < w.heap.size from Nat.lt_of_lt_of_le h.lt h.size)
  clear h ih h1 h2
  go_enter Tryz.func130, Tryz.ntmps130
  go_wp2_with fail
  go_step3
  go_wp2_with fail
  refine HA0.out.mono ?_
  rintro e w1 ⟨v1, rfl, hr1, hp1, hk1⟩
  have hb1 : Below w1.heap.size w1 ((w1.alloc (.cells #[v1] TFE)).alloc (.cells #[.slice (some ⟨w1.heap.size, 0, none⟩) 1 1] TFEs)) := ((Below.refl w1.heap.size w1).alloc (Nat.le_refl _) _).alloc (by simp) _
  have HST := Lib.hid (AxL.mk (fv := fv) (n := d) (w := w) (L := a :: l) (l1 := [a]) (l2 := l) (q := p2) H2.out rfl (Ls.first hr1 hk1.size) (hp1.below hb1) (KP.here hk1 hb1) (Nat.le_refl _) (by have := hp1.len; simp; omega))
  have HSZ := Lib.hid hk1.size
  have hna := one_not hr1.one1
  clear hr1 hp1 hk1 hb1
  go_wp2_with fail
  go_step3
  go_wp2_with fail
  go_loopg [10] d (fun d' v wr => ∃ l1 l2 pk sv vs, AxL N pb fv (a :: l) p2 w (w1.heap.size + 1) d d' wr l1 l2 pk sv vs)
  case atStart => exact ⟨_, _, _, _, _, HST.out⟩
  case round =>
    obtain ⟨l1, l2, pk, sv, vs, hI⟩ := hrel
    obtain ⟨d0, rfl⟩ := hI.succ
    obtain ⟨a5, c5, rfl⟩ := hI.ls.slice
    have HI := Lib.hid hI
    have HN := Lib.hid (next_any wr hI.ps)
    clear hI
    by_cases k1 : pk.next.kind = 1
    · have q1 : (pk.next.kind == 1) = true := by simpa using k1
      have HBG := Lib.hid (show beginsAexp pk.next = true by unfold beginsAexp; simp [k1])
      obtain ⟨x, q1, l2', hr1, hr2, hr3⟩ := aexps_yes HBG.out HI.out.run
      have HR := Lib.hid (And.intro hr1 (And.intro hr2 hr3))
      clear hr1 hr2 hr3 k1

      go_wp2_with fail
      refine HN.out.mono ?_
      rintro e w2 ⟨rfl, hb2⟩
      have HBc := Lib.hid (hb2.alloc hb2.size (oTok pk.next))
      clear hb2

      have HA := Lib.hid (HIH.out _ (by have := HI.out.le; omega) pk (x, q1) (w2.alloc (oTok pk.next)).drew HR.out.1 ((HI.out.ps.below HBc.out).below (Below.drew (Below.refl _ _))))
      have HLb := Lib.hid ((HI.out.ls.below HBc.out).below (Below.drew (Below.refl _ _)))
      have u0 := HLb.out.box.cell 0
      have hlen5 := HI.out.len
      have hqs := HBc.out.size
      have hks := HI.out.kp.size
      go_wp2_with fail
      go_region_law (first
        | (go_simp; go_at_call 151; refine HA.out.mono ?_; rintro e w5 ⟨v5, rfl, hr5, hp5, hk5⟩; have HL5 := Lib.hid (HLb.out.kp hk5 HPW.out); have HR5 := Lib.hid hr5; have hna5 := one_not hr5.one1; have HP5 := Lib.hid hp5; have HK5 := Lib.hid (((Kept.of_below HBc.out (Nat.le_refl _) (fun b => b = pb)).drew).trans hk5); have HS5 := Lib.hid (show (w2.alloc (oTok pk.next)).heap.size ≤ w5.heap.size from hk5.size); have m0 := HL5.out.box.cell 0; have y8 := HL5.out.box.lt; have y9 := (HL5.out.box.alloc (.cells #[v5] TFE)).cell 0; clear hr5 hp5 hk5)
        | (refine step_append_lies _ ?_ (.tmp 23) (.tmp 26) TFEs ?_ w.heap.size TFE i0 _ 1 8 Tryz.underlying169 hi0 hi1 hi2 hi3 rfl (by decide) (.slice a5 l1.length c5) l1.length vs ?_ (HL5.out.own.alloc _) ⟨w5.heap.size, 0, none⟩ 1 1 [v5] ?_ rfl ?_ ?_ (by decide) ?_ ?_ ?_ _ rfl ?_; exact rfl; exact rfl; exact rfl; exact rfl; exact news_new w5 #[v5] TFE; (intro u hu; simp only [List.mem_cons, List.not_mem_nil, or_false] at hu; subst hu; exact HR5.out.one1); (unfold maxLen; omega); omega; (have := HS5.out; simp; omega); intro g7 c7 w7 hown hgrow hat hlt7; have HM7 := Lib.hid (HL5.out.more (t := x) (v7 := .slice (some ⟨g7, 0, none⟩) (l1.length + 1) c7) (new := [v5]) (S := (w2.alloc (oTok pk.next)).heap.size) rfl HR5.out (Nat.lt_of_lt_of_le HI.out.ls.box.lt hqs) (fun g e => Nat.lt_of_lt_of_le (HI.out.ls.own.lt g e).2 hqs) (Nat.le_trans hks hqs) (by decide) hown hgrow (hat.imp (fun e => by rw [own_some]; exact e.symm) (fun e => by rw [own_some, e]))); have hb7 := (HL5.out.box.alloc (.cells #[v5] TFE)).grown hgrow (fun e => HL5.out.nob e.symm); have p0 := hb7.cell 0; have p1 := hb7.free 0; have HK7 := Lib.hid (((Kept.refl (fun b => (Value.slice a5 l1.length c5).ownBlock = some b ∨ b = w1.heap.size + 1) w5).alloc (.cells #[v5] TFE)).grown hgrow (fun k hk _ => .inl hk)); clear hb7 hown hgrow hat))
      all_goals
        go_wp2_with fail
        go_roundg d0
        case measure => omega
        case rel =>
          have hlt := aexp_less HBG.out HR.out.1
          have hk8 := HK7.out.setCell (a := ⟨w1.heap.size + 1, 0, none⟩) (fun _ => .inr rfl) (.slice (some ⟨g7, 0, none⟩) (l1.length + 1) c7)
          have hz := HSZ.out
          exact ⟨l1 ++ [x], l2', q1, _, _, HR.out.2.1, by rw [HI.out.eq, HR.out.2.2, List.append_assoc]; rfl, HM7.out, HP5.out.frame hk8 (fun b e => e.elim (fun e => Nat.le_trans HP.out.size (HI.out.ls.own.lt b e).1) (fun e => by have := HP.out.size; omega)), kept_new (HI.out.kp.trans HK5.out) hk8 (fun b e q => e.elim (fun e => by have := (HI.out.ls.own.lt b e).1; omega) (fun e => by omega)), by have := HI.out.le; omega, by rw [List.length_append, List.length_singleton]; omega⟩
    · have q1 : (pk.next.kind == 1) = false := by simpa using k1
      by_cases k2 : pk.next.kind = 2
      · have q2 : (pk.next.kind == 2) = true := by simpa using k2
        have HBG := Lib.hid (show beginsAexp pk.next = true by unfold beginsAexp; simp [k2])
        obtain ⟨x, q1, l2', hr1, hr2, hr3⟩ := aexps_yes HBG.out HI.out.run
        have HR := Lib.hid (And.intro hr1 (And.intro hr2 hr3))
        clear hr1 hr2 hr3 k1 k2

        go_wp2_with fail
        refine HN.out.mono ?_
        rintro e w2 ⟨rfl, hb2⟩
        have HBc := Lib.hid (hb2.alloc hb2.size (oTok pk.next))
        clear hb2

        have HA := Lib.hid (HIH.out _ (by have := HI.out.le; omega) pk (x, q1) (w2.alloc (oTok pk.next)).drew HR.out.1 ((HI.out.ps.below HBc.out).below (Below.drew (Below.refl _ _))))
        have HLb := Lib.hid ((HI.out.ls.below HBc.out).below (Below.drew (Below.refl _ _)))
        have u0 := HLb.out.box.cell 0
        have hlen5 := HI.out.len
        have hqs := HBc.out.size
        have hks := HI.out.kp.size
        go_wp2_with fail
        go_region_law (first
          | (go_simp; go_at_call 151; refine HA.out.mono ?_; rintro e w5 ⟨v5, rfl, hr5, hp5, hk5⟩; have HL5 := Lib.hid (HLb.out.kp hk5 HPW.out); have HR5 := Lib.hid hr5; have hna5 := one_not hr5.one1; have HP5 := Lib.hid hp5; have HK5 := Lib.hid (((Kept.of_below HBc.out (Nat.le_refl _) (fun b => b = pb)).drew).trans hk5); have HS5 := Lib.hid (show (w2.alloc (oTok pk.next)).heap.size ≤ w5.heap.size from hk5.size); have m0 := HL5.out.box.cell 0; have y8 := HL5.out.box.lt; have y9 := (HL5.out.box.alloc (.cells #[v5] TFE)).cell 0; clear hr5 hp5 hk5)
          | (refine step_append_lies _ ?_ (.tmp 23) (.tmp 26) TFEs ?_ w.heap.size TFE i0 _ 1 8 Tryz.underlying169 hi0 hi1 hi2 hi3 rfl (by decide) (.slice a5 l1.length c5) l1.length vs ?_ (HL5.out.own.alloc _) ⟨w5.heap.size, 0, none⟩ 1 1 [v5] ?_ rfl ?_ ?_ (by decide) ?_ ?_ ?_ _ rfl ?_; exact rfl; exact rfl; exact rfl; exact rfl; exact news_new w5 #[v5] TFE; (intro u hu; simp only [List.mem_cons, List.not_mem_nil, or_false] at hu; subst hu; exact HR5.out.one1); (unfold maxLen; omega); omega; (have := HS5.out; simp; omega); intro g7 c7 w7 hown hgrow hat hlt7; have HM7 := Lib.hid (HL5.out.more (t := x) (v7 := .slice (some ⟨g7, 0, none⟩) (l1.length + 1) c7) (new := [v5]) (S := (w2.alloc (oTok pk.next)).heap.size) rfl HR5.out (Nat.lt_of_lt_of_le HI.out.ls.box.lt hqs) (fun g e => Nat.lt_of_lt_of_le (HI.out.ls.own.lt g e).2 hqs) (Nat.le_trans hks hqs) (by decide) hown hgrow (hat.imp (fun e => by rw [own_some]; exact e.symm) (fun e => by rw [own_some, e]))); have hb7 := (HL5.out.box.alloc (.cells #[v5] TFE)).grown hgrow (fun e => HL5.out.nob e.symm); have p0 := hb7.cell 0; have p1 := hb7.free 0; have HK7 := Lib.hid (((Kept.refl (fun b => (Value.slice a5 l1.length c5).ownBlock = some b ∨ b = w1.heap.size + 1) w5).alloc (.cells #[v5] TFE)).grown hgrow (fun k hk _ => .inl hk)); clear hb7 hown hgrow hat))
        all_goals
          go_wp2_with fail
          go_roundg d0
          case measure => omega
          case rel =>
            have hlt := aexp_less HBG.out HR.out.1
            have hk8 := HK7.out.setCell (a := ⟨w1.heap.size + 1, 0, none⟩) (fun _ => .inr rfl) (.slice (some ⟨g7, 0, none⟩) (l1.length + 1) c7)
            have hz := HSZ.out
            exact ⟨l1 ++ [x], l2', q1, _, _, HR.out.2.1, by rw [HI.out.eq, HR.out.2.2, List.append_assoc]; rfl, HM7.out, HP5.out.frame hk8 (fun b e => e.elim (fun e => Nat.le_trans HP.out.size (HI.out.ls.own.lt b e).1) (fun e => by have := HP.out.size; omega)), kept_new (HI.out.kp.trans HK5.out) hk8 (fun b e q => e.elim (fun e => by have := (HI.out.ls.own.lt b e).1; omega) (fun e => by omega)), by have := HI.out.le; omega, by rw [List.length_append, List.length_singleton]; omega⟩
      · have q2 : (pk.next.kind == 2) = false := by simpa using k2
        by_cases k4 : pk.next.kind = 4
        · have q4 : (pk.next.kind == 4) = true := by simpa using k4
          have HBG := Lib.hid (show beginsAexp pk.next = true by unfold beginsAexp; simp [k4])
          obtain ⟨x, q1, l2', hr1, hr2, hr3⟩ := aexps_yes HBG.out HI.out.run
          have HR := Lib.hid (And.intro hr1 (And.intro hr2 hr3))
          clear hr1 hr2 hr3 k1 k2 k4

          go_wp2_with fail
          refine HN.out.mono ?_
          rintro e w2 ⟨rfl, hb2⟩
          have HBc := Lib.hid (hb2.alloc hb2.size (oTok pk.next))
          clear hb2

          have HA := Lib.hid (HIH.out _ (by have := HI.out.le; omega) pk (x, q1) (w2.alloc (oTok pk.next)).drew HR.out.1 ((HI.out.ps.below HBc.out).below (Below.drew (Below.refl _ _))))
          have HLb := Lib.hid ((HI.out.ls.below HBc.out).below (Below.drew (Below.refl _ _)))
          have u0 := HLb.out.box.cell 0
          have hlen5 := HI.out.len
          have hqs := HBc.out.size
          have hks := HI.out.kp.size
          go_wp2_with fail
          go_region_law (first
            | (go_simp; go_at_call 151; refine HA.out.mono ?_; rintro e w5 ⟨v5, rfl, hr5, hp5, hk5⟩; have HL5 := Lib.hid (HLb.out.kp hk5 HPW.out); have HR5 := Lib.hid hr5; have hna5 := one_not hr5.one1; have HP5 := Lib.hid hp5; have HK5 := Lib.hid (((Kept.of_below HBc.out (Nat.le_refl _) (fun b => b = pb)).drew).trans hk5); have HS5 := Lib.hid (show (w2.alloc (oTok pk.next)).heap.size ≤ w5.heap.size from hk5.size); have m0 := HL5.out.box.cell 0; have y8 := HL5.out.box.lt; have y9 := (HL5.out.box.alloc (.cells #[v5] TFE)).cell 0; clear hr5 hp5 hk5)
            | (refine step_append_lies _ ?_ (.tmp 23) (.tmp 26) TFEs ?_ w.heap.size TFE i0 _ 1 8 Tryz.underlying169 hi0 hi1 hi2 hi3 rfl (by decide) (.slice a5 l1.length c5) l1.length vs ?_ (HL5.out.own.alloc _) ⟨w5.heap.size, 0, none⟩ 1 1 [v5] ?_ rfl ?_ ?_ (by decide) ?_ ?_ ?_ _ rfl ?_; exact rfl; exact rfl; exact rfl; exact rfl; exact news_new w5 #[v5] TFE; (intro u hu; simp only [List.mem_cons, List.not_mem_nil, or_false] at hu; subst hu; exact HR5.out.one1); (unfold maxLen; omega); omega; (have := HS5.out; simp; omega); intro g7 c7 w7 hown hgrow hat hlt7; have HM7 := Lib.hid (HL5.out.more (t := x) (v7 := .slice (some ⟨g7, 0, none⟩) (l1.length + 1) c7) (new := [v5]) (S := (w2.alloc (oTok pk.next)).heap.size) rfl HR5.out (Nat.lt_of_lt_of_le HI.out.ls.box.lt hqs) (fun g e => Nat.lt_of_lt_of_le (HI.out.ls.own.lt g e).2 hqs) (Nat.le_trans hks hqs) (by decide) hown hgrow (hat.imp (fun e => by rw [own_some]; exact e.symm) (fun e => by rw [own_some, e]))); have hb7 := (HL5.out.box.alloc (.cells #[v5] TFE)).grown hgrow (fun e => HL5.out.nob e.symm); have p0 := hb7.cell 0; have p1 := hb7.free 0; have HK7 := Lib.hid (((Kept.refl (fun b => (Value.slice a5 l1.length c5).ownBlock = some b ∨ b = w1.heap.size + 1) w5).alloc (.cells #[v5] TFE)).grown hgrow (fun k hk _ => .inl hk)); clear hb7 hown hgrow hat))
          all_goals
            go_wp2_with fail
            go_roundg d0
            case measure => omega
            case rel =>
              have hlt := aexp_less HBG.out HR.out.1
              have hk8 := HK7.out.setCell (a := ⟨w1.heap.size + 1, 0, none⟩) (fun _ => .inr rfl) (.slice (some ⟨g7, 0, none⟩) (l1.length + 1) c7)
              have hz := HSZ.out
              exact ⟨l1 ++ [x], l2', q1, _, _, HR.out.2.1, by rw [HI.out.eq, HR.out.2.2, List.append_assoc]; rfl, HM7.out, HP5.out.frame hk8 (fun b e => e.elim (fun e => Nat.le_trans HP.out.size (HI.out.ls.own.lt b e).1) (fun e => by have := HP.out.size; omega)), kept_new (HI.out.kp.trans HK5.out) hk8 (fun b e q => e.elim (fun e => by have := (HI.out.ls.own.lt b e).1; omega) (fun e => by omega)), by have := HI.out.le; omega, by rw [List.length_append, List.length_singleton]; omega⟩
        · have q4 : (pk.next.kind == 4) = false := by simpa using k4
          cases hm : isMark pk.next "(" with
          | true =>
            have HM := Lib.hid hm
            have HBG := Lib.hid (show beginsAexp pk.next = true by unfold beginsAexp; rw [hm]; simp)
            obtain ⟨x, q1, l2', hr1, hr2, hr3⟩ := aexps_yes HBG.out HI.out.run
            have HR := Lib.hid (And.intro hr1 (And.intro hr2 hr3))
            clear hr1 hr2 hr3 k1 k2 k4 hm

            go_wp2_with fail
            refine HN.out.mono ?_
            rintro e w2 ⟨rfl, hb2⟩
            have HBc := Lib.hid (hb2.alloc hb2.size (oTok pk.next))
            clear hb2

            have HMk := Lib.hid (mark_at pk.next "(" (w2.alloc (oTok pk.next)))
            unfold oStr at HMk
            rw [lit_lp, World.size_alloc, HM.out] at HMk
            have HBd := Lib.hid (HBc.out.alloc (HBc.out.size) (.cells #[.string ⟨#[40]⟩] TStr))
            go_wp2_with fail
            refine HMk.out.mono ?_
            rintro e w3 ⟨rfl, hb3⟩
            have HBe := Lib.hid (HBd.out.trans (hb3.mono HBd.out.size))
            clear hb3

            have HA := Lib.hid (HIH.out _ (by have := HI.out.le; omega) pk (x, q1) (w3).drew HR.out.1 ((HI.out.ps.below HBe.out).below (Below.drew (Below.refl _ _))))
            have HLb := Lib.hid ((HI.out.ls.below HBe.out).below (Below.drew (Below.refl _ _)))
            have u0 := HLb.out.box.cell 0
            have hlen5 := HI.out.len
            have hqs := HBe.out.size
            have hks := HI.out.kp.size
            go_wp2_with fail
            go_region_law (first
              | (go_simp; go_at_call 151; refine HA.out.mono ?_; rintro e w5 ⟨v5, rfl, hr5, hp5, hk5⟩; have HL5 := Lib.hid (HLb.out.kp hk5 HPW.out); have HR5 := Lib.hid hr5; have hna5 := one_not hr5.one1; have HP5 := Lib.hid hp5; have HK5 := Lib.hid (((Kept.of_below HBe.out (Nat.le_refl _) (fun b => b = pb)).drew).trans hk5); have HS5 := Lib.hid (show (w3).heap.size ≤ w5.heap.size from hk5.size); have m0 := HL5.out.box.cell 0; have y8 := HL5.out.box.lt; have y9 := (HL5.out.box.alloc (.cells #[v5] TFE)).cell 0; clear hr5 hp5 hk5)
              | (refine step_append_lies _ ?_ (.tmp 23) (.tmp 26) TFEs ?_ w.heap.size TFE i0 _ 1 8 Tryz.underlying169 hi0 hi1 hi2 hi3 rfl (by decide) (.slice a5 l1.length c5) l1.length vs ?_ (HL5.out.own.alloc _) ⟨w5.heap.size, 0, none⟩ 1 1 [v5] ?_ rfl ?_ ?_ (by decide) ?_ ?_ ?_ _ rfl ?_; exact rfl; exact rfl; exact rfl; exact rfl; exact news_new w5 #[v5] TFE; (intro u hu; simp only [List.mem_cons, List.not_mem_nil, or_false] at hu; subst hu; exact HR5.out.one1); (unfold maxLen; omega); omega; (have := HS5.out; simp; omega); intro g7 c7 w7 hown hgrow hat hlt7; have HM7 := Lib.hid (HL5.out.more (t := x) (v7 := .slice (some ⟨g7, 0, none⟩) (l1.length + 1) c7) (new := [v5]) (S := (w3).heap.size) rfl HR5.out (Nat.lt_of_lt_of_le HI.out.ls.box.lt hqs) (fun g e => Nat.lt_of_lt_of_le (HI.out.ls.own.lt g e).2 hqs) (Nat.le_trans hks hqs) (by decide) hown hgrow (hat.imp (fun e => by rw [own_some]; exact e.symm) (fun e => by rw [own_some, e]))); have hb7 := (HL5.out.box.alloc (.cells #[v5] TFE)).grown hgrow (fun e => HL5.out.nob e.symm); have p0 := hb7.cell 0; have p1 := hb7.free 0; have HK7 := Lib.hid (((Kept.refl (fun b => (Value.slice a5 l1.length c5).ownBlock = some b ∨ b = w1.heap.size + 1) w5).alloc (.cells #[v5] TFE)).grown hgrow (fun k hk _ => .inl hk)); clear hb7 hown hgrow hat))
            all_goals
              go_wp2_with fail
              go_roundg d0
              case measure => omega
              case rel =>
                have hlt := aexp_less HBG.out HR.out.1
                have hk8 := HK7.out.setCell (a := ⟨w1.heap.size + 1, 0, none⟩) (fun _ => .inr rfl) (.slice (some ⟨g7, 0, none⟩) (l1.length + 1) c7)
                have hz := HSZ.out
                exact ⟨l1 ++ [x], l2', q1, _, _, HR.out.2.1, by rw [HI.out.eq, HR.out.2.2, List.append_assoc]; rfl, HM7.out, HP5.out.frame hk8 (fun b e => e.elim (fun e => Nat.le_trans HP.out.size (HI.out.ls.own.lt b e).1) (fun e => by have := HP.out.size; omega)), kept_new (HI.out.kp.trans HK5.out) hk8 (fun b e q => e.elim (fun e => by have := (HI.out.ls.own.lt b e).1; omega) (fun e => by omega)), by have := HI.out.le; omega, by rw [List.length_append, List.length_singleton]; omega⟩
          | false =>
            have HM := Lib.hid hm
            have HNO := Lib.hid (aexps_no (show beginsAexp pk.next = false by unfold beginsAexp; simp [k1, k2, k4, hm]) HI.out.run)
            clear k1 k2 k4 hm
            go_wp2_with fail
            refine HN.out.mono ?_
            rintro e w2 ⟨rfl, hb2⟩
            have HBc := Lib.hid (hb2.alloc hb2.size (oTok pk.next))
            clear hb2

            have HMk := Lib.hid (mark_at pk.next "(" (w2.alloc (oTok pk.next)))
            unfold oStr at HMk
            rw [lit_lp, World.size_alloc, HM.out] at HMk
            have HBd := Lib.hid (HBc.out.alloc (HBc.out.size) (.cells #[.string ⟨#[40]⟩] TStr))
            go_wp2_with fail
            refine HMk.out.mono ?_
            rintro e w3 ⟨rfl, hb3⟩
            have HBe := Lib.hid (HBd.out.trans (hb3.mono HBd.out.size))
            clear hb3

            go_wp2_with fail
            rw [Exit.noGoto_ret]
            go_ret
            have hL := HI.out.ls.below HBe.out
            have he : a :: l = l1 := by rw [HI.out.eq, HNO.out.1, List.append_nil]
            refine ⟨_, rfl, ?_, by rw [HNO.out.2]; exact HI.out.ps.below HBe.out, KP.here HI.out.kp HBe.out⟩
            rw [he]
            exact .app (by have := HI.out.len; omega) ⟨hL.hbs, hL.box⟩ (hL.rowz (by decide)) fun i t ht => hL.elr ht
end Go.Proofs.YtdajihpfedbihaaGreat.Pa
