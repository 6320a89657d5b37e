/-
  CONTRACTS of layer parse: what begins a top; a top that is a clause (program$1).
-/
import Derived.Test.YtdajihpfedbihaaGreatGPhB
import Derived.Test.YtdajihpfedbihaaGreatGQ

namespace Go.Proofs.YtdajihpfedbihaaGreat.Pa
open Go.RowKit Mm Tm Pm
set_option linter.unusedVariables false
set_option linter.unusedSimpArgs false
theorem lit_data : toB (str "data") = ⟨#[100, 97, 116, 97]⟩ := by kernel_rfl
theorem lit_il : toB (str "infixl") = ⟨#[105, 110, 102, 105, 120, 108]⟩ := by kernel_rfl
theorem lit_ir : toB (str "infixr") = ⟨#[105, 110, 102, 105, 120, 114]⟩ := by kernel_rfl
theorem lit_ix : toB (str "infix") = ⟨#[105, 110, 102, 105, 120]⟩ := by kernel_rfl
abbrev oTop : Obj := .cells #[.string ⟨#[100, 97, 116, 97]⟩, .string ⟨#[105, 110, 102, 105, 120, 108]⟩, .string ⟨#[105, 110, 102, 105, 120, 114]⟩, .string ⟨#[105, 110, 102, 105, 120]⟩] TStr
theorem rdB_top (w : World) : RdB (· < (w.alloc oTop).heap.size) (w.alloc oTop) (some ⟨w.heap.size, 0, none⟩) [str "data", str "infixl", str "infixr", str "infix"] := by
  have hX : Box (w.alloc oTop) w.heap.size TStr _ := Box.new w _ _
  intro i s hs
  refine ⟨w.heap.size, 0, rfl, hX.lt, ?_⟩
  rw [Nat.zero_add]
  match i, hs with
  | 0, hs => simp at hs; subst hs; rw [lit_data]; exact hX.cell 0
  | 1, hs => simp at hs; subst hs; rw [lit_il]; exact hX.cell 1
  | 2, hs => simp at hs; subst hs; rw [lit_ir]; exact hX.cell 2
  | 3, hs => simp at hs; subst hs; rw [lit_ix]; exact hX.cell 3
  | i + 4, hs => simp at hs
theorem beginsTop_eq (t : Tk) : beginsTop t = (isOne 6 t [str "data", str "infixl", str "infixr", str "infix"] || beginsClause t) := by
  unfold beginsTop isWord isOne
  by_cases h : t.kind = 6 <;> simp [h, Bool.or_assoc]
set_option maxRecDepth 100000 in
set_option maxHeartbeats 4000000 in
theorem beginsTop_any (t : Tk) (w : World) : Calls Tryz.prog 61 #[tokV t] w (BoolPost (beginsTop t) w) := by
  obtain ⟨W0, hW0⟩ : ∃ W0, w.alloc (oTok t) = W0 := ⟨_, rfl⟩
  obtain ⟨W1, hW1⟩ : ∃ W1, W0.alloc oTop = W1 := ⟨_, rfl⟩
  have hb0 : Below w.heap.size w W0 := by rw [← hW0]; exact (Below.refl w.heap.size w).alloc (Nat.le_refl _) (oTok t)
  have hb1 : Below w.heap.size w W1 := by rw [← hW1]; exact hb0.alloc hb0.size oTop
  have hX : Box W0 w.heap.size TTok #[.int .i64 t.kind, .string (toB t.text), .int .i64 t.n, .int .i64 t.ln, .int .i64 t.col, .bool t.made] := by rw [← hW0]; exact Box.new w _ _
  have hX1 : Box W1 w.heap.size TTok #[.int .i64 t.kind, .string (toB t.text), .int .i64 t.n, .int .i64 t.ln, .int .i64 t.col, .bool t.made] := by rw [← hW1]; exact hX.alloc oTop
  have hI : Calls Tryz.prog 64 #[tokV t, .slice (some ⟨W0.heap.size, 0, none⟩) 4 4] W1 (BoolPost (isOne 6 t [str "data", str "infixl", str "infixr", str "infix"]) W1) := by rw [← hW1]; exact isword_any (c := 4) t _ (rdB_top W0) (by simp)
  obtain ⟨z0, z1, z2, z3, z4, z5⟩ := cells6 hX
  have l0 := hX.lt
  have HI := Lib.hid hI
  have HB1 := Lib.hid hb1
  have HX1 := Lib.hid hX1
  clear hI hb0 hb1 hX hX1
  obtain ⟨b, hb⟩ : ∃ b, isOne 6 t [str "data", str "infixl", str "infixr", str "infix"] = b := ⟨_, rfl⟩
  rw [hb] at HI
  cases b with
  | true =>
    have HE := Lib.hid (show beginsTop t = true by rw [beginsTop_eq, hb]; rfl)
    clear hb
    go_enter Tryz.func61, Tryz.ntmps61
    go_wp2_with fail
    refine HI.out.mono ?_
    rintro e w1 ⟨rfl, hb1⟩
    have HB2 := Lib.hid (HB1.out.trans (hb1.mono HB1.out.size))
    clear hb1
    go_wp2_with fail
    go_ret
    exact ⟨by rw [HE.out]; rfl, HB2.out⟩
  | false =>
    have HE := Lib.hid (show beginsTop t = beginsClause t by rw [beginsTop_eq, hb]; rfl)
    clear hb
    go_enter Tryz.func61, Tryz.ntmps61
    go_wp2_with fail
    refine HI.out.mono ?_
    rintro e w1 ⟨rfl, hb1⟩
    have HB2 := Lib.hid (HB1.out.trans (hb1.mono HB1.out.size))
    have hX2 := HX1.out.below hb1 HX1.out.lt
    obtain ⟨y0, y1, y2, y3, y4, y5⟩ := cells6 hX2
    have l1 := hX2.lt
    have HC := Lib.hid (beginsClause_any t w1)
    clear hb1 hX2 z0 z1 z2 z3 z4 z5
    go_wp2_with fail
    refine HC.out.mono ?_
    rintro e w2 ⟨rfl, hb2⟩
    have HB3 := Lib.hid (HB2.out.trans (hb2.mono HB2.out.size))
    clear hb2
    go_wp2_with fail
    go_ret
    exact ⟨by rw [HE.out]; rfl, HB3.out⟩
end Go.Proofs.YtdajihpfedbihaaGreat.Pa
/-
  CONTRACTS of layer parse: a top that is a clause (program$1); a program of clauses is read.
-/
namespace Go.Proofs.YtdajihpfedbihaaGreat.Pa
open Go.RowKit Mm Tm Pm
set_option linter.unusedVariables false
set_option linter.unusedSimpArgs false
abbrev TPg : TypeId := 26
theorem isWord_no {t : Tk} (h : t.kind ≠ 6) (s : String) : isWord t s = false := by unfold isWord; simp [h]
set_option maxRecDepth 100000 in
set_option maxHeartbeats 8000000 in
theorem prog1_any {N pb d B bs bp br : Nat} {pk p1 : Pp} {fv sv : Value} {l1 : List Cl} {vs : List Value} {c : Cl} (wr : World) (hL : Ls Item.cl TCls TCl 8 pb B wr bs sv l1 vs) (hbp : Box wr bp TPP #[ptr pb]) (h : PS N wr pb pk fv) (hk6 : pk.next.kind ≠ 6) (hc : clause d pk = some (c, p1)) (hpB : pb < B) (hbB : bp < B) (hN : N ≤ B) (hlen : l1.length ≤ 100000000)
    (ih : ∀ p r w, clause d p = some r → PS N w pb p fv → Calls Tryz.prog 67 #[ptr pb] w (ClPost N pb fv r.1 r.2 w)) :
    Calls Tryz.prog 62 #[ptr bp, ptr br, ptr bs] wr (Let1Post N pb fv B bs sv (l1 ++ [c]) p1 wr) := by
  obtain ⟨i0, hi0, hi1, hi2, hi3⟩ := info_parts Tclause
  obtain ⟨a5, c5, rfl⟩ := hL.slice
  have HN := Lib.hid (next_any wr h)
  have HL0 := Lib.hid hL
  have HBP0 := Lib.hid hbp
  have HP := Lib.hid h
  have HIH := Lib.hid ih
  have HC := Lib.hid hc
  have x0 := hbp.cell 0
  have x1 := hbp.lt
  have HPB := Lib.hid hpB
  have HBB := Lib.hid hbB
  have HNB := Lib.hid hN
  have hle := hL.hbs
  have HW := Lib.hid (isWord_no hk6 "data")
  have qk : (pk.next.kind == 6) = false := by simpa using hk6
  clear hL hbp h hc ih hpB hbB hN hk6
  go_enter Tryz.func62, Tryz.ntmps62
  go_wp2_with fail
  refine HN.out.mono ?_
  rintro e w2 ⟨rfl, hb2⟩
  obtain ⟨W3, hW3⟩ : ∃ W3, w2.alloc (oTok pk.next) = W3 := ⟨_, rfl⟩
  have hb3 : Below wr.heap.size wr W3 := by rw [← hW3]; exact hb2.alloc hb2.size _
  have hX3 : Box W3 w2.heap.size TTok #[.int .i64 pk.next.kind, .string (toB pk.next.text), .int .i64 pk.next.n, .int .i64 pk.next.ln, .int .i64 pk.next.col, .bool pk.next.made] := by rw [← hW3]; exact Box.new w2 _ _
  have HWA := word_at pk.next "data" W3
  unfold oStr at HWA
  rw [lit_data, HW.out] at HWA
  obtain ⟨W4, hW4⟩ : ∃ W4, W3.alloc (.cells #[.string ⟨#[100, 97, 116, 97]⟩] TStr) = W4 := ⟨_, rfl⟩
  rw [hW4] at HWA
  have hb4 : Below wr.heap.size wr W4 := by rw [← hW4]; exact hb3.alloc hb3.size _
  have hX4 : Box W4 w2.heap.size TTok #[.int .i64 pk.next.kind, .string (toB pk.next.text), .int .i64 pk.next.n, .int .i64 pk.next.ln, .int .i64 pk.next.col, .bool pk.next.made] := by rw [← hW4]; exact hX3.alloc _
  have HWA := Lib.hid HWA
  obtain ⟨z0, z1, z2, z3, z4, z5⟩ := cells6 hX3
  have l3 := hX3.lt
  have HX4 := Lib.hid hX4
  have HB4 := Lib.hid hb4
  clear hb2 hb3 hX3 hX4 hb4 x0 x1
  go_wp2_with fail
  refine HWA.out.mono ?_
  rintro e w5 ⟨rfl, hb5⟩
  have hb15 : Below wr.heap.size wr w5 := HB4.out.trans (hb5.mono HB4.out.size)
  have hX5 := HX4.out.below hb5 HX4.out.lt
  have y0 := hX5.cell 0
  have l5 := hX5.lt
  have hL5 := HL0.out.below hb15
  have HLb := Lib.hid (hL5.below (Below.drew (Below.refl _ w5)))
  have hbp5 := HBP0.out.below hb15 HBP0.out.lt
  have HX0 := Lib.hid (show Box w5.drew bp TPP #[ptr pb] from hbp5.drew)
  have HA := Lib.hid (HIH.out pk (c, p1) w5.drew HC.out ((HP.out.below hb15).below (Below.drew (Below.refl _ _))))
  have HP5b := Lib.hid (HP.out.below hb15)
  have HL05 := Lib.hid hL5
  have u0 := hL5.box.cell 0
  have u1 := hL5.box.lt
  have x0 := hbp5.cell 0
  have x1 := hbp5.lt
  have HB15 := Lib.hid hb15
  clear hb5 hb15 hX5 hL5 hbp5 z0 z1 z2 z3 z4 z5
  go_wp2_with fail
  go_region_law (first
    | (go_simp; go_at_call 67; refine HA.out.mono ?_; rintro e w6 ⟨t, a5', n5, k5, v5, rfl, hv5, hr5, hp5, hk5⟩; have HL5 := Lib.hid (HLb.out.kp hk5 HPB.out); have HX5 := Lib.hid (hk5.box HX0.out (by have := HPB.out; have := HBB.out; intro e; exact absurd (Box.same (show Box w5.drew pb TPP #[ptr pb] from e ▸ HX0.out) (Classical.choice ⟨HP5b.out.ex.choose_spec.choose_spec.1⟩)) (by decide))); have HR5 := Lib.hid hr5; have HV5 := Lib.hid hv5; have HP5 := Lib.hid hp5; have HK5 := Lib.hid hk5; have HS5 := Lib.hid (show w5.heap.size ≤ w6.heap.size from hk5.size); have m0 := HL5.out.box.cell 0; have y8 := HL5.out.box.lt; have y9 := (HL5.out.box.alloc (.cells #[.int .i64 t.kind, .string (toB t.text), .int .i64 t.n, .int .i64 t.ln, .int .i64 t.col, .bool t.made, .slice a5' n5 k5, v5] TCl)).cell 0; have y7 := HX5.out.cell 0; have y6 := HX5.out.lt; clear hr5 hp5 hk5 hv5)
    | (refine step_append_lies _ ?_ (.tmp 6) (.tmp 9) TCls ?_ B TCl i0 _ 8 88 Tryz.underlying131 hi0 hi1 hi2 hi3 rfl (by decide) (.slice a5 l1.length c5) l1.length vs ?_ (HL5.out.own.alloc _) ⟨w6.heap.size, 0, none⟩ 1 1 [.int .i64 t.kind, .string (toB t.text), .int .i64 t.n, .int .i64 t.ln, .int .i64 t.col, .bool t.made, .slice a5' n5 k5, v5] ?_ rfl ?_ ?_ (by decide) ?_ ?_ ?_ _ rfl ?_; exact rfl; exact rfl; exact rfl; exact rfl; exact news_new w6 #[.int .i64 t.kind, .string (toB t.text), .int .i64 t.n, .int .i64 t.ln, .int .i64 t.col, .bool t.made, .slice a5' n5 k5, v5] TCl; (intro u hu; simp only [List.mem_cons, List.not_mem_nil, or_false] at hu; rcases hu with rfl | rfl | rfl | rfl | rfl | rfl | rfl | rfl <;> first | rfl | exact HV5.out); (unfold maxLen; omega); omega; (have := HS5.out; simp; omega); intro g7 c7 w7 hown hgrow hat hlt7; have HM := Lib.hid (HL5.out.more (t := c) (v7 := .slice (some ⟨g7, 0, none⟩) (l1.length + 1) c7) (S := w5.heap.size) rfl HR5.out HL05.out.box.lt (fun g e => (HL05.out.own.lt g e).2) (Nat.le_trans HL05.out.hbs (Nat.le_of_lt HL05.out.box.lt)) (by decide) hown hgrow (hat.imp (fun e => by rw [own_some]; exact e.symm) (fun e => by rw [own_some, e]))); have hb7 := (HL5.out.box.alloc (.cells #[.int .i64 t.kind, .string (toB t.text), .int .i64 t.n, .int .i64 t.ln, .int .i64 t.col, .bool t.made, .slice a5' n5 k5, v5] TCl)).grown hgrow (fun e => HL5.out.nob e.symm); have p0 := hb7.cell 0; have p1' := hb7.free 0; have HK7 := Lib.hid ((((Kept.refl (fun b => (Value.slice a5 l1.length c5).ownBlock = some b ∨ b = bs) w6).alloc (.cells #[.int .i64 t.kind, .string (toB t.text), .int .i64 t.n, .int .i64 t.ln, .int .i64 t.col, .bool t.made, .slice a5' n5 k5, v5] TCl)).grown hgrow (fun k hk _ => .inl hk)).setCell (a := ⟨bs, 0, none⟩) (fun _ => .inr rfl) (.slice (some ⟨g7, 0, none⟩) (l1.length + 1) c7)); clear hb7 hown hgrow hat))
  all_goals
    go_wp2_with fail
    refine bodyPost_end (by simp [results, Tryz.results62, go_sem]; rfl) rfl ?_
    have hge := kept_own HL5.out
    have hk0 : Kept (fun b => b = pb ∨ (Value.slice a5 l1.length c5).ownBlock = some b ∨ b = bs) wr w5.drew := (Kept.of_below HB15.out (Nat.le_refl _) _).drew
    exact ⟨rfl, _, _, HM.out, HP5.out.frame HK7.out (fun b e => by have := hge b e; have := HNB.out; omega), (hk0.trans (HK5.out.mono fun b _ e => .inl e)).trans (HK7.out.mono fun b _ e => .inr e)⟩
end Go.Proofs.YtdajihpfedbihaaGreat.Pa
/-
  CONTRACTS of layer parse: a program of clauses is read (program).
-/
namespace Go.Proofs.YtdajihpfedbihaaGreat.Pa
open Go.RowKit Mm Tm Pm
set_option linter.unusedVariables false
set_option linter.unusedSimpArgs false
/-- a program's tops, all of them clauses -/
def cTops : Nat → Bool → Pp → Option (List Cl × Pp)
  | 0, _, _ => none
  | d + 1, free, p =>
    if isMark p.next ";" then cTops d true p.take.2
    else if free && beginsTop p.next then
      if p.next.kind = 6 then none
      else do
        let (c, p) ← clause d p
        let (l, p) ← cTops d false p
        return (c :: l, p)
    else return ([], p)
theorem cTops_semi {d : Nat} {f : Bool} {p : Pp} (h : isMark p.next ";" = true) : cTops (d + 1) f p = cTops d true p.take.2 := by rw [cTops, if_pos h]
theorem cTops_part {d : Nat} {p : Pp} (h : isMark p.next ";" = false) (hb : beginsTop p.next = true) {l : List Cl} {q : Pp} (hd : cTops (d + 1) true p = some (l, q)) : p.next.kind ≠ 6 ∧ beginsClause p.next = true ∧ ∃ c p1 l2, clause d p = some (c, p1) ∧ cTops d false p1 = some (l2, q) ∧ l = c :: l2 := by
  rw [cTops, if_neg (by rw [h]; simp), if_pos (by rw [hb]; rfl)] at hd
  by_cases hk : p.next.kind = 6
  · rw [if_pos hk] at hd
    cases hd
  · rw [if_neg hk] at hd
    obtain ⟨⟨t1, p1⟩, h1, h2⟩ := Option.bind_eq_some_iff.1 hd
    dsimp only at h2
    obtain ⟨⟨l2, p2⟩, h3, h4⟩ := Option.bind_eq_some_iff.1 h2
    simp only [pure, Option.some.injEq, Prod.mk.injEq] at h4
    refine ⟨hk, ?_, t1, p1, l2, h1, by rw [h3, h4.2], h4.1.symm⟩
    unfold beginsTop at hb
    simpa [isWord_no hk] using hb
theorem cTops_end {d : Nat} {f : Bool} {p : Pp} (h : isMark p.next ";" = false) (hb : (f && beginsTop p.next) = false) {l : List Cl} {q : Pp} (hd : cTops (d + 1) f p = some (l, q)) : l = [] ∧ q = p := by
  rw [cTops, if_neg (by rw [h]; simp), if_neg (by rw [hb]; simp)] at hd
  simp only [pure, Option.some.injEq, Prod.mk.injEq] at hd
  exact ⟨hd.1.symm, hd.2.symm⟩
structure PrgI (N pb : Nat) (fv : Value) (L : List Cl) (q : Pp) (w : World) (B bs bp br D : Nat) (d : Nat) (f : Bool) (n : Nat) (p : Pp) (wr : World) : Prop where
  ex : ∃ l1 l2 sv vs, cTops d f p = some (l2, q) ∧ L = l1 ++ l2 ∧ l1.length = n ∧ Ls Item.cl TCls TCl 8 pb B wr bs sv l1 vs
  bx : Box wr bp TPP #[ptr pb]
  br_ : Box wr br TPg #[.slice none 0 0, .slice none 0 0, .slice none 0 0]
  ps : PS N wr pb p fv
  kp : KP pb w wr
  len : n + p.rest.length ≤ 100000000
  le : d ≤ D
theorem PrgI.blk {N pb : Nat} {fv : Value} {L : List Cl} {q : Pp} {w : World} {B bs bp br D : Nat} (hpB : pb < w.heap.size) (hwB : w.heap.size ≤ B) (hbB : bp < B) (haB : br < B) (hN : N ≤ w.heap.size) (hbw : w.heap.size ≤ bp) (haw : w.heap.size ≤ br)
    (ih : ∀ d' p r w, clause d' p = some r → PS N w pb p fv → Calls Tryz.prog 67 #[ptr pb] w (ClPost N pb fv r.1 r.2 w)) :
    BlkI N pb fv beginsTop 62 #[ptr bp, ptr br, ptr bs] (PrgI N pb fv L q w B bs bp br D) where
  ps := fun h => h.ps
  some := fun {d f n p w} h => by
    obtain ⟨l1, l2, sv, vs, h1, _⟩ := h.ex
    cases d with
    | zero => simp [cTops] at h1
    | succ d => exact ⟨d, rfl⟩
  cnt := fun h => by have := h.len; omega
  here := fun h hb => by
    obtain ⟨l1, l2, sv, vs, h1, h2, h3, h4⟩ := h.ex
    exact ⟨⟨l1, l2, sv, vs, h1, h2, h3, h4.below hb⟩, h.bx.below hb h.bx.lt, h.br_.below hb h.br_.lt, h.ps.below hb, KP.here h.kp hb, h.len, h.le⟩
  semi := fun {d f n p w1 w'} h hm hp hk => by
    obtain ⟨l1, l2, sv, vs, h1, h2, h3, h4⟩ := h.ex
    rw [cTops_semi hm] at h1
    exact ⟨⟨l1, l2, sv, vs, h1, h2, h3, h4.kp hk (by omega)⟩, hk.box h.bx (by omega), hk.box h.br_ (by omega), hp, h.kp.trans hk, by have := take_len p; have := h.len; omega, by have := h.le; omega⟩
  part := fun {d n p wr} h hm hb => by
    obtain ⟨l1, l2, sv, vs, h1, h2, h3, h4⟩ := h.ex
    obtain ⟨hk6, hbc, c, p1, l2', k1, k2, k4⟩ := cTops_part hm hb h1
    have hge := kept_own h4
    refine (prog1_any (d := d) wr h4 h.bx h.ps hk6 k1 (by omega) (by omega) (by omega) (by have := h.len; omega) (ih d)).mono ?_
    rintro e w' ⟨rfl, sv', vs', hl, hp, hk⟩
    refine ⟨rfl, p1, ⟨⟨l1 ++ [c], l2', sv', vs', k2, by rw [h2, k4, List.append_assoc]; rfl, by rw [List.length_append, List.length_singleton, h3], hl⟩, hk.box h.bx (fun e => e.elim (fun e => by omega) fun e => by have := hge _ e; omega), hk.box h.br_ (fun e => e.elim (fun e => by omega) fun e => by have := hge _ e; omega), hp, kept_new h.kp hk (fun b e q => e.elim id fun e => by have := hge b e; omega), ?_, by have := h.le; omega⟩⟩
    have := clause_less hbc k1
    have := h.len
    omega
/-- a program that was read -/
structure PrgR (pb S : Nat) (w : World) (L : List Cl) (bp br bs : Nat) (sv : Value) (C : Nat → List Value) : Prop where
  bx : Box w bp TPP #[ptr pb]
  rd : Box w br TPg #[.slice none 0 0, .slice none 0 0, .slice none 0 0]
  cl : Box w bs TCls #[sv]
  row : RowZ (fun b => br < b) w sv L.length 8 C
  el : ∀ i c, L[i]? = some c → R pb (fun b => br < b) w (.cl c) (C i)
  len : L.length ≤ 100000000
  h1 : S ≤ bp
  h2 : S ≤ br
  h3 : br < bs
  h4 : bp ≠ br
def PrgPost (N pb : Nat) (fv : Value) (L : List Cl) (p' : Pp) (w : World) (e : Ending) (w' : World) : Prop :=
  ∃ bp br bs sv C, e = .returned (.func (.func 68) #[] #[ptr bp, ptr br, ptr bs]) ∧ PrgR pb w.heap.size w' L bp br bs sv C ∧ PS N w' pb p' fv ∧ KP pb w w'
set_option maxRecDepth 100000 in
set_option maxHeartbeats 8000000 in
theorem program_any {N pb d : Nat} {p p1 : Pp} {fv : Value} {l : List Cl} (w : World) (h : PS N w pb p fv) (h1 : cTops d true (p.mark "{").2 = some (l, p1)) :
    Calls Tryz.prog 42 #[ptr pb] w (PrgPost N pb fv l (p1.mark "}").2 w) := by
  have hpw : pb < w.heap.size := Nat.lt_of_lt_of_le h.lt h.size
  obtain ⟨W1, hW1⟩ : ∃ W1, w.alloc (.cells #[ptr pb] TPP) = W1 := ⟨_, rfl⟩
  obtain ⟨W2, hW2⟩ : ∃ W2, W1.alloc (.cells #[.slice none 0 0, .slice none 0 0, .slice none 0 0] TPg) = W2 := ⟨_, rfl⟩
  obtain ⟨W3, hW3⟩ : ∃ W3, W2.alloc (.cells #[.slice none 0 0] TCls) = W3 := ⟨_, rfl⟩
  have hz1 : W1.heap.size = w.heap.size + 1 := by rw [← hW1]; simp
  have hz2 : W2.heap.size = w.heap.size + 1 + 1 := by rw [← hW2]; simp [hz1]
  have hb1 : Below w.heap.size w W1 := by rw [← hW1]; exact (Below.refl _ _).alloc (Nat.le_refl _) _
  have hb2 : Below w.heap.size w W2 := by rw [← hW2]; exact hb1.alloc hb1.size _
  have hb3 : Below w.heap.size w W3 := by rw [← hW3]; exact hb2.alloc hb2.size _
  have hx3 : Box W3 w.heap.size TPP #[ptr pb] := by rw [← hW3, ← hW2, ← hW1]; exact ((Box.new w _ _).alloc _).alloc _
  have hr3 : Box W3 W1.heap.size TPg #[.slice none 0 0, .slice none 0 0, .slice none 0 0] := by rw [← hW3, ← hW2]; exact (Box.new W1 _ _).alloc _
  have HL2 := Lib.hid (show Ls Item.cl TCls TCl 8 pb W2.heap.size W3 W2.heap.size (.slice none 0 0) [] [] by rw [← hW3]; exact Ls.empty (B := W2.heap.size) (f := Item.cl) (TB := TCls) (TE := TCl) (k := 8) (pb := pb) W2 (Nat.le_refl _))
  have HK3 := Lib.hid (show KP pb w W3 from Kept.of_below hb3 (Nat.le_refl _) _)
  have HBI := Lib.hid (PrgI.blk (N := N) (pb := pb) (fv := fv) (L := l) (q := p1) (w := w) (B := W2.heap.size) (bs := W2.heap.size) (bp := w.heap.size) (br := W1.heap.size) (D := d) hpw (by omega) (by omega) (by omega) h.size (Nat.le_refl _) (by omega) (fun d' p r w hc hp => (exprs_any N pb fv d').clause p r w hc hp))
  have HX3 := Lib.hid hx3
  have HR3 := Lib.hid hr3
  have HBK := Lib.hid (block_any (D := d) 0 W3 (h.below hb3) HBI.out beginsTop_any (enters_of Tryz.func61 (by kernel_rfl) rfl) (enters_of Tryz.func62 (by kernel_rfl) rfl) (fun w' hp hk => ⟨⟨[], l, _, _, h1, rfl, rfl, HL2.out.kp hk (by omega)⟩, hk.box HX3.out (by omega), hk.box HR3.out (by omega), hp, HK3.out.trans hk, by have := hp.len; omega, Nat.le_refl _⟩))
  have x0 := hx3.cell 0
  have l0 := hx3.lt
  have HZ1 := Lib.hid hz1
  have HZ2 := Lib.hid hz2
  have HPW := Lib.hid hpw
  clear h h1 hb1 hb2 hb3 hx3 hr3 hz1 hz2 hpw
  go_enter Tryz.func42, Tryz.ntmps42
  go_wp2_with fail
  refine HBK.out.mono ?_
  rintro e w2 ⟨rfl, d2, f2, n2, pk, w0, hI, hns, hnb, hp2, hk2⟩
  obtain ⟨l1, l2, sv, vs, q1, q2, q3, q4⟩ := hI.ex
  have HLN := Lib.hid (show l1.length ≤ 100000000 by have := hI.len; omega)
  obtain ⟨rfl, rfl⟩ := cTops_end hns hnb q1
  rw [List.append_nil] at q2
  subst q2
  have hpw := HPW.out
  have HX4 := Lib.hid (hk2.box hI.bx (by omega))
  have HR4 := Lib.hid (hk2.box hI.br_ (by have := HZ1.out; omega))
  have HL4 := Lib.hid (q4.kp hk2 (by have := HZ2.out; omega))
  have HK4 := Lib.hid (hI.kp.trans hk2)
  rw [if_neg (show ¬ (n2 : Int) < 0 by omega)] at hp2
  have HP4 := Lib.hid hp2
  clear hI q1 q3 q4 hp2 hk2 hns hnb
  go_wp2_with fail
  go_ret
  have hz2 := HZ2.out
  have hz1 := HZ1.out
  exact ⟨_, _, _, sv, _, rfl, ⟨HX4.out, HR4.out, HL4.out.box, (HL4.out.rowz (by decide)).frame (Nat.le_refl _) (fun _ _ _ => rfl) fun b hb _ => by omega, fun i t ht => (HL4.out.elr ht).mono fun b hb _ => by omega, HLN.out, Nat.le_refl _, by omega, by omega, by omega⟩, HP4.out, HK4.out⟩
end Go.Proofs.YtdajihpfedbihaaGreat.Pa
