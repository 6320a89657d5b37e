/-
  CONTRACT of layer parse: cases are read.
-/
import Derived.Test.YtdajihpfedbihaaGreatGH
import Derived.Test.YtdajihpfedbihaaGreatGI
import Derived.Shelf.Abstract
namespace Go.Proofs.YtdajihpfedbihaaGreat.Pa
open Go.RowKit Mm Tm Pm
set_option linter.unusedVariables false
set_option linter.unusedSimpArgs false
abbrev TFA : TypeId := 200
abbrev TFAs : TypeId := 199
abbrev TFRh : TypeId := 138
theorem Tfa : (Tryz.prog.info? 200).map (fun i => (i.zero, i.size, i.bytes)) = some (some Value.nilFunc, 1, 8) := by kernel_rfl
theorem kept_own2 {α : Type} {f : α → Item} {TB TE : TypeId} {k pb B bs : Nat} {sv : Value} {l : List α} {vs : List Value} {w : World} (h : Ls f TB TE k pb B w bs sv l vs) : ∀ b, (sv.ownBlock = some b ∨ b = bs) → B ≤ b := fun b e => e.elim (fun e => (h.own.lt b e).1) (fun e => by rw [e]; exact h.hbs)
def Cases1Post (N pb : Nat) (fv : Value) (B bs : Nat) (sv : Value) (l : List Al) (p1 : Pp) (wr : World) (e : Ending) (w' : World) : Prop := e = .returned (.tuple #[]) ∧ ∃ sv' vs', Ls Item.al TFAs TFA 1 pb B w' bs sv' l vs' ∧ PS N w' pb p1 fv ∧ Kept (fun b => b = pb ∨ sv.ownBlock = some b ∨ b = bs) wr w'
set_option maxRecDepth 100000 in
set_option maxHeartbeats 8000000 in
theorem cases1_any {N pb d B bs bp : Nat} {pk p1 p2 : Pp} {fv sv : Value} {l1 : List Al} {vs : List Value} {x : Pm.Pt} {r : Rh} (wr : World) (hL : Ls Item.al TFAs TFA 1 pb B wr bs sv l1 vs) (hbp : Box wr bp TPP #[ptr pb]) (h : PS N wr pb pk fv) (h1 : pat d pk = some (x, p1)) (h2 : bodies d "->" p1 = some (r, p2)) (hpB : pb < B) (hbB : bp < B) (hN : N ≤ B) (hlen : l1.length ≤ 100000000)
    (ih : ∀ p r q w, bodies d "->" p = some (r, q) → PS N w pb p fv → Calls Tryz.prog 92 #[ptr pb, .string (toB (str "->"))] w (LtPost N pb fv (.rh r) q w)) :
    Calls Tryz.prog 147 #[ptr bp, ptr bs] wr (Cases1Post N pb fv B bs sv (l1 ++ [.mk x r]) p2 wr) := by
  obtain ⟨i0, hi0, hi1, hi2, hi3⟩ := info_parts Tfa
  obtain ⟨a5, c5, rfl⟩ := hL.slice
  have hne : bp ≠ pb := by
    intro e
    obtain ⟨ra, rc, g1, _⟩ := h.ex
    rw [e] at hbp
    exact absurd (Box.same hbp g1) (by decide)
  have HNE := Lib.hid hne
  have HPT := Lib.hid ((pats_any N pb fv d).pat pk (x, p1) wr h1 h)
  have HL0 := Lib.hid hL
  have HX0 := Lib.hid hbp
  have HP := Lib.hid h
  have HIH := Lib.hid (ih p1 r p2 · h2)
  have x0 := hbp.cell 0
  have x1 := hbp.lt
  have HPB := Lib.hid hpB
  have HBB := Lib.hid hbB
  have HNB := Lib.hid hN
  have hle := hL.hbs
  clear hL hbp h h1 h2 ih hpB hbB hN hne
  go_enter Tryz.func147, Tryz.ntmps147
  go_wp2_with fail
  refine HPT.out.mono ?_
  rintro e w1 ⟨a1, c1, rfl, ht1, hp1, hk1⟩
  have hb1 : Below w1.heap.size w1 (w1.alloc (oPt x a1 c1)) := (Below.refl _ _).alloc (Nat.le_refl _) _
  have hs1 : wr.heap.size ≤ w1.heap.size := hk1.size
  have hx1 := (hk1.box HX0.out HNE.out).below hb1 (by omega)
  have HX1 := Lib.hid hx1
  have HL1 := Lib.hid ((HL0.out.kp hk1 HPB.out).below hb1)
  have HT1 := Lib.hid (ht1.frame (Kept.of_below hb1 (Nat.le_refl _) (fun _ => False)) (fun b e => e.elim))
  have HY1 := Lib.hid (Box.new w1 #[.int .i64 x.kd, .string x.nm, .int .i64 x.n, .slice a1 x.args.len c1, .int .i64 x.ln, .int .i64 x.col] TPt)
  have HK1 := Lib.hid (KP.here hk1 hb1)
  have HZ1 := Lib.hid (show (w1.alloc (oPt x a1 c1)).heap.size = w1.heap.size + 1 by simp)
  have HB1 := Lib.hid (HIH.out _ (hp1.below hb1))
  rw [lit_ar] at HB1
  have x2 := hx1.cell 0
  have x3 := hx1.lt
  have HS1 := Lib.hid hs1
  clear ht1 hp1 hk1 hb1 hx1
  go_wp2_with fail
  refine HB1.out.mono ?_
  rintro e w2 ⟨v2, rfl, hr2, hp2, hk2⟩
  have hna2 := one_not hr2.one_rh
  have hst2 := st_one hr2.one_rh
  have hs2 : w1.heap.size + 1 ≤ w2.heap.size := by have := hk2.size; rwa [HZ1.out] at this
  have hpb := HPB.out
  have hpw : pb < wr.heap.size := Nat.lt_of_lt_of_le HP.out.lt HP.out.size
  have hs1' := HS1.out
  have hb2 : Below w2.heap.size w2 (w2.alloc (.cells #[v2] TFRh)) := (Below.refl _ _).alloc (Nat.le_refl _) _
  have hL2 := ((HL1.out.kp hk2 HPB.out).below hb2)
  have hT2 := (HT1.out.frame hk2 (fun b e hge q => by have e : b = pb := e; omega)).frame (Kept.of_below hb2 (Nat.le_refl _) (fun _ => False)) (fun b e => e.elim)
  have hY2 := (hk2.box HY1.out (by omega)).below hb2 (by omega)
  have hR2 := hr2.kept (Kept.of_below hb2 (Nat.le_refl _) (fun _ => False)) (fun b hz hx _ => hx)
  have hV2 := Box.new w2 #[v2] TFRh
  have HEL := Lib.hid (show R pb (fun b => wr.heap.size ≤ b) (w2.alloc (.cells #[v2] TFRh)) (.al (.mk x r)) [.func (.func 148) #[] #[ptr w1.heap.size, ptr w2.heap.size]] from .al ⟨hs1, hY2⟩ ⟨by omega, hV2⟩ (hT2.1.mono fun b hz => ⟨hz.1, hz.2.1⟩) hT2.2.1 hT2.2.2 (hR2.mono fun b hz _ => by have hz : (w1.alloc (oPt x a1 c1)).heap.size ≤ b := hz; rw [HZ1.out] at hz; omega))
  have HL2 := Lib.hid hL2
  have HP2 := Lib.hid (hp2.below hb2)
  have HK2 := Lib.hid (KP.here (HK1.out.trans hk2) hb2)
  have u0 := hL2.box.cell 0
  have u1 := hL2.box.lt
  have hsz2 : (w2.alloc (.cells #[v2] TFRh)).heap.size = w2.heap.size + 1 := by simp
  have HSZ2 := Lib.hid hsz2
  rw [hsz2] at u1
  clear hr2 hp2 hk2 hb2 hL2 hT2 hY2 hR2 hV2 hsz2
  generalize hW9 : w2.alloc (.cells #[v2] TFRh) = W9 at *
  go_wp2_with (at_builtin; refine wpList_append_own_at _ rfl _ _ TFAs rfl B TFA i0 _ 1 8 Tryz.underlying199 hi0 hi1 hi2 hi3 rfl (by decide) _ _ _ rfl (HL2.out.own.alloc _) ⟨W9.heap.size, 0, none⟩ 1 1 [.func (.func 148) #[] #[ptr w1.heap.size, ptr w2.heap.size]] rfl rfl (news_new W9 #[.func (.func 148) #[] #[ptr w1.heap.size, ptr w2.heap.size]] TFA) (fun u hu => by simp only [List.mem_cons, List.not_mem_nil, or_false] at hu; subst hu; rfl) (by unfold maxLen; omega) (by omega) (by have := HSZ2.out; simp; omega) ?_)
  intro va wa hown hgrow _ hat
  have HMA := Lib.hid (HL2.out.more (t := Al.mk x r) (new := [.func (.func 148) #[] #[ptr w1.heap.size, ptr w2.heap.size]]) (S := wr.heap.size) rfl HEL.out HL0.out.box.lt (fun x e => (HL0.out.own.lt x e).2) (Nat.le_trans HL0.out.hbs (Nat.le_of_lt HL0.out.box.lt)) (by decide) hown hgrow (by rwa [World.size_alloc]))
  have hba := (HL2.out.box.alloc (.cells #[.func (.func 148) #[] #[ptr w1.heap.size, ptr w2.heap.size]] TFA)).grown hgrow (fun e => HL2.out.nob e.symm)
  have p0 := hba.cell 0
  have p1' := hba.free 0
  have HKA := Lib.hid ((((Kept.refl (fun b => (Value.slice a5 l1.length c5).ownBlock = some b ∨ b = bs) W9).alloc (.cells #[.func (.func 148) #[] #[ptr w1.heap.size, ptr w2.heap.size]] TFA)).grown hgrow (fun k hk _ => .inl hk)).setCell (a := ⟨bs, 0, none⟩) (fun _ => .inr rfl) va)
  obtain ⟨aa, ca, rfl⟩ := own_slice hown
  clear hba hown hgrow hat
  go_wp2_with fail
  refine bodyPost_end (by simp [results, Tryz.results147, go_sem]; rfl) rfl ?_
  have hge := kept_own2 HL0.out
  exact ⟨rfl, _, _, HMA.out, HP2.out.frame HKA.out (fun b e => by have := hge b e; have := HNB.out; omega), (HK2.out.mono fun b _ e => .inl e).trans (HKA.out.mono fun b _ e => .inr e)⟩
theorem alts_semi {d : Nat} {f : Bool} {p : Pp} (h : isMark p.next ";" = true) : alts (d + 1) f p = alts d true p.take.2 := by rw [alts, if_pos h]
theorem alts_part {d : Nat} {p : Pp} (h : isMark p.next ";" = false) (hb : beginsPat p.next = true) {n : Nat} {l : List Al} {q : Pp} (hd : alts (d + 1) true p = some (n, l, q)) : ∃ x p1 r p2 n2 l2, pat d p = some (x, p1) ∧ bodies d "->" p1 = some (r, p2) ∧ alts d false p2 = some (n2, l2, q) ∧ n = n2 + 1 ∧ l = .mk x r :: l2 := by
  rw [alts, if_neg (by rw [h]; simp), if_pos (by rw [hb]; rfl)] at hd
  obtain ⟨⟨t1, p1⟩, h1, h2⟩ := Option.bind_eq_some_iff.1 hd
  dsimp only at h2
  obtain ⟨⟨t2, p2⟩, h3, h4⟩ := Option.bind_eq_some_iff.1 h2
  dsimp only at h4
  obtain ⟨⟨n3, l3, p3⟩, h5, h6⟩ := Option.bind_eq_some_iff.1 h4
  simp only [pure, Option.some.injEq, Prod.mk.injEq] at h6
  exact ⟨t1, p1, t2, p2, n3, l3, h1, h3, by rw [h5, h6.2.2], h6.1.symm, h6.2.1.symm⟩
theorem alts_end {d : Nat} {f : Bool} {p : Pp} (h : isMark p.next ";" = false) (hb : (f && beginsPat p.next) = false) {n : Nat} {l : List Al} {q : Pp} (hd : alts (d + 1) f p = some (n, l, q)) : n = 0 ∧ l = [] ∧ q = p := by
  rw [alts, if_neg (by rw [h]; simp), if_neg (by rw [hb]; simp)] at hd
  simp only [pure, Option.some.injEq, Prod.mk.injEq] at hd
  exact ⟨hd.1.symm, hd.2.1.symm, hd.2.2.symm⟩
/-- what lies behind the alternatives' row stays: the box of what is looked at, its place, the expression looked at -/
structure CasI (N pb : Nat) (fv : Value) (L : List Al) (q : Pp) (total : Nat) (w : World) (B bs bp ba bo D : Nat) (ln col : Int) (o : Lt) (vo : Value) (d : Nat) (f : Bool) (n : Nat) (p : Pp) (wr : World) : Prop where
  ex : ∃ l1 l2 n2 sv vs, alts d f p = some (n2, l2, q) ∧ L = l1 ++ l2 ∧ n + n2 = total ∧ l1.length = n ∧ Ls Item.al TFAs TFA 1 pb B wr bs sv l1 vs
  bx : Box wr bp TPP #[ptr pb]
  at_ : Box wr ba TPos #[.int .i64 ln, .int .i64 col]
  of_ : Box wr bo TFE #[vo]
  el : R pb (fun b => w.heap.size ≤ b ∧ b < B) wr (.lt o) [vo]
  ps : PS N wr pb p fv
  kp : KP pb w wr
  len : n + p.rest.length ≤ 100000000
  le : d ≤ D
theorem CasI.blk {N pb : Nat} {fv : Value} {L : List Al} {q : Pp} {total : Nat} {w : World} {B bs bp ba bo D : Nat} {ln col : Int} {o : Lt} {vo : Value} (hpB : pb < w.heap.size) (hwB : w.heap.size ≤ B) (hbB : bp < B) (haB : ba < B) (hoB : bo < B) (hN : N ≤ w.heap.size) (hbw : w.heap.size ≤ bp) (haw : w.heap.size ≤ ba) (how : w.heap.size ≤ bo)
    (ih : ∀ d', d' < D → ∀ p r q w, bodies d' "->" p = some (r, q) → PS N w pb p fv → Calls Tryz.prog 92 #[ptr pb, .string (toB (str "->"))] w (LtPost N pb fv (.rh r) q w)) :
    BlkI N pb fv beginsPat 147 #[ptr bp, ptr bs] (CasI N pb fv L q total w B bs bp ba bo D ln col o vo) where
  ps := fun h => h.ps
  some := fun {d f n p w} h => by
    obtain ⟨l1, l2, n2, sv, vs, h1, _⟩ := h.ex
    cases d with
    | zero => simp [alts] at h1
    | succ d => exact ⟨d, rfl⟩
  cnt := fun h => by have := h.len; omega
  here := fun h hb => by
    obtain ⟨l1, l2, n2, sv, vs, h1, h2, h3, h3', h4⟩ := h.ex
    exact ⟨⟨l1, l2, n2, sv, vs, h1, h2, h3, h3', h4.below hb⟩, h.bx.below hb h.bx.lt, h.at_.below hb h.at_.lt, h.of_.below hb h.of_.lt, h.el.kept (Kept.of_below hb (Nat.le_refl _) (fun _ => False)) (fun b hz hx _ => hx), h.ps.below hb, KP.here h.kp hb, h.len, h.le⟩
  semi := fun {d f n p w1 w'} h hm hp hk => by
    obtain ⟨l1, l2, n2, sv, vs, h1, h2, h3, h3', h4⟩ := h.ex
    rw [alts_semi hm] at h1
    exact ⟨⟨l1, l2, n2, sv, vs, h1, h2, h3, h3', h4.kp hk (by omega)⟩, hk.box h.bx (by omega), hk.box h.at_ (by omega), hk.box h.of_ (by omega), h.el.kept hk (fun b hz hx _ => by have hx : b = pb := hx; have := hz.1; omega), hp, h.kp.trans hk, by have := take_len p; have := h.len; omega, by have := h.le; omega⟩
  part := fun {d n p wr} h hm hb => by
    obtain ⟨l1, l2, n2, sv, vs, h1, h2, h3, h3', h4⟩ := h.ex
    obtain ⟨x, p1, r, p2, n2', l2', k1, k1', k2, k3, k4⟩ := alts_part hm hb h1
    have hge := kept_own2 h4
    refine (cases1_any (d := d) wr h4 h.bx h.ps k1 k1' (by omega) (by omega) (by omega) (by have := h.len; omega) (ih d (by have := h.le; omega))).mono ?_
    rintro e w' ⟨rfl, sv', vs', hl, hp, hk⟩
    refine ⟨rfl, p2, ⟨⟨l1 ++ [.mk x r], l2', n2', sv', vs', k2, by rw [h2, k4, List.append_assoc]; rfl, by omega, by rw [List.length_append, List.length_singleton, h3'], hl⟩, hk.box h.bx (fun e => e.elim (fun e => by omega) fun e => by have := hge _ e; omega), hk.box h.at_ (fun e => e.elim (fun e => by omega) fun e => by have := hge _ e; omega), hk.box h.of_ (fun e => e.elim (fun e => by omega) fun e => by have := hge _ e; omega), h.el.kept hk (fun b hz hx _ => hx.elim (fun e => by have := hz.1; omega) fun e => by have := hge _ e; have := hz.2; omega), hp, kept_new h.kp hk (fun b e q => e.elim id fun e => by have := hge b e; omega), ?_, by have := h.le; omega⟩⟩
    have := pat_less hb k1
    have := len_of ((expr_stk (R := Len) d).bodies _ _ _ _ k1')
    have := h.len
    omega
end Go.Proofs.YtdajihpfedbihaaGreat.Pa
/-
  CONTRACT of layer parse: cases are read, whole.
-/
namespace Go.Proofs.YtdajihpfedbihaaGreat.Pa
open Go.RowKit Mm Tm Pm
set_option linter.unusedVariables false
set_option linter.unusedSimpArgs false
set_option maxRecDepth 100000 in
set_option maxHeartbeats 8000000 in
theorem cases_any {N pb d : Nat} {p p1 p2 : Pp} {fv : Value} {n : Nat} {o : Lt} {l : List Al} {p9 : Pp} (w : World) (h9 : ((if n < 1 then p2.fail 60 else p2).mark "}").2 = p9) (h : PS N w pb p fv) (h1 : expr d p.take.2 = some (o, p1)) (h2 : alts d true ((p1.word "of").mark "{").2 = some (n, l, p2))
    (ih1 : ∀ p r w, expr d p = some r → PS N w pb p fv → Calls Tryz.prog 77 #[ptr pb] w (LtPost N pb fv (.lt r.1) r.2 w))
    (ih2 : ∀ d', d' < d → ∀ p r q w, bodies d' "->" p = some (r, q) → PS N w pb p fv → Calls Tryz.prog 92 #[ptr pb, .string (toB (str "->"))] w (LtPost N pb fv (.rh r) q w)) :
    Calls Tryz.prog 129 #[ptr pb] w (LtPost N pb fv (.lt (.cases_ o l p.next.ln p.next.col)) p9 w) := by
  have HP := Lib.hid h
  have H9 := Lib.hid h9
  have HB0 := Lib.hid ((Below.refl w.heap.size w).alloc (Nat.le_refl _) (.cells #[ptr pb] TPP))
  have HX0 := Lib.hid (Box.new w #[ptr pb] TPP)
  have HT := Lib.hid (take_any _ (h.below HB0.out))
  have HF := Lib.hid (take_fst p)
  have H1 := Lib.hid h1
  have H2 := Lib.hid h2
  have HI1 := Lib.hid ih1
  have HI2 := Lib.hid ih2
  have HPW := Lib.hid (show pb < w.heap.size from Nat.lt_of_lt_of_le h.lt h.size)
  clear h h1 h2 ih1 ih2 h9
  go_enter Tryz.func129, Tryz.ntmps129
  go_wp2_with fail
  refine HT.out.mono ?_
  rintro e w1 ⟨rfl, hp1, hk1⟩
  rw [HF.out]
  have hf := tok_at p.next
  have hpw := HPW.out
  have hs1 : w.heap.size + 1 ≤ w1.heap.size := by have := hk1.size; rwa [World.size_alloc] at this
  have hb1 : Below w1.heap.size w1 (w1.alloc (oPos p.next.ln p.next.col)) := (Below.refl _ _).alloc (Nat.le_refl _) _
  have hx1 := (hk1.box HX0.out (by omega)).below hb1 (by omega)
  have HX1 := Lib.hid hx1
  have HA1 := Lib.hid (Box.new w1 #[.int .i64 p.next.ln, .int .i64 p.next.col] TPos)
  have HK1 := Lib.hid (KP.here ((Kept.of_below HB0.out (Nat.le_refl _) (fun b => b = pb)).trans hk1) hb1)
  have HE1 := Lib.hid (HI1.out _ (o, p1) _ H1.out (hp1.below hb1))
  have HS1 := Lib.hid hs1
  have y0 := hx1.cell 0
  have y1 := hx1.lt
  clear hp1 hk1 hb1 hx1
  go_wp2_with fail
  refine HE1.out.mono ?_
  rintro e w2 ⟨v2, rfl, hr2, hp2, hk2⟩
  have hna2 := one_not hr2.one1
  have hst2 := st_one hr2.one1
  have hs2 : w1.heap.size + 1 ≤ w2.heap.size := by have := hk2.size; rwa [World.size_alloc] at this
  have hb2 : Below w2.heap.size w2 (w2.alloc (.cells #[v2] TFE)) := (Below.refl _ _).alloc (Nat.le_refl _) _
  have hx2 := (hk2.box HX1.out (by omega)).below hb2 (by omega)
  have HX2 := Lib.hid hx2
  have HA2 := Lib.hid ((hk2.box HA1.out (by omega)).below hb2 (by omega))
  have HO2 := Lib.hid (Box.new w2 #[v2] TFE)
  have HR2 := Lib.hid (hr2.frame (Z' := fun b => w.heap.size ≤ b ∧ b < w2.heap.size + 1) hb2.size (fun b _ hl => hb2.block b hl) (fun b hz hl => ⟨by have hz : (w1.alloc (oPos p.next.ln p.next.col)).heap.size ≤ b := hz; rw [World.size_alloc] at hz; omega, by omega⟩))
  have HK2 := Lib.hid (KP.here (HK1.out.trans hk2) hb2)
  have HW2 := Lib.hid (word_any "of" _ (hp2.below hb2))
  rw [lit_of] at HW2
  have y0 := hx2.cell 0
  have y1 := hx2.lt
  have HS2 := Lib.hid hs2
  clear hr2 hp2 hk2 hb2 hx2
  go_wp2_with fail
  refine HW2.out.mono ?_
  rintro e w3 ⟨rfl, hp3, hk3⟩
  have hs3 : w2.heap.size + 1 ≤ w3.heap.size := by have := hk3.size; rwa [World.size_alloc] at this
  have hb3 : Below w3.heap.size w3 (w3.alloc (.cells #[.slice none 0 0] TFAs)) := (Below.refl _ _).alloc (Nat.le_refl _) _
  have hx3 := (hk3.box HX2.out (by omega))
  have HX3 := Lib.hid (hx3.below hb3 (by omega))
  have HA3 := Lib.hid ((hk3.box HA2.out (by omega)).below hb3 (by omega))
  have HO3 := Lib.hid ((hk3.box HO2.out (by omega)).below hb3 (by omega))
  have HR3 := Lib.hid (((HR2.out.kept hk3 (fun b hz hx _ => by have hx : b = pb := hx; have := hz.1; omega)).kept (Kept.of_below hb3 (Nat.le_refl _) (fun _ => False)) (fun b hz hx _ => hx)).mono (Z' := fun b => w.heap.size ≤ b ∧ b < w3.heap.size) (fun b hz _ => ⟨hz.1, by have := hz.2; omega⟩))
  have HK3 := Lib.hid (KP.here (HK2.out.trans hk3) hb3)
  have HP3 := Lib.hid (hp3.below hb3)
  have HL3 := Lib.hid (Ls.empty (B := w3.heap.size) (f := Item.al) (TB := TFAs) (TE := TFA) (k := 1) (pb := pb) w3 (Nat.le_refl _))
  have HBI := Lib.hid (CasI.blk (N := N) (pb := pb) (fv := fv) (L := l) (q := p2) (total := n) (w := w) (B := w3.heap.size) (bs := w3.heap.size) (bp := w.heap.size) (ba := w1.heap.size) (bo := w2.heap.size) (D := d) (ln := p.next.ln) (col := p.next.col) (o := o) (vo := v2) hpw (by omega) (by omega) (by omega) (by omega) HP.out.size (Nat.le_refl _) (by omega) (by omega) HI2.out)
  have HBK := Lib.hid (block_any (D := d) 1 _ HP3.out HBI.out beginsPat_any (enters_of Tryz.func115 (by kernel_rfl) rfl) (enters_of Tryz.func147 (by kernel_rfl) rfl) (fun w' hp hk => ⟨⟨[], l, n, _, _, H2.out, rfl, by omega, rfl, HL3.out.kp hk (by omega)⟩, hk.box HX3.out (by omega), hk.box HA3.out (by omega), hk.box HO3.out (by omega), HR3.out.kept hk (fun b hz hx _ => by have hx : b = pb := hx; have := hz.1; omega), hp, HK3.out.trans hk, by have := hp.len; omega, Nat.le_refl _⟩))
  have y0 := hx3.cell 0
  have y1 := hx3.lt
  have HS3 := Lib.hid hs3
  clear hp3 hk3 hb3 hx3
  go_wp2_with fail
  refine HBK.out.mono ?_
  rintro e w4 ⟨rfl, d2, f2, n2, pk, w0, hI, hns, hnb, hp4, hk4⟩
  obtain ⟨l1, l2, n3, sv, vs, q1, q2, q3, q3', q4⟩ := hI.ex
  have HLN := Lib.hid (show l1.length ≤ 100000000 by have := hI.len; omega)
  obtain ⟨rfl, rfl, rfl⟩ := alts_end hns hnb q1
  rw [List.append_nil] at q2
  subst q2
  have HA4 := Lib.hid (hk4.box hI.at_ (by omega))
  have HO4 := Lib.hid (hk4.box hI.of_ (by omega))
  have HL4 := Lib.hid (q4.kp hk4 (by omega))
  have HR4 := Lib.hid (hI.el.kept hk4 (fun b hz hx _ => by have hx : b = pb := hx; have := hz.1; omega))
  have HK4 := Lib.hid (hI.kp.trans hk4)
  have HPE := Lib.hid (show (if (n2 : Int) < 1 then p2.fail 60 else p2) = (if n < 1 then p2.fail 60 else p2) by
    by_cases hn : n < 1
    · rw [if_pos hn, if_pos (by omega)]
    · rw [if_neg hn, if_neg (by omega)])
  rw [HPE.out, H9.out] at hp4
  have HP4 := Lib.hid hp4
  clear hI q1 q3 q3' q4 hp4 hk4 hns hnb
  go_wp2_with fail
  go_ret
  have hz : ∀ b, w3.heap.size ≤ b → w.heap.size ≤ b := fun b hb => by omega
  exact ⟨_, rfl, .cases_ HLN.out ⟨by omega, HO4.out⟩ ⟨by omega, HL4.out.box⟩ ⟨by omega, HA4.out⟩ (HR4.out.mono fun b hz _ => hz.1) ((HL4.out.rowz (by decide)).frame (Nat.le_refl _) (fun _ _ _ => rfl) fun b hb _ => hz b hb) (fun i t ht => (HL4.out.elr ht).mono fun b hb _ => hz b hb), HP4.out, HK4.out⟩
end Go.Proofs.YtdajihpfedbihaaGreat.Pa
/-
  CONTRACT of layer parse: a function without a name is read.
-/
namespace Go.Proofs.YtdajihpfedbihaaGreat.Pa
open Go.RowKit Mm Tm Pm
set_option linter.unusedVariables false
set_option linter.unusedSimpArgs false
abbrev TStrs : TypeId := 27
theorem params_yes {p : Pp} (h : p.next.kind = 1 ∨ isMark p.next "_" = true) : params p.rest = p.next.text :: params p.take.2.rest ∧ p.take.2.rest.length + 1 = p.rest.length := by
  have hk : p.next.kind ≠ 0 := h.elim (fun e => by omega) isMark_kind
  have hl := next_some hk
  unfold Pp.next at h hk ⊢
  unfold Pp.take at hl ⊢
  cases hr : p.rest with
  | nil => rw [hr] at hk; exact absurd rfl hk
  | cons t r =>
    rw [hr] at h
    have h : t.kind = 1 ∨ isMark t "_" = true := h
    simp only [List.headD_cons, params]
    rw [if_pos h]
    exact ⟨rfl, by simp⟩
theorem params_no {p : Pp} (h1 : ¬ p.next.kind = 1) (h2 : isMark p.next "_" = false) : params p.rest = [] := by
  unfold Pp.next at h1 h2
  cases hr : p.rest with
  | nil => rfl
  | cons t r =>
    rw [hr] at h1 h2
    have h1 : ¬ t.kind = 1 := h1
    have h2 : isMark t "_" = false := h2
    simp only [params]
    rw [if_neg (by rw [h2]; simp [h1])]
structure LamL (N pb : Nat) (fv : Value) (L : List (List UInt8)) (q : Pp) (w : World) (bs ba : Nat) (ln col : Int) (d : Nat) (wr : World) (l1 l2 : List (List UInt8)) (pk : Pp) (sv : Value) : Prop where
  run : params pk.rest = l2
  eq : L = l1 ++ l2
  tk : takes l2.length pk = q
  vs : Vs TStrs TStr 1 (ba + 1) wr bs sv l1.length (strV l1)
  at_ : Box wr ba TPos #[.int .i64 ln, .int .i64 col]
  ps : PS N wr pb pk fv
  kp : KP pb w wr
  me : d = pk.rest.length
  len : l1.length + pk.rest.length ≤ 100000000
set_option maxRecDepth 100000 in
set_option maxHeartbeats 8000000 in
theorem lambda_any {N pb d : Nat} {p p2 q9 : Pp} {fv : Value} {b : Lt} {L : List (List UInt8)} (w : World) (h : PS N w pb p fv) (hL : params p.take.2.rest = L) (h9 : (if L.length = 0 then (takes L.length p.take.2).fail 60 else takes L.length p.take.2) = q9) (h2 : expr d (q9.mark "->").2 = some (b, p2))
    (ih : ∀ p r w, expr d p = some r → PS N w pb p fv → Calls Tryz.prog 77 #[ptr pb] w (LtPost N pb fv (.lt r.1) r.2 w)) :
    Calls Tryz.prog 126 #[ptr pb] w (LtPost N pb fv (.lt (.lam L b p.next.ln p.next.col)) p2 w) := by
  obtain ⟨i0, hi0, hi1, hi2, hi3⟩ := info_parts Tstr
  have HP := Lib.hid h
  have HT := Lib.hid (take_any _ h)
  have HF := Lib.hid (take_fst p)
  have HLL := Lib.hid hL
  have H9 := Lib.hid h9
  have H2 := Lib.hid h2
  have HIH := Lib.hid ih
  have HPW := Lib.hid (show pb < w.heap.size from Nat.lt_of_lt_of_le h.lt h.size)
  clear h hL h9 h2 ih
  go_enter Tryz.func126, Tryz.ntmps126
  go_wp2_with fail
  go_step3
  go_wp2_with fail
  refine HT.out.mono ?_
  rintro e w1 ⟨rfl, hp1, hk1⟩
  rw [HF.out]
  have hf := tok_at p.next
  have hpw := HPW.out
  have hs1 : w.heap.size ≤ w1.heap.size := hk1.size
  obtain ⟨W1, hW1⟩ : ∃ W1, w1.alloc (oPos p.next.ln p.next.col) = W1 := ⟨_, rfl⟩
  have hb1 : Below w1.heap.size w1 W1 := by rw [← hW1]; exact (Below.refl _ _).alloc (Nat.le_refl _) _
  have hz1 : W1.heap.size = w1.heap.size + 1 := by rw [← hW1]; simp
  have ha1 : Box W1 w1.heap.size TPos #[.int .i64 p.next.ln, .int .i64 p.next.col] := by rw [← hW1]; exact Box.new w1 _ _
  have hb2 : Below W1.heap.size W1 (W1.alloc (.cells #[.slice none 0 0] TStrs)) := (Below.refl _ _).alloc (Nat.le_refl _) _
  have hV := Vs.empty (TB := TStrs) (TE := TStr) (k := 1) (B := w1.heap.size + 1) W1 (by omega)
  rw [hz1] at hV
  have HST := Lib.hid (LamL.mk (N := N) (pb := pb) (fv := fv) (L := L) (q := takes L.length p.take.2) (w := w) (l1 := []) (l2 := L) (pk := p.take.2) HLL.out rfl rfl hV (ha1.below hb2 (by omega)) ((hp1.below hb1).below hb2) (KP.here (KP.here hk1 hb1) hb2) rfl (by have := hp1.len; simpa using this))
  have HS1 := Lib.hid hs1
  clear hp1 hk1 hb1 ha1 hb2 hV
  go_wp2_with fail
  go_step3
  go_wp2_with fail
  clear hz1
  go_loopg [12] p.take.2.rest.length (fun d' v wr => ∃ l1 l2 pk sv, LamL N pb fv L (takes L.length p.take.2) w (w1.heap.size + 1) w1.heap.size p.next.ln p.next.col d' wr l1 l2 pk sv)
  case atStart => exact ⟨_, _, _, _, HST.out⟩
  case round =>
    obtain ⟨l1, l2, pk, sv, hI⟩ := hrel
    obtain ⟨a5, c5, rfl⟩ := hI.vs.slice
    have HI := Lib.hid hI
    have HN := Lib.hid (next_any wr hI.ps)
    clear hI
    by_cases k1 : pk.next.kind = 1
    · have q1 : (pk.next.kind == 1) = true := by simpa using k1
      have HY := Lib.hid (params_yes (p := pk) (.inl k1))
      clear k1
      go_wp2_with fail
      refine HN.out.mono ?_
      rintro e w2 ⟨rfl, hb2⟩
      have HBc := Lib.hid (hb2.alloc hb2.size (oTok pk.next))
      clear hb2

      have HTK := Lib.hid (take_any (w2.alloc (oTok pk.next)).drew ((HI.out.ps.below HBc.out).below (Below.drew (Below.refl _ _))))
      have HFK := Lib.hid (take_fst pk)
      have HVb := Lib.hid ((HI.out.vs.below HBc.out).below (Below.drew (Below.refl _ _)))
      have HAb := Lib.hid (show Box (w2.alloc (oTok pk.next)).drew w1.heap.size TPos #[.int .i64 p.next.ln, .int .i64 p.next.col] from (HI.out.at_.below HBc.out HI.out.at_.lt).drew)
      have u0 := HVb.out.box.cell 0
      have hlen5 := HI.out.len
      have hqs := HBc.out.size
      have hks := HI.out.kp.size
      have hs1 := HS1.out
      have hpw := HPW.out
      have u1 := HVb.out.box.lt
      have hnx := HY.out.2
      go_wp2_with fail
      go_region_law (first
        | (go_simp; go_at_call 84; refine HTK.out.mono ?_; rintro e w5 ⟨rfl, hp5, hk5⟩; rw [HFK.out]; unfold tokV; have hf5 := tok_text2 pk.next; have HV5 := Lib.hid (HVb.out.kp hk5 (by omega)); have HA5 := Lib.hid (hk5.box HAb.out (by omega)); have HP5 := Lib.hid hp5; have HK5 := Lib.hid (((Kept.of_below HBc.out (Nat.le_refl _) (fun b => b = pb)).drew).trans hk5); have HS5 := Lib.hid (show (w2.alloc (oTok pk.next)).heap.size ≤ w5.heap.size from hk5.size); have m0 := HV5.out.box.cell 0; have y8 := HV5.out.box.lt; have y9 := (HV5.out.box.alloc (oStr pk.next.text)).cell 0; clear hp5 hk5)
        | (refine step_append_lies _ ?_ (.tmp 19) (.tmp 23) TStrs ?_ (w1.heap.size + 1) TStr i0 _ 1 16 Tryz.underlying27 hi0 hi1 hi2 hi3 rfl (by decide) (.slice a5 l1.length c5) l1.length (strV l1) ?_ (HV5.out.own.alloc _) ⟨w5.heap.size, 0, none⟩ 1 1 [.string (toB pk.next.text)] ?_ rfl ?_ ?_ (by decide) ?_ ?_ ?_ _ rfl ?_; exact rfl; exact rfl; exact rfl; exact rfl; exact news_new w5 #[.string (toB pk.next.text)] TStr; (intro u hu; simp only [List.mem_cons, List.not_mem_nil, or_false] at hu; subst hu; rfl); (unfold maxLen; omega); omega; (simp; omega); intro g7 c7 w7 hown hgrow hat hlt7; have HM7 := Lib.hid (HV5.out.more (v7 := .slice (some ⟨g7, 0, none⟩) (l1.length + 1) c7) (by decide) hown hgrow); have hb7 := (HV5.out.box.alloc (oStr pk.next.text)).grown hgrow (fun e => HV5.out.nob (by decide) e.symm); have p0 := hb7.cell 0; have p1 := hb7.free 0; have HK7 := Lib.hid ((((Kept.refl (fun b => (Value.slice a5 l1.length c5).ownBlock = some b ∨ b = w1.heap.size + 1) w5).alloc (oStr pk.next.text)).grown hgrow (fun k hk _ => .inl hk)).setCell (a := ⟨w1.heap.size + 1, 0, none⟩) (fun _ => .inr rfl) (.slice (some ⟨g7, 0, none⟩) (l1.length + 1) c7)); clear hb7 hown hgrow hat))
      all_goals
        go_wp2_with fail
        go_roundg pk.take.2.rest.length
        case measure => have := HI.out.me; omega
        case rel =>
          have hge : ∀ b, ((Value.slice a5 l1.length c5).ownBlock = some b ∨ b = w1.heap.size + 1) → w1.heap.size + 1 ≤ b := fun b e => e.elim (fun e => (HV5.out.own.lt b e).1) (fun e => Nat.le_of_eq e.symm)
          have hm := HM7.out
          rw [← strV_snoc] at hm
          have hl2 : l2 = pk.next.text :: params pk.take.2.rest := HI.out.run.symm.trans HY.out.1
          exact ⟨l1 ++ [pk.next.text], params pk.take.2.rest, pk.take.2, _, rfl, by rw [HI.out.eq, hl2, List.append_assoc]; rfl, by have := HI.out.tk; rw [hl2] at this; exact this, by rw [List.length_append, List.length_singleton]; exact hm, HK7.out.box HA5.out (fun e => by have := hge _ e; omega), HP5.out.frame HK7.out (fun b e => by have := hge b e; have := HP.out.size; omega), kept_new (HI.out.kp.trans HK5.out) HK7.out (fun b e q => by have := hge b e; omega), rfl, by rw [List.length_append, List.length_singleton]; omega⟩
    · have q1 : (pk.next.kind == 1) = false := by simpa using k1
      cases hm : isMark pk.next "_" with
      | true =>
        have HM := Lib.hid hm
        have HY := Lib.hid (params_yes (p := pk) (.inr hm))
        clear k1 hm
        go_wp2_with fail
        refine HN.out.mono ?_
        rintro e w2 ⟨rfl, hb2⟩
        have HBc := Lib.hid (hb2.alloc hb2.size (oTok pk.next))
        clear hb2

        have HMk := Lib.hid (mark_at pk.next "_" (w2.alloc (oTok pk.next)))
        unfold oStr at HMk
        rw [lit_us, World.size_alloc, HM.out] at HMk
        have HBd := Lib.hid (HBc.out.alloc (HBc.out.size) (.cells #[.string ⟨#[95]⟩] TStr))
        go_wp2_with fail
        refine HMk.out.mono ?_
        rintro e w3 ⟨rfl, hb3⟩
        have HBe := Lib.hid (HBd.out.trans (hb3.mono HBd.out.size))
        clear hb3

        have HTK := Lib.hid (take_any (w3).drew ((HI.out.ps.below HBe.out).below (Below.drew (Below.refl _ _))))
        have HFK := Lib.hid (take_fst pk)
        have HVb := Lib.hid ((HI.out.vs.below HBe.out).below (Below.drew (Below.refl _ _)))
        have HAb := Lib.hid (show Box (w3).drew w1.heap.size TPos #[.int .i64 p.next.ln, .int .i64 p.next.col] from (HI.out.at_.below HBe.out HI.out.at_.lt).drew)
        have u0 := HVb.out.box.cell 0
        have hlen5 := HI.out.len
        have hqs := HBe.out.size
        have hks := HI.out.kp.size
        have hs1 := HS1.out
        have hpw := HPW.out
        have u1 := HVb.out.box.lt
        have hnx := HY.out.2
        go_wp2_with fail
        go_region_law (first
          | (go_simp; go_at_call 84; refine HTK.out.mono ?_; rintro e w5 ⟨rfl, hp5, hk5⟩; rw [HFK.out]; unfold tokV; have hf5 := tok_text2 pk.next; have HV5 := Lib.hid (HVb.out.kp hk5 (by omega)); have HA5 := Lib.hid (hk5.box HAb.out (by omega)); have HP5 := Lib.hid hp5; have HK5 := Lib.hid (((Kept.of_below HBe.out (Nat.le_refl _) (fun b => b = pb)).drew).trans hk5); have HS5 := Lib.hid (show (w3).heap.size ≤ w5.heap.size from hk5.size); have m0 := HV5.out.box.cell 0; have y8 := HV5.out.box.lt; have y9 := (HV5.out.box.alloc (oStr pk.next.text)).cell 0; clear hp5 hk5)
          | (refine step_append_lies _ ?_ (.tmp 19) (.tmp 23) TStrs ?_ (w1.heap.size + 1) TStr i0 _ 1 16 Tryz.underlying27 hi0 hi1 hi2 hi3 rfl (by decide) (.slice a5 l1.length c5) l1.length (strV l1) ?_ (HV5.out.own.alloc _) ⟨w5.heap.size, 0, none⟩ 1 1 [.string (toB pk.next.text)] ?_ rfl ?_ ?_ (by decide) ?_ ?_ ?_ _ rfl ?_; exact rfl; exact rfl; exact rfl; exact rfl; exact news_new w5 #[.string (toB pk.next.text)] TStr; (intro u hu; simp only [List.mem_cons, List.not_mem_nil, or_false] at hu; subst hu; rfl); (unfold maxLen; omega); omega; (simp; omega); intro g7 c7 w7 hown hgrow hat hlt7; have HM7 := Lib.hid (HV5.out.more (v7 := .slice (some ⟨g7, 0, none⟩) (l1.length + 1) c7) (by decide) hown hgrow); have hb7 := (HV5.out.box.alloc (oStr pk.next.text)).grown hgrow (fun e => HV5.out.nob (by decide) e.symm); have p0 := hb7.cell 0; have p1 := hb7.free 0; have HK7 := Lib.hid ((((Kept.refl (fun b => (Value.slice a5 l1.length c5).ownBlock = some b ∨ b = w1.heap.size + 1) w5).alloc (oStr pk.next.text)).grown hgrow (fun k hk _ => .inl hk)).setCell (a := ⟨w1.heap.size + 1, 0, none⟩) (fun _ => .inr rfl) (.slice (some ⟨g7, 0, none⟩) (l1.length + 1) c7)); clear hb7 hown hgrow hat))
        all_goals
          go_wp2_with fail
          go_roundg pk.take.2.rest.length
          case measure => have := HI.out.me; omega
          case rel =>
            have hge : ∀ b, ((Value.slice a5 l1.length c5).ownBlock = some b ∨ b = w1.heap.size + 1) → w1.heap.size + 1 ≤ b := fun b e => e.elim (fun e => (HV5.out.own.lt b e).1) (fun e => Nat.le_of_eq e.symm)
            have hm := HM7.out
            rw [← strV_snoc] at hm
            have hl2 : l2 = pk.next.text :: params pk.take.2.rest := HI.out.run.symm.trans HY.out.1
            exact ⟨l1 ++ [pk.next.text], params pk.take.2.rest, pk.take.2, _, rfl, by rw [HI.out.eq, hl2, List.append_assoc]; rfl, by have := HI.out.tk; rw [hl2] at this; exact this, by rw [List.length_append, List.length_singleton]; exact hm, HK7.out.box HA5.out (fun e => by have := hge _ e; omega), HP5.out.frame HK7.out (fun b e => by have := hge b e; have := HP.out.size; omega), kept_new (HI.out.kp.trans HK5.out) HK7.out (fun b e q => by have := hge b e; omega), rfl, by rw [List.length_append, List.length_singleton]; omega⟩
      | false =>
        have HM := Lib.hid hm
        have HNO := Lib.hid (params_no k1 hm)
        clear k1 hm
        go_wp2_with fail
        refine HN.out.mono ?_
        rintro e w2 ⟨rfl, hb2⟩
        have HBc := Lib.hid (hb2.alloc hb2.size (oTok pk.next))
        clear hb2

        have HMk := Lib.hid (mark_at pk.next "_" (w2.alloc (oTok pk.next)))
        unfold oStr at HMk
        rw [lit_us, World.size_alloc, HM.out] at HMk
        have HBd := Lib.hid (HBc.out.alloc (HBc.out.size) (.cells #[.string ⟨#[95]⟩] TStr))
        go_wp2_with fail
        refine HMk.out.mono ?_
        rintro e w3 ⟨rfl, hb3⟩
        have HBe := Lib.hid (HBd.out.trans (hb3.mono HBd.out.size))
        clear hb3

        have HE := Lib.hid (show L = l1 by rw [HI.out.eq, ← HI.out.run, HNO.out, List.append_nil])
        have HQ := Lib.hid (show takes L.length p.take.2 = pk by have := HI.out.tk; rw [← HI.out.run, HNO.out] at this; exact this.symm)
        have HVe := Lib.hid (HI.out.vs.below HBe.out)
        have HAe := Lib.hid (HI.out.at_.below HBe.out HI.out.at_.lt)
        have HPe := Lib.hid (HI.out.ps.below HBe.out)
        have HKe := Lib.hid (KP.here HI.out.kp HBe.out)
        have u0 := HVe.out.box.cell 0
        have hs1 := HS1.out
        have hpw := HPW.out
        have h9 := H9.out
        rw [HQ.out, HE.out] at h9
        by_cases h0 : l1.length = 0
        · have hq : (((l1.length : Nat) : Int) == 0) = true := by simpa using h0
          rw [if_pos h0] at h9
          have HFA := Lib.hid (fail_any 60 w3 HPe.out)
          rw [h9] at HFA
          clear h0
          go_wp2_with fail
          refine HFA.out.mono ?_
          rintro e wf ⟨rfl, hpf, hkf⟩
          have HPf := Lib.hid hpf
          have HKf := Lib.hid (HKe.out.trans hkf)
          have HVf := Lib.hid (HVe.out.kp hkf (by omega))
          have HAf := Lib.hid (hkf.box HAe.out (by omega))
          clear hpf hkf
          have HMR := Lib.hid (mark_any "->" wf HPf.out)
          rw [lit_ar] at HMR
          go_wp2_with fail
          refine HMR.out.mono ?_
          rintro e wm ⟨rfl, hpm, hkm⟩
          have HXE := Lib.hid (HIH.out _ (b, p2) wm H2.out hpm)
          have HVm := Lib.hid (HVf.out.kp hkm (by omega))
          have HAm := Lib.hid (hkm.box HAf.out (by omega))
          have HKm := Lib.hid (HKf.out.trans hkm)
          clear hpm hkm
          go_wp2_with fail
          refine HXE.out.mono ?_
          rintro e wx ⟨vx, rfl, hrx, hpx, hkx⟩
          have hnax := one_not hrx.one1
          have hstx := st_one hrx.one1
          have hbx : Below wx.heap.size wx (wx.alloc (.cells #[vx] TFE)) := (Below.refl _ _).alloc (Nat.le_refl _) _
          have HRx := Lib.hid ((hrx.kept (Kept.of_below hbx (Nat.le_refl _) (fun _ => False)) (fun b hz hx _ => hx)).mono (Z' := fun b => w.heap.size ≤ b) fun b hz _ => Nat.le_trans HKm.out.size hz)
          have HVx := Lib.hid ((HVm.out.kp hkx (by omega)).below hbx)
          have HAx := Lib.hid ((hkx.box HAm.out (by omega)).below hbx (Nat.lt_of_lt_of_le HAm.out.lt hkx.size))
          have HKx := Lib.hid (KP.here (HKm.out.trans hkx) hbx)
          have HPx := Lib.hid (hpx.below hbx)
          have HXx := Lib.hid (Box.new wx #[vx] TFE)
          have HSx := Lib.hid (Nat.le_trans HKm.out.size hkx.size)
          clear hrx hpx hkx hbx
          go_wp2_with fail
          try rw [Exit.noGoto_ret]
          go_ret
          rw [HE.out]
          have hz : ∀ b, w1.heap.size + 1 ≤ b → w.heap.size ≤ b := fun b hb => by omega
          exact ⟨_, rfl, .lam ⟨by omega, HVx.out.box⟩ ⟨HSx.out, HXx.out⟩ ⟨by omega, HAx.out⟩ (((HVx.out.rowz (by decide)).congr fun i hi => strV_el l1 i hi).frame (Nat.le_refl _) (fun _ _ _ => rfl) fun b hb _ => hz b hb) HRx.out, HPx.out, HKx.out⟩
        · have hq : (((l1.length : Nat) : Int) == 0) = false := by simpa using h0
          rw [if_neg h0] at h9
          subst h9
          clear h0
          have HMR := Lib.hid (mark_any "->" w3 HPe.out)
          rw [lit_ar] at HMR
          go_wp2_with fail
          refine HMR.out.mono ?_
          rintro e wm ⟨rfl, hpm, hkm⟩
          have HXE := Lib.hid (HIH.out _ (b, p2) wm H2.out hpm)
          have HVm := Lib.hid (HVe.out.kp hkm (by omega))
          have HAm := Lib.hid (hkm.box HAe.out (by omega))
          have HKm := Lib.hid (HKe.out.trans hkm)
          clear hpm hkm
          go_wp2_with fail
          refine HXE.out.mono ?_
          rintro e wx ⟨vx, rfl, hrx, hpx, hkx⟩
          have hnax := one_not hrx.one1
          have hstx := st_one hrx.one1
          have hbx : Below wx.heap.size wx (wx.alloc (.cells #[vx] TFE)) := (Below.refl _ _).alloc (Nat.le_refl _) _
          have HRx := Lib.hid ((hrx.kept (Kept.of_below hbx (Nat.le_refl _) (fun _ => False)) (fun b hz hx _ => hx)).mono (Z' := fun b => w.heap.size ≤ b) fun b hz _ => Nat.le_trans HKm.out.size hz)
          have HVx := Lib.hid ((HVm.out.kp hkx (by omega)).below hbx)
          have HAx := Lib.hid ((hkx.box HAm.out (by omega)).below hbx (Nat.lt_of_lt_of_le HAm.out.lt hkx.size))
          have HKx := Lib.hid (KP.here (HKm.out.trans hkx) hbx)
          have HPx := Lib.hid (hpx.below hbx)
          have HXx := Lib.hid (Box.new wx #[vx] TFE)
          have HSx := Lib.hid (Nat.le_trans HKm.out.size hkx.size)
          clear hrx hpx hkx hbx
          go_wp2_with fail
          try rw [Exit.noGoto_ret]
          go_ret
          rw [HE.out]
          have hz : ∀ b, w1.heap.size + 1 ≤ b → w.heap.size ≤ b := fun b hb => by omega
          exact ⟨_, rfl, .lam ⟨by omega, HVx.out.box⟩ ⟨HSx.out, HXx.out⟩ ⟨by omega, HAx.out⟩ (((HVx.out.rowz (by decide)).congr fun i hi => strV_el l1 i hi).frame (Nat.le_refl _) (fun _ _ _ => rfl) fun b hb _ => hz b hb) HRx.out, HPx.out, HKx.out⟩
end Go.Proofs.YtdajihpfedbihaaGreat.Pa
/-
  CONTRACTS of layer parse: operands, expressions, clauses are read, however deep.
-/
namespace Go.Proofs.YtdajihpfedbihaaGreat.Pa
open Go.RowKit Mm Tm Pm
set_option linter.unusedVariables false
set_option linter.unusedSimpArgs false
/-- the contracts of the readers of expressions, with so much fuel -/
structure ExpC (N pb : Nat) (fv : Value) (d : Nat) : Prop where
  expr : ∀ p r w, expr d p = some r → PS N w pb p fv → Calls Tryz.prog 77 #[ptr pb] w (LtPost N pb fv (.lt r.1) r.2 w)
  operand : ∀ p r w, operand d p = some r → PS N w pb p fv → Calls Tryz.prog 101 #[ptr pb] w (LtPost N pb fv (.lt r.1) r.2 w)
  aexp : ∀ p r w, aexp d p = some r → PS N w pb p fv → Calls Tryz.prog 151 #[ptr pb] w (LtPost N pb fv (.lt r.1) r.2 w)
  clause : ∀ p r w, clause d p = some r → PS N w pb p fv → Calls Tryz.prog 67 #[ptr pb] w (ClPost N pb fv r.1 r.2 w)
  bodies : ∀ s p r q w, bodies d s p = some (r, q) → PS N w pb p fv → Calls Tryz.prog 92 #[ptr pb, .string (toB (str s))] w (LtPost N pb fv (.rh r) q w)
section
variable {d : Nat} {p : Pp} {r : Lt × Pp}
theorem opd_lam (h : isMark p.next "\\" = true) (hd : operand (d + 1) p = some r) : ∃ b p2, expr d ((if (params p.take.2.rest).length = 0 then (takes (params p.take.2.rest).length p.take.2).fail 60 else takes (params p.take.2.rest).length p.take.2).mark "->").2 = some (b, p2) ∧ r = (.lam (params p.take.2.rest) b p.next.ln p.next.col, p2) := by
  rw [operand] at hd
  dsimp only at hd
  rw [if_pos h] at hd
  obtain ⟨⟨t1, p1⟩, h1, h2⟩ := Option.bind_eq_some_iff.1 hd
  exact ⟨t1, p1, h1, (Option.some.inj h2).symm⟩
theorem opd_let (h0 : isMark p.next "\\" = false) (h : isWord p.next "let" = true) (hd : operand (d + 1) p = some r) : ∃ n l p1 b p2, clauses d true (p.take.2.mark "{").2 = some (n, l, p1) ∧ expr d (((if n < 1 then p1.fail 60 else p1).mark "}").2.word "in") = some (b, p2) ∧ r = (.let_ l b p.next.ln p.next.col, p2) := by
  rw [operand] at hd
  dsimp only at hd
  rw [if_neg (by rw [h0]; simp), if_pos h] at hd
  obtain ⟨⟨n, l, p1⟩, h1, h2⟩ := Option.bind_eq_some_iff.1 hd
  dsimp only at h2
  obtain ⟨⟨b, p2⟩, h3, h4⟩ := Option.bind_eq_some_iff.1 h2
  exact ⟨n, l, p1, b, p2, h1, h3, (Option.some.inj h4).symm⟩
theorem opd_if (h0 : isMark p.next "\\" = false) (h1 : isWord p.next "let" = false) (h : isWord p.next "if" = true) (hd : operand (d + 1) p = some r) : ∃ a p1 b p2 c p3, expr d p.take.2 = some (a, p1) ∧ expr d (p1.word "then") = some (b, p2) ∧ expr d (p2.word "else") = some (c, p3) ∧ r = (.choice [a, b, c] p.next.ln p.next.col, p3) := by
  rw [operand] at hd
  dsimp only at hd
  rw [if_neg (by rw [h0]; simp), if_neg (by rw [h1]; simp), if_pos h] at hd
  obtain ⟨⟨a, p1⟩, h1, h2⟩ := Option.bind_eq_some_iff.1 hd
  dsimp only at h2
  obtain ⟨⟨b, p2⟩, h3, h4⟩ := Option.bind_eq_some_iff.1 h2
  dsimp only at h4
  obtain ⟨⟨c, p3⟩, h5, h6⟩ := Option.bind_eq_some_iff.1 h4
  exact ⟨a, p1, b, p2, c, p3, h1, h3, h5, (Option.some.inj h6).symm⟩
theorem opd_case (h0 : isMark p.next "\\" = false) (h1 : isWord p.next "let" = false) (h2 : isWord p.next "if" = false) (h : isWord p.next "case" = true) (hd : operand (d + 1) p = some r) : ∃ o p1 n l p2, expr d p.take.2 = some (o, p1) ∧ alts d true ((p1.word "of").mark "{").2 = some (n, l, p2) ∧ r = (.cases_ o l p.next.ln p.next.col, ((if n < 1 then p2.fail 60 else p2).mark "}").2) := by
  rw [operand] at hd
  dsimp only at hd
  rw [if_neg (by rw [h0]; simp), if_neg (by rw [h1]; simp), if_neg (by rw [h2]; simp), if_pos h] at hd
  obtain ⟨⟨o, p1⟩, h3, h4⟩ := Option.bind_eq_some_iff.1 hd
  dsimp only at h4
  obtain ⟨⟨n, l, p2⟩, h5, h6⟩ := Option.bind_eq_some_iff.1 h4
  exact ⟨o, p1, n, l, p2, h3, h5, (Option.some.inj h6).symm⟩
theorem opd_app (h0 : isMark p.next "\\" = false) (h1 : isWord p.next "let" = false) (h2 : isWord p.next "if" = false) (h3 : isWord p.next "case" = false) (hd : operand (d + 1) p = some r) : ∃ a p1 l p2, aexp d p = some (a, p1) ∧ aexps d p1 = some (l, p2) ∧ r = (.app (a :: l), p2) := by
  rw [operand] at hd
  dsimp only at hd
  rw [if_neg (by rw [h0]; simp), if_neg (by rw [h1]; simp), if_neg (by rw [h2]; simp), if_neg (by rw [h3]; simp)] at hd
  obtain ⟨⟨a, p1⟩, h4, h5⟩ := Option.bind_eq_some_iff.1 hd
  dsimp only at h5
  obtain ⟨⟨l, p2⟩, h6, h7⟩ := Option.bind_eq_some_iff.1 h5
  exact ⟨a, p1, l, p2, h4, h6, (Option.some.inj h7).symm⟩
end
/-- a reader called behind some looks -/
theorem LtPost.behind {N pb : Nat} {fv : Value} {it : Item} {p' : Pp} {w w1 : World} {e : Ending} {w' : World} (h : LtPost N pb fv it p' w1 e w') (hb : Below w.heap.size w w1) : LtPost N pb fv it p' w e w' := by
  obtain ⟨v, h1, h2, h3, h4⟩ := h
  exact ⟨v, h1, h2.mono fun b hz _ => Nat.le_trans hb.size hz, h3, (Kept.of_below hb (Nat.le_refl _) (fun b => b = pb)).trans h4⟩
set_option maxRecDepth 100000 in
set_option maxHeartbeats 8000000 in
theorem operand_any {N pb d : Nat} {p : Pp} {fv : Value} {r : Lt × Pp} (w : World) (h : PS N w pb p fv) (hd : operand (d + 1) p = some r) (ih : ∀ d', d' ≤ d → ExpC N pb fv d') :
    Calls Tryz.prog 101 #[ptr pb] w (LtPost N pb fv (.lt r.1) r.2 w) := by
  have i := ih d (Nat.le_refl _)
  have HP := Lib.hid h
  have HN := Lib.hid (next_any w h)
  clear h
  cases ha : isMark p.next "\\" with
  | true =>
    obtain ⟨b, p2, k1, rfl⟩ := opd_lam ha hd
    have HA := Lib.hid ha
    have HI := Lib.hid i
    have K1 := Lib.hid k1
    clear ha hd ih i k1
    go_enter Tryz.func101, Tryz.ntmps101
    go_wp2_with fail
    refine HN.out.mono ?_
    rintro e w1 ⟨rfl, hb1⟩
    have HB0 := Lib.hid (hb1.alloc hb1.size (oTok p.next))
    have HY0 := Lib.hid (Box.new w1 #[.int .i64 p.next.kind, .string (toB p.next.text), .int .i64 p.next.n, .int .i64 p.next.ln, .int .i64 p.next.col, .bool p.next.made] TTok)
    have HZ0 := Lib.hid (show (w1.alloc (oTok p.next)).heap.size = w1.heap.size + 1 by simp)
    have HMA := Lib.hid (mark_at p.next "\\" (w1.alloc (oTok p.next)))
    unfold oStr at HMA
    rw [lit_bs, World.size_alloc, HA.out] at HMA
    have HBA := Lib.hid (HB0.out.alloc (HB0.out.size) (.cells #[.string ⟨#[92]⟩] TStr))
    clear hb1
    go_wp2_with fail
    refine HMA.out.mono ?_
    rintro e w2 ⟨rfl, hb2⟩
    have HB2 := Lib.hid (HBA.out.trans (hb2.mono HBA.out.size))
    have hY2 := (HY0.out.alloc (.cells #[.string ⟨#[92]⟩] TStr)).below hb2 (by simp; omega)
    have HY2 := Lib.hid hY2
    obtain ⟨u0, u1, u2, u3, u4, u5⟩ := cells6 hY2
    have ul := hY2.lt
    clear hb2 hY2

    have HX := Lib.hid (lambda_any w2 (HP.out.below HB2.out) rfl rfl K1.out HI.out.expr)
    go_wp2_with fail
    refine HX.out.mono ?_
    rintro e w9 ⟨v9, rfl, hr9, hp9, hk9⟩
    have H9 := Lib.hid (show LtPost _ _ _ _ _ w2 (.returned v9) w9 from ⟨v9, rfl, hr9, hp9, hk9⟩)
    clear hr9 hp9 hk9
    go_wp2_with fail
    go_ret
    exact H9.out.behind HB2.out
  | false =>
    have HA := Lib.hid ha
    cases hb' : isWord p.next "let" with
    | true =>
      obtain ⟨n, l, p1, b, p2, k1, k2, rfl⟩ := opd_let ha hb' hd
      have HB := Lib.hid hb'
      have HI := Lib.hid i
      have HIH := Lib.hid ih
      have K1 := Lib.hid (And.intro k1 k2)
      clear ha hb' hd ih i k1 k2
      go_enter Tryz.func101, Tryz.ntmps101
      go_wp2_with fail
      refine HN.out.mono ?_
      rintro e w1 ⟨rfl, hb1⟩
      have HB0 := Lib.hid (hb1.alloc hb1.size (oTok p.next))
      have HY0 := Lib.hid (Box.new w1 #[.int .i64 p.next.kind, .string (toB p.next.text), .int .i64 p.next.n, .int .i64 p.next.ln, .int .i64 p.next.col, .bool p.next.made] TTok)
      have HZ0 := Lib.hid (show (w1.alloc (oTok p.next)).heap.size = w1.heap.size + 1 by simp)
      have HMA := Lib.hid (mark_at p.next "\\" (w1.alloc (oTok p.next)))
      unfold oStr at HMA
      rw [lit_bs, World.size_alloc, HA.out] at HMA
      have HBA := Lib.hid (HB0.out.alloc (HB0.out.size) (.cells #[.string ⟨#[92]⟩] TStr))
      clear hb1
      go_wp2_with fail
      refine HMA.out.mono ?_
      rintro e w2 ⟨rfl, hb2⟩
      have HB2 := Lib.hid (HBA.out.trans (hb2.mono HBA.out.size))
      have hY2 := (HY0.out.alloc (.cells #[.string ⟨#[92]⟩] TStr)).below hb2 (by simp; omega)
      have HY2 := Lib.hid hY2
      obtain ⟨u0, u1, u2, u3, u4, u5⟩ := cells6 hY2
      have ul := hY2.lt
      clear hb2 hY2

      have HM3 := Lib.hid (word_at p.next "let" w2)
      unfold oStr at HM3
      rw [lit_let, HB.out] at HM3
      have HC3 := Lib.hid (HB2.out.alloc (HB2.out.size) (.cells #[.string ⟨#[108, 101, 116]⟩] TStr))
      go_wp2_with fail
      refine HM3.out.mono ?_
      rintro e w3 ⟨rfl, hb⟩
      have HB3 := Lib.hid (HC3.out.trans (hb.mono HC3.out.size))
      have hY := (HY2.out.alloc (.cells #[.string ⟨#[108, 101, 116]⟩] TStr)).below hb (by have := HY2.out.lt; simp; omega)
      have HY3 := Lib.hid hY
      obtain ⟨u0, u1, u2, u3, u4, u5⟩ := cells6 hY
      have ul := hY.lt
      clear hb hY

      have HX := Lib.hid (let_any w3 (HP.out.below HB3.out) K1.out.1 K1.out.2 (fun d' hd => (HIH.out d' (Nat.le_of_lt hd)).clause) HI.out.expr)
      go_wp2_with fail
      refine HX.out.mono ?_
      rintro e w9 ⟨v9, rfl, hr9, hp9, hk9⟩
      have H9 := Lib.hid (show LtPost _ _ _ _ _ w3 (.returned v9) w9 from ⟨v9, rfl, hr9, hp9, hk9⟩)
      clear hr9 hp9 hk9
      go_wp2_with fail
      go_ret
      exact H9.out.behind HB3.out
    | false =>
      have HB := Lib.hid hb'
      cases hc : isWord p.next "if" with
      | true =>
        obtain ⟨a, p1, b, p2, c, p3, k1, k2, k3, rfl⟩ := opd_if ha hb' hc hd
        have HC := Lib.hid hc
        have HI := Lib.hid i
        have K1 := Lib.hid (And.intro k1 (And.intro k2 k3))
        clear ha hb' hc hd ih i k1 k2 k3
        go_enter Tryz.func101, Tryz.ntmps101
        go_wp2_with fail
        refine HN.out.mono ?_
        rintro e w1 ⟨rfl, hb1⟩
        have HB0 := Lib.hid (hb1.alloc hb1.size (oTok p.next))
        have HY0 := Lib.hid (Box.new w1 #[.int .i64 p.next.kind, .string (toB p.next.text), .int .i64 p.next.n, .int .i64 p.next.ln, .int .i64 p.next.col, .bool p.next.made] TTok)
        have HZ0 := Lib.hid (show (w1.alloc (oTok p.next)).heap.size = w1.heap.size + 1 by simp)
        have HMA := Lib.hid (mark_at p.next "\\" (w1.alloc (oTok p.next)))
        unfold oStr at HMA
        rw [lit_bs, World.size_alloc, HA.out] at HMA
        have HBA := Lib.hid (HB0.out.alloc (HB0.out.size) (.cells #[.string ⟨#[92]⟩] TStr))
        clear hb1
        go_wp2_with fail
        refine HMA.out.mono ?_
        rintro e w2 ⟨rfl, hb2⟩
        have HB2 := Lib.hid (HBA.out.trans (hb2.mono HBA.out.size))
        have hY2 := (HY0.out.alloc (.cells #[.string ⟨#[92]⟩] TStr)).below hb2 (by simp; omega)
        have HY2 := Lib.hid hY2
        obtain ⟨u0, u1, u2, u3, u4, u5⟩ := cells6 hY2
        have ul := hY2.lt
        clear hb2 hY2

        have HM3 := Lib.hid (word_at p.next "let" w2)
        unfold oStr at HM3
        rw [lit_let, HB.out] at HM3
        have HC3 := Lib.hid (HB2.out.alloc (HB2.out.size) (.cells #[.string ⟨#[108, 101, 116]⟩] TStr))
        go_wp2_with fail
        refine HM3.out.mono ?_
        rintro e w3 ⟨rfl, hb⟩
        have HB3 := Lib.hid (HC3.out.trans (hb.mono HC3.out.size))
        have hY := (HY2.out.alloc (.cells #[.string ⟨#[108, 101, 116]⟩] TStr)).below hb (by have := HY2.out.lt; simp; omega)
        have HY3 := Lib.hid hY
        obtain ⟨u0, u1, u2, u3, u4, u5⟩ := cells6 hY
        have ul := hY.lt
        clear hb hY

        have HM4 := Lib.hid (word_at p.next "if" w3)
        unfold oStr at HM4
        rw [lit_if, HC.out] at HM4
        have HC4 := Lib.hid (HB3.out.alloc (HB3.out.size) (.cells #[.string ⟨#[105, 102]⟩] TStr))
        go_wp2_with fail
        refine HM4.out.mono ?_
        rintro e w4 ⟨rfl, hb⟩
        have HB4 := Lib.hid (HC4.out.trans (hb.mono HC4.out.size))
        have hY := (HY3.out.alloc (.cells #[.string ⟨#[105, 102]⟩] TStr)).below hb (by have := HY3.out.lt; simp; omega)
        have HY4 := Lib.hid hY
        obtain ⟨u0, u1, u2, u3, u4, u5⟩ := cells6 hY
        have ul := hY.lt
        clear hb hY

        have HX := Lib.hid (choice_any w4 (HP.out.below HB4.out) K1.out.1 K1.out.2.1 K1.out.2.2 HI.out.expr)
        go_wp2_with fail
        refine HX.out.mono ?_
        rintro e w9 ⟨v9, rfl, hr9, hp9, hk9⟩
        have H9 := Lib.hid (show LtPost _ _ _ _ _ w4 (.returned v9) w9 from ⟨v9, rfl, hr9, hp9, hk9⟩)
        clear hr9 hp9 hk9
        go_wp2_with fail
        go_ret
        exact H9.out.behind HB4.out
      | false =>
        have HC := Lib.hid hc
        cases he : isWord p.next "case" with
        | true =>
          obtain ⟨oo, p1, n, l, p2, k1, k2, rfl⟩ := opd_case ha hb' hc he hd
          have HD := Lib.hid he
          have HI := Lib.hid i
          have HIH := Lib.hid ih
          have K1 := Lib.hid (And.intro k1 k2)
          clear ha hb' hc he hd ih i k1 k2
          generalize hq9 : ((if n < 1 then p2.fail 60 else p2).mark "}").2 = q9
          have HQ := Lib.hid hq9
          clear hq9
          go_enter Tryz.func101, Tryz.ntmps101
          go_wp2_with fail
          refine HN.out.mono ?_
          rintro e w1 ⟨rfl, hb1⟩
          have HB0 := Lib.hid (hb1.alloc hb1.size (oTok p.next))
          have HY0 := Lib.hid (Box.new w1 #[.int .i64 p.next.kind, .string (toB p.next.text), .int .i64 p.next.n, .int .i64 p.next.ln, .int .i64 p.next.col, .bool p.next.made] TTok)
          have HZ0 := Lib.hid (show (w1.alloc (oTok p.next)).heap.size = w1.heap.size + 1 by simp)
          have HMA := Lib.hid (mark_at p.next "\\" (w1.alloc (oTok p.next)))
          unfold oStr at HMA
          rw [lit_bs, World.size_alloc, HA.out] at HMA
          have HBA := Lib.hid (HB0.out.alloc (HB0.out.size) (.cells #[.string ⟨#[92]⟩] TStr))
          clear hb1
          go_wp2_with fail
          refine HMA.out.mono ?_
          rintro e w2 ⟨rfl, hb2⟩
          have HB2 := Lib.hid (HBA.out.trans (hb2.mono HBA.out.size))
          have hY2 := (HY0.out.alloc (.cells #[.string ⟨#[92]⟩] TStr)).below hb2 (by simp; omega)
          have HY2 := Lib.hid hY2
          obtain ⟨u0, u1, u2, u3, u4, u5⟩ := cells6 hY2
          have ul := hY2.lt
          clear hb2 hY2

          have HM3 := Lib.hid (word_at p.next "let" w2)
          unfold oStr at HM3
          rw [lit_let, HB.out] at HM3
          have HC3 := Lib.hid (HB2.out.alloc (HB2.out.size) (.cells #[.string ⟨#[108, 101, 116]⟩] TStr))
          go_wp2_with fail
          refine HM3.out.mono ?_
          rintro e w3 ⟨rfl, hb⟩
          have HB3 := Lib.hid (HC3.out.trans (hb.mono HC3.out.size))
          have hY := (HY2.out.alloc (.cells #[.string ⟨#[108, 101, 116]⟩] TStr)).below hb (by have := HY2.out.lt; simp; omega)
          have HY3 := Lib.hid hY
          obtain ⟨u0, u1, u2, u3, u4, u5⟩ := cells6 hY
          have ul := hY.lt
          clear hb hY

          have HM4 := Lib.hid (word_at p.next "if" w3)
          unfold oStr at HM4
          rw [lit_if, HC.out] at HM4
          have HC4 := Lib.hid (HB3.out.alloc (HB3.out.size) (.cells #[.string ⟨#[105, 102]⟩] TStr))
          go_wp2_with fail
          refine HM4.out.mono ?_
          rintro e w4 ⟨rfl, hb⟩
          have HB4 := Lib.hid (HC4.out.trans (hb.mono HC4.out.size))
          have hY := (HY3.out.alloc (.cells #[.string ⟨#[105, 102]⟩] TStr)).below hb (by have := HY3.out.lt; simp; omega)
          have HY4 := Lib.hid hY
          obtain ⟨u0, u1, u2, u3, u4, u5⟩ := cells6 hY
          have ul := hY.lt
          clear hb hY

          have HM5 := Lib.hid (word_at p.next "case" w4)
          unfold oStr at HM5
          rw [lit_case, HD.out] at HM5
          have HC5 := Lib.hid (HB4.out.alloc (HB4.out.size) (.cells #[.string ⟨#[99, 97, 115, 101]⟩] TStr))
          go_wp2_with fail
          refine HM5.out.mono ?_
          rintro e w5 ⟨rfl, hb⟩
          have HB5 := Lib.hid (HC5.out.trans (hb.mono HC5.out.size))
          have hY := (HY4.out.alloc (.cells #[.string ⟨#[99, 97, 115, 101]⟩] TStr)).below hb (by have := HY4.out.lt; simp; omega)
          have HY5 := Lib.hid hY
          obtain ⟨u0, u1, u2, u3, u4, u5⟩ := cells6 hY
          have ul := hY.lt
          clear hb hY

          have HX := Lib.hid (cases_any w5 HQ.out (HP.out.below HB5.out) K1.out.1 K1.out.2 HI.out.expr (fun d' hd => (HIH.out d' (Nat.le_of_lt hd)).bodies "->"))
          go_wp2_with fail
          refine HX.out.mono ?_
          rintro e w9 ⟨v9, rfl, hr9, hp9, hk9⟩
          have H9 := Lib.hid (show LtPost _ _ _ _ _ w5 (.returned v9) w9 from ⟨v9, rfl, hr9, hp9, hk9⟩)
          clear hr9 hp9 hk9
          go_wp2_with fail
          go_ret
          exact H9.out.behind HB5.out
        | false =>
          obtain ⟨a, p1, l, p2, k1, k2, rfl⟩ := opd_app ha hb' hc he hd
          have HD := Lib.hid he
          have HIH := Lib.hid ih
          have K1 := Lib.hid (And.intro k1 k2)
          clear ha hb' hc he hd ih i k1 k2
          go_enter Tryz.func101, Tryz.ntmps101
          go_wp2_with fail
          refine HN.out.mono ?_
          rintro e w1 ⟨rfl, hb1⟩
          have HB0 := Lib.hid (hb1.alloc hb1.size (oTok p.next))
          have HY0 := Lib.hid (Box.new w1 #[.int .i64 p.next.kind, .string (toB p.next.text), .int .i64 p.next.n, .int .i64 p.next.ln, .int .i64 p.next.col, .bool p.next.made] TTok)
          have HZ0 := Lib.hid (show (w1.alloc (oTok p.next)).heap.size = w1.heap.size + 1 by simp)
          have HMA := Lib.hid (mark_at p.next "\\" (w1.alloc (oTok p.next)))
          unfold oStr at HMA
          rw [lit_bs, World.size_alloc, HA.out] at HMA
          have HBA := Lib.hid (HB0.out.alloc (HB0.out.size) (.cells #[.string ⟨#[92]⟩] TStr))
          clear hb1
          go_wp2_with fail
          refine HMA.out.mono ?_
          rintro e w2 ⟨rfl, hb2⟩
          have HB2 := Lib.hid (HBA.out.trans (hb2.mono HBA.out.size))
          have hY2 := (HY0.out.alloc (.cells #[.string ⟨#[92]⟩] TStr)).below hb2 (by simp; omega)
          have HY2 := Lib.hid hY2
          obtain ⟨u0, u1, u2, u3, u4, u5⟩ := cells6 hY2
          have ul := hY2.lt
          clear hb2 hY2

          have HM3 := Lib.hid (word_at p.next "let" w2)
          unfold oStr at HM3
          rw [lit_let, HB.out] at HM3
          have HC3 := Lib.hid (HB2.out.alloc (HB2.out.size) (.cells #[.string ⟨#[108, 101, 116]⟩] TStr))
          go_wp2_with fail
          refine HM3.out.mono ?_
          rintro e w3 ⟨rfl, hb⟩
          have HB3 := Lib.hid (HC3.out.trans (hb.mono HC3.out.size))
          have hY := (HY2.out.alloc (.cells #[.string ⟨#[108, 101, 116]⟩] TStr)).below hb (by have := HY2.out.lt; simp; omega)
          have HY3 := Lib.hid hY
          obtain ⟨u0, u1, u2, u3, u4, u5⟩ := cells6 hY
          have ul := hY.lt
          clear hb hY

          have HM4 := Lib.hid (word_at p.next "if" w3)
          unfold oStr at HM4
          rw [lit_if, HC.out] at HM4
          have HC4 := Lib.hid (HB3.out.alloc (HB3.out.size) (.cells #[.string ⟨#[105, 102]⟩] TStr))
          go_wp2_with fail
          refine HM4.out.mono ?_
          rintro e w4 ⟨rfl, hb⟩
          have HB4 := Lib.hid (HC4.out.trans (hb.mono HC4.out.size))
          have hY := (HY3.out.alloc (.cells #[.string ⟨#[105, 102]⟩] TStr)).below hb (by have := HY3.out.lt; simp; omega)
          have HY4 := Lib.hid hY
          obtain ⟨u0, u1, u2, u3, u4, u5⟩ := cells6 hY
          have ul := hY.lt
          clear hb hY

          have HM5 := Lib.hid (word_at p.next "case" w4)
          unfold oStr at HM5
          rw [lit_case, HD.out] at HM5
          have HC5 := Lib.hid (HB4.out.alloc (HB4.out.size) (.cells #[.string ⟨#[99, 97, 115, 101]⟩] TStr))
          go_wp2_with fail
          refine HM5.out.mono ?_
          rintro e w5 ⟨rfl, hb⟩
          have HB5 := Lib.hid (HC5.out.trans (hb.mono HC5.out.size))
          have hY := (HY4.out.alloc (.cells #[.string ⟨#[99, 97, 115, 101]⟩] TStr)).below hb (by have := HY4.out.lt; simp; omega)
          have HY5 := Lib.hid hY
          obtain ⟨u0, u1, u2, u3, u4, u5⟩ := cells6 hY
          have ul := hY.lt
          clear hb hY

          have HX := Lib.hid (apply_any w5 (HP.out.below HB5.out) K1.out.1 K1.out.2 (fun d' hd => (HIH.out d' hd).aexp))
          go_wp2_with fail
          refine HX.out.mono ?_
          rintro e w9 ⟨v9, rfl, hr9, hp9, hk9⟩
          have H9 := Lib.hid (show LtPost _ _ _ _ _ w5 (.returned v9) w9 from ⟨v9, rfl, hr9, hp9, hk9⟩)
          clear hr9 hp9 hk9
          go_wp2_with fail
          go_ret
          exact H9.out.behind HB5.out
theorem expr_parts {d : Nat} {p : Pp} {r : Lt × Pp} (hd : expr (d + 1) p = some r) : ∃ a p1 l ops p2, operand d p = some (a, p1) ∧ more d p1 = some (l, ops, p2) ∧ r = (.row (a :: l) ops, p2) := by
  rw [expr] at hd
  obtain ⟨⟨a, p1⟩, h1, h2⟩ := Option.bind_eq_some_iff.1 hd
  dsimp only at h2
  obtain ⟨⟨l, ops, p2⟩, h3, h4⟩ := Option.bind_eq_some_iff.1 h2
  exact ⟨a, p1, l, ops, p2, h1, h3, (Option.some.inj h4).symm⟩
theorem exprs_any (N pb : Nat) (fv : Value) : ∀ d, ExpC N pb fv d := by
  intro d
  induction d using Nat.strongRecOn with
  | _ d ih =>
    cases d with
    | zero => exact ⟨fun p r w h => by simp [Pa.expr] at h, fun p r w h => by simp [Pa.operand] at h, fun p r w h => by simp [Pa.aexp] at h, fun p r w h => by simp [Pa.clause] at h, fun s p r q w h => by simp [Pa.bodies] at h⟩
    | succ d =>
      have i := ih d (Nat.lt_succ_self d)
      refine ⟨fun p r w h hp => ?_, fun p r w h hp => operand_any w hp h fun d' hd => ih d' (Nat.lt_succ_of_le hd), fun p r w h hp => aexp_any w hp h i.expr, fun p r w h hp => clause_any w hp h (i.bodies "="), fun s p r q w h hp => bodies_any s w hp h fun d' hd => (ih d' (Nat.lt_succ_of_le hd)).expr⟩
      obtain ⟨a, p1, l, ops, p2, h1, h2, rfl⟩ := expr_parts h
      exact expr_any w hp h1 h2 fun d' hd => (ih d' (Nat.lt_succ_of_le hd)).operand
end Go.Proofs.YtdajihpfedbihaaGreat.Pa
