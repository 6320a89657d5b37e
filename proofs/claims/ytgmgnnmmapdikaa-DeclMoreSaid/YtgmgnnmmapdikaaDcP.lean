/-
  PLAIN MATHEMATICS AND WORDS of layer decl: declarations that are read; the constructors that they make.
-/
import Derived.Test.YtgmgnnmmapdikaaDcO
namespace Go.Proofs.Ytgmgnnmmapdikaa.Dc
open Go.RowKit Mm Tm Mv Go.Maps Go.ChangeMaps Go.MapKept Go.WideMaps
set_option linter.unusedVariables false
set_option linter.unusedSimpArgs false
/-- a constructor as it is declared -/
structure CnS where
  name : ByteArray
  fields : List Ty
/-- a data type as it is declared -/
structure DataS where
  name : ByteArray
  params : List ByteArray
  cons : List CnS
def CnAt (Z : Nat → Prop) (w : World) (a : Option Addr) (k : Nat) (x : CnS) : Prop :=
  ∃ ad af cf ln co, a = some ad ∧ Z ad.block ∧ w.cell? (ad.add (k * 4)) = some (.string x.name) ∧ w.cell? ⟨(ad.add (k * 4)).block, (ad.add (k * 4)).off + 1, none⟩ = some (.slice af x.fields.length cf) ∧ w.cell? ⟨(ad.add (k * 4)).block, (ad.add (k * 4)).off + 2, none⟩ = some (.int .i64 ln) ∧
      w.cell? ⟨(ad.add (k * 4)).block, (ad.add (k * 4)).off + 3, none⟩ = some (.int .i64 co) ∧ x.name.size ≤ 9223372036854775807 ∧ x.fields.length * 56 ≤ 140737488355328 ∧ RdT Z w af (Tys.ofL x.fields) 0
def RdCn (Z : Nat → Prop) (w : World) (a : Option Addr) (l : List CnS) : Prop := ∀ (i : Nat) x, l[i]? = some x → CnAt Z w a i x
def DAt (Z : Nat → Prop) (w : World) (a : Option Addr) (k : Nat) (x : DataS) : Prop :=
  ∃ ad ap cp ac cc ln co, a = some ad ∧ Z ad.block ∧ w.cell? (ad.add (k * 5)) = some (.string x.name) ∧ w.cell? ⟨(ad.add (k * 5)).block, (ad.add (k * 5)).off + 1, none⟩ = some (.slice ap x.params.length cp) ∧ w.cell? ⟨(ad.add (k * 5)).block, (ad.add (k * 5)).off + 2, none⟩ = some (.slice ac x.cons.length cc) ∧
      w.cell? ⟨(ad.add (k * 5)).block, (ad.add (k * 5)).off + 3, none⟩ = some (.int .i64 ln) ∧ w.cell? ⟨(ad.add (k * 5)).block, (ad.add (k * 5)).off + 4, none⟩ = some (.int .i64 co) ∧ x.name.size ≤ 9223372036854775807 ∧ RdS Z w ap x.params ∧ RdCn Z w ac x.cons
/-- declarations that are read, in blocks of Z -/
def RdD (Z : Nat → Prop) (w : World) (a : Option Addr) (l : List DataS) : Prop := ∀ (i : Nat) x, l[i]? = some x → DAt Z w a i x
theorem CnAt.below {Z : Nat → Prop} {B : Nat} {w w' : World} {a : Option Addr} {k : Nat} {x : CnS} (h : CnAt Z w a k x) (hb : Below B w w') (hz : ∀ b, Z b → b < B) : CnAt Z w' a k x := by
  obtain ⟨ad, af, cf, ln, co, h1, h2, h3, h4, h5, h6, h7, h8, h9⟩ := h
  have q : (ad.add (k * 4)).block < B := by rw [add_block]; exact hz _ h2
  exact ⟨ad, af, cf, ln, co, h1, h2, (hb.cell q).trans h3, (hb.cell (p := ⟨_, _, none⟩) q).trans h4, (hb.cell (p := ⟨_, _, none⟩) q).trans h5, (hb.cell (p := ⟨_, _, none⟩) q).trans h6, h7, h8, h9.below hb hz⟩
theorem RdCn.below {Z : Nat → Prop} {B : Nat} {w w' : World} {a : Option Addr} {l : List CnS} (h : RdCn Z w a l) (hb : Below B w w') (hz : ∀ b, Z b → b < B) : RdCn Z w' a l := fun i x hx => (h i x hx).below hb hz
theorem DAt.below {Z : Nat → Prop} {B : Nat} {w w' : World} {a : Option Addr} {k : Nat} {x : DataS} (h : DAt Z w a k x) (hb : Below B w w') (hz : ∀ b, Z b → b < B) : DAt Z w' a k x := by
  obtain ⟨ad, ap, cp, ac, cc, ln, co, h1, h2, h3, h4, h5, h6, h7, h8, h9, h10⟩ := h
  have q : (ad.add (k * 5)).block < B := by rw [add_block]; exact hz _ h2
  exact ⟨ad, ap, cp, ac, cc, ln, co, h1, h2, (hb.cell q).trans h3, (hb.cell (p := ⟨_, _, none⟩) q).trans h4, (hb.cell (p := ⟨_, _, none⟩) q).trans h5, (hb.cell (p := ⟨_, _, none⟩) q).trans h6, (hb.cell (p := ⟨_, _, none⟩) q).trans h7, h8, h9.below hb hz, h10.below hb hz⟩
theorem RdD.below {Z : Nat → Prop} {B : Nat} {w w' : World} {a : Option Addr} {l : List DataS} (h : RdD Z w a l) (hb : Below B w w') (hz : ∀ b, Z b → b < B) : RdD Z w' a l := fun i x hx => (h i x hx).below hb hz
theorem RdD.frame {Z Z' : Nat → Prop} {w : World} {a : Option Addr} {l : List DataS} (h : RdD Z w a l) (hz : ∀ b, Z b → Z' b) : RdD Z' w a l := fun i x hx => by
  obtain ⟨ad, ap, cp, ac, cc, ln, co, h1, h2, h3, h4, h5, h6, h7, h8, h9, h10⟩ := h i x hx
  refine ⟨ad, ap, cp, ac, cc, ln, co, h1, hz _ h2, h3, h4, h5, h6, h7, h8, h9.mono hz, fun j y hy => ?_⟩
  obtain ⟨ad, af, cf, ln, co, h1, h2, h3, h4, h5, h6, h7, h8, h9⟩ := h10 j y hy
  exact ⟨ad, af, cf, ln, co, h1, hz _ h2, h3, h4, h5, h6, h7, h8, h9.mono hz⟩
theorem RdD.mono6 {B B' : Nat} {w : World} {a : Option Addr} {l : List DataS} (h : RdD (· < B) w a l) (hle : B ≤ B') : RdD (· < B') w a l := h.frame fun b hb => Nat.lt_of_lt_of_le hb hle
/-- a declared constructor, numbered -/
def conD (d : DataS) (p : CnS × Nat) : ConS := ⟨p.1.name, d.name, p.2, d.params.length, p.1.fields.map (numX (placeF d.params))⟩
def consD (d : DataS) : List ConS := d.cons.zipIdx.map (conD d)
/-- all constructors of declarations -/
def consOf (l : List DataS) : List ConS := [cFalse, cTrue] ++ l.flatMap consD
/-- all data types of declarations -/
def dlOf (l : List DataS) : List (ByteArray × Int) := [(bInt, 0), (bBool, 0)] ++ l.map fun d => (d.name, (d.params.length : Int))
theorem consD_len (d : DataS) : (consD d).length = d.cons.length := by simp [consD]
theorem consD_take (d : DataS) {j : Nat} (hj : j < d.cons.length) : (consD d).take (j + 1) = (consD d).take j ++ [conD d (d.cons[j], j)] := by
  rw [List.take_add_one, List.getElem?_eq_getElem (by rw [consD_len]; exact hj)]
  simp [consD]
theorem consOf_snoc (l : List DataS) (d : DataS) : consOf (l ++ [d]) = consOf l ++ consD d := by
  unfold consOf
  rw [List.flatMap_append, List.append_assoc]
  simp
theorem dlOf_snoc (l : List DataS) (d : DataS) : dlOf (l ++ [d]) = dlOf l ++ [(d.name, (d.params.length : Int))] := by
  unfold dlOf
  rw [List.map_append, List.append_assoc]
  rfl
theorem consD_data {d : DataS} {x : ConS} (h : x ∈ consD d) : x.data = d.name := by
  obtain ⟨p, _, rfl⟩ := List.mem_map.1 h
  rfl
theorem consOf_data {l : List DataS} {x : ConS} (h : x ∈ consOf l) : x.data = bBool ∨ ∃ d ∈ l, x.data = d.name := by
  rcases List.mem_append.1 h with q | q
  · simp only [List.mem_cons, List.not_mem_nil, or_false] at q
    rcases q with rfl | rfl <;> exact .inl rfl
  · obtain ⟨d, hd, hx⟩ := List.mem_flatMap.1 q
    exact .inr ⟨d, hd, consD_data hx⟩
theorem consOf_len {l : List DataS} (h : ∀ d ∈ l, d.cons.length ≤ 1000) : (consOf l).length ≤ 2 + l.length * 1000 := by
  unfold consOf
  rw [List.length_append, List.length_flatMap]
  have : (l.map fun d => (consD d).length).sum ≤ l.length * 1000 := by
    induction l with
    | nil => simp
    | cons d l ih =>
      have h1 := ih fun x hx => h x (by simp [hx])
      have h2 := h d (by simp)
      simp only [List.map_cons, List.sum_cons, List.length_cons, consD_len] at h1 ⊢
      omega
  simp only [List.length_cons, List.length_nil]
  omega
/-- the next constructor's place -/
theorem tag_is {l : List DataS} (hnd : ((dlOf l).map Prod.fst).Nodup) {i : Nat} (hi : i < l.length) (j : Nat) (hj : j ≤ l[i].cons.length) : (ofD (consOf (l.take i) ++ (consD l[i]).take j) l[i].name).length = j := by
  have hne : ∀ x ∈ consOf (l.take i), ¬ x.data = l[i].name := by
    intro x hx e
    unfold dlOf at hnd
    rw [List.map_append, List.nodup_append] at hnd
    obtain ⟨_, h2, h3⟩ := hnd
    rcases consOf_data hx with q | ⟨d, hd, q⟩
    · exact h3 bBool (by simp) l[i].name (by rw [List.map_map]; exact List.mem_map.2 ⟨l[i], List.getElem_mem hi, rfl⟩) (q.symm.trans e)
    · obtain ⟨k, hk, rfl⟩ := List.getElem_of_mem hd
      rw [List.length_take] at hk
      rw [List.getElem_take] at q
      have := (List.pairwise_iff_getElem.1 h2) k i (by simp; omega) (by simpa using hi) (by omega)
      exact this (by simp only [List.getElem_map]; exact q.symm.trans e)
  unfold ofD
  rw [List.filter_append, List.filter_eq_nil_iff.2 (fun x hx => by simpa using hne x hx), List.nil_append, List.filter_eq_self.2 (fun x hx => by simpa using consD_data (List.mem_of_mem_take hx)), List.length_take, consD_len]
  omega
/-- a type is right over data types and params, but for what it is made of -/
def HeadD (dl : List (ByteArray × Int)) (F : FM) (x : Ty) : Prop := (x.kd = 1 ∧ (F x.nm.data.toList).isSome = true) ∨ (x.kd = 2 ∧ (x.nm, (x.args.len : Int)) ∈ dl) ∨ (x.kd = 3 ∧ x.args.len = 2)
def OKD (dl : List (ByteArray × Int)) (F : FM) : Tys → Prop
  | .nil => True
  | .cons kd n nm args rest => HeadD dl F ⟨kd, n, nm, args⟩ ∧ OKD dl F args ∧ OKD dl F rest
theorem OKD.okt {dl : List (ByteArray × Int)} {F F1 : FM} (h : ∀ d ∈ dl, ∃ a k c, F1 d.1.data.toList = some (.agg #[.int .i64 d.2, .slice a k c])) : ∀ {t : Tys}, OKD dl F t → OKT F1 F t
  | .nil, _ => trivial
  | .cons kd n nm args rest, ⟨h1, h2, h3⟩ => ⟨by
    rcases h1 with q | ⟨q1, q2⟩ | q
    · exact .inl q
    · exact .inr (.inl ⟨q1, h _ q2⟩)
    · exact .inr (.inr q), OKD.okt h h2, OKD.okt h h3⟩
/-- nothing is wrong with declarations -/
structure OKL (l : List DataS) : Prop where
  names : ((dlOf l).map Prod.fst).Nodup
  params : ∀ d ∈ l, d.params.Nodup
  cons : ((consOf l).map ConS.name).Nodup
  types : ∀ d ∈ l, ∀ c ∈ d.cons, OKD (dlOf l) (placeF d.params) (Tys.ofL c.fields)
theorem nodup_last {α β : Type} {f : α → β} {l m : List α} {x : α} (h : (l.map f).Nodup) (hp : m ++ [x] <+: l) : ∀ y ∈ m, f y ≠ f x := by
  intro y hy e
  have h2 : ((m ++ [x]).map f).Nodup := h.sublist (hp.sublist.map f)
  rw [List.map_append, List.nodup_append] at h2
  exact h2.2.2 (f y) (List.mem_map_of_mem hy) (f x) (by simp) e
theorem dl_new {l : List DataS} (h : OKL l) {k : Nat} (hk : k < l.length) : ∀ d ∈ dlOf (l.take k), d.1 ≠ l[k].name := by
  have e : dlOf (l.take (k + 1)) = dlOf (l.take k) ++ [(l[k].name, (l[k].params.length : Int))] := by
    rw [List.take_add_one, List.getElem?_eq_getElem hk]
    exact dlOf_snoc _ _
  refine fun d hd => nodup_last (f := Prod.fst) h.names (x := (l[k].name, (l[k].params.length : Int))) (m := dlOf (l.take k)) ?_ d hd
  rw [← e]
  unfold dlOf
  exact (List.prefix_append_right_inj _).2 ((List.take_prefix _ l).map _)
theorem con_new {l : List DataS} (h : OKL l) {i : Nat} (hi : i < l.length) {j : Nat} (hj : j < l[i].cons.length) : ∀ z ∈ consOf (l.take i) ++ (consD l[i]).take j, z.name ≠ l[i].cons[j].name := by
  have e : consOf (l.take (i + 1)) = consOf (l.take i) ++ consD l[i] := by
    rw [List.take_add_one, List.getElem?_eq_getElem hi]
    exact consOf_snoc _ _
  refine fun z hz => nodup_last (f := ConS.name) h.cons (x := conD l[i] (l[i].cons[j], j)) (m := consOf (l.take i) ++ (consD l[i]).take j) ?_ z hz
  rw [List.append_assoc, ← consD_take l[i] hj]
  have h1 : consOf (l.take i) ++ (consD l[i]).take (j + 1) <+: consOf (l.take (i + 1)) := by
    rw [e]
    exact (List.prefix_append_right_inj _).2 (List.take_prefix _ _)
  refine h1.trans ?_
  unfold consOf
  refine (List.prefix_append_right_inj _).2 ?_
  obtain ⟨r, hr⟩ := List.take_prefix (i + 1) l
  exact ⟨r.flatMap consD, by conv => rhs; rw [← hr, List.flatMap_append]⟩
/-- a constructor's name is new -/
theorem TabM.wrong {B : Nat} {w : World} {tb m1 m2 n mb nb : Nat} {cs : List ConS} {dl : List (ByteArray × Int)} {F : FM} (h : TabM B w tb m1 m2 n cs dl) (hp : MapIs w Try.prog TS mb nb F) (hi : IntF F) {nm : ByteArray} {fl : List Ty} {af : Option Addr} {cf : Nat} {ln co : Int} (hs : nm.size ≤ 9223372036854775807) (hr : RdT (· < w.heap.size) w af (Tys.ofL fl) 0) (hl : fl.length * 56 ≤ 140737488355328) :
    Calls Try.prog 18 #[.pointer (some ⟨tb, 0, none⟩), cnV nm af fl.length cf ln co, .map (some mb)] w fun e w' => ∃ c : Int, e = .returned (.int .i64 c) ∧ Below w.heap.size w w' ∧ ((∀ x ∈ cs, x.name ≠ nm) ∧ OKD dl F (Tys.ofL fl) → c = 0) ∧ (c = 0 → ∀ x ∈ cs, x.name ≠ nm) := by
  obtain ⟨F1, hL, hdv⟩ := h.look hp hi
  obtain ⟨_, F2, vo, V, h1, h2, h3, h4, h5, h6⟩ := h.ex
  have hF : F2 nm.data.toList = none ∨ ∃ x a c, F2 nm.data.toList = some (conV x a c) := by
    by_cases e : ∀ x ∈ cs, x.name.data.toList ≠ nm.data.toList
    · exact .inl (h5 _ e)
    · obtain ⟨x, hx⟩ := Classical.not_forall.1 e
      obtain ⟨hx, hs⟩ := Classical.not_imp.1 hx
      have hs := Classical.not_not.1 hs
      obtain ⟨a, c, k, _⟩ := h4 x hx
      exact .inr ⟨x, a, c, by rw [← hs]; exact k⟩
  have := wrong_any (nm := nm) (t := Tys.ofL fl) (af := af) (cf := cf) (ln := ln) (co := co) w hL h1.map2 (h1.box.cell 1) hF hs hr (by rw [Tys.len_ofL]; exact hl)
  rw [Tys.len_ofL] at this
  refine this.mono ?_
  rintro e w' ⟨c, rfl, hb, hok, hc⟩
  refine ⟨c, rfl, hb, fun q => hok ⟨h5 _ fun x hx => bytes_ne (q.1 x hx), q.2.okt hdv⟩, fun e x hx q => ?_⟩
  obtain ⟨a, c, k, _⟩ := h4 x hx
  rw [q, hc e] at k
  cases k
end Go.Proofs.Ytgmgnnmmapdikaa.Dc
