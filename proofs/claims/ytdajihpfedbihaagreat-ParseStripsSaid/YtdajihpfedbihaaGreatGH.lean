/-
  WORDS on layer parse: a row of what was read beside rows of plain cells, while both grow.
-/
import Derived.Test.YtdajihpfedbihaaGreatGF

namespace Go.Proofs.YtdajihpfedbihaaGreat.Pa
open Go.RowKit Mm Tm Pm
set_option linter.unusedVariables false
set_option linter.unusedSimpArgs false
/-- as Ls, but apart from blocks of A -/
structure LsA {α : Type} (f : α → Item) (A : Nat → Prop) (TB TE : TypeId) (k pb B : Nat) (w : World) (bs : Nat) (sv : Value) (l : List α) (vs : List Value) : Prop where
  box : Box w bs TB #[sv]
  own : w.ownsRow B TE k sv l.length vs
  el : ∀ i t, l[i]? = some t → R pb (fun b => B ≤ b ∧ b ≠ bs ∧ sv.ownBlock ≠ some b ∧ ¬ A b) w (f t) (elC vs k i)
  hbs : B ≤ bs
  nob : sv.ownBlock ≠ some bs
  ab : ¬ A bs
  ao : ∀ g, sv.ownBlock = some g → ¬ A g
section
variable {α : Type} {f : α → Item} {A A' : Nat → Prop} {TB TE : TypeId} {k pb B : Nat} {w w' : World} {bs : Nat} {sv : Value} {l : List α} {vs : List Value}
theorem LsA.kept (h : LsA f A TB TE k pb B w bs sv l vs) {X : Nat → Prop} (hk : Kept X w w') (hX : ∀ b, X b → b < w.heap.size → B ≤ b → A b) : LsA f A TB TE k pb B w' bs sv l vs := by
  refine ⟨hk.box h.box fun x => h.ab (hX _ x h.box.lt h.hbs), ⟨h.own.1, ?_⟩, fun i t ht => (h.el i t ht).kept hk fun b hz hx hl => hz.2.2.2 (hX b hx hl hz.1), h.hbs, h.nob, h.ab, h.ao⟩
  rcases h.own.2 with q | ⟨g, cap, cur, rfl, hg, hh, r⟩
  · exact .inl q
  · exact .inr ⟨g, cap, cur, rfl, hg, (hk.block g (lt_of_block hh) fun x => h.ao g rfl (hX g x (lt_of_block hh) hg)).trans hh, r⟩
theorem LsA.below (h : LsA f A TB TE k pb B w bs sv l vs) (hb : Below w.heap.size w w') : LsA f A TB TE k pb B w' bs sv l vs := h.kept (X := fun _ => False) (Kept.of_below hb (Nat.le_refl _) _) fun b q => q.elim
theorem LsA.kp (h : LsA f A TB TE k pb B w bs sv l vs) (hk : KP pb w w') (hp : pb < B) : LsA f A TB TE k pb B w' bs sv l vs := h.kept hk fun b e _ hB => by have e : b = pb := e; omega
/-- other blocks to be apart from: those that are there are apart already -/
theorem LsA.apart (h : LsA f A TB TE k pb B w bs sv l vs) (hA : ∀ b, b < w.heap.size → A' b → A b) : LsA f A' TB TE k pb B w bs sv l vs :=
  ⟨h.box, h.own, fun i t ht => (h.el i t ht).mono fun b hz hl => ⟨hz.1, hz.2.1, hz.2.2.1, fun q => hz.2.2.2 (hA b hl q)⟩, h.hbs, h.nob, fun q => h.ab (hA _ h.box.lt q), fun g e q => h.ao g e (hA g (h.own.lt g e).2 q)⟩
theorem LsA.slice (h : LsA f A TB TE k pb B w bs sv l vs) : ∃ a c, sv = .slice a l.length c := own_slice h.own
theorem LsA.more (h : LsA f A TB TE k pb B w bs sv l vs) {t : α} {new : List Value} {S : Nat} {w7 : World} {v7 : Value} {o : Obj} (hn : new.length = k) (hr : R pb (fun b => S ≤ b) w (f t) new) (hS1 : bs < S) (hS2 : ∀ g, sv.ownBlock = some g → g < S) (hS3 : B ≤ S) (hA : ∀ b, A b → b < S) (hAw : ∀ b, A b → b < w.heap.size) (hT : TE ≠ TB)
    (hown : w7.ownsRow B TE k v7 (l.length + 1) (vs ++ new)) (hg : (w.alloc o).grownBy w7 sv.ownBlock) (hat : v7.ownBlock = sv.ownBlock ∨ v7.ownBlock = some (w.alloc o).heap.size) :
    LsA f A TB TE k pb B (w7.setCell ⟨bs, 0, none⟩ v7) bs v7 (l ++ [t]) (vs ++ new) := by
  have hsz : (w.alloc o).heap.size = w.heap.size + 1 := by simp
  have hb7 : Box w7 bs TB #[sv] := (h.box.alloc o).grown hg (fun e => h.nob e.symm)
  have hnb : v7.ownBlock ≠ some bs := by
    rcases hat with q | q
    · rw [q]; exact h.nob
    · rw [q, hsz]; intro e; injection e with e; have := h.box.lt; omega
  have fr : ∀ {it : Item} {us : List Value} {Z : Nat → Prop}, R pb Z w it us → (∀ b, Z b → b < w.heap.size → B ≤ b ∧ b ≠ bs ∧ sv.ownBlock ≠ some b ∧ ¬ A b) → R pb (fun b => B ≤ b ∧ b ≠ bs ∧ v7.ownBlock ≠ some b ∧ ¬ A b) (w7.setCell ⟨bs, 0, none⟩ v7) it us := by
    intro it us Z hR hZ
    refine hR.frame ?_ (fun b hz hl => ?_) fun b hz hl => ?_
    · rw [World.size_setCell]; have := hg.size; omega
    · obtain ⟨q1, q2, q3, q4⟩ := hZ b hz hl
      rw [Below.heap_setCell w7 ⟨bs, 0, none⟩ v7 b q2, hg.block b (by omega) (fun e => q3 e.symm), Below.heap_alloc w o b hl]
    · obtain ⟨q1, q2, q3, q4⟩ := hZ b hz hl
      refine ⟨q1, q2, ?_, q4⟩
      rcases hat with q | q
      · rw [q]; exact q3
      · rw [q, hsz]; intro e; injection e with e; omega
  refine ⟨hb7.put 0 v7, ?_, fun i u hu => ?_, h.hbs, hnb, h.ab, fun g e q => ?_⟩
  · rw [List.length_append, List.length_singleton]
    exact own_far hown hb7 hT 0 v7
  · by_cases hi : i < l.length
    · rw [List.getElem?_append_left hi] at hu
      rw [elC_old h.own.1 hi]
      exact fr (h.el i u hu) fun b hz _ => hz
    · have hil : i = l.length := by
        have := (List.getElem?_eq_some_iff.1 hu).1
        rw [List.length_append, List.length_singleton] at this
        omega
      subst hil
      simp at hu
      subst hu
      rw [elC_new h.own.1 hn]
      refine fr hr fun b hz _ => ⟨Nat.le_trans hS3 hz, by have : S ≤ b := hz; omega, fun e => ?_, fun q => ?_⟩
      · have := hS2 b e
        have : S ≤ b := hz
        omega
      · have := hA b q
        have : S ≤ b := hz
        omega
  · rcases hat with q2 | q2
    · exact h.ao g (q2 ▸ e) q
    · rw [q2, hsz] at e
      injection e with e
      have := hAw g q
      omega
theorem LsA.ls (h : LsA f A TB TE k pb B w bs sv l vs) : Ls f TB TE k pb B w bs sv l vs := ⟨h.box, h.own, fun i t ht => (h.el i t ht).mono fun b hz _ => ⟨hz.1, hz.2.1, hz.2.2.1⟩, h.hbs, h.nob⟩
theorem Ls.lsa (h : Ls f TB TE k pb B w bs sv l vs) (hA : ∀ b, A b → w.heap.size ≤ b) : LsA f A TB TE k pb B w bs sv l vs :=
  ⟨h.box, h.own, fun i t ht => (h.el i t ht).mono fun b hz hl => ⟨hz.1, hz.2.1, hz.2.2, fun q => by have := hA b q; omega⟩, h.hbs, h.nob, fun q => by have := hA _ q; have := h.box.lt; omega, fun g e q => by have := hA _ q; have := (h.own.lt g e).2; omega⟩
end
/-- a row of plain cells, in a variable -/
structure Vs (TB TE : TypeId) (k B : Nat) (w : World) (bs : Nat) (sv : Value) (n : Nat) (vs : List Value) : Prop where
  box : Box w bs TB #[sv]
  own : w.ownsRow B TE k sv n vs
  hbs : B ≤ bs
section
variable {TB TE : TypeId} {k B : Nat} {w w' : World} {bs : Nat} {sv : Value} {n : Nat} {vs : List Value}
theorem Vs.nob (h : Vs TB TE k B w bs sv n vs) (hT : TE ≠ TB) : sv.ownBlock ≠ some bs := fun e => own_ne h.own h.box hT e.symm
theorem Vs.kept (h : Vs TB TE k B w bs sv n vs) {X : Nat → Prop} (hk : Kept X w w') (h1 : ¬ X bs) (h2 : ∀ g, sv.ownBlock = some g → ¬ X g) : Vs TB TE k B w' bs sv n vs := by
  refine ⟨hk.box h.box h1, ⟨h.own.1, ?_⟩, h.hbs⟩
  rcases h.own.2 with q | ⟨g, cap, cur, rfl, hg, hh, r⟩
  · exact .inl q
  · exact .inr ⟨g, cap, cur, rfl, hg, (hk.block g (lt_of_block hh) (h2 g rfl)).trans hh, r⟩
theorem Vs.below (h : Vs TB TE k B w bs sv n vs) (hb : Below w.heap.size w w') : Vs TB TE k B w' bs sv n vs := h.kept (X := fun _ => False) (Kept.of_below hb (Nat.le_refl _) _) id fun g e q => q
theorem Vs.kp {pb : Nat} (h : Vs TB TE k B w bs sv n vs) (hk : KP pb w w') (hp : pb < B) : Vs TB TE k B w' bs sv n vs := h.kept hk (fun e => by have e : bs = pb := e; have := h.hbs; omega) fun g e q => by have q : g = pb := q; have := (h.own.lt g e).1; omega
theorem Vs.slice (h : Vs TB TE k B w bs sv n vs) : ∃ a c, sv = .slice a n c := own_slice h.own
theorem Vs.more (h : Vs TB TE k B w bs sv n vs) {new : List Value} {w7 : World} {v7 : Value} {o : Obj} (hT : TE ≠ TB) (hown : w7.ownsRow B TE k v7 (n + 1) (vs ++ new)) (hg : (w.alloc o).grownBy w7 sv.ownBlock) : Vs TB TE k B (w7.setCell ⟨bs, 0, none⟩ v7) bs v7 (n + 1) (vs ++ new) := by
  have hb7 : Box w7 bs TB #[sv] := (h.box.alloc o).grown hg (fun e => h.nob hT e.symm)
  exact ⟨hb7.put 0 v7, own_far hown hb7 hT 0 v7, h.hbs⟩
theorem Vs.rowz (h : Vs TB TE k B w bs sv n vs) (hk : 0 < k) : RowZ (fun b => B ≤ b) w sv n k (elC vs k) := by
  obtain ⟨a, c, rfl⟩ := h.slice
  by_cases h0 : n = 0
  · exact ⟨a, c, rfl, by omega, fun i hi => by omega⟩
  · obtain ⟨g, rfl, h1, h2, h3, h4⟩ := own_at h.own (by omega)
    refine ⟨_, c, rfl, h3, fun i hi => ⟨g, rfl, h1, h2, fun j u hu => ?_⟩⟩
    have hj : j < k := by
      have := (List.getElem?_eq_some_iff.1 hu).1
      unfold elC at this
      rw [List.length_take] at this
      omega
    have hle : i * k + k ≤ n * k := by rw [← Nat.succ_mul]; exact Nat.mul_le_mul_right k hi
    rw [h4 _ (by omega)]
    unfold elC at hu
    rw [List.getElem?_take_of_lt hj, List.getElem?_drop] at hu
    exact hu
/-- a variable that is empty -/
theorem Vs.empty (w : World) (hB : B ≤ w.heap.size) : Vs TB TE k B (w.alloc (.cells #[.slice none 0 0] TB)) w.heap.size (.slice none 0 0) 0 [] := ⟨Box.new w _ _, World.ownsRow_nil _ _ _ _, hB⟩
end
/-- the cells of a row of tokens -/
def tksV (l : List Tk) : List Value := l.flatMap tokCells
theorem tksV_snoc (l : List Tk) (t : Tk) : tksV (l ++ [t]) = tksV l ++ tokCells t := by unfold tksV; rw [List.flatMap_append]; simp
theorem tksV_el : ∀ (l : List Tk) (i : Nat), i < l.length → elC (tksV l) 6 i = tokCells (l.getD i noTk)
  | [], i, h => by simp at h
  | t :: l, 0, _ => rfl
  | t :: l, i + 1, h => by
    have := tksV_el l i (by simpa using h)
    unfold elC at this ⊢
    rw [List.getD_cons_succ, ← this]
    show ((tokCells t ++ tksV l).drop ((i + 1) * 6)).take 6 = _
    rw [show (i + 1) * 6 = (tokCells t).length + i * 6 by show _ = 6 + i * 6; omega, List.drop_length_add_append]
theorem RowZ.congr {Z : Nat → Prop} {w : World} {v : Value} {n k : Nat} {C C' : Nat → List Value} (h : RowZ Z w v n k C) (hC : ∀ i, i < n → C i = C' i) : RowZ Z w v n k C' := by
  obtain ⟨a, c, h1, h2, h3⟩ := h
  refine ⟨a, c, h1, h2, fun i hi => ?_⟩
  rw [← hC i hi]
  exact h3 i hi
/-- the cells of a row of texts -/
def strV (l : List (List UInt8)) : List Value := l.map fun s => .string (toB s)
theorem strV_snoc (l : List (List UInt8)) (s : List UInt8) : strV (l ++ [s]) = strV l ++ [.string (toB s)] := by simp [strV]
theorem strV_el (l : List (List UInt8)) (i : Nat) (h : i < l.length) : elC (strV l) 1 i = [.string (toB (l.getD i []))] := by
  have hi : i < (strV l).length := by simpa [strV] using h
  unfold elC
  rw [Nat.mul_one, List.drop_eq_getElem_cons hi, List.take_succ_cons, List.take_zero]
  simp [strV, List.getD_eq_getElem?_getD, List.getElem?_eq_getElem h]
theorem Ttok : (Tryz.prog.info? 54).map (fun i => (i.zero, i.size, i.bytes)) = some (some (.agg #[.int .i64 0, .string ByteArray.empty, .int .i64 0, .int .i64 0, .int .i64 0, .bool false]), 6, 56) := by kernel_rfl
theorem Tstr : (Tryz.prog.info? 9).map (fun i => (i.zero, i.size, i.bytes)) = some (some (.string ByteArray.empty), 1, 16) := by kernel_rfl
theorem tok_at (t : Tk) (w : World) : (Instr.field TTok (tokV t) 3).run Tryz.prog w = .ok (.agg #[.int .i64 t.ln, .int .i64 t.col]) w := by kernel_rfl
end Go.Proofs.YtdajihpfedbihaaGreat.Pa
/-
  CONTRACT of layer parse: a choice is read.
-/
namespace Go.Proofs.YtdajihpfedbihaaGreat.Pa
open Go.RowKit Mm Tm Pm
set_option linter.unusedVariables false
set_option linter.unusedSimpArgs false
set_option maxRecDepth 100000 in
set_option maxHeartbeats 8000000 in
theorem choice_any {N pb d : Nat} {p p1 p2 p3 : Pp} {fv : Value} {a b c : Lt} (w : World) (h : PS N w pb p fv) (h1 : expr d p.take.2 = some (a, p1)) (h2 : expr d (p1.word "then") = some (b, p2)) (h3 : expr d (p2.word "else") = some (c, p3))
    (ih : ∀ p r w, expr d p = some r → PS N w pb p fv → Calls Tryz.prog 77 #[.pointer (some ⟨pb, 0, none⟩)] w (LtPost N pb fv (.lt r.1) r.2 w)) :
    Calls Tryz.prog 128 #[.pointer (some ⟨pb, 0, none⟩)] w (LtPost N pb fv (.lt (.choice [a, b, c] p.next.ln p.next.col)) p3 w) := by
  obtain ⟨i0, hi0, hi1, hi2, hi3⟩ := info_parts Tfe
  have HT := Lib.hid (take_any w h)
  have HP := Lib.hid h
  have HIH := Lib.hid ih
  have HF := Lib.hid (take_fst p)
  have H1 := Lib.hid h1
  have H2 := Lib.hid h2
  have H3 := Lib.hid h3
  have HPW := Lib.hid (show pb < w.heap.size from Nat.lt_of_lt_of_le h.lt h.size)
  clear h ih h1 h2 h3
  go_enter Tryz.func128, Tryz.ntmps128
  go_wp2_with fail
  refine HT.out.mono ?_
  rintro e w1 ⟨rfl, hp1, hk1⟩
  rw [HF.out]
  have hf := tok_at p.next
  have hB1 := (Below.refl w1.heap.size w1).alloc (Nat.le_refl _) (oPos p.next.ln p.next.col)
  have HBA1 := Lib.hid (Box.new w1 #[.int .i64 p.next.ln, .int .i64 p.next.col] TPos)
  have HK1 := Lib.hid (hk1.alloc (oPos p.next.ln p.next.col))
  have HX1 := Lib.hid (HIH.out _ (a, p1) _ H1.out (hp1.below hB1))
  have HSW := Lib.hid (show w.heap.size ≤ w1.heap.size from hk1.size)
  have HZ1 := Lib.hid (show (w1.alloc (oPos p.next.ln p.next.col)).heap.size = w1.heap.size + 1 by simp)
  have HNB := Lib.hid (show w1.heap.size ≠ pb by have := HPW.out; have := hk1.size; omega)
  clear hp1 hk1 hB1
  go_wp2_with fail
  refine HX1.out.mono ?_
  rintro e w2 ⟨v2, rfl, hr2, hp2, hk2⟩
  have hna := one_not hr2.one1
  have hb2 : Below w2.heap.size w2 ((w2.alloc (.cells #[v2] TFE)).alloc (.cells #[.slice (some ⟨w2.heap.size, 0, none⟩) 1 1] TFEs)) := ((Below.refl w2.heap.size w2).alloc (Nat.le_refl _) _).alloc (by simp) _
  have HL2 := Lib.hid (Ls.first hr2 hk2.size)
  have HP2 := Lib.hid (hp2.below hb2)
  have HK2 := Lib.hid (KP.here (HK1.out.trans hk2) hb2)
  have HBA2 := Lib.hid ((hk2.box HBA1.out HNB.out).below hb2 (Nat.lt_of_lt_of_le HBA1.out.lt hk2.size))
  have HW2 := Lib.hid (word_any "then" _ HP2.out)
  rw [lit_then] at HW2
  clear hr2 hp2 hk2 hb2
  go_wp2_with fail
  refine HW2.out.mono ?_
  rintro e w3 ⟨rfl, hp3, hk3⟩
  have HL3 := Lib.hid (HL2.out.kp hk3 (by rw [HZ1.out]; have := HPW.out; have := HSW.out; omega))
  have HP3 := Lib.hid hp3
  have HK3 := Lib.hid (HK2.out.trans hk3)
  have HBA3 := Lib.hid (hk3.box HBA2.out HNB.out)
  clear hp3 hk3
  have HAA := Lib.hid (HIH.out _ (b, p2) (w3).drew H2.out (HP3.out.below (Below.drew (Below.refl _ _))))
  have HLbA := Lib.hid (HL3.out.below (Below.drew (Below.refl _ _)))
  have u0 := HLbA.out.box.cell 0
  have HBdA := Lib.hid (show Box (w3).drew w1.heap.size TPos #[.int .i64 p.next.ln, .int .i64 p.next.col] from HBA3.out)
  have hsz := HK3.out.size
  have hlt := HL3.out.box.lt
  go_wp2_with fail
  go_region_law (first
    | (go_simp; go_at_call 77; refine HAA.out.mono ?_; rintro e w5A ⟨v5A, rfl, hr5, hp5, hk5⟩; have HL5A := Lib.hid (HLbA.out.kp hk5 (by rw [HZ1.out]; have := HPW.out; have := HSW.out; omega)); have HR5A := Lib.hid hr5; have hna5A := one_not hr5.one1; have HP5A := Lib.hid hp5; have HK5A := Lib.hid ((HK3.out.drew).trans hk5); have HB5A := Lib.hid (hk5.box HBdA.out HNB.out); have HS5A := Lib.hid (show (w3).heap.size ≤ w5A.heap.size from hk5.size); have m0 := HL5A.out.box.cell 0; have y8 := HL5A.out.box.lt; have y9 := (HL5A.out.box.alloc (.cells #[v5A] TFE)).cell 0; clear hr5 hp5 hk5)
    | (refine step_append_lies _ ?_ (.tmp 13) (.tmp 16) TFEs ?_ (w1.alloc (oPos p.next.ln p.next.col)).heap.size TFE i0 _ 1 8 Tryz.underlying169 hi0 hi1 hi2 hi3 rfl (by decide) (.slice (some ⟨w2.heap.size, 0, none⟩) 1 1) 1 [v2] ?_ (HL5A.out.own.alloc _) ⟨w5A.heap.size, 0, none⟩ 1 1 [v5A] ?_ rfl ?_ ?_ (by decide) ?_ ?_ ?_ _ rfl ?_; exact rfl; exact rfl; exact rfl; exact rfl; exact news_new w5A #[v5A] TFE; (intro u hu; simp only [List.mem_cons, List.not_mem_nil, or_false] at hu; subst hu; exact HR5A.out.one1); (unfold maxLen; omega); omega; (have := HS5A.out; have := HZ1.out; have := HL3.out.hbs; simp at this ⊢; omega); intro g7A c7A w7A hown hgrow hat hlt7; have HMA := Lib.hid (HL5A.out.more (t := b) (v7 := .slice (some ⟨g7A, 0, none⟩) (1 + 1) c7A) (new := [v5A]) (S := (w3).heap.size) rfl HR5A.out HL3.out.box.lt (fun g e => (HL3.out.own.lt g e).2) (Nat.le_trans HL3.out.hbs (Nat.le_of_lt HL3.out.box.lt)) (by decide) hown hgrow (hat.imp (fun e => by rw [own_some]; exact e.symm) (fun e => by rw [own_some, e]))); have hb7 := (HL5A.out.box.alloc (.cells #[v5A] TFE)).grown hgrow (fun e => HL5A.out.nob e.symm); have p0 := hb7.cell 0; have p1 := hb7.free 0; have HK7A := Lib.hid (((Kept.refl (fun b => ((.slice (some ⟨w2.heap.size, 0, none⟩) 1 1) : Value).ownBlock = some b ∨ b = w2.heap.size + 1) w5A).alloc (.cells #[v5A] TFE)).grown hgrow (fun k hk _ => .inl hk)); clear hb7 hown hgrow hat))
  all_goals
    have hk8 := HK7A.out.setCell (a := ⟨w2.heap.size + 1, 0, none⟩) (fun _ => .inr rfl) (.slice (some ⟨g7A, 0, none⟩) (1 + 1) c7A)
    have HLA := HMA
    have hge : ∀ b, ((.slice (some ⟨w2.heap.size, 0, none⟩) 1 1 : Value).ownBlock = some b ∨ b = w2.heap.size + 1) → w1.heap.size + 1 ≤ b := fun b e => e.elim (fun e => by have := (HL5A.out.own.lt b e).1; rwa [HZ1.out] at this) (fun e => by have := HL5A.out.hbs; rw [HZ1.out] at this; omega)
    have HPA := Lib.hid (HP5A.out.frame hk8 (fun b e => by have := hge b e; have := HSW.out; have := HP.out.size; omega))
    have HKA := Lib.hid (kept_new HK5A.out hk8 (fun b e q => by have := hge b e; have := HSW.out; omega))
    have HBAA := Lib.hid (hk8.box HB5A.out (fun e => by have := hge _ e; omega))
    have HWE := Lib.hid (word_any "else" _ HPA.out)
    rw [lit_else] at HWE
    clear hk8 hge u0 m0 y8 y9 p0 p1 hsz hlt hlt7
    go_wp2_with fail
    refine HWE.out.mono ?_
    rintro e w4 ⟨rfl, hp4, hk4⟩
    have HL4 := Lib.hid (HLA.out.kp hk4 (by rw [HZ1.out]; have := HPW.out; have := HSW.out; omega))
    have HP4 := Lib.hid hp4
    have HK4 := Lib.hid (HKA.out.trans hk4)
    have HBA4 := Lib.hid (hk4.box HBAA.out HNB.out)
    clear hp4 hk4
    clear HL5A HR5A HP5A HK5A HB5A HS5A HK7A
    have HAB := Lib.hid (HIH.out _ (c, p3) (w4).drew H3.out (HP4.out.below (Below.drew (Below.refl _ _))))
    have HLbB := Lib.hid (HL4.out.below (Below.drew (Below.refl _ _)))
    have u0 := HLbB.out.box.cell 0
    have HBdB := Lib.hid (show Box (w4).drew w1.heap.size TPos #[.int .i64 p.next.ln, .int .i64 p.next.col] from HBA4.out)
    have hsz := HK4.out.size
    have hlt := HL4.out.box.lt
    go_wp2_with fail
    go_region_law (first
      | (go_simp; go_at_call 77; refine HAB.out.mono ?_; rintro e w5B ⟨v5B, rfl, hr5, hp5, hk5⟩; have HL5B := Lib.hid (HLbB.out.kp hk5 (by rw [HZ1.out]; have := HPW.out; have := HSW.out; omega)); have HR5B := Lib.hid hr5; have hna5B := one_not hr5.one1; have HP5B := Lib.hid hp5; have HK5B := Lib.hid ((HK4.out.drew).trans hk5); have HB5B := Lib.hid (hk5.box HBdB.out HNB.out); have HS5B := Lib.hid (show (w4).heap.size ≤ w5B.heap.size from hk5.size); have m0 := HL5B.out.box.cell 0; have y8 := HL5B.out.box.lt; have y9 := (HL5B.out.box.alloc (.cells #[v5B] TFE)).cell 0; clear hr5 hp5 hk5)
      | (refine step_append_lies _ ?_ (.tmp 20) (.tmp 23) TFEs ?_ (w1.alloc (oPos p.next.ln p.next.col)).heap.size TFE i0 _ 1 8 Tryz.underlying169 hi0 hi1 hi2 hi3 rfl (by decide) (.slice (some ⟨g7A, 0, none⟩) 2 c7A) 2 ([v2] ++ [v5A]) ?_ (HL5B.out.own.alloc _) ⟨w5B.heap.size, 0, none⟩ 1 1 [v5B] ?_ rfl ?_ ?_ (by decide) ?_ ?_ ?_ _ rfl ?_; exact rfl; exact rfl; exact rfl; exact rfl; exact news_new w5B #[v5B] TFE; (intro u hu; simp only [List.mem_cons, List.not_mem_nil, or_false] at hu; subst hu; exact HR5B.out.one1); (unfold maxLen; omega); omega; (have := HS5B.out; have := HZ1.out; have := HL4.out.hbs; simp at this ⊢; omega); intro g7B c7B w7B hown hgrow hat hlt7; have HMB := Lib.hid (HL5B.out.more (t := c) (v7 := .slice (some ⟨g7B, 0, none⟩) (2 + 1) c7B) (new := [v5B]) (S := (w4).heap.size) rfl HR5B.out HL4.out.box.lt (fun g e => (HL4.out.own.lt g e).2) (Nat.le_trans HL4.out.hbs (Nat.le_of_lt HL4.out.box.lt)) (by decide) hown hgrow (hat.imp (fun e => by rw [own_some]; exact e.symm) (fun e => by rw [own_some, e]))); have hb7 := (HL5B.out.box.alloc (.cells #[v5B] TFE)).grown hgrow (fun e => HL5B.out.nob e.symm); have p0 := hb7.cell 0; have p1 := hb7.free 0; have HK7B := Lib.hid (((Kept.refl (fun b => ((.slice (some ⟨g7A, 0, none⟩) 2 c7A) : Value).ownBlock = some b ∨ b = w2.heap.size + 1) w5B).alloc (.cells #[v5B] TFE)).grown hgrow (fun k hk _ => .inl hk)); clear hb7 hown hgrow hat))
    all_goals
      have hk8 := HK7B.out.setCell (a := ⟨w2.heap.size + 1, 0, none⟩) (fun _ => .inr rfl) (.slice (some ⟨g7B, 0, none⟩) (2 + 1) c7B)
      have HLB := HMB
      have hge : ∀ b, ((.slice (some ⟨g7A, 0, none⟩) 2 c7A : Value).ownBlock = some b ∨ b = w2.heap.size + 1) → w1.heap.size + 1 ≤ b := fun b e => e.elim (fun e => by have := (HL5B.out.own.lt b e).1; rwa [HZ1.out] at this) (fun e => by have := HL5B.out.hbs; rw [HZ1.out] at this; omega)
      have HPB := Lib.hid (HP5B.out.frame hk8 (fun b e => by have := hge b e; have := HSW.out; have := HP.out.size; omega))
      have HKB := Lib.hid (kept_new HK5B.out hk8 (fun b e q => by have := hge b e; have := HSW.out; omega))
      have HBAB := Lib.hid (hk8.box HB5B.out (fun e => by have := hge _ e; omega))
      clear hk8 hge u0 m0 y8 y9 p0 p1
      go_wp2_with fail
      go_ret
      refine ⟨_, rfl, ?_, HPB.out, HKB.out⟩
      have hle : ∀ b, (w1.alloc (oPos p.next.ln p.next.col)).heap.size ≤ b → w.heap.size ≤ b := fun b hb => by rw [HZ1.out] at hb; have := HSW.out; omega
      exact .choice (by simp) ⟨hle _ HLB.out.hbs, HLB.out.box⟩ ⟨HSW.out, HBAB.out⟩ ((HLB.out.rowz (by decide)).frame (Nat.le_refl _) (fun _ _ _ => rfl) fun b hb _ => hle b hb) fun i t ht => (HLB.out.elr ht).mono fun b hb _ => hle b hb
end Go.Proofs.YtdajihpfedbihaaGreat.Pa
/-
  CONTRACT of layer parse: a row of operands and operators is read.
-/
namespace Go.Proofs.YtdajihpfedbihaaGreat.Pa
open Go.RowKit Mm Tm Pm
set_option linter.unusedVariables false
set_option linter.unusedSimpArgs false
abbrev TToks : TypeId := 104
abbrev TPP : TypeId := 108
theorem more_yes {d : Nat} {p : Pp} (h : p.next.kind = 3) {l : List Lt} {o : List Tk} {q : Pp} (hd : more (d + 1) p = some (l, o, q)) : ∃ a p1 l2 o2, operand d p.take.2 = some (a, p1) ∧ more d p1 = some (l2, o2, q) ∧ l = a :: l2 ∧ o = p.take.1 :: o2 := by
  rw [more, if_pos h] at hd
  dsimp only at hd
  obtain ⟨⟨t1, p1⟩, h1, h2⟩ := Option.bind_eq_some_iff.1 hd
  dsimp only at h2
  obtain ⟨⟨t2, o2, p2⟩, h3, h4⟩ := Option.bind_eq_some_iff.1 h2
  simp only [pure, Option.some.injEq, Prod.mk.injEq] at h4
  exact ⟨t1, p1, t2, o2, h1, by rw [h3, h4.2.2], h4.1.symm, h4.2.1.symm⟩
theorem more_no {d : Nat} {p : Pp} (h : ¬ p.next.kind = 3) {l : List Lt} {o : List Tk} {q : Pp} (hd : more (d + 1) p = some (l, o, q)) : l = [] ∧ o = [] ∧ q = p := by
  rw [more, if_neg h] at hd
  simp only [pure, Option.some.injEq, Prod.mk.injEq] at hd
  exact ⟨hd.1.symm, hd.2.1.symm, hd.2.2.symm⟩
/-- the blocks of a row of tokens -/
def Ax (bq : Nat) (sq : Value) (b : Nat) : Prop := b = bq ∨ sq.ownBlock = some b
structure ExL (N pb : Nat) (fv : Value) (L : List Lt) (O : List Tk) (q : Pp) (w : World) (bo bq n d : Nat) (wr : World) (l1 l2 : List Lt) (o1 o2 : List Tk) (pk : Pp) (so sq : Value) (vo : List Value) : Prop where
  run : more d pk = some (l2, o2, q)
  eq : L = l1 ++ l2
  eqo : O = o1 ++ o2
  ls : LsA Item.lt (Ax bq sq) TFEs TFE 1 pb (w.heap.size + 1) wr bo so l1 vo
  tk : Vs TToks TTok 6 (w.heap.size + 1) wr bq sq o1.length (tksV o1)
  bx : Box wr w.heap.size TPP #[ptr pb]
  ps : PS N wr pb pk fv
  kp : KP pb w wr
  le : d ≤ n
  len : o1.length + pk.rest.length ≤ 100000000
  lno : l1.length = o1.length + 1
theorem ExL.succ {N pb : Nat} {fv : Value} {L : List Lt} {O : List Tk} {q : Pp} {w : World} {bo bq n d : Nat} {wr : World} {l1 l2 : List Lt} {o1 o2 : List Tk} {pk : Pp} {so sq : Value} {vo : List Value} (h : ExL N pb fv L O q w bo bq n d wr l1 l2 o1 o2 pk so sq vo) : ∃ d0, d = d0 + 1 := by
  cases d with
  | zero => have := h.run; simp [more] at this
  | succ d => exact ⟨d, rfl⟩
/-- behind a token more: both rows, apart -/
theorem tok_more {pb B : Nat} {w5 w7 : World} {bo bq n : Nat} {so sq v7 : Value} {l1 : List Lt} {vo vq : List Value} {o : Obj} {t : Tk} (hl : LsA Item.lt (Ax bq sq) TFEs TFE 1 pb B w5 bo so l1 vo) (hv : Vs TToks TTok 6 B w5 bq sq n vq)
    (hown : w7.ownsRow B TTok 6 v7 (n + 1) (vq ++ tokCells t)) (hg : (w5.alloc o).grownBy w7 sq.ownBlock) (hat : v7.ownBlock = sq.ownBlock ∨ v7.ownBlock = some (w5.alloc o).heap.size) :
    LsA Item.lt (Ax bq v7) TFEs TFE 1 pb B (w7.setCell ⟨bq, 0, none⟩ v7) bo so l1 vo ∧ Vs TToks TTok 6 B (w7.setCell ⟨bq, 0, none⟩ v7) bq v7 (n + 1) (vq ++ tokCells t) ∧ Kept (Ax bq sq) w5 (w7.setCell ⟨bq, 0, none⟩ v7) := by
  have hk : Kept (Ax bq sq) w5 (w7.setCell ⟨bq, 0, none⟩ v7) := (((Kept.refl (Ax bq sq) w5).alloc o).grown hg (fun k hk _ => .inr hk)).setCell (fun _ => .inl rfl) v7
  refine ⟨?_, hv.more (by decide) hown hg, hk⟩
  have h1 : LsA Item.lt (fun b => Ax bq sq b ∨ Ax bq v7 b) TFEs TFE 1 pb B w5 bo so l1 vo := hl.apart fun b hb q => q.elim id fun q => q.elim .inl fun e => by
    rcases hat with a | a
    · exact .inr (a ▸ e)
    · rw [a] at e
      injection e with e
      simp at e
      omega
  exact (h1.kept hk fun b x _ _ => .inl x).apart fun b _ x => .inr x
theorem LsA.lt_own {pb B : Nat} {w : World} {A : Nat → Prop} {bo : Nat} {so : Value} {l : List Lt} {vo : List Value} (h : LsA Item.lt A TFEs TFE 1 pb B w bo so l vo) {g : Nat} (e : so.ownBlock = some g) : B ≤ g ∧ g < w.heap.size ∧ ∃ cs, Box w g TFE cs := by
  refine ⟨(h.own.lt g e).1, (h.own.lt g e).2, ?_⟩
  rcases h.own.2 with ⟨rfl, _⟩ | ⟨g', cap, cur, rfl, _, hh, _⟩
  · simp [Value.ownBlock] at e
  · obtain rfl : g' = g := by simpa [Value.ownBlock] using e
    exact ⟨cur, hh⟩
/-- behind an operand more: both rows, apart -/
theorem opd_more {pb B : Nat} {w5 w7 : World} {bo bq n S : Nat} {so sq v7 v5 : Value} {l1 : List Lt} {vo vq : List Value} {o : Obj} {t : Lt} (hl : LsA Item.lt (Ax bq sq) TFEs TFE 1 pb B w5 bo so l1 vo) (hv : Vs TToks TTok 6 B w5 bq sq n vq) (hr : R pb (fun b => S ≤ b) w5 (.lt t) [v5]) (hS1 : bo < S) (hS2 : ∀ g, so.ownBlock = some g → g < S) (hS3 : B ≤ S) (hS4 : bq < S) (hS5 : ∀ g, sq.ownBlock = some g → g < S)
    (hown : w7.ownsRow B TFE 1 v7 (l1.length + 1) (vo ++ [v5])) (hg : (w5.alloc o).grownBy w7 so.ownBlock) (hat : v7.ownBlock = so.ownBlock ∨ v7.ownBlock = some (w5.alloc o).heap.size) :
    LsA Item.lt (Ax bq sq) TFEs TFE 1 pb B (w7.setCell ⟨bo, 0, none⟩ v7) bo v7 (l1 ++ [t]) (vo ++ [v5]) ∧ Vs TToks TTok 6 B (w7.setCell ⟨bo, 0, none⟩ v7) bq sq n vq ∧ Kept (Ax bo so) w5 (w7.setCell ⟨bo, 0, none⟩ v7) := by
  have hk : Kept (Ax bo so) w5 (w7.setCell ⟨bo, 0, none⟩ v7) := (((Kept.refl (Ax bo so) w5).alloc o).grown hg (fun k hk _ => .inr hk)).setCell (fun _ => .inl rfl) v7
  refine ⟨hl.more rfl hr hS1 hS2 hS3 (fun b q => q.elim (fun e => by omega) fun e => hS5 b e) (fun b q => q.elim (fun e => by rw [e]; exact hv.box.lt) fun e => (hv.own.lt b e).2) (by decide) hown hg hat, ?_, hk⟩
  refine hv.kept hk (fun q => ?_) fun g e q => ?_
  · rcases q with q | q
    · rw [q] at hv; exact absurd (Box.same hv.box hl.box) (by decide)
    · obtain ⟨_, _, cs, hb⟩ := hl.lt_own q
      exact absurd (Box.same hv.box hb) (by decide)
  · have hgb : ∃ cs, Box w5 g TTok cs := by
      rcases hv.own.2 with ⟨rfl, _⟩ | ⟨g', cap, cur, rfl, _, hh, _⟩
      · simp [Value.ownBlock] at e
      · obtain rfl : g' = g := by simpa [Value.ownBlock] using e
        exact ⟨cur, hh⟩
    obtain ⟨cs, hb⟩ := hgb
    rcases q with q | q
    · rw [q] at hb; exact absurd (Box.same hb hl.box) (by decide)
    · obtain ⟨_, _, cs', hb'⟩ := hl.lt_own q
      exact absurd (Box.same hb hb') (by decide)
set_option maxRecDepth 100000 in
set_option maxHeartbeats 16000000 in
theorem expr_any {N pb d : Nat} {p p1 p2 : Pp} {fv : Value} {a : Lt} {l : List Lt} {ops : List Tk} (w : World) (h : PS N w pb p fv) (h1 : operand d p = some (a, p1)) (h2 : more d p1 = some (l, ops, p2))
    (ih : ∀ d', d' ≤ d → ∀ p r w, operand d' p = some r → PS N w pb p fv → Calls Tryz.prog 101 #[.pointer (some ⟨pb, 0, none⟩)] w (LtPost N pb fv (.lt r.1) r.2 w)) :
    Calls Tryz.prog 77 #[.pointer (some ⟨pb, 0, none⟩)] w (LtPost N pb fv (.lt (.row (a :: l) ops)) p2 w) := by
  obtain ⟨i0, hi0, hi1, hi2, hi3⟩ := info_parts Tfe
  obtain ⟨j0, hj0, hj1, hj2, hj3⟩ := info_parts Ttok
  have HP := Lib.hid h
  have HIH := Lib.hid ih
  have HB0 := Lib.hid ((Below.refl w.heap.size w).alloc (Nat.le_refl _) (.cells #[ptr pb] TPP))
  have HX0 := Lib.hid (Box.new w #[ptr pb] TPP)
  have HA0 := Lib.hid (ih d (Nat.le_refl _) p (a, p1) (w.alloc (.cells #[ptr pb] TPP)) h1 (h.below HB0.out))
  have H2 := Lib.hid h2
  have HPW := Lib.hid (show pb < w.heap.size from Nat.lt_of_lt_of_le h.lt h.size)
  have HS0 := Lib.hid (show (w.alloc (.cells #[ptr pb] TPP)).heap.size = w.heap.size + 1 by simp)
  clear h ih h1 h2
  go_enter Tryz.func77, Tryz.ntmps77
  go_wp2_with fail
  refine HA0.out.mono ?_
  rintro e w1 ⟨v1, rfl, hr1, hp1, hk1⟩
  have hna := one_not hr1.one1
  have hb1 : Below w1.heap.size w1 ((w1.alloc (.cells #[v1] TFE)).alloc (.cells #[.slice (some ⟨w1.heap.size, 0, none⟩) 1 1] TFEs)) := ((Below.refl w1.heap.size w1).alloc (Nat.le_refl _) _).alloc (by simp) _
  have hs1 := hk1.size
  rw [HS0.out] at hs1 hr1
  have hL1 := Ls.first hr1 hs1
  have hx1 : Box w1 w.heap.size TPP #[ptr pb] := hk1.box HX0.out (by have := HPW.out; omega)
  have X1 := hx1.cell 0
  have hxl := hx1.lt
  obtain ⟨W1, hW1⟩ : ∃ W1, (w1.alloc (.cells #[v1] TFE)).alloc (.cells #[.slice (some ⟨w1.heap.size, 0, none⟩) 1 1] TFEs) = W1 := ⟨_, rfl⟩
  have hz1 : W1.heap.size = w1.heap.size + 1 + 1 := by rw [← hW1]; simp
  rw [hW1] at hL1 hb1
  have hb2 : Below W1.heap.size W1 (W1.alloc (.cells #[.slice none 0 0] TToks)) := (Below.refl _ _).alloc (Nat.le_refl _) _
  have hST := (ExL.mk (n := d) (w := w) (L := a :: l) (O := ops) (l1 := [a]) (l2 := l) (o1 := []) (o2 := ops) (q := p2) H2.out rfl rfl ((hL1.lsa (A := Ax W1.heap.size (.slice none 0 0)) (fun b q => q.elim (fun e => by omega) (fun e => by cases e))).below hb2) (Vs.empty (TE := TTok) W1 (by omega)) ((hx1.below hb1 hx1.lt).below hb2 (by omega)) ((hp1.below hb1).below hb2) (KP.here (KP.here ((Kept.of_below HB0.out (Nat.le_refl _) (fun b => b = pb)).trans hk1) hb1) hb2) (Nat.le_refl _) (by have := hp1.len; simpa using this) rfl)
  rw [hz1] at hST
  have HST := Lib.hid hST
  have HXL := Lib.hid hxl
  have HS1 := Lib.hid hs1
  clear hr1 hp1 hk1 hb1 hs1 hL1 hx1 hb2 hST
  go_wp2_with fail
  go_loopg [8] d (fun d' v wr => ∃ l1 l2 o1 o2 pk so sq vo, ExL N pb fv (a :: l) ops p2 w (w1.heap.size + 1) (w1.heap.size + 1 + 1) d d' wr l1 l2 o1 o2 pk so sq vo)
  case atStart => exact ⟨_, _, _, _, _, _, _, _, HST.out⟩
  case round =>
    obtain ⟨l1, l2, o1, o2, pk, so, sq, vo, hI⟩ := hrel
    obtain ⟨d0, rfl⟩ := hI.succ
    obtain ⟨ao, co, rfl⟩ := hI.ls.slice
    obtain ⟨aq, cq, rfl⟩ := hI.tk.slice
    have HI := Lib.hid hI
    have HN := Lib.hid (next_any wr hI.ps)
    have e0 := hI.bx.cell 0
    have e1 := hI.bx.lt
    have hf := tok_kind pk.next
    clear hI hW1 hz1
    by_cases hk : pk.next.kind = 3
    · have q3 : (pk.next.kind == 3) = true := by simpa using hk
      obtain ⟨x, q1, l2', o2', hr1, hr2, hr3, hr4⟩ := more_yes hk HI.out.run
      have HR := Lib.hid (And.intro hr1 (And.intro hr2 (And.intro hr3 hr4)))
      have HKK := Lib.hid hk
      clear hr1 hr2 hr3 hr4 hk
      go_wp2_with fail
      refine HN.out.mono ?_
      rintro e w2 ⟨rfl, hb2⟩
      have HLA := Lib.hid ((HI.out.ls.below hb2).below (Below.drew (Below.refl _ w2)))
      have HVA := Lib.hid ((HI.out.tk.below hb2).below (Below.drew (Below.refl _ w2)))
      have HXA := Lib.hid (show Box w2.drew w.heap.size TPP #[ptr pb] from (HI.out.bx.below hb2 HI.out.bx.lt).drew)
      have HKA := Lib.hid ((KP.here HI.out.kp hb2).drew)
      have HTA := Lib.hid (take_any w2.drew ((HI.out.ps.below hb2).below (Below.drew (Below.refl _ _))))
      have HF := Lib.hid (take_fst pk)
      have hlenA := HI.out.len
      have hxlA := HXA.out.lt
      have e0 := HXA.out.cell 0
      have e1 : w.heap.size < w2.heap.size := HXA.out.lt
      have u0 := HVA.out.box.cell 0
      have hks : w.heap.size ≤ w2.heap.size := HKA.out.size
      have HEQ := Lib.hid (show pk.take = (pk.next, pk.take.2) from Prod.ext (take_fst pk) rfl)
      have hlt2 := next_some (p := pk) (by rw [HKK.out]; decide)
      clear hb2
      go_wp2_with fail
      go_region_law (first
        | (go_simp; go_at_call 84; refine HTA.out.mono ?_; rintro e w5 ⟨rfl, hp5, hk5⟩; rw [HF.out]; have HL5 := Lib.hid (HLA.out.kp hk5 (Nat.lt_succ_of_lt HPW.out)); have HV5 := Lib.hid (HVA.out.kp hk5 (Nat.lt_succ_of_lt HPW.out)); have HX5 := Lib.hid (hk5.box HXA.out (Nat.ne_of_gt HPW.out)); have HP5 := Lib.hid hp5; have HK5 := Lib.hid (HKA.out.trans hk5); have HS5 := Lib.hid (show w2.heap.size ≤ w5.heap.size from hk5.size); have m0 := HV5.out.box.cell 0; have y8 := HV5.out.box.lt; have y9 := (HV5.out.box.alloc (oTok pk.next)).cell 0; have y7 := HX5.out.cell 0; have y6 := HX5.out.lt; clear hp5 hk5)
        | (refine step_append_lies _ ?_ (.tmp 12) (.tmp 15) TToks ?_ (w.heap.size + 1) TTok j0 _ 6 56 Tryz.underlying104 hj0 hj1 hj2 hj3 rfl (by decide) (.slice aq o1.length cq) o1.length (tksV o1) ?_ (HV5.out.own.alloc _) ⟨w5.heap.size, 0, none⟩ 1 1 (tokCells pk.next) ?_ rfl ?_ ?_ (by decide) ?_ ?_ ?_ _ rfl ?_; exact rfl; exact rfl; exact rfl; exact rfl; exact news_new w5 #[.int .i64 pk.next.kind, .string (toB pk.next.text), .int .i64 pk.next.n, .int .i64 pk.next.ln, .int .i64 pk.next.col, .bool pk.next.made] TTok; (intro u hu; simp only [tokCells, List.mem_cons, List.not_mem_nil, or_false] at hu; rcases hu with rfl | rfl | rfl | rfl | rfl | rfl <;> rfl); (unfold maxLen; omega); omega; (have := HS5.out; simp; omega); intro g7 c7 w7 hown hgrow hat hlt7; have HM := Lib.hid (tok_more (v7 := .slice (some ⟨g7, 0, none⟩) (o1.length + 1) c7) HL5.out HV5.out hown hgrow (hat.imp (fun e => by rw [own_some]; exact e.symm) (fun e => by rw [own_some, e]))); have hb7 := (HV5.out.box.alloc (oTok pk.next)).grown hgrow (fun e => HV5.out.nob (by decide) e.symm); have p0 := hb7.cell 0; have p1 := hb7.free 0; clear hb7 hown hgrow hat))
      all_goals
        have HLB := Lib.hid (HM.out.1.below (Below.drew (Below.refl _ _)))
        have HVB := Lib.hid (HM.out.2.1.below (Below.drew (Below.refl _ _)))
        have hgeA : ∀ b, Ax (w1.heap.size + 1 + 1) (.slice aq o1.length cq) b → w.heap.size + 1 ≤ b := fun b e => e.elim (fun e => by rw [e]; exact HV5.out.hbs) (fun e => (HV5.out.own.lt b e).1)
        have HPB := Lib.hid (HP5.out.frame HM.out.2.2 (fun b e => by have := hgeA b e; have := HP.out.size; omega))
        have HKB := Lib.hid (kept_new HK5.out HM.out.2.2 (fun b e q => by have := hgeA b e; omega))
        have HXB := Lib.hid (show Box (w7.setCell ⟨(w1.heap.size + 1 + 1), 0, none⟩ (.slice (some ⟨g7, 0, none⟩) (o1.length + 1) c7)).drew w.heap.size TPP #[ptr pb] from (HM.out.2.2.box HX5.out (fun e => by have := hgeA _ e; omega)).drew)
        have HOB := Lib.hid (HIH.out d0 (by have := HI.out.le; omega) pk.take.2 (x, q1) _ HR.out.1 (HPB.out.below (Below.drew (Below.refl _ _))))
        have e0 := HXB.out.cell 0
        have e1 := HXB.out.lt
        have u0 := HLB.out.box.cell 0
        have u1 := HLB.out.box.lt
        have hsB : w.heap.size ≤ w7.heap.size := by have := HKB.out.size; rwa [World.size_setCell] at this
        generalize hW8 : w7.setCell ⟨(w1.heap.size + 1 + 1), 0, none⟩ (.slice (some ⟨g7, 0, none⟩) (o1.length + 1) c7) = W8 at *
        clear hgeA p0 p1 m0 y8 y9 y7 y6
        go_wp2_with fail
        go_region_law (first
          | (go_simp; go_at_call 101; refine HOB.out.mono ?_; rintro e w6 ⟨v6, rfl, hr6, hp6, hk6⟩; have HL6 := Lib.hid (HLB.out.kp hk6 (Nat.lt_succ_of_lt HPW.out)); have HV6 := Lib.hid (HVB.out.kp hk6 (Nat.lt_succ_of_lt HPW.out)); have HX6 := Lib.hid (hk6.box HXB.out (Nat.ne_of_gt HPW.out)); have HR6 := Lib.hid (show R pb (fun b => W8.heap.size ≤ b) w6 (.lt x) [v6] from hr6); have hna6 := one_not hr6.one1; have HP6 := Lib.hid hp6; have HK6 := Lib.hid ((HKB.out.drew).trans hk6); have HS6 := Lib.hid (show W8.heap.size ≤ w6.heap.size from hk6.size); have m0 := HL6.out.box.cell 0; have y8 := HL6.out.box.lt; have y9 := (HL6.out.box.alloc (.cells #[v6] TFE)).cell 0; have y7 := HX6.out.cell 0; have y6 := HX6.out.lt; clear hr6 hp6 hk6)
          | (refine step_append_lies _ ?_ (.tmp 17) (.tmp 20) TFEs ?_ (w.heap.size + 1) TFE i0 _ 1 8 Tryz.underlying169 hi0 hi1 hi2 hi3 rfl (by decide) (.slice ao l1.length co) l1.length vo ?_ (HL6.out.own.alloc _) ⟨w6.heap.size, 0, none⟩ 1 1 [v6] ?_ rfl ?_ ?_ (by decide) ?_ ?_ ?_ _ rfl ?_; exact rfl; exact rfl; exact rfl; exact rfl; exact news_new w6 #[v6] TFE; (intro u hu; simp only [List.mem_cons, List.not_mem_nil, or_false] at hu; subst hu; exact HR6.out.one1); (have := HI.out.lno; unfold maxLen; omega); (have := HI.out.lno; omega); (have := HX6.out.lt; simp; omega); intro g9 c9 w9 hown hgrow hat hlt9; have HM9 := Lib.hid (opd_more (S := W8.heap.size) (v7 := .slice (some ⟨g9, 0, none⟩) (l1.length + 1) c9) HL6.out HV6.out HR6.out HLB.out.box.lt (fun g e => (HLB.out.own.lt g e).2) (Nat.le_trans HLB.out.hbs (Nat.le_of_lt HLB.out.box.lt)) HVB.out.box.lt (fun g e => (HVB.out.own.lt g e).2) hown hgrow (hat.imp (fun e => by rw [own_some]; exact e.symm) (fun e => by rw [own_some, e]))); have hb9 := (HL6.out.box.alloc (.cells #[v6] TFE)).grown hgrow (fun e => HL6.out.nob e.symm); have p0 := hb9.cell 0; have p1 := hb9.free 0; clear hb9 hown hgrow hat))
        all_goals
          go_wp2_with fail
          go_roundg d0
          case measure => omega
          case rel =>
            have hge9 : ∀ b, Ax (w1.heap.size + 1) (.slice ao l1.length co) b → w.heap.size + 1 ≤ b := fun b e => e.elim (fun e => by rw [e]; exact HL6.out.hbs) (fun e => (HL6.out.own.lt b e).1)
            have htk := HM9.out.2.1
            rw [← tksV_snoc] at htk
            exact ⟨l1 ++ [x], l2', o1 ++ [pk.next], o2', q1, _, _, _, ⟨HR.out.2.1, by rw [HI.out.eq, HR.out.2.2.1, List.append_assoc]; rfl, by rw [HI.out.eqo, HR.out.2.2.2, HF.out, List.append_assoc]; rfl, HM9.out.1, by rw [List.length_append, List.length_singleton]; exact htk, HM9.out.2.2.box HX6.out (fun e => by have := hge9 _ e; omega), HP6.out.frame HM9.out.2.2 (fun b e => by have := hge9 b e; have := HP.out.size; omega), kept_new HK6.out HM9.out.2.2 (fun b e q => by have := hge9 b e; omega), by have := HI.out.le; omega, by have := len_of ((expr_stk (R := Len) d0).operand _ _ _ HR.out.1); rw [List.length_append, List.length_singleton]; omega, by rw [List.length_append, List.length_append, List.length_singleton, List.length_singleton, HI.out.lno]⟩⟩
    · have q3 : (pk.next.kind == 3) = false := by simpa using hk
      have HNO := Lib.hid (more_no hk HI.out.run)
      clear hk
      go_wp2_with fail
      refine HN.out.mono ?_
      rintro e w2 ⟨rfl, hb2⟩
      have HB2 := Lib.hid hb2
      clear hb2
      go_wp2_with fail
      go_ret
      have hL := HI.out.ls.below HB2.out
      have hV := HI.out.tk.below HB2.out
      have hX := HI.out.bx.below HB2.out HI.out.bx.lt
      have he : a :: l = l1 := by rw [HI.out.eq, HNO.out.1, List.append_nil]
      have ho : ops = o1 := by rw [HI.out.eqo, HNO.out.2.1, List.append_nil]
      refine ⟨_, rfl, ?_, by rw [HNO.out.2.2]; exact HI.out.ps.below HB2.out, KP.here HI.out.kp HB2.out⟩
      rw [he, ho]
      have hz : ∀ b, w.heap.size + 1 ≤ b → w.heap.size ≤ b := fun b hb => Nat.le_of_succ_le hb
      exact .row (by have := HI.out.len; have := HI.out.lno; omega) (by have := HI.out.len; omega) ⟨Nat.le_refl _, hX⟩ ⟨hz _ hL.hbs, hL.box⟩ ⟨hz _ hV.hbs, hV.box⟩ ((hL.ls.rowz (by decide)).frame (Nat.le_refl _) (fun _ _ _ => rfl) fun b hb _ => hz b hb) (((hV.rowz (by decide)).congr fun i hi => tksV_el o1 i hi).frame (Nat.le_refl _) (fun _ _ _ => rfl) fun b hb _ => hz b hb) fun i t ht => (hL.ls.elr ht).mono fun b hb _ => hz b hb
end Go.Proofs.YtdajihpfedbihaaGreat.Pa
