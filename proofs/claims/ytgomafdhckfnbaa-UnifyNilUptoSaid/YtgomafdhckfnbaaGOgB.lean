/-
  CONTRACT of layer unify: the open variables of a type, where the rounds may turn blocks of the caller's own: what a round goes by.
-/
import Derived.Test.YtgomafdhckfnbaaGD

namespace Go.Proofs.Ytgomafdhckfnbaa.Og
open Go.RowKit Go.Shelf Mm Tm Mk Un Go.Maps Go.ChangeMaps Go.MapKept Go.WideMaps Rg
set_option linter.unusedVariables false
set_option linter.unusedSimpArgs false
/-- what a round of the look goes by -/
structure OpenR (lb : Option Nat) (Zw : Nat → Prop) (w0 W : World) (q : Nat) (K : PS) (deep : Bool) (l : Nat) (J : List (Int × Fact) → World → Prop) (L : List (Int × PF)) (d0 d : Nat) (ds : List Deferred) (wr : World) (seen : SN) (tdr td : List Ty) (pre : List (Int × Fact)) (rest : List (Int × PF)) (ag : Option Addr) (cg : Nat) (vs : List Value) (Fs : FK) (cs : Nat) : Prop where
  run : openL q K deep d seen tdr = some rest
  all : L.map (fun y => (y.1, y.2.least)) = pre.map (fun y => (y.1, y.2.least)) ++ rest.map (fun y => (y.1, y.2.least))
  j : J pre wr
  kept : Kept (fun b => w0.heap.size ≤ b ∨ lb = some b) W wr
  bx6 : Box wr (W.heap.size + 2) TTs #[.slice ag td.length cg]
  own : wr.ownsRow W.heap.size TT 4 (.slice ag td.length cg) td.length vs
  row : RowT Zw wr vs td.reverse
  sm : MapK wr Try.prog TI W.heap.size Fs cs
  sn : ∀ n, inI n = true → (Fs (.int .i64 n)).getD (.int .i64 0) = .int .i64 (seen n)
  csd : cs + d ≤ d0
  marks : Marks W.heap.size ds wr
  tdl : td.length ≤ 1000000000
  big : W.heap.size + 2 < wr.heap.size
  prl : pre.length + d ≤ d0
def OpenI (lb : Option Nat) (Zw : Nat → Prop) (w0 W : World) (q : Nat) (K : PS) (deep : Bool) (l : Nat) (J : List (Int × Fact) → World → Prop) (L : List (Int × PF)) (d0 d : Nat) (ds : List Deferred) (wr : World) : Prop :=
  ∃ seen td pre rest ag cg vs Fs cs, OpenR lb Zw w0 W q K deep l J L d0 d ds wr seen td td pre rest ag cg vs Fs cs
/-- what the rounds may turn: a box of the caller's, rows of numbers -/
structure XOK (X : World → Nat → Prop) (lb : Option Nat) (w0 : World) (Zw : Nat → Prop) : Prop where
  x : ∀ A b, X A b → lb = some b ∨ (w0.heap.size ≤ b ∧ TyB TI A b)
  lt : ∀ b, lb = some b → b < w0.heap.size
  z : ∀ b, lb = some b → ¬ Zw b
theorem XOK.ty {X : World → Nat → Prop} {lb : Option Nat} {w0 A : World} {Zw : Nat → Prop} {g : Nat} {t : TypeId} (h : XOK X lb w0 Zw) (hx : TyB t A g) (ht : t ≠ TI) (hg : w0.heap.size ≤ g) : ¬ X A g := fun q => by
  rcases h.x A g q with e | ⟨_, cs, hc⟩
  · have := h.lt g e; omega
  · obtain ⟨cs', hc'⟩ := hx
    rw [hc] at hc'
    injection hc' with hc'
    injection hc' with _ e
    exact ht e.symm
theorem XOK.box {X : World → Nat → Prop} {lb : Option Nat} {w0 A : World} {Zw : Nat → Prop} {g : Nat} {t : TypeId} {cs : Array Value} (h : XOK X lb w0 Zw) (hx : Box A g t cs) (ht : t ≠ TI) (hg : w0.heap.size ≤ g) : ¬ X A g := h.ty ⟨cs, hx⟩ ht hg
theorem XOK.obj {X : World → Nat → Prop} {lb : Option Nat} {w0 A : World} {Zw : Nat → Prop} {g : Nat} {o : Obj} (h : XOK X lb w0 Zw) (hx : A.heap[g]? = some o) (ho : o.isCells = false) (hg : w0.heap.size ≤ g) : ¬ X A g := fun q => by
  rcases h.x A g q with e | ⟨_, cs, hc⟩
  · have := h.lt g e; omega
  · rw [hc] at hx
    injection hx with hx
    rw [← hx] at ho
    cases ho
theorem XOK.map {X : World → Nat → Prop} {lb : Option Nat} {w0 A : World} {Zw : Nat → Prop} {g c : Nat} {P : Program} {k : TypeId} {F : FK} (h : XOK X lb w0 Zw) (hx : MapK A P k g F c) (hg : w0.heap.size ≤ g) : ¬ X A g := by
  obtain ⟨D, ⟨es, clock, k1, _⟩, _⟩ := hx
  exact h.obj k1 rfl hg
theorem OpenR.low {lb : Option Nat} {Zw : Nat → Prop} {w0 W : World} {q : Nat} {K : PS} {deep : Bool} {l : Nat} {J : List (Int × Fact) → World → Prop} {L : List (Int × PF)} {d0 d : Nat} {ds : List Deferred} {wr : World} {seen : SN} {tdr td : List Ty} {pre : List (Int × Fact)} {rest : List (Int × PF)} {ag : Option Addr} {cg : Nat} {vs : List Value} {Fs : FK} {cs : Nat}
    (h : OpenR lb Zw w0 W q K deep l J L d0 d ds wr seen tdr td pre rest ag cg vs Fs cs) (hW : Below w0.heap.size w0 W) : Kept (fun b => w0.heap.size ≤ b ∨ lb = some b) w0 wr := (Kept.of_below hW (Nat.le_refl _) _).trans h.kept
/-- what lies behind marks that are taken: nothing turned but marks -/
theorem leaves_marks {P : Program} {n : Nat} {fn : Func} {tmps : Array Value} {R : Ending → World → Prop} {B : Nat} : ∀ (ds : List Deferred) (w : World), Marks B ds w → (∀ w', Kept (fun b => B ≤ b ∧ ∃ o, w.heap[b]? = some o ∧ o.isCells = false) w w' → LeavesInM Fence.wide n P fn tmps R [] .returning w') → LeavesInM Fence.wide n P fn tmps R ds .returning w
  | [], w, _, h => h w (Kept.refl _ w)
  | d :: ds, w, ⟨⟨D, h1, h2, h3, h4⟩, hr⟩, h => by
    refine ⟨by simp, .inl ⟨D, _, by rw [h1], run_takeDeferred h3, leaves_marks ds _ (hr.frame fun D' ⟨d', hd, e⟩ _ => World.putObj_heap_other (fun e' => h4 d' hd (by rw [e, e']))) fun w' hk => h w' (Kept.trans (kept_put (X := fun b => B ≤ b ∧ ∃ o, w.heap[b]? = some o ∧ o.isCells = false) w D _ ⟨h2, _, h3, rfl⟩) (hk.mono fun b hb q => ?_))⟩⟩
    obtain ⟨q1, o, q2, q3⟩ := q
    by_cases e : b = D
    · subst e
      exact ⟨q1, _, h3, rfl⟩
    · exact ⟨q1, o, (World.putObj_heap_other e).symm.trans q2, q3⟩
section
variable {X : World → Nat → Prop} {lb : Option Nat} {Zw : Nat → Prop} {w0 W : World} {q : Nat} {K : PS} {deep : Bool} {l : Nat} {J : List (Int × Fact) → World → Prop} {L : List (Int × PF)} {d0 d : Nat} {ds : List Deferred} {wr : World} {seen : SN} {tdr td : List Ty} {pre : List (Int × Fact)} {rest : List (Int × PF)} {ag : Option Addr} {cg : Nat} {vs : List Value} {Fs : FK} {cs : Nat}
/-- the look, through a step that leaves what lies as it lay -/
theorem OpenR.here (h : OpenR lb Zw w0 W q K deep l J L d0 d ds wr seen tdr td pre rest ag cg vs Fs cs) (hJ : ∀ s A C, J s A → Rg.Steps X W.heap.size A C → J s C) (hz : ∀ b, Zw b → b < W.heap.size) {w' : World} (hb : Below wr.heap.size wr w') : OpenR lb Zw w0 W q K deep l J L d0 d ds w' seen tdr td pre rest ag cg vs Fs cs :=
  ⟨h.run, h.all, hJ _ _ _ h.j (Kept.of_below hb (Nat.le_refl _) _), h.kept.trans (Kept.of_below hb (Nat.le_refl _) _), h.bx6.below hb h.bx6.lt, own_here h.own hb, h.row.below hb (fun b hb' => by have := hz b hb'; have := h.big; omega), h.sm.below hb h.sm.lt, h.sn, h.csd, h.marks.frame (fun D _ hD => hb.block D (Array.getElem?_eq_some_iff.1 hD).1), h.tdl, Nat.lt_of_lt_of_le h.big hb.size, h.prl⟩
/-- the last type is taken off -/
theorem OpenR.pop {x' : Ty} {td' : List Ty} {g : Nat} {tdr' : List Ty} (h : OpenR lb Zw w0 W q K deep l J L d0 (d + 1) ds wr seen tdr (x' :: td') pre rest (some ⟨g, 0, none⟩) cg vs Fs cs) (hJ : ∀ s A C, J s A → Rg.Steps X W.heap.size A C → J s C) (hz : ∀ b, Zw b → b < W.heap.size) (hX : XOK X lb w0 Zw) (hw0 : w0.heap.size ≤ W.heap.size) (hrun : openL q K deep d seen tdr' = some rest) :
    OpenR lb Zw w0 W q K deep l J L d0 d ds (wr.setCell ⟨W.heap.size + 2, 0, none⟩ (.slice (some ⟨g, 0, none⟩) td'.length cg)) seen tdr' td' pre rest (some ⟨g, 0, none⟩) cg (vs.take (td'.length * 4)) Fs cs := by
  have hg := own_tyB h.own (k := g) rfl
  have hcut := own_cut h.own (m := td'.length) (by simp)
  have hrow := RowT.cut (x := x') (l := td'.reverse) (by have := h.row; rwa [List.reverse_cons] at this)
  rw [List.length_reverse] at hrow
  have hm6 := h.sm.ne h.bx6
  have hb6 : ∀ k, k ≠ W.heap.size + 2 → (wr.setCell ⟨W.heap.size + 2, 0, none⟩ (.slice (some ⟨g, 0, none⟩) td'.length cg)).heap[k]? = wr.heap[k]? := fun k hk => Below.heap_setCell wr ⟨W.heap.size + 2, 0, none⟩ _ k hk
  have hbg := h.big
  refine ⟨hrun, h.all, hJ _ _ _ h.j ((Kept.refl _ wr).setCell (a := ⟨W.heap.size + 2, 0, none⟩) (fun _ => ⟨by show _ ≤ W.heap.size + 2; omega, hX.box h.bx6 (by decide) (by show _ ≤ W.heap.size + 2; omega)⟩) _), h.kept.trans ((Kept.refl _ wr).setCell (a := ⟨W.heap.size + 2, 0, none⟩) (fun _ => .inl (by show _ ≤ W.heap.size + 2; omega)) _), h.bx6.put 0 _, own_far hcut h.bx6 (by decide) 0 _, hrow.frame (fun b o hb => World.cell?_of_block (hb6 b (by have := hz b hb; omega))) (fun ad hb => World.cell?_of_block (hb6 _ (by have := hz _ hb; omega))) (fun _ h => h), h.sm.same (hb6 _ hm6), h.sn, by have := h.csd; omega, h.marks.frame (fun D _ hD => hb6 D (fun e => by have q := h.bx6; unfold Box at q; rw [← e, hD] at q; injection q with q; cases q)), Nat.le_trans (Nat.le_succ _) h.tdl, by rw [World.size_setCell]; exact h.big, by have := h.prl; omega⟩
end
section
variable {X : World → Nat → Prop} {lb : Option Nat} {Zw : Nat → Prop} {w0 W w6 : World} {q : Nat} {K : PS} {deep : Bool} {l : Nat} {J : List (Int × Fact) → World → Prop} {L : List (Int × PF)} {d0 d : Nat} {ds : List Deferred} {seen : SN} {xs' td' : List Ty} {pre : List (Int × Fact)} {rest : List (Int × PF)} {g : Nat} {cg : Nat} {vs : List Value} {Fs : FK} {cs : Nat}
theorem OpenR.push0 {G : TA → Prop} (h : OpenR lb Zw w0 W q K deep l J L d0 d ds w6 seen (xs' ++ td') td' pre rest (some ⟨g, 0, none⟩) cg vs Fs cs) : PushI (G := G) Zw W.heap.size g w6 td' [] w6 :=
  ⟨_, _, _, ⟨h.bx6, h.own, by simpa using h.row, fun k e => .inl (by injection e with e; exact e.symm), Kept.refl _ _⟩⟩
theorem OpenR.pushed {G : TA → Prop} {prei : List (Int × { e : TA // G e })} {Wd : World} {D : Nat} (h : OpenR lb Zw w0 W q K deep l J L d0 d ds w6 seen (xs' ++ td') td' pre rest (some ⟨g, 0, none⟩) cg vs Fs cs)
    (hp : PushI Zw W.heap.size g w6 td' prei Wd) (hx : prei.map (fun p => p.2.1.1) = xs'.reverse) (hl : xs'.length + td'.length < limT) (hD : w6.heap.size ≤ D) (hDef : Wd.heap[D]? = some (.deferred (some [])))
    (hJ : ∀ s A C, J s A → Rg.Steps X W.heap.size A C → J s C) (hX : XOK X lb w0 Zw) (hw0 : w0.heap.size ≤ W.heap.size) : OpenI lb Zw w0 W q K deep l J L d0 d ({ target := .collected D, args := #[] } :: ds) Wd := by
  obtain ⟨ag', cg', vs', hp⟩ := hp
  obtain ⟨hgB, hgT⟩ := own_tyB h.own (k := g) rfl
  have hlx : prei.length = xs'.length := by have := congrArg List.length hx; simpa using this
  have hlen : (xs' ++ td').length = td'.length + prei.length := by simp; omega
  have hbg := h.big
  have cellsNe : ∀ {k : Nat} {o : Obj}, w6.heap[k]? = some o → o.isCells = false → k ≠ W.heap.size + 2 ∧ k ≠ g := fun hk ho => by
    constructor
    · rintro rfl
      have := h.bx6
      unfold Box at this
      rw [hk] at this
      injection this with this
      rw [this] at ho
      cases ho
    · rintro rfl
      exact Rg.obj_ne hk ho hgT
  refine ⟨seen, xs' ++ td', pre, rest, ag', cg', vs', Fs, cs, ⟨h.run, h.all, hJ _ _ _ h.j (hp.kp.mono fun k hk q => ⟨by rcases q with e | e | e <;> omega, by
    rcases q with e | e | e
    · rw [e]; exact hX.box h.bx6 (by decide) (by omega)
    · rw [e]; exact hX.ty hgT (by decide) (by omega)
    · omega⟩), h.kept.trans (hp.kp.mono fun k _ q => .inl (by rcases q with e | e | e <;> omega)), by rw [hlen]; exact hp.bx, by rw [hlen]; exact hp.own, by rw [List.reverse_append, ← hx]; exact hp.row, ?_, h.sn, h.csd, ?_, ?_, Nat.lt_of_lt_of_le h.big hp.kp.size, h.prl⟩⟩
  · refine h.sm.same (hp.kp.block _ h.sm.lt ?_)
    rintro (e | e | e)
    · omega
    · have := h.sm.ne (show Box w6 g TT hgT.choose from hgT.choose_spec)
      exact this e
    · omega
  · refine ⟨⟨D, rfl, by omega, hDef, fun d' hd' e => ?_⟩, h.marks.frame fun D' ⟨d', hd', e⟩ hD' => hp.kp.block D' (Array.getElem?_eq_some_iff.1 hD').1 ?_⟩
    · obtain ⟨D', e', hlt⟩ := h.marks.lt d' hd'
      rw [e] at e'
      injection e' with e'
      omega
    · obtain ⟨n1, n2⟩ := cellsNe hD' rfl
      have := (Array.getElem?_eq_some_iff.1 hD').1
      rintro (e | e | e)
      · exact n1 e
      · exact n2 e
      · omega
  · rw [List.length_append]
    unfold limT at hl
    omega
end
section
variable {X : World → Nat → Prop} {lb : Option Nat} {Zw : Nat → Prop} {w0 W : World} {q : Nat} {K : PS} {deep : Bool} {l : Nat} {J : List (Int × Fact) → World → Prop} {L L' : List (Int × PF)} {d0 d : Nat} {ds : List Deferred} {wr w' : World} {seen seen' : SN} {tdr tdr' td' : List Ty} {x' : Ty} {pre : List (Int × Fact)} {rest rest' : List (Int × PF)} {g : Nat} {cg : Nat} {vs : List Value} {Fs Fs' : FK} {cs cs' : Nat}
/-- the last type is taken off, and the variable is counted -/
theorem OpenR.bump (h : OpenR lb Zw w0 W q K deep l J L d0 (d + 1) ds wr seen tdr (x' :: td') pre rest (some ⟨g, 0, none⟩) cg vs Fs cs) (hJ : ∀ s A C, J s A → Rg.Steps X W.heap.size A C → J s C) (hz : ∀ b, Zw b → b < W.heap.size) (hX : XOK X lb w0 Zw) (hw0 : w0.heap.size ≤ W.heap.size)
    (hturn : (wr.setCell ⟨W.heap.size + 2, 0, none⟩ (.slice (some ⟨g, 0, none⟩) td'.length cg)).grownBy w' (some W.heap.size)) (hmk : MapK w' Try.prog TI W.heap.size Fs' cs') (hsn : ∀ n, inI n = true → (Fs' (.int .i64 n)).getD (.int .i64 0) = .int .i64 (seen' n)) (hcs : cs' ≤ cs + 1)
    (hrun : openL q K deep d seen' tdr' = some rest') (hall : L'.map (fun y => (y.1, y.2.least)) = pre.map (fun y => (y.1, y.2.least)) ++ rest'.map (fun y => (y.1, y.2.least))) :
    OpenR lb Zw w0 W q K deep l J L' d0 d ds w' seen' tdr' td' pre rest' (some ⟨g, 0, none⟩) cg (vs.take (td'.length * 4)) Fs' cs' := by
  have hg := own_tyB h.own (k := g) rfl
  have hcut := own_cut h.own (m := td'.length) (by simp)
  have hrow := RowT.cut (x := x') (l := td'.reverse) (by have := h.row; rwa [List.reverse_cons] at this)
  rw [List.length_reverse] at hrow
  have hbg := h.big
  have hK5 : Kept (fun b => b = W.heap.size + 2 ∨ b = W.heap.size) wr (wr.setCell ⟨W.heap.size + 2, 0, none⟩ (.slice (some ⟨g, 0, none⟩) td'.length cg)) := Kept.setCell (X := fun b => b = W.heap.size + 2 ∨ b = W.heap.size) (Kept.refl _ wr) (a := ⟨W.heap.size + 2, 0, none⟩) (fun _ => .inl rfl) _
  have hK := Kept.grown hK5 hturn (fun k e _ => by injection e with e; exact .inr e.symm)
  have hK6 : Kept (fun b => b = W.heap.size) (wr.setCell ⟨W.heap.size + 2, 0, none⟩ (.slice (some ⟨g, 0, none⟩) td'.length cg)) w' := Kept.grown (Kept.refl _ _) hturn (fun k e _ => by injection e with e; exact e.symm)
  have hgm : W.heap.size ≠ g := by
    obtain ⟨cs, hc⟩ := hg.2
    exact h.sm.ne (show Box wr g TT cs from hc)
  have hcell : ∀ ad : Addr, Zw ad.block → w'.cell? ad = wr.cell? ad := fun ad hZ => World.cell?_of_block (hK.block ad.block (by have := hz _ hZ; omega) (fun q => by have := hz _ hZ; omega))
  refine ⟨hrun, hall, hJ _ _ _ h.j (hK.mono fun k _ q => ⟨by omega, by
    rcases q with e | e
    · rw [e]; exact hX.box h.bx6 (by decide) (by omega)
    · rw [e]; exact hX.map h.sm hw0⟩), h.kept.trans (hK.mono fun k _ q => .inl (by omega)), hK6.box (h.bx6.put 0 _) (by omega), kept_own hK6 (own_far hcut h.bx6 (by decide) 0 _) (fun g' e q => hgm (by rw [← q]; injection e with e; exact e.symm)), hrow.frame (fun b o hb => hcell ⟨b, o, none⟩ hb) hcell (fun _ h => h), hmk, hsn, by have := h.csd; omega, h.marks.frame (fun D _ hD => hK.block D (Array.getElem?_eq_some_iff.1 hD).1 ?_), Nat.le_trans (Nat.le_succ _) h.tdl, Nat.lt_of_lt_of_le h.big hK.size, by have := h.prl; omega⟩
  rintro (e | e)
  · have q := h.bx6
    unfold Box at q
    rw [← e, hD] at q
    injection q with q
    cases q
  · obtain ⟨D0, ⟨es, clock, k1, _⟩, _⟩ := h.sm
    rw [← e, hD] at k1
    injection k1 with k1
    cases k1
/-- a variable is told, and the round goes on -/
theorem OpenR.yielded {td : List Ty} {ag : Option Addr} {x : Int × Fact} (h : OpenR lb Zw w0 W q K deep l J L' d0 d ds wr seen tdr td pre rest ag cg vs Fs cs) (hz : ∀ b, Zw b → b < w0.heap.size) (hX : XOK X lb w0 Zw) (hw0 : w0.heap.size ≤ W.heap.size) (hlo : w0.heap.size ≤ l) (hlt : l < W.heap.size) (hr : Rg.Rounds X l wr w') (hj : J (pre ++ [x]) w')
    (hall : L.map (fun y => (y.1, y.2.least)) = (pre ++ [x]).map (fun y => (y.1, y.2.least)) ++ rest.map (fun y => (y.1, y.2.least))) (hp : pre.length + (d + 1) ≤ d0) :
    OpenR lb Zw w0 W q K deep l J L d0 d ds w' seen tdr td (pre ++ [x]) rest ag cg vs Fs cs := by
  have hbg := h.big
  have hcell : ∀ ad : Addr, Zw ad.block → w'.cell? ad = wr.cell? ad := fun ad hZ => World.cell?_of_block (hr.block ad.block (by have := hz _ hZ; omega) (fun q => q.elim (fun e => by have := hz _ hZ; omega) fun e => (hX.x _ _ e).elim (fun e => hX.z _ e hZ) fun e => by have := hz _ hZ; omega))
  refine ⟨h.run, hall, hj, h.kept.trans (hr.mono fun k _ q => q.elim (fun e => .inl (by omega)) fun e => (hX.x _ _ e).elim .inr fun e => .inl e.1), hr.box h.bx6 (fun q => q.elim (fun e => by omega) (hX.box h.bx6 (by decide) (by omega))), kept_own hr h.own (fun g' e q => q.elim (fun e' => by have := (own_tyB h.own e).1; omega) (hX.ty (own_tyB h.own e).2 (by decide) (by have := (own_tyB h.own e).1; omega))), h.row.frame (fun b o hb => hcell ⟨b, o, none⟩ hb) hcell (fun _ h => h), h.sm.same (hr.block _ h.sm.lt (fun q => q.elim (fun e => by omega) (hX.map h.sm hw0))), h.sn, h.csd, h.marks.frame (fun D ⟨d', hd', e⟩ hD => hr.block D (Array.getElem?_eq_some_iff.1 hD).1 (fun q => q.elim (fun e' => by have := h.marks.ge d' hd' D e; omega) (hX.obj hD rfl (by have := h.marks.ge d' hd' D e; omega)))), h.tdl, Nat.lt_of_lt_of_le h.big hr.size, by rw [List.length_append]; simp only [List.length_cons, List.length_nil]; omega⟩
end
end Go.Proofs.Ytgomafdhckfnbaa.Og
