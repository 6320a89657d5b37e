/-
  VALUES THAT SOLVE WHAT IS KNOWN, plainly. No memory in sight.
-/
import Derived.Test.YtgomafdhckfnbaaGA
import Derived.Test.YtgomafdhckfnbaaGSmA

namespace Go.Proofs.Ytgomafdhckfnbaa.Un
open Go.RowKit Mm Tm Rn
set_option linter.unusedVariables false
/-- a type's value -/
def Val (v : Int → Ty) (x : Ty) : Ty := sub1 (fun n => some (v n)) x
theorem val_var (v : Int → Ty) {x : Ty} (h : x.kd = 1) : Val v x = v x.n := by unfold Val sub1; rw [if_pos h]; rfl
/-- no numbers but variables' -/
def zT : Tys → Prop
  | .nil => True
  | .cons kd n nm args rest => (kd ≠ 1 → n = 0 ∧ zT args) ∧ zT rest
def zY (x : Ty) : Prop := x.kd ≠ 1 → x.n = 0 ∧ zT x.args
theorem zT_all : ∀ t : Tys, zT t → ∀ y ∈ t.toL, zY y
  | .nil, _, y, hy => by simp [Tys.toL] at hy
  | .cons kd n nm args rest, h, y, hy => by
    rw [Tys.toL] at hy
    rcases List.mem_cons.1 hy with rfl | q
    · exact h.1
    · exact zT_all rest h.2 y q
/-- what is known holds of the values -/
structure Sol (K : PS) (v : Int → Ty) : Prop where
  lnk : ∀ n r, K n = some (.link r) → v n = v r
  opn : ∀ n l d h, K n = some (.opn l d h) → v n = v l ∧ 0 ≤ l
  typ : ∀ n kd nm xs, K n = some (.typ kd nm xs) → v n = ⟨kd, 0, nm, Tys.ofL (xs.map v)⟩
theorem Sol.lead {K : PS} {v : Int → Ty} (h : Sol K v) {n r : Int} (hl : Leads K n r) : v n = v r := by
  induction hl with
  | refl n => rfl
  | step e _ ih => exact (h.lnk _ _ e).trans ih
/-- what may be told of a variable -/
def SolF (v : Int → Ty) (n : Int) : PF → Prop
  | .link r => v n = v r
  | .opn l d h => v n = v l ∧ 0 ≤ l
  | .typ kd nm xs => v n = ⟨kd, 0, nm, Tys.ofL (xs.map v)⟩
theorem Sol.set {s s' : St} {v : Int → Ty} {n : Int} {f : PF} (h : Sol s.K v) (hs : setP s n f = some s') (hf : SolF v n f) : Sol s'.K v := by
  have hk := (set_is hs).1
  rw [hk]
  refine ⟨fun m r e => ?_, fun m l d hd e => ?_, fun m kd nm xs e => ?_⟩ <;>
  · by_cases hm : m = n
    · subst hm
      rw [updP_same] at e
      injection e with e
      rw [e] at hf
      exact hf
    · rw [updP_other _ _ hm] at e
      first | exact h.lnk _ _ e | exact h.opn _ _ _ _ e | exact h.typ _ _ _ _ e
/-- values agree where names are good -/
def Agree (K : PS) (v v' : Int → Ty) : Prop := ∀ n, NegK K n → v' n = v n
theorem Agree.refl (K : PS) (v : Int → Ty) : Agree K v v := fun n _ => rfl
theorem Agree.trans {K K' : PS} {v v' v'' : Int → Ty} (he : Ext K K') (h : Agree K v v') (k : Agree K' v' v'') : Agree K v v'' := fun n q => (k n (q.ext he)).trans (h n q)
theorem subT_agree {K : PS} {v v' : Int → Ty} (h : Agree K v v') : ∀ t : Tys, negT K t → subT (fun n => some (v' n)) t = subT (fun n => some (v n)) t
  | .nil, _ => rfl
  | .cons kd n nm args rest, hn => by
    rw [subT, subT, subT_agree h rest hn.2.2]
    by_cases hk : kd = 1
    · rw [if_pos hk, if_pos hk, h n (hn.1 hk)]
    · rw [if_neg hk, if_neg hk, subT_agree h args hn.2.1]
theorem Val.agree {K : PS} {v v' : Int → Ty} (h : Agree K v v') {x : Ty} (hn : negY K x) : Val v' x = Val v x := by
  unfold Val sub1
  by_cases hk : x.kd = 1
  · rw [if_pos hk, if_pos hk]; exact h x.n (hn.1 hk)
  · rw [if_neg hk, if_neg hk, subT_agree h _ hn.2]
theorem subT_val (v : Int → Ty) (t : Tys) : subT (fun n => some (v n)) t = Tys.ofL (t.toL.map (Val v)) := by
  rw [← Tys.ofL_toL (subT _ t), subT_all]
  rfl
/-- sides: what is known is the value's head -/
theorem known_val {q : Nat} {K : PS} {v : Int → Ty} (h : Sol K v) {x : Ty} (hz : zY x) {a : Sd} (ht : takenP q K x = some a) (ho : a.isOpn = false) : Val v x = ⟨a.kd, 0, a.nm, Tys.ofL (a.parts.map (Val v))⟩ := by
  unfold takenP at ht
  split at ht
  · rename_i hk
    obtain ⟨⟨r, f⟩, hz', e⟩ := Option.map_eq_some_iff.1 ht
    subst e
    obtain ⟨l1, _, k1, n1⟩ := end_leads q x.n hz'
    rw [val_var v hk, h.lead l1]
    cases f with
    | link r' => exact absurd rfl (n1 r')
    | opn l d hd => cases ho
    | typ kd nm xs =>
      rcases k1 with k1 | ⟨_, k1⟩
      · rw [h.typ _ _ _ _ k1]
        show _ = (⟨kd, 0, nm, Tys.ofL ((xs.map vrT).map (Val v))⟩ : Ty)
        rw [List.map_map]
        have : (Val v ∘ vrT) = v := by funext n; exact val_var v rfl
        rw [this]
      · cases k1
  · rename_i hk
    split at ht
    · cases ht
    · simp only [Option.some.injEq] at ht
      subst ht
      unfold Val sub1
      rw [if_neg hk, (hz hk).1, subT_val]
      rfl
theorem open_val {q : Nat} {s : St} {v : Int → Ty} (h : Sol s.K v) (hf : Fr s) {x : Ty} (hx : negY s.K x) {n l d : Int} {hd : Bool} (ht : takenP q s.K x = some (.var n (.opn l d hd))) : Val v x = v n ∧ v n = v l ∧ 0 ≤ l ∧ NegK s.K n ∧ OpenAt s.K n := by
  unfold takenP at ht
  split at ht
  · rename_i hk
    obtain ⟨⟨r, f⟩, hz', e⟩ := Option.map_eq_some_iff.1 ht
    simp only [Sd.var.injEq] at e
    obtain ⟨rfl, rfl⟩ := e
    obtain ⟨l1, _, k1, n1⟩ := end_leads q x.n hz'
    have hng := l1.neg hf (hx.1 hk)
    refine ⟨by rw [val_var v hk, h.lead l1], ?_⟩
    rcases k1 with k1 | ⟨k1, k2⟩
    · exact ⟨(h.opn _ _ _ _ k1).1, (h.opn _ _ _ _ k1).2, hng, open_end hz' rfl⟩
    · injection k2 with k2 _ _
      subst k2
      refine ⟨rfl, ?_, hng, open_end hz' rfl⟩
      by_cases h0 : 0 ≤ l
      · exact h0
      · exact absurd k1 (hng (by omega))
  · split at ht
    · cases ht
    · cases ht
/-- how many nodes a type has -/
def szP (x : Ty) : Nat := x.args.nodes + 1
theorem szP_part {x y : Ty} {l : List Ty} (h : x.args = Tys.ofL l) (hy : y ∈ l) : szP y < szP x := by
  obtain ⟨i, hi⟩ := List.getElem?_of_mem hy
  have := Tys.nodes_get x.args i y (by rw [h, Tys.toL_ofL]; exact hi)
  unfold szP
  omega
/-- the open variables of types are no greater than they -/
theorem open_small {q : Nat} {K : PS} {v : Int → Ty} (h : Sol K v) {deep : Bool} : ∀ (d : Nat) (seen : SN) (td : List Ty) (L : List (Int × PF)), openL q K deep d seen td = some L → (∀ z ∈ td, zY z) → ∀ y ∈ L, ∃ z ∈ td, szP (v y.1) ≤ szP (Val v z)
  | d, seen, [], L, hl, _, y, hy => by
    cases d <;> (unfold openL at hl; injection hl with hl; subst hl; cases hy)
  | 0, seen, x :: td, L, hl, _, y, hy => by cases hl
  | d + 1, seen, x :: td, L, hl, hz, y, hy => by
    have hzt : ∀ z ∈ td, zY z := fun z hz' => hz z (List.mem_cons_of_mem _ hz')
    have up : (∃ z ∈ td, szP (v y.1) ≤ szP (Val v z)) → ∃ z ∈ x :: td, szP (v y.1) ≤ szP (Val v z) := fun ⟨z, h1, h2⟩ => ⟨z, List.mem_cons_of_mem _ h1, h2⟩
    unfold openL at hl
    split at hl
    · cases hl
    · rename_i x' ht
      have hkx : x.kd ≠ 1 ∧ x' = x := by
        unfold takenP at ht
        split at ht
        · obtain ⟨z, _, e⟩ := Option.map_eq_some_iff.1 ht; cases e
        · rename_i hk
          split at ht
          · cases ht
          · simp only [Option.some.injEq, Sd.typ.injEq] at ht; exact ⟨hk, ht.symm⟩
      obtain ⟨hk, rfl⟩ := hkx
      split at hl
      · obtain ⟨z, h1, h2⟩ := open_small h d seen _ L hl (fun z hz' => by
          rcases List.mem_append.1 hz' with q' | q'
          · exact zT_all _ ((hz x' (by simp)) hk).2 z q'
          · exact hzt z q') y hy
        rcases List.mem_append.1 h1 with q' | q'
        · refine ⟨x', List.mem_cons_self .., Nat.le_trans h2 (Nat.le_of_lt ?_)⟩
          rw [known_val h (hz x' (by simp)) ht rfl]
          exact szP_part rfl (List.mem_map_of_mem q')
        · exact up ⟨z, q', h2⟩
      · cases hl
    · rename_i r f ht
      split at hl
      · exact up (open_small h d _ td L hl hzt y hy)
      · split at hl
        · obtain ⟨L', h1, rfl⟩ := Option.map_eq_some_iff.1 hl
          rcases List.mem_cons.1 hy with rfl | hy
          · refine ⟨x, List.mem_cons_self .., ?_⟩
            unfold takenP at ht
            split at ht
            · rename_i hk
              obtain ⟨⟨r', f'⟩, hz', e⟩ := Option.map_eq_some_iff.1 ht
              simp only [Sd.var.injEq] at e
              obtain ⟨rfl, rfl⟩ := e
              rw [val_var v hk, h.lead (end_leads q x.n hz').1]
              exact Nat.le_refl _
            · split at ht <;> cases ht
          · exact up (open_small h d _ td L' h1 hzt y hy)
        · rename_i ho
          split at hl
          · obtain ⟨z, h1, h2⟩ := open_small h d _ _ L hl (fun z hz' => by
              rcases List.mem_append.1 hz' with q' | q'
              · cases f with
                | link r' => simp [PF.parts] at q'
                | opn l d hd => simp [PF.parts] at q'
                | typ kd nm xs =>
                  simp only [PF.parts, List.mem_map] at q'
                  obtain ⟨m, _, rfl⟩ := q'
                  exact fun e => absurd rfl e
              · exact hzt z q') y hy
            rcases List.mem_append.1 h1 with q' | q'
            · refine ⟨x, List.mem_cons_self .., Nat.le_trans h2 (Nat.le_of_lt ?_)⟩
              rw [known_val h (hz x (by simp)) ht (by simpa [Sd.isOpn] using ho)]
              exact szP_part rfl (List.mem_map_of_mem q')
            · exact up ⟨z, q', h2⟩
          · cases hl
end Go.Proofs.Ytgomafdhckfnbaa.Un
