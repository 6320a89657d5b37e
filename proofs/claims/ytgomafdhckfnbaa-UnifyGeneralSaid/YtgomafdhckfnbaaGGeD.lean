/-
  WHAT RESOLVE TELLS HAS THE VALUE OF WHAT WAS ASKED, plainly. No memory in sight.
-/
import Derived.Test.YtgomafdhckfnbaaGGeC

namespace Go.Proofs.Ytgomafdhckfnbaa.Un
open Go.RowKit Mm Tm Rn Ua
set_option linter.unusedVariables false
/-- variables are no less than 0, and bare -/
def clT : Tys → Prop
  | .nil => True
  | .cons kd n nm args rest => (kd = 1 → 0 ≤ n ∧ nm = (⟨#[]⟩ : ByteArray) ∧ args = .nil) ∧ (kd ≠ 1 → clT args) ∧ clT rest
def clY (x : Ty) : Prop := (x.kd = 1 → 0 ≤ x.n ∧ x.nm = (⟨#[]⟩ : ByteArray) ∧ x.args = .nil) ∧ (x.kd ≠ 1 → clT x.args)
theorem cl_okT : ∀ t : Tys, okT t = true → clT t
  | .nil, _ => trivial
  | .cons kd n nm args rest, h => by
    rw [okT, Bool.and_eq_true] at h
    refine ⟨fun hk => ?_, fun hk => ?_, cl_okT rest h.2⟩
    · rw [if_pos hk] at h
      have h1 := h.1
      unfold headV at h1
      simp only [Bool.and_eq_true, decide_eq_true_eq] at h1
      obtain ⟨h2, h3, h4, h5⟩ := h1
      refine ⟨h2, h4, ?_⟩
      cases args with
      | nil => rfl
      | cons _ _ _ _ _ => rw [Tys.len] at h5; omega
    · rw [if_neg hk, Bool.and_eq_true] at h
      exact cl_okT args h.1.2
theorem cl_ok {x : Ty} (h : okTy x = true) : clY x := by
  have := cl_okT (.cons x.kd x.n x.nm x.args .nil) (by rw [okT]; unfold okTy at h; rw [h]; rfl)
  exact ⟨this.1, this.2.1⟩
theorem clT_ofL : ∀ l : List Ty, (∀ y ∈ l, clY y) → clT (Tys.ofL l)
  | [], _ => trivial
  | x :: l, h => ⟨(h x (by simp)).1, (h x (by simp)).2, clT_ofL l fun y hy => h y (by simp [hy])⟩
/-- values of what is bare, by what is told of some variables -/
def getV (f : Int → Option Ty) (n : Int) : Ty := (f n).getD (vrT n)
theorem subT_get {f : Int → Option Ty} : ∀ t : Tys, clT t → subT f t = subT (fun n => some (getV f n)) t
  | .nil, _ => rfl
  | .cons kd n nm args rest, h => by
    rw [subT, subT, subT_get rest h.2.2]
    by_cases hk : kd = 1
    · obtain ⟨h0, rfl, rfl⟩ := h.1 hk
      subst hk
      rw [if_pos rfl, if_pos rfl]
      dsimp only [getV]
      cases f n with
      | none => rfl
      | some y => rfl
    · rw [if_neg hk, if_neg hk, subT_get args (h.2.1 hk)]
theorem sub_get {f : Int → Option Ty} {x : Ty} (h : clY x) : sub1 f x = Val (getV f) x := by
  obtain ⟨kd, n, nm, args⟩ := x
  unfold Val sub1
  by_cases hk : kd = 1
  · obtain ⟨h0, h1, h2⟩ := h.1 hk
    simp only at h0 h1 h2 hk
    subst h1 h2 hk
    rw [if_pos rfl, if_pos rfl]
    rfl
  · rw [if_neg hk, if_neg hk, subT_get _ (h.2 hk)]
/-- of which the values may be may be itself -/
theorem ok_backT {g : Int → Ty} (hg : ∀ n, 0 ≤ n → okTy (g n) = true → n ≤ 1073741824) : ∀ t : Tys, clT t → okT (subT (fun n => some (g n)) t) = true → okT t = true
  | .nil, _, _ => rfl
  | .cons kd n nm args rest, h, ho => by
    rw [subT] at ho
    rw [okT]
    by_cases hk : kd = 1
    · obtain ⟨h0, rfl, rfl⟩ := h.1 hk
      rw [if_pos hk] at ho ⊢
      dsimp only at ho
      rw [okT, Bool.and_eq_true] at ho
      rw [ok_backT hg rest h.2.2 ho.2]
      have h1 : okTy (g n) = true := by unfold okTy; exact ho.1
      have := hg n h0 h1
      unfold headV
      simp only [decide_eq_true h0, decide_eq_true this, Tys.len]
      rfl
    · rw [if_neg hk] at ho ⊢
      rw [okT, if_neg hk, Bool.and_eq_true, Bool.and_eq_true] at ho
      rw [ok_backT hg rest h.2.2 ho.2, ok_backT hg args (h.2.1 hk) ho.1.2]
      have := ho.1.1
      rw [subT_len] at this
      rw [this]
      rfl
theorem ok_back {g : Int → Ty} (hg : ∀ n, 0 ≤ n → okTy (g n) = true → n ≤ 1073741824) {x : Ty} (h : clY x) (ho : okTy (Val g x) = true) : okTy x = true := by
  obtain ⟨kd, n, nm, args⟩ := x
  have e : okT (subT (fun n => some (g n)) (.cons kd n nm args .nil)) = true := by
    unfold Val sub1 at ho
    rw [subT]
    by_cases hk : kd = 1
    · rw [if_pos hk] at ho ⊢
      dsimp only at ho ⊢
      rw [okT]
      unfold okTy at ho
      simp only [Option.getD_some] at ho
      rw [ho]
      rfl
    · rw [if_neg hk] at ho ⊢
      rw [okT]
      unfold okTy at ho
      simp only at ho
      rw [ho]
      rfl
  have := ok_backT hg (.cons kd n nm args .nil) ⟨h.1, h.2, trivial⟩ e
  rw [okT] at this
  unfold okTy
  simpa [okT] using this
theorem foldW_is {f : Nat → Ty → Option (Nat × Option Ty)} {Q : Ty → Ty → Prop} : ∀ (l : List Ty) (n : Nat) (ac : List Ty) (n' : Nat) (ys : List Ty), (∀ x ∈ l, ∀ n m y, f n x = some (m, some y) → Q x y) → foldW f n l ac = some (n', some ys) → ∃ zs, ys = ac ++ zs ∧ zs.length = l.length ∧ ∀ (i : Nat) x z, l[i]? = some x → zs[i]? = some z → Q x z
  | [], n, ac, n', ys, _, h => by
    unfold foldW at h
    simp only [Option.some.injEq, Prod.mk.injEq] at h
    exact ⟨[], by rw [List.append_nil]; exact h.2.symm, rfl, fun i x z h => by simp at h⟩
  | x :: l, n, ac, n', ys, hf, h => by
    unfold foldW at h
    split at h
    · cases h
    · simp at h
    · rename_i m y hy
      obtain ⟨zs, h1, h2, h3⟩ := foldW_is l m _ n' ys (fun x hx => hf x (List.mem_cons_of_mem _ hx)) h
      refine ⟨y :: zs, by rw [h1, List.append_assoc]; rfl, by rw [List.length_cons, List.length_cons, h2], fun i u z e1 e2 => ?_⟩
      cases i with
      | zero =>
        simp at e1 e2
        subst e1 e2
        exact hf x (by simp) _ _ _ hy
      | succ i => exact h3 i u z (by simpa using e1) (by simpa using e2)
theorem map_eq_of {α β : Type} {F G : α → β} : ∀ (l l' : List α), l'.length = l.length → (∀ (i : Nat) x z, l[i]? = some x → l'[i]? = some z → G z = F x) → l'.map G = l.map F
  | [], [], _, _ => rfl
  | [], _ :: _, h, _ => by cases h
  | _ :: _, [], h, _ => by cases h
  | x :: l, z :: l', h, hf => by rw [List.map_cons, List.map_cons, hf 0 x z rfl rfl, map_eq_of l l' (by simpa using h) fun i u v e1 e2 => hf (i + 1) u v (by simpa using e1) (by simpa using e2)]
theorem val_lit (v : Int → Ty) {x : Ty} (h : x.kd ≠ 1) : Val v x = ⟨x.kd, x.n, x.nm, subT (fun n => some (v n)) x.args⟩ := by unfold Val sub1; rw [if_neg h]
/-- what is told whole has the same value -/
theorem whole_sol {q : Nat} {s : St} {v : Int → Ty} (h : Sol s.K v) (hf : Fr s) (hP : ∀ n kd nm xs, s.K n = some (.typ kd nm xs) → kd ≠ 1) : ∀ (k room : Nat) (x : Ty) (m : Nat) (y : Ty), negY s.K x → zY x → wholeP q s.K k room x = some (m, some y) → Val v y = Val v x ∧ clY y
  | 0, room, x, m, y, _, _, hw => by unfold wholeP at hw; split at hw <;> simp at hw
  | k + 1, room, x, m, y, hn, hz, hw => by
    cases ht : takenP q s.K x with
    | none => rw [wholeP, ht] at hw; split at hw <;> simp at hw
    | some a =>
      cases ho : a.isOpn with
      | true =>
        cases a with
        | typ x' => cases ho
        | var n f =>
          cases f with
          | link r => cases ho
          | typ kd nm xs => cases ho
          | opn l d hd =>
            rw [wholeP, ht] at hw
            split at hw
            · simp at hw
            · simp only [Option.some.injEq, Prod.mk.injEq] at hw
              obtain ⟨_, rfl⟩ := hw
              obtain ⟨o1, o2, o3, _, _⟩ := open_val h hf hn ht
              exact ⟨by rw [val_var v rfl, o1, o2], fun _ => ⟨o3, rfl, rfl⟩, fun e => absurd rfl e⟩
      | false =>
        rw [whole_known ht ho] at hw
        split at hw
        · simp at hw
        · obtain ⟨⟨r1, o⟩, h1, h2⟩ := Option.map_eq_some_iff.1 hw
          simp only [Prod.mk.injEq] at h2
          obtain ⟨rfl, h2⟩ := h2
          obtain ⟨ys, rfl, rfl⟩ := Option.map_eq_some_iff.1 h2
          obtain ⟨zs, z1, z2, z3⟩ := foldW_is (Q := fun x y => Val v y = Val v x ∧ clY y) a.parts (room - 1) [] r1 ys (fun u hu n' m' y' e => whole_sol h hf hP k n' u m' y' (side_neg hf hn ht u hu) (side_z hz ht u hu) e) h1
          rw [List.nil_append] at z1
          subst z1
          have hk1 : a.kd ≠ 1 := by
            cases a with
            | typ x' => exact (typ_taken ht).1 ∘ fun e => by rw [← (typ_taken ht).2.2]; exact e
            | var n f =>
              cases f with
              | link r => exact absurd rfl ((end_leads q x.n (var_taken ht).2).2.2.2 r)
              | opn l d hd => cases ho
              | typ kd nm xs =>
                rcases (end_leads q x.n (var_taken ht).2).2.2.1 with e | ⟨_, e⟩
                · exact hP _ _ _ _ e
                · cases e
          have hkv := known_val h hz ht ho
          have hmap := map_eq_of (F := Val v) (G := Val v) a.parts ys z2 fun i u z e1 e2 => (z3 i u z e1 e2).1
          refine ⟨?_, fun e => absurd e hk1, fun _ => clT_ofL ys fun z hz' => ?_⟩
          · rw [hkv, val_lit v (x := ⟨a.kd, 0, a.nm, Tys.ofL ys⟩) hk1, subT_val, Tys.toL_ofL, hmap]
          · obtain ⟨i, hi⟩ := List.getElem?_of_mem hz'
            have hil : i < a.parts.length := by rw [← z2]; exact (List.getElem?_eq_some_iff.1 hi).1
            exact (z3 i _ z (List.getElem?_eq_getElem hil) hi).2
end Go.Proofs.Ytgomafdhckfnbaa.Un
