/-
  WHAT WAS MADE THE SAME IS TOLD ALIKE, plainly. No memory in sight.
-/
import Derived.Test.YtcaioffdcbjbjaaGSmA

namespace Go.Proofs.Ytcaioffdcbjbjaa.Un
open Go.RowKit Mm Tm
set_option linter.unusedVariables false
/-- both are known, with the same head -/
def Mt (a b : Sd) : Prop := a.isOpn = false ∧ b.isOpn = false ∧ a.kd = b.kd ∧ a.nm = b.nm ∧ a.parts.length = b.parts.length
/-- two types are taken alike, and their parts stand in a relation -/
def Good (q : Nat) (K : PS) (B : Ty → Ty → Prop) (x y : Ty) : Prop := takenP q K x = takenP q K y ∨ ∃ a b, takenP q K x = some a ∧ takenP q K y = some b ∧ Mt a b ∧ ∀ (i : Nat) u v, a.parts[i]? = some u → b.parts[i]? = some v → B u v
def Bis (q : Nat) (K : PS) (B : Ty → Ty → Prop) : Prop := ∀ x y, B x y → Good q K B x y
theorem foldW_congr {f : Nat → Ty → Option (Nat × Option Ty)} : ∀ (l l' : List Ty) (n : Nat) (ac : List Ty), l.length = l'.length → (∀ (i : Nat) u v, l[i]? = some u → l'[i]? = some v → ∀ n, f n u = f n v) → foldW f n l ac = foldW f n l' ac
  | [], [], n, ac, _, _ => rfl
  | [], _ :: _, n, ac, h, _ => by cases h
  | _ :: _, [], n, ac, h, _ => by cases h
  | u :: l, v :: l', n, ac, h, hf => by
    unfold foldW
    rw [hf 0 u v rfl rfl n]
    cases f n v with
    | none => rfl
    | some r =>
      obtain ⟨r1, o⟩ := r
      cases o with
      | none => rfl
      | some y => exact foldW_congr l l' r1 _ (by simpa using h) fun i u v h1 h2 => hf (i + 1) u v (by simpa using h1) (by simpa using h2)
theorem whole_known {q : Nat} {K : PS} {k room : Nat} {x : Ty} {a : Sd} (h : takenP q K x = some a) (ho : a.isOpn = false) : wholeP q K (k + 1) room x = if room = 0 then some (0, none) else (foldW (wholeP q K k) (room - 1) a.parts []).map fun r => (r.1, r.2.map fun ys => ⟨a.kd, 0, a.nm, Tys.ofL ys⟩) := by
  rw [wholeP, h]
  split
  · rfl
  · cases a with
    | typ x => rfl
    | var n f =>
      cases f with
      | link r => rfl
      | opn l d hd => cases ho
      | typ kd nm xs => rfl
theorem Bis.whole {q : Nat} {K : PS} {B : Ty → Ty → Prop} (h : Bis q K B) : ∀ (k room : Nat) (x y : Ty), B x y → wholeP q K k room x = wholeP q K k room y
  | 0, room, x, y, _ => by unfold wholeP; rfl
  | k + 1, room, x, y, hb => by
    rcases h x y hb with e | ⟨a, b, e1, e2, ⟨m1, m2, m3, m4, m5⟩, hp⟩
    · rw [wholeP, wholeP, e]
    · rw [whole_known e1 m1, whole_known e2 m2, m3, m4]
      rw [foldW_congr a.parts b.parts (room - 1) [] m5 fun i u v h1 h2 n => h.whole k n u v (hp i u v h1 h2)]
/-- a variable that stands for a part -/
def FlB (K : PS) (u y : Ty) : Prop := ∃ m, u = vrT m ∧ inI m = true ∧ (y.kd = 1 → m = y.n) ∧ (y.kd ≠ 1 → y.kd ≠ 0 ∧ ∃ ys, K m = some (.typ y.kd y.nm ys) ∧ FlatT K ys y.args)
theorem FlatT.len {K : PS} : ∀ (t : Tys) (xs : List Int), FlatT K xs t → xs.length = t.len
  | .nil, [], _ => rfl
  | .nil, _ :: _, h => h.elim
  | .cons _ _ _ _ _, [], h => h.elim
  | .cons kd n nm args rest, m :: ms, h => by rw [List.length_cons, Tys.len, FlatT.len rest ms h.2.2]
theorem FlatT.at_ {K : PS} : ∀ (t : Tys) (xs : List Int), FlatT K xs t → (∀ x ∈ xs, inI x = true) → ∀ (i : Nat) u y, (xs.map vrT)[i]? = some u → t.toL[i]? = some y → FlB K u y
  | .nil, [], _, _, i, u, y, h1, _ => by simp at h1
  | .nil, _ :: _, h, _, _, _, _, _, _ => h.elim
  | .cons _ _ _ _ _, [], h, _, _, _, _, _, _ => h.elim
  | .cons kd n nm args rest, m :: ms, h, hi, 0, u, y, h1, h2 => by
    simp [Tys.toL] at h1 h2
    subst h1 h2
    exact ⟨m, rfl, hi _ (by simp), h.1, h.2.1⟩
  | .cons kd n nm args rest, m :: ms, h, hi, i + 1, u, y, h1, h2 => FlatT.at_ rest ms h.2.2 (fun x hx => hi x (by simp [hx])) i u y (by simpa using h1) (by simpa [Tys.toL] using h2)
/-- ways end -/
def Ends (q : Nat) (K : PS) : Prop := ∀ n, inI n = true → ∃ z, endP K q n = some z
/-- a known variable is taken so -/
theorem taken_at {q : Nat} {K : PS} (hT : Ends q K) {x : Ty} {n : Int} {kd : Int} {nm : ByteArray} {xs : List Int} (hx : x.kd = 1) (hi : inI x.n = true) (hl : Leads K x.n n) (hk : K n = some (.typ kd nm xs)) : takenP q K x = some (.var n (.typ kd nm xs)) := by
  obtain ⟨z, hz⟩ := hT x.n hi
  have hz' := hl.end_ hz
  obtain ⟨r, f⟩ := z
  have : r = n ∧ f = .typ kd nm xs := by
    cases q with
    | zero => cases hz'
    | succ q =>
      unfold endP at hz'
      split at hz'
      · rw [hk] at hz'
        simp only [Option.some.injEq, Prod.mk.injEq] at hz'
        exact ⟨hz'.1.symm, hz'.2.symm⟩
      · cases hz'
  unfold takenP
  rw [if_pos hx, hz]
  rw [this.1, this.2]
  rfl
/-- two variables that lead to one are taken alike -/
theorem taken_same {q : Nat} {K : PS} (hT : Ends q K) {x y : Ty} {n : Int} (hx : x.kd = 1) (hy : y.kd = 1) (ix : inI x.n = true) (iy : inI y.n = true) (lx : Leads K x.n n) (ly : Leads K y.n n) : takenP q K x = takenP q K y := by
  obtain ⟨z, hz⟩ := hT x.n ix
  obtain ⟨z', hz'⟩ := hT y.n iy
  have := (lx.end_ hz).symm.trans (ly.end_ hz')
  unfold takenP
  rw [if_pos hx, if_pos hy, hz, hz', this]
/-- the relation that is told alike -/
def Bs (q : Nat) (K : PS) (P : Ty → Ty → Prop) (x y : Ty) : Prop := P x y ∨ P y x ∨ FlB K x y ∨ FlB K y x ∨ takenP q K x = takenP q K y
theorem Bs.symm {q : Nat} {K : PS} {P : Ty → Ty → Prop} {x y : Ty} (h : Bs q K P x y) : Bs q K P y x := by
  rcases h with h | h | h | h | h
  · exact .inr (.inl h)
  · exact .inl h
  · exact .inr (.inr (.inr (.inl h)))
  · exact .inr (.inr (.inl h))
  · exact .inr (.inr (.inr (.inr h.symm)))
theorem Bs.mono {q : Nat} {K : PS} {P P' : Ty → Ty → Prop} {x y : Ty} (h : Bs q K P x y) (hp : ∀ x y, P x y → P' x y) : Bs q K P' x y := by
  rcases h with h | h | h | h | h
  · exact .inl (hp _ _ h)
  · exact .inr (.inl (hp _ _ h))
  · exact .inr (.inr (.inl h))
  · exact .inr (.inr (.inr (.inl h)))
  · exact .inr (.inr (.inr (.inr h)))
theorem Good.symm {q : Nat} {K : PS} {P : Ty → Ty → Prop} {x y : Ty} (h : Good q K (Bs q K P) x y) : Good q K (Bs q K P) y x := by
  rcases h with h | ⟨a, b, e1, e2, ⟨m1, m2, m3, m4, m5⟩, hp⟩
  · exact .inl h.symm
  · exact .inr ⟨b, a, e2, e1, ⟨m2, m1, m3.symm, m4.symm, m5.symm⟩, fun i u v h1 h2 => (hp i v u h2 h1).symm⟩
theorem Good.mono {q : Nat} {K : PS} {P P' : Ty → Ty → Prop} {x y : Ty} (h : Good q K (Bs q K P) x y) (hp : ∀ x y, P x y → P' x y) : Good q K (Bs q K P') x y := by
  rcases h with h | ⟨a, b, e1, e2, hm, h⟩
  · exact .inl h
  · exact .inr ⟨a, b, e1, e2, hm, fun i u v h1 h2 => (h i u v h1 h2).mono hp⟩
/-- parts are in their bounds -/
def PartsIn (K : PS) : Prop := ∀ n kd nm xs, K n = some (.typ kd nm xs) → ∀ x ∈ xs, inI x = true
/-- a part and the variable that stands for it -/
theorem FlB.good {q : Nat} {K : PS} (hq : 0 < q) {P : Ty → Ty → Prop} {u y : Ty} (h : FlB K u y) (hp : PartsIn K) : Good q K (Bs q K P) u y := by
  obtain ⟨m, rfl, hu, h1, h2⟩ := h
  by_cases hk : y.kd = 1
  · left
    unfold takenP
    rw [if_pos rfl, if_pos hk, h1 hk]
  · obtain ⟨h0, ys, h3, h4⟩ := h2 hk
    refine .inr ⟨.var m (.typ y.kd y.nm ys), .typ y, ?_, ?_, ⟨rfl, rfl, rfl, rfl, ?_⟩, fun i u v e1 e2 => .inr (.inr (.inl (FlatT.at_ _ _ h4 (hp _ _ _ _ h3) i u v e1 e2)))⟩
    · unfold takenP
      rw [if_pos rfl]
      cases q with
      | zero => cases hq
      | succ q =>
        unfold endP
        rw [if_pos hu]
        show Option.map _ (match K m with | none => _ | some (.link r) => _ | some f => _) = _
        rw [h3]
        rfl
    · unfold takenP
      rw [if_neg hk, if_neg h0]
    · show (ys.map vrT).length = y.args.toL.length
      rw [List.length_map, FlatT.len _ _ h4, Tys.toL_len]
end Go.Proofs.Ytcaioffdcbjbjaa.Un
