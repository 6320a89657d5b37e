/-
  THE STORE ANSWERS, plainly: ways end, sides are taken, a type is told whole: no fuel is missing. No memory in sight.
-/
import Derived.Test.YtgomafdhckfnbaaGA

namespace Go.Proofs.Ytgomafdhckfnbaa.Un
open Go.RowKit Mm Tm
set_option linter.unusedVariables false
/-- ways end: along each link a rank grows; all that is named is in its bounds -/
structure LinkOK (K : PS) (R : Nat) : Prop where
  rank : ∃ rk : Int → Nat, (∀ n r, K n = some (.link r) → rk n < rk r) ∧ ∀ n, rk n ≤ R
  named : ∀ n r, K n = some (.link r) → inI r = true
  parts : ∀ n kd nm xs, K n = some (.typ kd nm xs) → kd ≠ 0 ∧ kd ≠ 1 ∧ ∀ x ∈ xs, inI x = true
theorem linkOK_empty : LinkOK (fun _ => Option.none) 0 := ⟨⟨fun _ => 0, ⟨fun n r h => (by cases h), fun n => Nat.le_refl _⟩⟩, fun n r h => (by cases h), fun n kd nm xs h => (by cases h)⟩
/-- the end of a way -/
theorem LinkOK.end_ {K : PS} {R : Nat} (h : LinkOK K R) {q : Nat} (hq : R < q) {n : Int} (hn : inI n = true) : ∃ r f, endP K q n = some (r, f) ∧ inI r = true ∧ (K r = some f ∨ (K r = none ∧ f = .opn r 0 false)) ∧ ∀ x, f ≠ .link x := by
  obtain ⟨rk, h1, h2⟩ := h.rank
  have go : ∀ (q : Nat) (n : Int), inI n = true → R - rk n < q → ∃ r f, endP K q n = some (r, f) ∧ inI r = true ∧ (K r = some f ∨ (K r = none ∧ f = .opn r 0 false)) ∧ ∀ x, f ≠ .link x := by
    intro q
    induction q with
    | zero => intro n _ hl; omega
    | succ q ih =>
      intro n hn hl
      unfold endP
      rw [if_pos hn]
      cases hk : K n with
      | none => exact ⟨n, .opn n 0 false, rfl, hn, .inr ⟨hk, rfl⟩, fun x e => by cases e⟩
      | some f =>
        cases f with
        | link r =>
          have := h1 n r hk
          have := h2 r
          exact ih r (h.named n r hk) (by omega)
        | opn l d hd => exact ⟨n, _, rfl, hn, .inl hk, fun x e => by cases e⟩
        | typ kd nm xs => exact ⟨n, _, rfl, hn, .inl hk, fun x e => by cases e⟩
  exact go q n hn (by omega)
/-- types that may be looked at: no kind 0; variables are in their bounds and have no parts -/
def goodT : Tys → Bool
  | .nil => true
  | .cons kd n nm args rest => (if kd = 1 then inI n && (decide (nm = (⟨#[]⟩ : ByteArray)) && decide (args.len = 0)) else decide (kd ≠ 0) && goodT args) && goodT rest
def goodTy (x : Ty) : Bool := if x.kd = 1 then inI x.n && (decide (x.nm = (⟨#[]⟩ : ByteArray)) && decide (x.args.len = 0)) else decide (x.kd ≠ 0) && goodT x.args
theorem goodT_all : ∀ t : Tys, goodT t = true → ∀ y ∈ t.toL, goodTy y = true
  | .nil, _, y, hy => by simp [Tys.toL] at hy
  | .cons kd n nm args rest, h, y, hy => by
    unfold goodT at h
    rw [Bool.and_eq_true] at h
    rw [Tys.toL] at hy
    rcases List.mem_cons.1 hy with rfl | q
    · exact h.1
    · exact goodT_all rest h.2 y q
theorem goodTy_var {n : Int} (h : inI n = true) : goodTy (vrT n) = true := by unfold goodTy; rw [if_pos rfl]; simp [h, Tys.len]
/-- a side whose parts may be looked at -/
def Sd.good : Sd → Prop
  | .typ x => x.kd ≠ 1 ∧ goodTy x = true
  | .var n f => inI n = true ∧ (∀ x, f ≠ .link x) ∧ ∀ kd nm xs, f = .typ kd nm xs → kd ≠ 0 ∧ kd ≠ 1 ∧ ∀ x ∈ xs, inI x = true
theorem LinkOK.taken {K : PS} {R : Nat} (h : LinkOK K R) {q : Nat} (hq : R < q) {x : Ty} (hx : goodTy x = true) : ∃ sd, takenP q K x = some sd ∧ sd.good := by
  unfold takenP
  by_cases h1 : x.kd = 1
  · rw [if_pos h1]
    have hn : inI x.n = true := by
      unfold goodTy at hx
      rw [if_pos h1, Bool.and_eq_true] at hx
      exact hx.1
    obtain ⟨r, f, he, hr, hk, hl⟩ := h.end_ hq hn
    refine ⟨.var r f, by rw [he]; rfl, hr, hl, fun kd nm xs e => ?_⟩
    subst e
    rcases hk with hk | ⟨_, e⟩
    · exact h.parts r kd nm xs hk
    · cases e
  · have h0 : ¬ x.kd = 0 := by
      unfold goodTy at hx
      rw [if_neg h1, Bool.and_eq_true, decide_eq_true_eq] at hx
      exact hx.1
    rw [if_neg h1, if_neg h0]
    exact ⟨.typ x, rfl, h1, hx⟩
theorem Sd.good_parts {sd : Sd} (h : sd.good) : ∀ y ∈ sd.parts, goodTy y = true := by
  cases sd with
  | typ x =>
    have hx := h.2
    unfold goodTy at hx
    rw [if_neg h.1, Bool.and_eq_true] at hx
    exact goodT_all x.args hx.2
  | var n f =>
    intro y hy
    cases f with
    | link r => simp [Sd.parts, PF.parts] at hy
    | opn l d hd => simp [Sd.parts, PF.parts] at hy
    | typ kd nm xs =>
      simp only [Sd.parts, PF.parts, List.mem_map] at hy
      obtain ⟨n', hn', rfl⟩ := hy
      exact goodTy_var ((h.2.2 kd nm xs rfl).2.2 n' hn')
theorem foldW_some {f : Nat → Ty → Option (Nat × Option Ty)} {N : Nat} (hf : ∀ n x, n ≤ N → goodTy x = true → ∃ r, f n x = some r ∧ r.1 ≤ n) : ∀ (l : List Ty) (n : Nat) (ac : List Ty), n ≤ N → (∀ y ∈ l, goodTy y = true) → ∃ r, foldW f n l ac = some r
  | [], n, ac, _, _ => ⟨_, rfl⟩
  | x :: l, n, ac, hn, hl => by
    obtain ⟨⟨n', o⟩, h1, h2⟩ := hf n x hn (hl x (by simp))
    unfold foldW
    rw [h1]
    cases o with
    | none => exact ⟨_, rfl⟩
    | some y => exact foldW_some hf l n' _ (Nat.le_trans h2 hn) fun y hy => hl y (by simp [hy])
/-- a type is told whole, or there is no room: the room is fuel enough -/
theorem LinkOK.whole {K : PS} {R : Nat} (h : LinkOK K R) {q : Nat} (hq : R < q) : ∀ (k room : Nat) (x : Ty), room ≤ k → goodTy x = true → ∃ r, wholeP q K k room x = some r ∧ r.1 ≤ room
  | 0, room, x, hr, _ => ⟨(0, none), by unfold wholeP; rw [if_pos (by omega)], Nat.zero_le _⟩
  | k + 1, room, x, hr, hx => by
    unfold wholeP
    by_cases h0 : room = 0
    · exact ⟨(0, none), by rw [if_pos h0], Nat.zero_le _⟩
    · rw [if_neg h0]
      obtain ⟨sd, hs, hg⟩ := h.taken hq hx
      have hpart : ∃ r, foldW (wholeP q K k) (room - 1) sd.parts [] = some r ∧ r.1 ≤ room := by
        obtain ⟨r, h1⟩ := foldW_some (f := wholeP q K k) (N := k) (fun n x hn hx => h.whole hq k n x hn hx) sd.parts (room - 1) [] (by omega) (Sd.good_parts hg)
        refine ⟨r, h1, ?_⟩
        have : ∀ (l : List Ty) (n : Nat) (ac : List Ty) (r : Nat × Option (List Ty)), n ≤ k → (∀ y ∈ l, goodTy y = true) → foldW (wholeP q K k) n l ac = some r → r.1 ≤ n := by
          intro l
          induction l with
          | nil => intro n ac r _ _ hh; unfold foldW at hh; injection hh with hh; rw [← hh]; exact Nat.le_refl _
          | cons y l ih =>
            intro n ac r hn hl hh
            unfold foldW at hh
            obtain ⟨⟨n', o⟩, e1, e2⟩ := h.whole hq k n y hn (hl y (by simp))
            rw [e1] at hh
            cases o with
            | none => simp only [Option.some.injEq] at hh; rw [← hh]; exact e2
            | some z => exact Nat.le_trans (ih n' _ r (Nat.le_trans e2 hn) (fun y hy => hl y (by simp [hy])) hh) e2
        have := this _ _ _ _ (by omega) (Sd.good_parts hg) h1
        omega
      rw [hs]
      cases sd with
      | typ y =>
        obtain ⟨r, h1, h2⟩ := hpart
        exact ⟨(r.1, r.2.map fun ys => ⟨(Sd.typ y).kd, 0, (Sd.typ y).nm, Tys.ofL ys⟩), by simp only [h1, Option.map_some], h2⟩
      | var n f =>
        cases f with
        | opn l d hd => exact ⟨_, rfl, Nat.sub_le _ _⟩
        | link r => exact absurd rfl (hg.2.1 r)
        | typ kd nm xs =>
          obtain ⟨r, h1, h2⟩ := hpart
          exact ⟨(r.1, r.2.map fun ys => ⟨(Sd.var n (PF.typ kd nm xs)).kd, 0, (Sd.var n (PF.typ kd nm xs)).nm, Tys.ofL ys⟩), by simp only [h1, Option.map_some], h2⟩
end Go.Proofs.Ytgomafdhckfnbaa.Un
/-
  WHAT IS TOLD IS KEPT SO, plainly: a setting keeps ways ending; a hold, a type's parts as variables, a join have room enough. No memory in sight.
-/
namespace Go.Proofs.Ytgomafdhckfnbaa.Un
open Go.RowKit Mm Tm
set_option linter.unusedVariables false
variable {L : Nat}
/-- what is told that leads no way on -/
def PF.plain : PF → Prop
  | .link _ => False
  | .opn _ _ _ => True
  | .typ kd _ xs => kd ≠ 0 ∧ kd ≠ 1 ∧ ∀ x ∈ xs, inI x = true
theorem LinkOK.set {K : PS} {R : Nat} (h : LinkOK K R) {n : Int} {f : PF} (hf : f.plain) : LinkOK (updP K n (some f)) R := by
  obtain ⟨rk, h1, h2⟩ := h.rank
  refine ⟨⟨rk, fun m r hm => ?_, h2⟩, fun m r hm => ?_, fun m kd nm xs hm => ?_⟩ <;> unfold updP at hm <;> split at hm
  · injection hm with hm; subst hm; exact hf.elim
  · exact h1 m r hm
  · injection hm with hm; subst hm; exact hf.elim
  · exact h.named m r hm
  · injection hm with hm; subst hm; exact hf
  · exact h.parts m kd nm xs hm
theorem LinkOK.link {K : PS} {R : Nat} (h : LinkOK K R) {n r : Int} (hr : inI r = true) (hne : r ≠ n) (hl : ∀ x, K r ≠ some (.link x)) : LinkOK (updP K n (some (.link r))) (R + 1) := by
  obtain ⟨rk, h1, h2⟩ := h.rank
  refine ⟨⟨fun m => if m = r then R + 1 else rk m, fun m x hm => ?_, fun m => ?_⟩, fun m x hm => ?_, fun m kd nm xs hm => ?_⟩
  · show (if m = r then R + 1 else rk m) < (if x = r then R + 1 else rk x)
    unfold updP at hm
    by_cases hmn : m = n
    · rw [if_pos hmn] at hm
      injection hm with hm
      injection hm with hm
      subst hm
      rw [if_neg (by rw [hmn]; exact fun e => hne e.symm), if_pos rfl]
      have := h2 m
      omega
    · rw [if_neg hmn] at hm
      have hmr : m ≠ r := fun e => hl x (e ▸ hm)
      rw [if_neg hmr]
      have := h1 m x hm
      have := h2 m
      by_cases hx : x = r
      · rw [if_pos hx]; omega
      · rw [if_neg hx]; omega
  · show (if m = r then R + 1 else rk m) ≤ R + 1
    have := h2 m
    split <;> omega
  · unfold updP at hm
    split at hm
    · injection hm with hm; injection hm with hm; subst hm; exact hr
    · exact h.named m x hm
  · unfold updP at hm
    split at hm
    · injection hm with hm; cases hm
    · exact h.parts m kd nm xs hm
/-- room for b settings more -/
structure Room (L R b : Nat) (s : St) : Prop where
  ok : LinkOK s.K R
  cnt : s.cnt + b ≤ L
  old : s.old.length + b ≤ L
  lm : L ≤ lim
theorem Room.le {R b c : Nat} {s : St} (h : Room L R b s) (hc : c ≤ b) : Room L R c s := ⟨h.ok, by have := h.cnt; omega, by have := h.old; omega, h.lm⟩
theorem Room.put {R R' b : Nat} {s : St} (h : Room L R (b + 1) s) {n : Int} (hn : inI n = true) {f : PF} (hk : LinkOK (updP s.K n (some f)) R') : ∃ s', setP s n f = some s' ∧ Room L R' b s' ∧ s'.K = updP s.K n (some f) := by
  have hc := h.cnt
  have ho := h.old
  have hm := h.lm
  refine ⟨⟨updP s.K n (some f), if (s.K n).isSome then s.cnt else s.cnt + 1, s.old ++ [(n, s.K n)]⟩, ?_, ⟨hk, ?_, ?_, hm⟩, rfl⟩
  · unfold setP
    rw [if_pos]
    simp only [hn, Bool.true_and, Bool.and_eq_true, decide_eq_true_eq]
    omega
  · show (if (s.K n).isSome then s.cnt else s.cnt + 1) + b ≤ L
    split <;> omega
  · show (s.old ++ [(n, s.K n)]).length + b ≤ L
    rw [List.length_append]
    simp only [List.length_cons, List.length_nil]
    omega
theorem Room.set {R b : Nat} {s : St} (h : Room L R (b + 1) s) {n : Int} (hn : inI n = true) {f : PF} (hf : f.plain) : ∃ s', setP s n f = some s' ∧ Room L R b s' ∧ s'.K = updP s.K n (some f) := h.put hn (h.ok.set hf)
theorem Room.hold {R b q : Nat} {s : St} (h : Room L R (b + 1) s) (hq : R < q) {n : Int} (hn : inI n = true) : ∃ s', holdP q s n = some s' ∧ Room L R b s' := by
  obtain ⟨r, f, he, hr, hk, hl⟩ := h.ok.end_ hq hn
  unfold holdP
  rw [he]
  cases f with
  | link x => exact absurd rfl (hl x)
  | typ kd nm xs => exact ⟨s, rfl, h.le (Nat.le_succ _)⟩
  | opn l d hd =>
    cases hd with
    | true => exact ⟨s, rfl, h.le (Nat.le_succ _)⟩
    | false =>
      obtain ⟨s', h1, h2, _⟩ := h.set hr (f := .opn l d true) trivial
      exact ⟨s', h1, h2⟩
/-- how many types a list holds, their parts among them -/
def szT : Tys → Nat
  | .nil => 0
  | .cons _ _ _ args rest => 1 + szT args + szT rest
theorem lim_val : lim = 1000000000 := rfl
theorem Room.inner {R b : Nat} {s : St} (h : Room L R (b + 1) s) {f : PF} (hf : f.plain) : ∃ s' i, innerP s f = some (s', i) ∧ Room L R b s' ∧ inI i = true := by
  have hi : inI (-1 - (s.cnt : Int)) = true := by
    have := h.cnt
    have hm := h.lm
    rw [lim_val] at hm
    rw [inI_iff]
    omega
  obtain ⟨s', h1, h2, _⟩ := h.set hi hf
  exact ⟨s', _, by unfold innerP; rw [h1]; rfl, h2, hi⟩
theorem Room.flat {R q : Nat} (hq : R < q) : ∀ (t : Tys) (b : Nat) (s : St), goodT t = true → Room L R (b + szT t) s → ∃ s' xs, flatL q s t = some (s', xs) ∧ Room L R b s' ∧ ∀ x ∈ xs, inI x = true
  | .nil, b, s, _, h => ⟨s, [], rfl, h, fun x hx => (by cases hx)⟩
  | .cons kd n nm args rest, b, s, hg, h => by
    unfold goodT at hg
    rw [Bool.and_eq_true] at hg
    obtain ⟨hg1, hg2⟩ := hg
    unfold szT at h
    unfold flatL
    by_cases h1 : kd = 1
    · rw [if_pos h1] at hg1 ⊢
      rw [Bool.and_eq_true] at hg1
      rw [if_pos hg1.2]
      obtain ⟨s1, e1, r1⟩ := (h.le (c := (b + szT rest) + 1) (by omega)).hold hq hg1.1
      obtain ⟨s2, xs, e2, r2, hx⟩ := Room.flat hq rest b s1 hg2 r1
      refine ⟨s2, n :: xs, by rw [e1, Option.bind_some, e2]; rfl, r2, fun x hx' => ?_⟩
      rcases List.mem_cons.1 hx' with rfl | q'
      · exact hg1.1
      · exact hx x q'
    · rw [if_neg h1] at hg1 ⊢
      rw [Bool.and_eq_true, decide_eq_true_eq] at hg1
      rw [if_neg hg1.1]
      obtain ⟨s1, xs, e1, r1, hx⟩ := Room.flat hq args (b + szT rest + 1) s hg1.2 (h.le (by omega))
      obtain ⟨s2, i, e2, r2, hi⟩ := r1.inner (f := .typ kd nm xs) ⟨hg1.1, h1, hx⟩
      obtain ⟨s3, ys, e3, r3, hy⟩ := Room.flat hq rest b s2 hg2 r2
      refine ⟨s3, i :: ys, by rw [e1, Option.bind_some]; show (innerP s1 (.typ kd nm xs)).bind _ = _; rw [e2, Option.bind_some]; show (flatL q s2 rest).map _ = _; rw [e3]; rfl, r3, fun x hx' => ?_⟩
      rcases List.mem_cons.1 hx' with rfl | q'
      · exact hi
      · exact hy x q'
/-- two ends of ways are joined -/
theorem Room.join {R b : Nat} {s : St} (h : Room L R (b + 2) s) {n m la da lb db : Int} {ha hb : Bool} (hn : inI n = true) (hm : inI m = true) (hne : n ≠ m) (hln : ∀ x, s.K n ≠ some (.link x)) (hlm : ∀ x, s.K m ≠ some (.link x)) : ∃ s', joinP s n la da ha m lb db hb = some s' ∧ Room L (R + 1) b s' := by
  unfold joinP
  split
  · obtain ⟨s1, e1, r1, _⟩ := h.put hm (h.ok.link hn hne hln)
    obtain ⟨s2, e2, r2, _⟩ := r1.set hn (f := .opn (min lb la) (max (wr (db + 1)) da) (hb || ha)) trivial
    exact ⟨s2, by rw [e1, Option.bind_some, e2], r2⟩
  · obtain ⟨s1, e1, r1, _⟩ := h.put hn (h.ok.link hm (fun e => hne e.symm) hlm)
    obtain ⟨s2, e2, r2, _⟩ := r1.set hm (f := .opn (min la lb) (max (wr (da + 1)) db) (ha || hb)) trivial
    exact ⟨s2, by rw [e1, Option.bind_some, e2], r2⟩
end Go.Proofs.Ytgomafdhckfnbaa.Un
/-
  THE OPEN VARIABLES ARE FOUND, plainly: as many steps as there are nodes to look at and parts told are enough. No memory in sight.
-/
namespace Go.Proofs.Ytgomafdhckfnbaa.Un
open Go.RowKit Mm Tm
set_option linter.unusedVariables false
def szY (x : Ty) : Nat := 1 + szT x.args
def szL : List Ty → Nat
  | [] => 0
  | x :: l => szY x + szL l
theorem szL_append : ∀ a b : List Ty, szL (a ++ b) = szL a + szL b
  | [], b => by simp [szL]
  | x :: a, b => by rw [List.cons_append, szL, szL, szL_append a b]; omega
theorem szL_toL : ∀ t : Tys, szL t.toL = szT t
  | .nil => rfl
  | .cons kd n nm args rest => by rw [Tys.toL, szL, szT, szL_toL rest]; rfl
theorem len_szL : ∀ l : List Ty, l.length ≤ szL l
  | [] => Nat.le_refl _
  | x :: l => by rw [List.length_cons, szL, szY]; have := len_szL l; omega
theorem szL_vars : ∀ l : List Int, szL (l.map vrT) = l.length
  | [] => rfl
  | n :: l => by rw [List.map_cons, szL, szL_vars l, List.length_cons]; show 1 + 0 + _ = _; omega
theorem szL_parts (f : PF) : szL f.parts = f.parts.length := by
  cases f with
  | link r => rfl
  | opn l d hd => rfl
  | typ kd nm xs =>
    show szL (xs.map vrT) = (xs.map vrT).length
    rw [szL_vars, List.length_map]
/-- how many parts are told of a variable -/
def arK (K : PS) (n : Int) : Nat := match K n with
  | some f => f.parts.length
  | none => 0
/-- the parts of those that were not met -/
def leftL (K : PS) (seen : SN) : List Int → Nat
  | [] => 0
  | n :: V => (if seen n = 0 then arK K n else 0) + leftL K seen V
theorem leftL_le (K : PS) (seen : SN) (r : Int) (c : Int) (hc : c ≠ 0) : ∀ V, leftL K (updN seen r c) V ≤ leftL K seen V
  | [] => Nat.le_refl _
  | n :: V => by
    have := leftL_le K seen r c hc V
    unfold leftL updN
    by_cases h : n = r
    · rw [if_pos h, if_neg hc]
      unfold updN at this
      omega
    · rw [if_neg h]
      unfold updN at this
      omega
theorem leftL_met (K : PS) (seen : SN) (r : Int) (c : Int) (hc : c ≠ 0) (h0 : seen r = 0) : ∀ V, r ∈ V → leftL K (updN seen r c) V + arK K r ≤ leftL K seen V
  | [], h => by cases h
  | n :: V, h => by
    by_cases hn : n = r
    · have := leftL_le K seen r c hc V
      show (if updN seen r c n = 0 then arK K n else 0) + leftL K (updN seen r c) V + arK K r ≤ (if seen n = 0 then arK K n else 0) + leftL K seen V
      have e : updN seen r c n = c := by unfold updN; rw [if_pos hn]
      rw [e, if_neg hc, hn, if_pos h0]
      omega
    · have := leftL_met K seen r c hc h0 V (by rcases List.mem_cons.1 h with q | q; exact absurd q.symm hn; exact q)
      show (if updN seen r c n = 0 then arK K n else 0) + leftL K (updN seen r c) V + arK K r ≤ (if seen n = 0 then arK K n else 0) + leftL K seen V
      have e : updN seen r c n = seen n := by unfold updN; rw [if_neg hn]
      rw [e]
      omega
theorem wr_next {a : Int} (h0 : 0 ≤ a) (h1 : a ≤ 4000000000) : wr (a + 1) = a + 1 := by unfold wr wrap64; omega
/-- the open variables of what waits are found -/
theorem LinkOK.openL {K : PS} {R : Nat} (h : LinkOK K R) {q : Nat} (hq : R < q) (deep : Bool) {V : List Int} (hV : ∀ n kd nm xs, K n = some (.typ kd nm xs) → n ∈ V) : ∀ (d : Nat) (seen : SN) (td : List Ty), (∀ x ∈ td, goodTy x = true) → (∀ n, 0 ≤ seen n ∧ seen n + d ≤ 2000000000) → d ≤ limT → szL td + leftL K seen V ≤ d → ∃ l, openL q K deep d seen td = some l
  | _, seen, [], _, _, _, _ => ⟨[], by unfold Un.openL; rfl⟩
  | 0, seen, x :: td, _, _, _, hm => by
    unfold szL szY at hm
    omega
  | d + 1, seen, x :: td, hg, hs, hd, hm => by
    have hx := hg x (by simp)
    have hg' : ∀ y ∈ td, goodTy y = true := fun y hy => hg y (by simp [hy])
    obtain ⟨sd, ht, hsd⟩ := h.taken hq hx
    have htd := len_szL td
    unfold limT at hd
    unfold Un.openL
    rw [ht]
    cases sd with
    | typ y =>
      have hy : x = y := by
        unfold takenP at ht
        split at ht
        · cases he : endP K q x.n <;> rw [he] at ht <;> simp at ht
        · split at ht
          · cases ht
          · injection ht with ht; injection ht
      subst hy
      have hl := Tys.toL_len x.args
      have hl2 := len_szL x.args.toL
      rw [szL_toL] at hl2
      unfold szL szY at hm
      dsimp only
      rw [if_pos (by unfold limT; omega)]
      refine LinkOK.openL h hq deep hV d seen _ (fun y hy => ?_) (fun n => ?_) (by unfold limT; omega) ?_
      · rcases List.mem_append.1 hy with q' | q'
        · exact Sd.good_parts hsd y q'
        · exact hg' y q'
      · have := hs n; omega
      · rw [szL_append, szL_toL]; omega
    | var r f =>
      have hr := hs r
      have hw : wr (seen r + 1) = seen r + 1 := wr_next hr.1 (by omega)
      have hs' : ∀ n, 0 ≤ updN seen r (seen r + 1) n ∧ updN seen r (seen r + 1) n + d ≤ 2000000000 := by
        intro n
        have := hs n
        unfold updN
        split <;> omega
      have hle := leftL_le K seen r (seen r + 1) (by omega) V
      unfold szL szY at hm
      dsimp only
      rw [hw]
      have hrest := LinkOK.openL h hq deep hV d (updN seen r (seen r + 1)) td hg' hs' (by unfold limT; omega) (by omega)
      split
      · exact hrest
      · rename_i hc
        split
        · obtain ⟨l, e⟩ := hrest
          exact ⟨_, by rw [e]; rfl⟩
        · rename_i ho
          simp only [Bool.or_eq_true, decide_eq_true_eq, not_or] at hc
          have h0 : seen r = 0 := by omega
          have hk : K r = some f ∧ ∃ kd nm xs, f = .typ kd nm xs := by
            unfold takenP at ht
            split at ht
            · cases he : endP K q x.n with
              | none => rw [he] at ht; cases ht
              | some z =>
                rw [he] at ht
                simp only [Option.map_some, Option.some.injEq, Sd.var.injEq] at ht
                obtain ⟨z1, z2⟩ := z
                obtain ⟨rfl, rfl⟩ := ht
                have hxn : inI x.n = true := by
                  rename_i h1
                  unfold goodTy at hx
                  rw [if_pos h1, Bool.and_eq_true] at hx
                  exact hx.1
                obtain ⟨r', f', he', _, hk', hl'⟩ := h.end_ hq hxn
                rw [he] at he'
                injection he' with he'
                injection he' with e1 e2
                subst e1 e2
                rcases hk' with hk' | ⟨_, e⟩
                · refine ⟨hk', ?_⟩
                  cases z2 with
                  | link x => exact absurd rfl (hl' x)
                  | opn l d hd => exact absurd rfl ho
                  | typ kd nm xs => exact ⟨_, _, _, rfl⟩
                · subst e; exact absurd rfl ho
            · split at ht
              · cases ht
              · cases ht
          obtain ⟨hk, kd, nm, xs, rfl⟩ := hk
          have ha : arK K r = (PF.typ kd nm xs).parts.length := by unfold arK; rw [hk]
          have hmet := leftL_met K seen r (seen r + 1) (by omega) h0 V (hV _ _ _ _ hk)
          rw [ha] at hmet
          rw [if_pos (by unfold limT; omega)]
          refine LinkOK.openL h hq deep hV d _ _ (fun y hy => ?_) hs' (by unfold limT; omega) ?_
          · rcases List.mem_append.1 hy with q' | q'
            · exact Sd.good_parts hsd y q'
            · exact hg' y q'
          · rw [szL_append, szL_parts]; omega
end Go.Proofs.Ytgomafdhckfnbaa.Un
