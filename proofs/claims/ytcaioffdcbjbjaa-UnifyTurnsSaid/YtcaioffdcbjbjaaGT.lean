/-
  THE STORE ANSWERS, plainly: ways end, sides are taken, a type is told whole: no fuel is missing. No memory in sight.
-/
import Derived.Test.YtcaioffdcbjbjaaGA

namespace Go.Proofs.Ytcaioffdcbjbjaa.Un
open Go.RowKit Mm Tm
set_option linter.unusedVariables false
/-- ways end: along each link a rank grows; all that is named is in its bounds -/
structure LinkOK (K : PS) (R : Nat) : Prop where
  rank : ∃ rk : Int → Nat, (∀ n r, K n = some (.link r) → rk n < rk r) ∧ ∀ n, rk n ≤ R
  named : ∀ n r, K n = some (.link r) → inI r = true
  parts : ∀ n kd nm xs, K n = some (.typ kd nm xs) → kd ≠ 0 ∧ kd ≠ 1 ∧ ∀ x ∈ xs, inI x = true
theorem linkOK_empty : LinkOK (fun _ => Option.none) 0 := ⟨⟨fun _ => 0, ⟨fun n r h => (by cases h), fun n => Nat.le_refl _⟩⟩, fun n r h => (by cases h), fun n kd nm xs h => (by cases h)⟩
/-- the end of a way -/
theorem LinkOK.end_ {K : PS} {R : Nat} (h : LinkOK K R) {q : Nat} (hq : R < q) {n : Int} (hn : inI n = true) : ∃ r f, endP K q n = some (r, f) ∧ inI r = true ∧ (K r = some f ∨ (K r = none ∧ f = .opn r 0 false)) ∧ ∀ x, f ≠ .link x := by
  obtain ⟨rk, h1, h2⟩ := h.rank
  have go : ∀ (q : Nat) (n : Int), inI n = true → R - rk n < q → ∃ r f, endP K q n = some (r, f) ∧ inI r = true ∧ (K r = some f ∨ (K r = none ∧ f = .opn r 0 false)) ∧ ∀ x, f ≠ .link x := by
    intro q
    induction q with
    | zero => intro n _ hl; omega
    | succ q ih =>
      intro n hn hl
      unfold endP
      rw [if_pos hn]
      cases hk : K n with
      | none => exact ⟨n, .opn n 0 false, rfl, hn, .inr ⟨hk, rfl⟩, fun x e => by cases e⟩
      | some f =>
        cases f with
        | link r =>
          have := h1 n r hk
          have := h2 r
          exact ih r (h.named n r hk) (by omega)
        | opn l d hd => exact ⟨n, _, rfl, hn, .inl hk, fun x e => by cases e⟩
        | typ kd nm xs => exact ⟨n, _, rfl, hn, .inl hk, fun x e => by cases e⟩
  exact go q n hn (by omega)
/-- types that may be looked at: no kind 0; variables are in their bounds and have no parts -/
def goodT : Tys → Bool
  | .nil => true
  | .cons kd n nm args rest => (if kd = 1 then inI n && (decide (nm = (⟨#[]⟩ : ByteArray)) && decide (args.len = 0)) else decide (kd ≠ 0) && goodT args) && goodT rest
def goodTy (x : Ty) : Bool := if x.kd = 1 then inI x.n && (decide (x.nm = (⟨#[]⟩ : ByteArray)) && decide (x.args.len = 0)) else decide (x.kd ≠ 0) && goodT x.args
theorem goodT_all : ∀ t : Tys, goodT t = true → ∀ y ∈ t.toL, goodTy y = true
  | .nil, _, y, hy => by simp [Tys.toL] at hy
  | .cons kd n nm args rest, h, y, hy => by
    unfold goodT at h
    rw [Bool.and_eq_true] at h
    rw [Tys.toL] at hy
    rcases List.mem_cons.1 hy with rfl | q
    · exact h.1
    · exact goodT_all rest h.2 y q
theorem goodTy_var {n : Int} (h : inI n = true) : goodTy (vrT n) = true := by unfold goodTy; rw [if_pos rfl]; simp [h, Tys.len]
/-- a side whose parts may be looked at -/
def Sd.good : Sd → Prop
  | .typ x => x.kd ≠ 1 ∧ goodTy x = true
  | .var n f => inI n = true ∧ (∀ x, f ≠ .link x) ∧ ∀ kd nm xs, f = .typ kd nm xs → kd ≠ 0 ∧ kd ≠ 1 ∧ ∀ x ∈ xs, inI x = true
theorem LinkOK.taken {K : PS} {R : Nat} (h : LinkOK K R) {q : Nat} (hq : R < q) {x : Ty} (hx : goodTy x = true) : ∃ sd, takenP q K x = some sd ∧ sd.good := by
  unfold takenP
  by_cases h1 : x.kd = 1
  · rw [if_pos h1]
    have hn : inI x.n = true := by
      unfold goodTy at hx
      rw [if_pos h1, Bool.and_eq_true] at hx
      exact hx.1
    obtain ⟨r, f, he, hr, hk, hl⟩ := h.end_ hq hn
    refine ⟨.var r f, by rw [he]; rfl, hr, hl, fun kd nm xs e => ?_⟩
    subst e
    rcases hk with hk | ⟨_, e⟩
    · exact h.parts r kd nm xs hk
    · cases e
  · have h0 : ¬ x.kd = 0 := by
      unfold goodTy at hx
      rw [if_neg h1, Bool.and_eq_true, decide_eq_true_eq] at hx
      exact hx.1
    rw [if_neg h1, if_neg h0]
    exact ⟨.typ x, rfl, h1, hx⟩
theorem Sd.good_parts {sd : Sd} (h : sd.good) : ∀ y ∈ sd.parts, goodTy y = true := by
  cases sd with
  | typ x =>
    have hx := h.2
    unfold goodTy at hx
    rw [if_neg h.1, Bool.and_eq_true] at hx
    exact goodT_all x.args hx.2
  | var n f =>
    intro y hy
    cases f with
    | link r => simp [Sd.parts, PF.parts] at hy
    | opn l d hd => simp [Sd.parts, PF.parts] at hy
    | typ kd nm xs =>
      simp only [Sd.parts, PF.parts, List.mem_map] at hy
      obtain ⟨n', hn', rfl⟩ := hy
      exact goodTy_var ((h.2.2 kd nm xs rfl).2.2 n' hn')
theorem foldW_some {f : Nat → Ty → Option (Nat × Option Ty)} {N : Nat} (hf : ∀ n x, n ≤ N → goodTy x = true → ∃ r, f n x = some r ∧ r.1 ≤ n) : ∀ (l : List Ty) (n : Nat) (ac : List Ty), n ≤ N → (∀ y ∈ l, goodTy y = true) → ∃ r, foldW f n l ac = some r
  | [], n, ac, _, _ => ⟨_, rfl⟩
  | x :: l, n, ac, hn, hl => by
    obtain ⟨⟨n', o⟩, h1, h2⟩ := hf n x hn (hl x (by simp))
    unfold foldW
    rw [h1]
    cases o with
    | none => exact ⟨_, rfl⟩
    | some y => exact foldW_some hf l n' _ (Nat.le_trans h2 hn) fun y hy => hl y (by simp [hy])
/-- a type is told whole, or there is no room: the room is fuel enough -/
theorem LinkOK.whole {K : PS} {R : Nat} (h : LinkOK K R) {q : Nat} (hq : R < q) : ∀ (k room : Nat) (x : Ty), room ≤ k → goodTy x = true → ∃ r, wholeP q K k room x = some r ∧ r.1 ≤ room
  | 0, room, x, hr, _ => ⟨(0, none), by unfold wholeP; rw [if_pos (by omega)], Nat.zero_le _⟩
  | k + 1, room, x, hr, hx => by
    unfold wholeP
    by_cases h0 : room = 0
    · exact ⟨(0, none), by rw [if_pos h0], Nat.zero_le _⟩
    · rw [if_neg h0]
      obtain ⟨sd, hs, hg⟩ := h.taken hq hx
      have hpart : ∃ r, foldW (wholeP q K k) (room - 1) sd.parts [] = some r ∧ r.1 ≤ room := by
        obtain ⟨r, h1⟩ := foldW_some (f := wholeP q K k) (N := k) (fun n x hn hx => h.whole hq k n x hn hx) sd.parts (room - 1) [] (by omega) (Sd.good_parts hg)
        refine ⟨r, h1, ?_⟩
        have : ∀ (l : List Ty) (n : Nat) (ac : List Ty) (r : Nat × Option (List Ty)), n ≤ k → (∀ y ∈ l, goodTy y = true) → foldW (wholeP q K k) n l ac = some r → r.1 ≤ n := by
          intro l
          induction l with
          | nil => intro n ac r _ _ hh; unfold foldW at hh; injection hh with hh; rw [← hh]; exact Nat.le_refl _
          | cons y l ih =>
            intro n ac r hn hl hh
            unfold foldW at hh
            obtain ⟨⟨n', o⟩, e1, e2⟩ := h.whole hq k n y hn (hl y (by simp))
            rw [e1] at hh
            cases o with
            | none => simp only [Option.some.injEq] at hh; rw [← hh]; exact e2
            | some z => exact Nat.le_trans (ih n' _ r (Nat.le_trans e2 hn) (fun y hy => hl y (by simp [hy])) hh) e2
        have := this _ _ _ _ (by omega) (Sd.good_parts hg) h1
        omega
      rw [hs]
      cases sd with
      | typ y =>
        obtain ⟨r, h1, h2⟩ := hpart
        exact ⟨(r.1, r.2.map fun ys => ⟨(Sd.typ y).kd, 0, (Sd.typ y).nm, Tys.ofL ys⟩), by simp only [h1, Option.map_some], h2⟩
      | var n f =>
        cases f with
        | opn l d hd => exact ⟨_, rfl, Nat.sub_le _ _⟩
        | link r => exact absurd rfl (hg.2.1 r)
        | typ kd nm xs =>
          obtain ⟨r, h1, h2⟩ := hpart
          exact ⟨(r.1, r.2.map fun ys => ⟨(Sd.var n (PF.typ kd nm xs)).kd, 0, (Sd.var n (PF.typ kd nm xs)).nm, Tys.ofL ys⟩), by simp only [h1, Option.map_some], h2⟩
end Go.Proofs.Ytcaioffdcbjbjaa.Un
/-
  WHAT IS TOLD IS KEPT SO, plainly: a setting keeps ways ending; a hold, a type's parts as variables, a join have room enough. No memory in sight.
-/
namespace Go.Proofs.Ytcaioffdcbjbjaa.Un
open Go.RowKit Mm Tm
set_option linter.unusedVariables false
variable {L : Nat}
/-- what is told that leads no way on -/
def PF.plain : PF → Prop
  | .link _ => False
  | .opn _ _ _ => True
  | .typ kd _ xs => kd ≠ 0 ∧ kd ≠ 1 ∧ ∀ x ∈ xs, inI x = true
theorem LinkOK.set {K : PS} {R : Nat} (h : LinkOK K R) {n : Int} {f : PF} (hf : f.plain) : LinkOK (updP K n (some f)) R := by
  obtain ⟨rk, h1, h2⟩ := h.rank
  refine ⟨⟨rk, fun m r hm => ?_, h2⟩, fun m r hm => ?_, fun m kd nm xs hm => ?_⟩ <;> unfold updP at hm <;> split at hm
  · injection hm with hm; subst hm; exact hf.elim
  · exact h1 m r hm
  · injection hm with hm; subst hm; exact hf.elim
  · exact h.named m r hm
  · injection hm with hm; subst hm; exact hf
  · exact h.parts m kd nm xs hm
theorem LinkOK.link {K : PS} {R : Nat} (h : LinkOK K R) {n r : Int} (hr : inI r = true) (hne : r ≠ n) (hl : ∀ x, K r ≠ some (.link x)) : LinkOK (updP K n (some (.link r))) (R + 1) := by
  obtain ⟨rk, h1, h2⟩ := h.rank
  refine ⟨⟨fun m => if m = r then R + 1 else rk m, fun m x hm => ?_, fun m => ?_⟩, fun m x hm => ?_, fun m kd nm xs hm => ?_⟩
  · show (if m = r then R + 1 else rk m) < (if x = r then R + 1 else rk x)
    unfold updP at hm
    by_cases hmn : m = n
    · rw [if_pos hmn] at hm
      injection hm with hm
      injection hm with hm
      subst hm
      rw [if_neg (by rw [hmn]; exact fun e => hne e.symm), if_pos rfl]
      have := h2 m
      omega
    · rw [if_neg hmn] at hm
      have hmr : m ≠ r := fun e => hl x (e ▸ hm)
      rw [if_neg hmr]
      have := h1 m x hm
      have := h2 m
      by_cases hx : x = r
      · rw [if_pos hx]; omega
      · rw [if_neg hx]; omega
  · show (if m = r then R + 1 else rk m) ≤ R + 1
    have := h2 m
    split <;> omega
  · unfold updP at hm
    split at hm
    · injection hm with hm; injection hm with hm; subst hm; exact hr
    · exact h.named m x hm
  · unfold updP at hm
    split at hm
    · injection hm with hm; cases hm
    · exact h.parts m kd nm xs hm
/-- room for b settings more -/
structure Room (L R b : Nat) (s : St) : Prop where
  ok : LinkOK s.K R
  cnt : s.cnt + b ≤ L
  old : s.old.length + b ≤ L
  lm : L ≤ lim
theorem Room.le {R b c : Nat} {s : St} (h : Room L R b s) (hc : c ≤ b) : Room L R c s := ⟨h.ok, by have := h.cnt; omega, by have := h.old; omega, h.lm⟩
theorem Room.put {R R' b : Nat} {s : St} (h : Room L R (b + 1) s) {n : Int} (hn : inI n = true) {f : PF} (hk : LinkOK (updP s.K n (some f)) R') : ∃ s', setP s n f = some s' ∧ Room L R' b s' ∧ s'.K = updP s.K n (some f) := by
  have hc := h.cnt
  have ho := h.old
  have hm := h.lm
  refine ⟨⟨updP s.K n (some f), if (s.K n).isSome then s.cnt else s.cnt + 1, s.old ++ [(n, s.K n)]⟩, ?_, ⟨hk, ?_, ?_, hm⟩, rfl⟩
  · unfold setP
    rw [if_pos]
    simp only [hn, Bool.true_and, Bool.and_eq_true, decide_eq_true_eq]
    omega
  · show (if (s.K n).isSome then s.cnt else s.cnt + 1) + b ≤ L
    split <;> omega
  · show (s.old ++ [(n, s.K n)]).length + b ≤ L
    rw [List.length_append]
    simp only [List.length_cons, List.length_nil]
    omega
theorem Room.set {R b : Nat} {s : St} (h : Room L R (b + 1) s) {n : Int} (hn : inI n = true) {f : PF} (hf : f.plain) : ∃ s', setP s n f = some s' ∧ Room L R b s' ∧ s'.K = updP s.K n (some f) := h.put hn (h.ok.set hf)
theorem Room.hold {R b q : Nat} {s : St} (h : Room L R (b + 1) s) (hq : R < q) {n : Int} (hn : inI n = true) : ∃ s', holdP q s n = some s' ∧ Room L R b s' := by
  obtain ⟨r, f, he, hr, hk, hl⟩ := h.ok.end_ hq hn
  unfold holdP
  rw [he]
  cases f with
  | link x => exact absurd rfl (hl x)
  | typ kd nm xs => exact ⟨s, rfl, h.le (Nat.le_succ _)⟩
  | opn l d hd =>
    cases hd with
    | true => exact ⟨s, rfl, h.le (Nat.le_succ _)⟩
    | false =>
      obtain ⟨s', h1, h2, _⟩ := h.set hr (f := .opn l d true) trivial
      exact ⟨s', h1, h2⟩
/-- how many types a list holds, their parts among them -/
def szT : Tys → Nat
  | .nil => 0
  | .cons _ _ _ args rest => 1 + szT args + szT rest
theorem lim_val : lim = 100000000000 := rfl
theorem Room.inner {R b : Nat} {s : St} (h : Room L R (b + 1) s) {f : PF} (hf : f.plain) : ∃ s' i, innerP s f = some (s', i) ∧ Room L R b s' ∧ inI i = true := by
  have hi : inI (-1 - (s.cnt : Int)) = true := by
    have := h.cnt
    have hm := h.lm
    rw [lim_val] at hm
    rw [inI_iff]
    omega
  obtain ⟨s', h1, h2, _⟩ := h.set hi hf
  exact ⟨s', _, by unfold innerP; rw [h1]; rfl, h2, hi⟩
theorem Room.flat {R q : Nat} (hq : R < q) : ∀ (t : Tys) (b : Nat) (s : St), goodT t = true → Room L R (b + szT t) s → ∃ s' xs, flatL q s t = some (s', xs) ∧ Room L R b s' ∧ ∀ x ∈ xs, inI x = true
  | .nil, b, s, _, h => ⟨s, [], rfl, h, fun x hx => (by cases hx)⟩
  | .cons kd n nm args rest, b, s, hg, h => by
    unfold goodT at hg
    rw [Bool.and_eq_true] at hg
    obtain ⟨hg1, hg2⟩ := hg
    unfold szT at h
    unfold flatL
    by_cases h1 : kd = 1
    · rw [if_pos h1] at hg1 ⊢
      rw [Bool.and_eq_true] at hg1
      rw [if_pos hg1.2]
      obtain ⟨s1, e1, r1⟩ := (h.le (c := (b + szT rest) + 1) (by omega)).hold hq hg1.1
      obtain ⟨s2, xs, e2, r2, hx⟩ := Room.flat hq rest b s1 hg2 r1
      refine ⟨s2, n :: xs, by rw [e1, Option.bind_some, e2]; rfl, r2, fun x hx' => ?_⟩
      rcases List.mem_cons.1 hx' with rfl | q'
      · exact hg1.1
      · exact hx x q'
    · rw [if_neg h1] at hg1 ⊢
      rw [Bool.and_eq_true, decide_eq_true_eq] at hg1
      rw [if_neg hg1.1]
      obtain ⟨s1, xs, e1, r1, hx⟩ := Room.flat hq args (b + szT rest + 1) s hg1.2 (h.le (by omega))
      obtain ⟨s2, i, e2, r2, hi⟩ := r1.inner (f := .typ kd nm xs) ⟨hg1.1, h1, hx⟩
      obtain ⟨s3, ys, e3, r3, hy⟩ := Room.flat hq rest b s2 hg2 r2
      refine ⟨s3, i :: ys, by rw [e1, Option.bind_some]; show (innerP s1 (.typ kd nm xs)).bind _ = _; rw [e2, Option.bind_some]; show (flatL q s2 rest).map _ = _; rw [e3]; rfl, r3, fun x hx' => ?_⟩
      rcases List.mem_cons.1 hx' with rfl | q'
      · exact hi
      · exact hy x q'
/-- two ends of ways are joined -/
theorem Room.join {R b : Nat} {s : St} (h : Room L R (b + 2) s) {n m la da lb db : Int} {ha hb : Bool} (hn : inI n = true) (hm : inI m = true) (hne : n ≠ m) (hln : ∀ x, s.K n ≠ some (.link x)) (hlm : ∀ x, s.K m ≠ some (.link x)) : ∃ s', joinP s n la da ha m lb db hb = some s' ∧ Room L (R + 1) b s' := by
  unfold joinP
  split
  · obtain ⟨s1, e1, r1, _⟩ := h.put hm (h.ok.link hn hne hln)
    obtain ⟨s2, e2, r2, _⟩ := r1.set hn (f := .opn (min lb la) (max (wr (db + 1)) da) (hb || ha)) trivial
    exact ⟨s2, by rw [e1, Option.bind_some, e2], r2⟩
  · obtain ⟨s1, e1, r1, _⟩ := h.put hn (h.ok.link hm (fun e => hne e.symm) hlm)
    obtain ⟨s2, e2, r2, _⟩ := r1.set hm (f := .opn (min la lb) (max (wr (da + 1)) db) (ha || hb)) trivial
    exact ⟨s2, by rw [e1, Option.bind_some, e2], r2⟩
end Go.Proofs.Ytcaioffdcbjbjaa.Un
/-
  THE OPEN VARIABLES ARE FOUND, plainly: as many steps as there are nodes to look at and parts told are enough. No memory in sight.
-/
namespace Go.Proofs.Ytcaioffdcbjbjaa.Un
open Go.RowKit Mm Tm
set_option linter.unusedVariables false
def szY (x : Ty) : Nat := 1 + szT x.args
def szL : List Ty → Nat
  | [] => 0
  | x :: l => szY x + szL l
theorem szL_append : ∀ a b : List Ty, szL (a ++ b) = szL a + szL b
  | [], b => by simp [szL]
  | x :: a, b => by rw [List.cons_append, szL, szL, szL_append a b]; omega
theorem szL_toL : ∀ t : Tys, szL t.toL = szT t
  | .nil => rfl
  | .cons kd n nm args rest => by rw [Tys.toL, szL, szT, szL_toL rest]; rfl
theorem len_szL : ∀ l : List Ty, l.length ≤ szL l
  | [] => Nat.le_refl _
  | x :: l => by rw [List.length_cons, szL, szY]; have := len_szL l; omega
theorem szL_vars : ∀ l : List Int, szL (l.map vrT) = l.length
  | [] => rfl
  | n :: l => by rw [List.map_cons, szL, szL_vars l, List.length_cons]; show 1 + 0 + _ = _; omega
theorem szL_parts (f : PF) : szL f.parts = f.parts.length := by
  cases f with
  | link r => rfl
  | opn l d hd => rfl
  | typ kd nm xs =>
    show szL (xs.map vrT) = (xs.map vrT).length
    rw [szL_vars, List.length_map]
/-- how many parts are told of a variable -/
def arK (K : PS) (n : Int) : Nat := match K n with
  | some f => f.parts.length
  | none => 0
/-- the parts of those that were not met -/
def leftL (K : PS) (seen : SN) : List Int → Nat
  | [] => 0
  | n :: V => (if seen n = 0 then arK K n else 0) + leftL K seen V
theorem leftL_le (K : PS) (seen : SN) (r : Int) (c : Int) (hc : c ≠ 0) : ∀ V, leftL K (updN seen r c) V ≤ leftL K seen V
  | [] => Nat.le_refl _
  | n :: V => by
    have := leftL_le K seen r c hc V
    unfold leftL updN
    by_cases h : n = r
    · rw [if_pos h, if_neg hc]
      unfold updN at this
      omega
    · rw [if_neg h]
      unfold updN at this
      omega
theorem leftL_met (K : PS) (seen : SN) (r : Int) (c : Int) (hc : c ≠ 0) (h0 : seen r = 0) : ∀ V, r ∈ V → leftL K (updN seen r c) V + arK K r ≤ leftL K seen V
  | [], h => by cases h
  | n :: V, h => by
    by_cases hn : n = r
    · have := leftL_le K seen r c hc V
      show (if updN seen r c n = 0 then arK K n else 0) + leftL K (updN seen r c) V + arK K r ≤ (if seen n = 0 then arK K n else 0) + leftL K seen V
      have e : updN seen r c n = c := by unfold updN; rw [if_pos hn]
      rw [e, if_neg hc, hn, if_pos h0]
      omega
    · have := leftL_met K seen r c hc h0 V (by rcases List.mem_cons.1 h with q | q; exact absurd q.symm hn; exact q)
      show (if updN seen r c n = 0 then arK K n else 0) + leftL K (updN seen r c) V + arK K r ≤ (if seen n = 0 then arK K n else 0) + leftL K seen V
      have e : updN seen r c n = seen n := by unfold updN; rw [if_neg hn]
      rw [e]
      omega
theorem wr_next {a : Int} (h0 : 0 ≤ a) (h1 : a ≤ 4000000000) : wr (a + 1) = a + 1 := by unfold wr wrap64; omega
/-- the open variables of what waits are found -/
theorem LinkOK.openL {K : PS} {R : Nat} (h : LinkOK K R) {q : Nat} (hq : R < q) (deep : Bool) {V : List Int} (hV : ∀ n kd nm xs, K n = some (.typ kd nm xs) → n ∈ V) : ∀ (d : Nat) (seen : SN) (td : List Ty), (∀ x ∈ td, goodTy x = true) → (∀ n, 0 ≤ seen n ∧ seen n + d ≤ 2000000000) → d ≤ limT → szL td + leftL K seen V ≤ d → ∃ l, openL q K deep d seen td = some l
  | _, seen, [], _, _, _, _ => ⟨[], by unfold Un.openL; rfl⟩
  | 0, seen, x :: td, _, _, _, hm => by
    unfold szL szY at hm
    omega
  | d + 1, seen, x :: td, hg, hs, hd, hm => by
    have hx := hg x (by simp)
    have hg' : ∀ y ∈ td, goodTy y = true := fun y hy => hg y (by simp [hy])
    obtain ⟨sd, ht, hsd⟩ := h.taken hq hx
    have htd := len_szL td
    unfold limT at hd
    unfold Un.openL
    rw [ht]
    cases sd with
    | typ y =>
      have hy : x = y := by
        unfold takenP at ht
        split at ht
        · cases he : endP K q x.n <;> rw [he] at ht <;> simp at ht
        · split at ht
          · cases ht
          · injection ht with ht; injection ht
      subst hy
      have hl := Tys.toL_len x.args
      have hl2 := len_szL x.args.toL
      rw [szL_toL] at hl2
      unfold szL szY at hm
      dsimp only
      rw [if_pos (by unfold limT; omega)]
      refine LinkOK.openL h hq deep hV d seen _ (fun y hy => ?_) (fun n => ?_) (by unfold limT; omega) ?_
      · rcases List.mem_append.1 hy with q' | q'
        · exact Sd.good_parts hsd y q'
        · exact hg' y q'
      · have := hs n; omega
      · rw [szL_append, szL_toL]; omega
    | var r f =>
      have hr := hs r
      have hw : wr (seen r + 1) = seen r + 1 := wr_next hr.1 (by omega)
      have hs' : ∀ n, 0 ≤ updN seen r (seen r + 1) n ∧ updN seen r (seen r + 1) n + d ≤ 2000000000 := by
        intro n
        have := hs n
        unfold updN
        split <;> omega
      have hle := leftL_le K seen r (seen r + 1) (by omega) V
      unfold szL szY at hm
      dsimp only
      rw [hw]
      have hrest := LinkOK.openL h hq deep hV d (updN seen r (seen r + 1)) td hg' hs' (by unfold limT; omega) (by omega)
      split
      · exact hrest
      · rename_i hc
        split
        · obtain ⟨l, e⟩ := hrest
          exact ⟨_, by rw [e]; rfl⟩
        · rename_i ho
          simp only [Bool.or_eq_true, decide_eq_true_eq, not_or] at hc
          have h0 : seen r = 0 := by omega
          have hk : K r = some f ∧ ∃ kd nm xs, f = .typ kd nm xs := by
            unfold takenP at ht
            split at ht
            · cases he : endP K q x.n with
              | none => rw [he] at ht; cases ht
              | some z =>
                rw [he] at ht
                simp only [Option.map_some, Option.some.injEq, Sd.var.injEq] at ht
                obtain ⟨z1, z2⟩ := z
                obtain ⟨rfl, rfl⟩ := ht
                have hxn : inI x.n = true := by
                  rename_i h1
                  unfold goodTy at hx
                  rw [if_pos h1, Bool.and_eq_true] at hx
                  exact hx.1
                obtain ⟨r', f', he', _, hk', hl'⟩ := h.end_ hq hxn
                rw [he] at he'
                injection he' with he'
                injection he' with e1 e2
                subst e1 e2
                rcases hk' with hk' | ⟨_, e⟩
                · refine ⟨hk', ?_⟩
                  cases z2 with
                  | link x => exact absurd rfl (hl' x)
                  | opn l d hd => exact absurd rfl ho
                  | typ kd nm xs => exact ⟨_, _, _, rfl⟩
                · subst e; exact absurd rfl ho
            · split at ht
              · cases ht
              · cases ht
          obtain ⟨hk, kd, nm, xs, rfl⟩ := hk
          have ha : arK K r = (PF.typ kd nm xs).parts.length := by unfold arK; rw [hk]
          have hmet := leftL_met K seen r (seen r + 1) (by omega) h0 V (hV _ _ _ _ hk)
          rw [ha] at hmet
          rw [if_pos (by unfold limT; omega)]
          refine LinkOK.openL h hq deep hV d _ _ (fun y hy => ?_) hs' (by unfold limT; omega) ?_
          · rcases List.mem_append.1 hy with q' | q'
            · exact Sd.good_parts hsd y q'
            · exact hg' y q'
          · rw [szL_append, szL_parts]; omega
end Go.Proofs.Ytcaioffdcbjbjaa.Un
/-
  A VARIABLE IS BOUND, plainly: there is room enough; which variables know a type, of how many parts. No memory in sight.
-/
namespace Go.Proofs.Ytcaioffdcbjbjaa.Un
open Go.RowKit Mm Tm
set_option linter.unusedVariables false
variable {L : Nat}
/-- nodes, each with its parts counted twice -/
def wT : Tys → Nat
  | .nil => 0
  | .cons _ _ _ args rest => 1 + args.len + wT args + wT rest
def wY (x : Ty) : Nat := 1 + x.args.len + wT x.args
def wL : List Ty → Nat
  | [] => 0
  | x :: l => wY x + wL l
theorem wL_toL : ∀ t : Tys, wL t.toL = wT t
  | .nil => rfl
  | .cons kd n nm args rest => by rw [Tys.toL, wL, wT, wL_toL rest]; rfl
theorem wL_vars : ∀ l : List Int, wL (l.map vrT) = l.length
  | [] => rfl
  | n :: l => by rw [List.map_cons, wL, wL_vars l, List.length_cons]; show 1 + 0 + 0 + _ = _; omega
theorem szT_le : ∀ t : Tys, szT t ≤ wT t
  | .nil => Nat.le_refl _
  | .cons kd n nm args rest => by rw [szT, wT]; have := szT_le args; have := szT_le rest; omega
/-- nodes that are no variables, and their parts -/
def nvT : Tys → Nat
  | .nil => 0
  | .cons kd _ _ args rest => (if kd = 1 then 0 else 1 + args.len + nvT args) + nvT rest
def nvY (x : Ty) : Nat := if x.kd = 1 then 0 else 1 + x.args.len + nvT x.args
def nvL : List Ty → Nat
  | [] => 0
  | x :: l => nvY x + nvL l
theorem nvL_toL : ∀ t : Tys, nvL t.toL = nvT t
  | .nil => rfl
  | .cons kd n nm args rest => by rw [Tys.toL, nvL, nvT, nvL_toL rest]; rfl
theorem nvL_vars : ∀ l : List Int, nvL (l.map vrT) = 0
  | [] => rfl
  | n :: l => by rw [List.map_cons, nvL, nvL_vars l]; rfl
/-- no node has more than A parts -/
def arT (A : Nat) : Tys → Prop
  | .nil => True
  | .cons _ _ _ args rest => args.len ≤ A ∧ arT A args ∧ arT A rest
def arY (A : Nat) (x : Ty) : Prop := x.args.len ≤ A ∧ arT A x.args
theorem arT_all {A : Nat} : ∀ t : Tys, arT A t → ∀ y ∈ t.toL, arY A y
  | .nil, _, y, hy => by simp [Tys.toL] at hy
  | .cons kd n nm args rest, h, y, hy => by
    rw [Tys.toL] at hy
    rcases List.mem_cons.1 hy with rfl | q
    · exact ⟨h.1, h.2.1⟩
    · exact arT_all rest h.2.2 y q
/-- which variables know a type: those of V, of no more than A parts -/
def Cov (A : Nat) (V : List (Int × Nat)) (K : PS) : Prop := ∀ n kd nm xs, K n = some (.typ kd nm xs) → (n, xs.length) ∈ V ∧ xs.length ≤ A
def szV : List (Int × Nat) → Nat
  | [] => 0
  | p :: V => 1 + p.2 + szV V
theorem len_szV : ∀ V, V.length ≤ szV V
  | [] => Nat.le_refl _
  | p :: V => by rw [List.length_cons, szV]; have := len_szV V; omega
theorem Cov.mono {A : Nat} {V W : List (Int × Nat)} {K : PS} (h : Cov A V K) (hs : ∀ x ∈ V, x ∈ W) : Cov A W K := fun n kd nm xs e => ⟨hs _ (h n kd nm xs e).1, (h n kd nm xs e).2⟩
theorem Cov.put {A : Nat} {V : List (Int × Nat)} {K : PS} (h : Cov A V K) {n : Int} {f : PF} (hf : ∀ kd nm xs, f ≠ .typ kd nm xs) : Cov A V (updP K n (some f)) := by
  intro m kd nm xs e
  unfold updP at e
  split at e
  · injection e with e; exact absurd e (hf kd nm xs)
  · exact h m kd nm xs e
theorem Cov.typ {A : Nat} {V : List (Int × Nat)} {K : PS} (h : Cov A V K) {n kd : Int} {nm : ByteArray} {xs : List Int} (hx : xs.length ≤ A) : Cov A ((n, xs.length) :: V) (updP K n (some (.typ kd nm xs))) := by
  intro m kd' nm' xs' e
  unfold updP at e
  split at e
  · rename_i hm
    injection e with e
    injection e with e1 e2 e3
    subst hm e3
    exact ⟨by simp, hx⟩
  · exact ⟨List.mem_cons_of_mem _ (h m kd' nm' xs' e).1, (h m kd' nm' xs' e).2⟩
theorem setP_K {s s' : St} {n : Int} {f : PF} (h : setP s n f = some s') : s'.K = updP s.K n (some f) := by
  unfold setP at h
  split at h
  · injection h with h; subst h; rfl
  · cases h
theorem Cov.hold {A : Nat} {V : List (Int × Nat)} {q : Nat} {s s' : St} {n : Int} (h : Cov A V s.K) (hs : holdP q s n = some s') : Cov A V s'.K := by
  unfold holdP at hs
  split at hs
  · cases hs
  · rw [setP_K hs]; exact h.put fun _ _ _ e => by cases e
  · injection hs with hs; subst hs; exact h
theorem Cov.flat {A q : Nat} : ∀ (t : Tys) (V : List (Int × Nat)) (s s' : St) (xs : List Int), Cov A V s.K → arT A t → flatL q s t = some (s', xs) → xs.length = t.len ∧ ∃ W, Cov A W s'.K ∧ (∀ x ∈ V, x ∈ W) ∧ szV W ≤ szV V + nvT t
  | .nil, V, s, s', xs, h, _, hf => by
    simp only [flatL, Option.some.injEq, Prod.mk.injEq] at hf
    obtain ⟨rfl, rfl⟩ := hf
    exact ⟨rfl, V, h, fun x hx => hx, Nat.le_refl _⟩
  | .cons kd n nm args rest, V, s, s', xs, h, ha, hf => by
    unfold flatL at hf
    split at hf
    · rename_i hkd
      split at hf
      · obtain ⟨s1, h1, h2⟩ := Option.bind_eq_some_iff.1 hf
        obtain ⟨⟨s2, x2⟩, h3, h4⟩ := Option.map_eq_some_iff.1 h2
        simp only [Prod.mk.injEq] at h4
        obtain ⟨rfl, rfl⟩ := h4
        obtain ⟨hl, W, c1, c2, c3⟩ := Cov.flat rest V s1 s2 x2 (h.hold h1) ha.2.2 h3
        exact ⟨by rw [List.length_cons, hl, Tys.len], W, c1, c2, by rw [nvT, if_pos hkd]; omega⟩
      · cases hf
    · rename_i hkd
      split at hf
      · cases hf
      · obtain ⟨⟨s1, x1⟩, h1, h2⟩ := Option.bind_eq_some_iff.1 hf
        obtain ⟨⟨s2, i2⟩, h3, h4⟩ := Option.bind_eq_some_iff.1 h2
        obtain ⟨⟨s3, x3⟩, h5, h6⟩ := Option.map_eq_some_iff.1 h4
        simp only [Prod.mk.injEq] at h6
        obtain ⟨rfl, rfl⟩ := h6
        unfold innerP at h3
        obtain ⟨s4, h7, h8⟩ := Option.map_eq_some_iff.1 h3
        simp only [Prod.mk.injEq] at h8
        obtain ⟨rfl, rfl⟩ := h8
        obtain ⟨hl1, W1, c1, c2, c3⟩ := Cov.flat args V s s1 x1 h ha.2.1 h1
        have c4 : Cov A (((-1 - (s1.cnt : Int)), x1.length) :: W1) s4.K := by
          rw [setP_K h7]
          exact c1.typ (by rw [hl1]; exact ha.1)
        obtain ⟨hl2, W2, d1, d2, d3⟩ := Cov.flat rest _ s4 s3 x3 c4 ha.2.2 h5
        refine ⟨by rw [List.length_cons, hl2, Tys.len], W2, d1, fun x hx => d2 x (List.mem_cons_of_mem _ (c2 x hx)), ?_⟩
        rw [nvT, if_neg hkd]
        rw [szV] at d3
        dsimp only at d3
        omega
theorem leftL_bound {A : Nat} {K : PS} {V : List (Int × Nat)} (h : Cov A V K) (seen : SN) : ∀ U : List Int, leftL K seen U ≤ U.length * A
  | [] => by simp [leftL]
  | n :: U => by
    have := leftL_bound h seen U
    have ha : arK K n ≤ A := by
      unfold arK
      cases e : K n with
      | none => exact Nat.zero_le _
      | some f =>
        cases f with
        | link r => exact Nat.zero_le _
        | opn l d hd => exact Nat.zero_le _
        | typ kd nm xs =>
          show (xs.map vrT).length ≤ A
          rw [List.length_map]
          exact (h n kd nm xs e).2
    rw [leftL, List.length_cons, Nat.succ_mul]
    split <;> omega
def Sd.w : Sd → Nat
  | .typ x => wY x
  | .var _ _ => 1
def Sd.nv : Sd → Nat
  | .typ x => 1 + x.args.len + nvT x.args
  | .var _ _ => 0
/-- a side at the end of its way -/
def Sd.at (K : PS) (A : Nat) : Sd → Prop
  | .typ x => arY A x
  | .var n f => K n = some f ∨ (K n = none ∧ f = .opn n 0 false)
/-- a variable of which nothing is known is bound: there is room; what it makes known -/
theorem bind_total {R b A q d : Nat} {s : St} {V : List (Int × Nat)} {is : Sd} (hr : Room L R (b + is.w) s) (hc : Cov A V s.K) (hq : R < q) (hg : is.good) (hat : is.at s.K A) {n : Int} (hn : inI n = true) (held : Bool)
    (hne : ∀ r f, is = .var r f → r ≠ n) (hd : is.w + V.length * A ≤ d) (hd2 : d ≤ limT) : ∃ e s', bindP q d s n held is = some (e, s') ∧ (e ≠ 0 ∨ ∃ R' W, R' ≤ R + 1 ∧ Room L R' b s' ∧ Cov A W s'.K ∧ (∀ x ∈ V, x ∈ W) ∧ szV W ≤ szV V + is.nv) := by
  have hlf := leftL_bound hc (fun _ => 0) (V.map Prod.fst)
  rw [List.length_map] at hlf
  obtain ⟨O, hL⟩ : ∃ O, Un.openL q s.K held d (fun _ => 0) [is.asTy] = some O := by
    refine hr.ok.openL hq held (V := V.map Prod.fst) (fun n kd nm xs e => List.mem_map.2 ⟨_, (hc n kd nm xs e).1, rfl⟩) d _ _ (fun x hx => ?_) (fun n => ⟨Int.le_refl _, by unfold limT at hd2; omega⟩) hd2 ?_
    · rw [List.mem_singleton.1 hx]
      cases is with
      | typ x => exact hg.2
      | var r f => exact goodTy_var hg.1
    · have : szL [is.asTy] ≤ is.w := by
        cases is with
        | typ x =>
          show szY x + 0 ≤ wY x
          unfold szY wY
          have := szT_le x.args
          omega
        | var r f => exact Nat.le_refl _
      omega
  unfold bindP
  rw [hL, Option.bind_some]
  split
  · exact ⟨_, _, rfl, .inl (by decide)⟩
  · cases is with
    | var r f =>
      have hl : ∀ x, s.K r ≠ some (.link x) := by
        intro x e
        rcases hat with h | ⟨h, _⟩
        · rw [e] at h
          injection h with h
          exact hg.2.1 x h.symm
        · rw [e] at h; cases h
      obtain ⟨s', e1, r1, e2⟩ := Room.put (b := b) hr hn (hr.ok.link hg.1 (hne r f rfl) hl)
      exact ⟨0, s', by simp only [e1, Option.map_some], .inr ⟨R + 1, V, Nat.le_refl _, r1, (by rw [e2]; exact hc.put fun _ _ _ e => (by cases e)), fun x hx => hx, Nat.le_refl _⟩⟩
    | typ x =>
      have hx := hg.2
      unfold goodTy at hx
      rw [if_neg hg.1, Bool.and_eq_true, decide_eq_true_eq] at hx
      have hw : b + 1 + szT x.args ≤ b + (Sd.typ x).w := by
        show _ ≤ b + wY x
        unfold wY
        have := szT_le x.args
        omega
      obtain ⟨s1, xs, e1, r1, hxs⟩ := Room.flat hq x.args (b + 1) s hx.2 (hr.le hw)
      obtain ⟨hl, W, c1, c2, c3⟩ := Cov.flat x.args V s s1 xs hc hat.2 e1
      obtain ⟨s2, e2, r2, e3⟩ := r1.set hn (f := .typ x.kd x.nm xs) ⟨hx.1, hg.1, hxs⟩
      refine ⟨0, s2, by simp only [e1, Option.bind_some, e2, Option.map_some], .inr ⟨R, (n, xs.length) :: W, Nat.le_succ _, r2, by rw [e3]; exact c1.typ (by rw [hl]; exact hat.1), fun y hy => List.mem_cons_of_mem _ (c2 y hy), ?_⟩⟩
      show 1 + xs.length + szV W ≤ szV V + (1 + x.args.len + nvT x.args)
      omega
end Go.Proofs.Ytcaioffdcbjbjaa.Un
/-
  WHAT WAITS IS MADE THE SAME, plainly: there is fuel and room enough. No memory in sight.
-/
namespace Go.Proofs.Ytcaioffdcbjbjaa.Un
open Go.RowKit Mm Tm
set_option linter.unusedVariables false
variable {L : Nat}
def wP : List (Ty × Ty) → Nat
  | [] => 0
  | p :: l => wY p.1 + wY p.2 + wP l
def nvP : List (Ty × Ty) → Nat
  | [] => 0
  | p :: l => nvY p.1 + nvY p.2 + nvP l
theorem wP_append : ∀ a b : List (Ty × Ty), wP (a ++ b) = wP a + wP b
  | [], b => by simp [wP]
  | p :: a, b => by rw [List.cons_append, wP, wP, wP_append a b]; omega
theorem nvP_append : ∀ a b : List (Ty × Ty), nvP (a ++ b) = nvP a + nvP b
  | [], b => by simp [nvP]
  | p :: a, b => by rw [List.cons_append, nvP, nvP, nvP_append a b]; omega
theorem len_wP : ∀ l : List (Ty × Ty), l.length ≤ wP l
  | [] => Nat.le_refl _
  | p :: l => by rw [List.length_cons, wP, wY]; have := len_wP l; omega
theorem wP_zip : ∀ a b : List Ty, a.length = b.length → wP (a.zip b) = wL a + wL b
  | [], [], _ => rfl
  | [], _ :: _, h => by simp at h
  | _ :: _, [], h => by simp at h
  | x :: a, y :: b, h => by rw [List.zip_cons_cons, wP, wL, wL, wP_zip a b (by simpa using h)]; dsimp only; omega
theorem nvP_zip : ∀ a b : List Ty, a.length = b.length → nvP (a.zip b) = nvL a + nvL b
  | [], [], _ => rfl
  | [], _ :: _, h => by simp at h
  | _ :: _, [], h => by simp at h
  | x :: a, y :: b, h => by rw [List.zip_cons_cons, nvP, nvL, nvL, nvP_zip a b (by simpa using h)]; dsimp only; omega
def sumF {α : Type} (f : α → Nat) : List α → Nat
  | [] => 0
  | x :: l => f x + sumF f l
theorem sumF_append {α : Type} (f : α → Nat) : ∀ a b : List α, sumF f (a ++ b) = sumF f a + sumF f b
  | [], b => by simp [sumF]
  | x :: a, b => by rw [List.cons_append, sumF, sumF, sumF_append f a b]; omega
theorem sumF_erase {α : Type} [DecidableEq α] (f : α → Nat) (a : α) : ∀ m : List α, a ∈ m → sumF f m = f a + sumF f (m.erase a)
  | [], h => by cases h
  | x :: m, h => by
    by_cases e : x = a
    · subst e
      rw [List.erase_cons_head, sumF]
    · have : a ∈ m := by
        rcases List.mem_cons.1 h with q | q
        · exact absurd q.symm e
        · exact q
      rw [List.erase_cons_tail (by simpa using e), sumF, sumF, sumF_erase f a m this]
      omega
/-- those that differ are no more than there are -/
theorem nodup_le {α : Type} [DecidableEq α] (f : α → Nat) : ∀ (l m : List α), l.Nodup → (∀ x ∈ l, x ∈ m) → sumF f l ≤ sumF f m
  | [], m, _, _ => Nat.zero_le _
  | a :: l, m, hn, hm => by
    rw [List.nodup_cons] at hn
    have ha : a ∈ m := hm a (by simp)
    have := nodup_le f l (m.erase a) hn.2 fun x hx => (List.mem_erase_of_ne (by intro e; rw [e] at hx; exact hn.1 hx)).2 (hm x (by simp [hx]))
    rw [sumF_erase f a m ha, sumF]
    omega
abbrev VA := Int × Nat
def pairsL (V : List VA) : List VA → List (VA × VA)
  | [] => []
  | a :: U => V.map (fun b => (a, b)) ++ pairsL V U
def arF (p : VA × VA) : Nat := 2 * p.1.2
theorem sumF_map (a : VA) : ∀ V : List VA, sumF arF (V.map fun b => (a, b)) = V.length * (2 * a.2)
  | [] => by simp [sumF]
  | b :: V => by
    have e : (V.length + 1) * (2 * a.2) = V.length * (2 * a.2) + 2 * a.2 := Nat.succ_mul _ _
    rw [List.map_cons, sumF, sumF_map a V, List.length_cons, e]
    show 2 * a.2 + _ = _
    omega
theorem pairsL_sum (V : List VA) : ∀ U, sumF arF (pairsL V U) ≤ 2 * (V.length * szV U)
  | [] => by simp [pairsL, sumF]
  | a :: U => by
    have := pairsL_sum V U
    have e2 : V.length * (1 + a.2 + szV U) = V.length + V.length * a.2 + V.length * szV U := by rw [Nat.mul_add, Nat.mul_add, Nat.mul_one]
    rw [pairsL, sumF_append, sumF_map, szV, e2]
    have e : V.length * (2 * a.2) = 2 * (V.length * a.2) := Nat.mul_left_comm _ _ _
    omega
theorem pairsL_mem {V : List VA} {a b : VA} (hb : b ∈ V) : ∀ U, a ∈ U → (a, b) ∈ pairsL V U
  | [], h => by cases h
  | c :: U, h => by
    rw [pairsL, List.mem_append]
    rcases List.mem_cons.1 h with rfl | q
    · exact .inl (List.mem_map.2 ⟨b, hb, rfl⟩)
    · exact .inr (pairsL_mem hb U q)
def okY (A : Nat) (x : Ty) : Prop := goodTy x = true ∧ arY A x
def okP (A : Nat) (l : List (Ty × Ty)) : Prop := ∀ p ∈ l, okY A p.1 ∧ okY A p.2
/-- what is being made while some waits: c nodes that are no variables, weight w; b steps are enough -/
structure SI (L A N q d R : Nat) (s : St) (M : PM) (V : List VA) (Met : List (VA × VA)) (c w b : Nat) : Prop where
  room : Room L R b s
  fit : (2 * (N * N) - sumF arF Met) + w ≤ b
  cov : Cov A V s.K
  size : szV V + c ≤ N
  nd : Met.Nodup
  inV : ∀ p ∈ Met, p.1 ∈ V ∧ p.2 ∈ V
  met : ∀ x y, (∃ p ∈ Met, p.1.1 = x ∧ p.2.1 = y) ↔ M x y ≠ 0
  cnt : ∀ x y, 0 ≤ M x y ∧ M x y + b ≤ 2000000000
  way : R + b < q
  dep : N * A + b ≤ d
/-- fewer steps -/
theorem SI.step {A N q d R R' : Nat} {s s' : St} {M : PM} {V V' : List VA} {Met : List (VA × VA)} {c w b c' w' b' : Nat} (h : SI L A N q d R s M V Met c w b) (hr : Room L R' b' s') (hR : R' ≤ R + 1) (hb : b' < b) (hf : w' + b ≤ b' + w) (hc : Cov A V' s'.K) (hV : ∀ x ∈ V, x ∈ V') (hs : szV V' + c' ≤ szV V + c) : SI L A N q d R' s' M V' Met c' w' b' :=
  ⟨hr, by have := h.fit; omega, hc, by have := h.size; omega, h.nd, fun p hp => ⟨hV _ (h.inV p hp).1, hV _ (h.inV p hp).2⟩, h.met, fun x y => by have := h.cnt x y; omega, by have := h.way; omega, by have := h.dep; omega⟩
theorem arY_var (A : Nat) (n : Int) : arY A (vrT n) := ⟨Nat.zero_le _, trivial⟩
theorem PF.parts_ok {A : Nat} {f : PF} : ∀ y ∈ f.parts, arY A y := by
  intro y hy
  cases f with
  | link r => simp [PF.parts] at hy
  | opn l d hd => simp [PF.parts] at hy
  | typ kd nm xs =>
    simp only [PF.parts, List.mem_map] at hy
    obtain ⟨n', _, rfl⟩ := hy
    exact arY_var A n'
theorem Sd.parts_ok {K : PS} {A : Nat} {a : Sd} (hg : a.good) (ha : a.at K A) : ∀ y ∈ a.parts, okY A y := by
  intro y hy
  refine ⟨Sd.good_parts hg y hy, ?_⟩
  cases a with
  | typ x => exact arT_all x.args ha.2 y hy
  | var n f => exact PF.parts_ok y hy
theorem PF.parts_w (f : PF) : wL f.parts = f.parts.length ∧ nvL f.parts = 0 := by
  cases f with
  | link r => exact ⟨rfl, rfl⟩
  | opn l d hd => exact ⟨rfl, rfl⟩
  | typ kd nm xs =>
    show wL (xs.map vrT) = (xs.map vrT).length ∧ nvL (xs.map vrT) = 0
    rw [wL_vars, nvL_vars, List.length_map]
    exact ⟨rfl, rfl⟩
theorem Sd.typ_w (x : Ty) : wL (Sd.typ x).parts + 1 + (Sd.typ x).parts.length = (Sd.typ x).w ∧ nvL (Sd.typ x).parts + 1 + (Sd.typ x).parts.length = (Sd.typ x).nv := by
  have h1 := wL_toL x.args
  have h2 := nvL_toL x.args
  have h3 := Tys.toL_len x.args
  simp only [Sd.parts, Sd.w, Sd.nv, wY]
  omega
/-- a side that is taken stands at the end of its way -/
theorem LinkOK.taken_at {K : PS} {R A : Nat} (h : LinkOK K R) {q : Nat} (hq : R < q) {x : Ty} (hx : okY A x) {sd : Sd} (hs : takenP q K x = some sd) : sd.good ∧ sd.at K A ∧ sd.w ≤ wY x ∧ sd.nv ≤ nvY x := by
  obtain ⟨sd', h1, h2⟩ := h.taken hq hx.1
  rw [hs] at h1
  injection h1 with h1
  subst h1
  refine ⟨h2, ?_⟩
  unfold takenP at hs
  split at hs
  · rename_i hk
    have hn : inI x.n = true := by
      have := hx.1
      unfold goodTy at this
      rw [if_pos hk, Bool.and_eq_true] at this
      exact this.1
    obtain ⟨r, f, he, hr, hk', hl⟩ := h.end_ hq hn
    rw [he] at hs
    simp only [Option.map_some, Option.some.injEq] at hs
    subst hs
    exact ⟨hk', by show 1 ≤ wY x; unfold wY; omega, Nat.zero_le _⟩
  · rename_i hk
    split at hs
    · cases hs
    · injection hs with hs
      subst hs
      exact ⟨hx.2, Nat.le_refl _, by show 1 + x.args.len + nvT x.args ≤ nvY x; unfold nvY; rw [if_neg hk]; exact Nat.le_refl _⟩
/-- what may follow a pair -/
def After (L A N q d c w b : Nat) (r : PR) : Prop := r.err ≠ 0 ∨ ∃ R' V' Met' b', b' < b ∧ SI L A N q d R' r.st r.M V' Met' (nvP r.more + c) (wP r.more + w) b' ∧ okP A r.more
theorem SI.zip {A N q d R : Nat} {s : St} {M : PM} {V : List VA} {Met : List (VA × VA)} {c w b : Nat} {x y : Sd} (h : SI L A N q d R s M V Met (x.nv + y.nv + c) (x.w + y.w + w) b) (hx : x.good) (hy : y.good) (ax : x.at s.K A) (ay : y.at s.K A)
    (hl : x.parts.length = y.parts.length) (hw : wL x.parts + wL y.parts + 2 ≤ x.w + y.w) (hn : nvL x.parts + nvL y.parts ≤ x.nv + y.nv) : After L A N q d c w b ⟨0, s, M, x.parts.zip y.parts⟩ := by
  have hfit := h.fit
  have e1 := wP_zip _ _ hl
  have e2 := nvP_zip _ _ hl
  refine .inr ⟨R, V, Met, b - 1, by omega, h.step (h.room.le (by omega)) (by omega) (by omega) ?_ h.cov (fun x hx => hx) ?_, fun p hp => ?_⟩
  · show wP (x.parts.zip y.parts) + w + b ≤ b - 1 + _
    omega
  · show _ + (nvP (x.parts.zip y.parts) + c) ≤ _
    omega
  · obtain ⟨p1, p2⟩ := p
    have := List.of_mem_zip hp
    exact ⟨Sd.parts_ok hx ax _ this.1, Sd.parts_ok hy ay _ this.2⟩
end Go.Proofs.Ytcaioffdcbjbjaa.Un
/-
  ALL THAT WAITS IS MADE THE SAME, plainly: each pair has room, and leaves less. No memory in sight.
-/
namespace Go.Proofs.Ytcaioffdcbjbjaa.Un
open Go.RowKit Mm Tm
set_option linter.unusedVariables false
variable {L : Nat}
theorem SI.ahead {A N q d R : Nat} {s : St} {M : PM} {V : List VA} {Met : List (VA × VA)} {c w b : Nat} (h : SI L A N q d R s M V Met c w b) {n r : Int} {a : Nat} (hn : (n, a) ∈ V) (hr : (r, a) ∈ V) :
    ((aheadP M n r).2 = true → ∀ c' w' b', b' < b → c' ≤ c → w' + b ≤ b' + w → SI L A N q d R s (aheadP M n r).1 V Met c' w' b') ∧
    ((aheadP M n r).2 = false → ∃ Met', ∀ c' w' b', b' < b → c' ≤ c → w' + b ≤ b' + w + 2 * a → SI L A N q d R s (aheadP M n r).1 V Met' c' w' b') := by
  have hm1 : (min n r, a) ∈ V := by rw [Int.min_def]; split <;> assumption
  have hm2 : (max n r, a) ∈ V := by rw [Int.max_def]; split <;> assumption
  obtain ⟨g0, g1⟩ := h.cnt (min n r) (max n r)
  have hw : wr (M (min n r) (max n r) + 1) = M (min n r) (max n r) + 1 := wr_next g0 (by omega)
  unfold aheadP
  rw [hw]
  have hcnt : ∀ b', b' < b → ∀ x y, 0 ≤ updM M (min n r) (max n r) (M (min n r) (max n r) + 1) x y ∧ updM M (min n r) (max n r) (M (min n r) (max n r) + 1) x y + b' ≤ 2000000000 := by
    intro b' hb x y
    have := h.cnt x y
    unfold updM
    split <;> omega
  have hfit := h.fit
  refine ⟨fun hc c' w' b' hb hc' hw' => ?_, fun hc => ⟨((min n r, a), (max n r, a)) :: Met, fun c' w' b' hb hc' hw' => ?_⟩⟩
  · simp only [decide_eq_true_eq] at hc
    refine ⟨h.room.le (by omega), by omega, h.cov, by have := h.size; omega, h.nd, h.inV, fun x y => ?_, hcnt b' hb, by have := h.way; omega, by have := h.dep; omega⟩
    rw [h.met]
    unfold updM
    dsimp only
    split
    · rename_i e
      rw [e.1, e.2]
      constructor <;> intro _ <;> omega
    · exact Iff.rfl
  · simp only [decide_eq_false_iff_not] at hc
    have h0 : M (min n r) (max n r) = 0 := by omega
    have hnm : ((min n r, a), (max n r, a)) ∉ Met := fun e => (h.met _ _).1 ⟨_, e, rfl, rfl⟩ h0
    have hnd : (((min n r, a), (max n r, a)) :: Met).Nodup := List.nodup_cons.2 ⟨hnm, h.nd⟩
    have hin : ∀ p ∈ ((min n r, a), (max n r, a)) :: Met, p.1 ∈ V ∧ p.2 ∈ V := by
      intro p hp
      rcases List.mem_cons.1 hp with rfl | q'
      · exact ⟨hm1, hm2⟩
      · exact h.inV p q'
    have hlen := nodup_le arF _ (pairsL V V) hnd fun p hp => pairsL_mem (hin p hp).2 V (hin p hp).1
    have hps := pairsL_sum V V
    have hlv := len_szV V
    have hVN : V.length * szV V ≤ N * N := Nat.mul_le_mul (by have := h.size; omega) (by have := h.size; omega)
    rw [sumF] at hlen
    have har : arF ((min n r, a), (max n r, a)) = 2 * a := rfl
    refine ⟨h.room.le (by omega), ?_, h.cov, by have := h.size; omega, hnd, hin, fun x y => ?_, hcnt b' hb, by have := h.way; omega, by have := h.dep; omega⟩
    · rw [sumF]
      omega
    · have hi : (∃ p ∈ ((min n r, a), (max n r, a)) :: Met, p.1.1 = x ∧ p.2.1 = y) ↔ ((x = min n r ∧ y = max n r) ∨ M x y ≠ 0) := by
        rw [← h.met]
        constructor
        · rintro ⟨p, hp, e1, e2⟩
          rcases List.mem_cons.1 hp with rfl | q'
          · exact .inl ⟨e1.symm, e2.symm⟩
          · exact .inr ⟨p, q', e1, e2⟩
        · rintro (⟨e1, e2⟩ | ⟨p, q', e1, e2⟩)
          · exact ⟨((min n r, a), (max n r, a)), List.mem_cons_self .., e1.symm, e2.symm⟩
          · exact ⟨p, List.mem_cons_of_mem _ q', e1, e2⟩
      rw [hi]
      unfold updM
      dsimp only
      split
      · rename_i e
        rw [e.1, e.2]
        constructor
        · intro _; omega
        · intro _; exact .inl ⟨rfl, rfl⟩
      · rename_i e
        constructor
        · rintro (e' | e')
          · exact absurd e' e
          · exact e'
        · exact .inr
theorem SI.bind {A N q d R : Nat} {s : St} {M : PM} {V : List VA} {Met : List (VA × VA)} {c w b : Nat} {is : Sd} (h : SI L A N q d R s M V Met (is.nv + c) (1 + is.w + w) b) (hd2 : d ≤ limT) {q1 : Nat} (hq1 : q ≤ q1) (hg : is.good) (hat : is.at s.K A) {n : Int} (hn : inI n = true) (held : Bool) (hne : ∀ r f, is = .var r f → r ≠ n) :
    ∃ r, (bindP q1 d s n held is).map (fun e => (⟨e.1, e.2, M, []⟩ : PR)) = some r ∧ After L A N q d c w b r := by
  have hfit := h.fit
  have hway := h.way
  have hdep := h.dep
  have hVA : V.length * A ≤ N * A := Nat.mul_le_mul_right _ (by have := h.size; have := len_szV V; omega)
  obtain ⟨e, s', h1, h2⟩ := bind_total (L := L) (R := R) (q := q1) (b := b - is.w) (h.room.le (by omega)) h.cov (by omega) hg hat hn held hne (d := d) (by omega) hd2
  refine ⟨⟨e, s', M, []⟩, by rw [h1]; rfl, ?_⟩
  rcases h2 with h2 | ⟨R', W, r1, r2, r3, r4, r5⟩
  · exact .inl h2
  · refine .inr ⟨R', W, Met, b - is.w - 1, by omega, h.step (r2.le (by omega)) r1 (by omega) ?_ r3 r4 ?_, fun p hp => (by cases hp)⟩
    · show 0 + w + b ≤ _
      omega
    · show _ + (0 + c) ≤ _
      omega
theorem Sd.at_typ {K : PS} {A : Nat} {V : List VA} (hc : Cov A V K) {n kd : Int} {nm : ByteArray} {xs : List Int} (h : (Sd.var n (.typ kd nm xs)).at K A) : (n, (PF.typ kd nm xs).parts.length) ∈ V ∧ (PF.typ kd nm xs).parts.length ≤ A := by
  rcases h with h | ⟨_, h⟩
  · have := hc n kd nm xs h
    have e : (PF.typ kd nm xs).parts.length = xs.length := List.length_map ..
    rw [e]
    exact this
  · cases h
theorem Sd.at_root {K : PS} {A : Nat} {n : Int} {f : PF} (h : (Sd.var n f).at K A) (hg : (Sd.var n f).good) : ∀ x, K n ≠ some (.link x) := by
  intro x e
  rcases h with h | ⟨h, _⟩
  · rw [e] at h
    injection h with h
    exact hg.2.1 x h.symm
  · rw [e] at h; cases h
/-- two types of which both are known -/
theorem SI.match_ {A N q d R : Nat} {s : St} {M : PM} {V : List VA} {Met : List (VA × VA)} {c w b : Nat} {x y : Sd} (h : SI L A N q d R s M V Met (x.nv + y.nv + c) (x.w + y.w + w) b) (hx : x.good) (hy : y.good) (ax : x.at s.K A) (ay : y.at s.K A) (ox : x.isOpn = false) (oy : y.isOpn = false) : After L A N q d c w b (matchP s M x y) := by
  unfold matchP
  split
  · exact .inl (by show (100 : Int) ≠ 0; decide)
  · rename_i hc
    have hl : x.parts.length = y.parts.length := by
      by_cases e : x.parts.length = y.parts.length
      · exact e
      · exact absurd (.inr (.inr e)) hc
    cases x with
    | typ x =>
      have e1 := Sd.typ_w x
      cases y with
      | typ y =>
        have e2 := Sd.typ_w y
        exact h.zip hx hy ax ay hl (by omega) (by omega)
      | var r g =>
        have e2 := PF.parts_w g
        have e3 : (Sd.var r g).parts = g.parts := rfl
        have e4 : (Sd.var r g).w = 1 := rfl
        rw [e3] at hl
        exact h.zip hx hy ax ay hl (by rw [e3, e4]; omega) (by rw [e3]; omega)
    | var n f =>
      have f2 := PF.parts_w f
      have f3 : (Sd.var n f).parts = f.parts := rfl
      have f4 : (Sd.var n f).w = 1 := rfl
      cases y with
      | typ y =>
        have e2 := Sd.typ_w y
        rw [f3] at hl
        exact h.zip hx hy ax ay hl (by rw [f3, f4]; omega) (by rw [f3]; omega)
      | var r g =>
        have e2 := PF.parts_w g
        have e3 : (Sd.var r g).parts = g.parts := rfl
        have e4 : (Sd.var r g).w = 1 := rfl
        cases f with
        | link z => exact absurd rfl (hx.2.1 z)
        | opn l d hd => cases ox
        | typ k1 n1 x1 =>
          cases g with
          | link z => exact absurd rfl (hy.2.1 z)
          | opn l d hd => cases oy
          | typ k2 n2 x2 =>
            obtain ⟨v1, l1⟩ := Sd.at_typ h.cov ax
            obtain ⟨v2, l2⟩ := Sd.at_typ h.cov ay
            have hfit := h.fit
            rw [f3, e3] at hl
            rw [← hl] at v2
            obtain ⟨A1, A2⟩ := h.ahead v1 v2
            dsimp only
            split
            · rename_i hh
              refine .inr ⟨R, V, Met, b - 1, by omega, A1 hh _ _ _ (by omega) ?_ ?_, fun p hp => (by cases hp)⟩
              · show 0 + c ≤ _
                omega
              · show 0 + w + b ≤ _
                omega
            · rename_i hh
              obtain ⟨Met', A3⟩ := A2 (by simpa using hh)
              have z1 := wP_zip _ _ hl
              have z2 := nvP_zip _ _ hl
              refine .inr ⟨R, V, Met', b - 1, by omega, A3 _ _ _ (by omega) ?_ ?_, fun p hp => ?_⟩
              · show nvP ((PF.typ k1 n1 x1).parts.zip (PF.typ k2 n2 x2).parts) + c ≤ _
                omega
              · show wP ((PF.typ k1 n1 x1).parts.zip (PF.typ k2 n2 x2).parts) + w + b ≤ _
                omega
              · obtain ⟨p1, p2⟩ := p
                have := List.of_mem_zip hp
                exact ⟨Sd.parts_ok hx ax _ this.1, Sd.parts_ok hy ay _ this.2⟩
end Go.Proofs.Ytcaioffdcbjbjaa.Un
/-
  UNIFY ANSWERS, plainly: some fuel is enough, and what is known then is in bounds. No memory in sight.
-/
namespace Go.Proofs.Ytcaioffdcbjbjaa.Un
open Go.RowKit Mm Tm
set_option linter.unusedVariables false
variable {L : Nat}
theorem Sd.w_pos (a : Sd) : 1 ≤ a.w := by
  cases a with
  | typ x => show 1 ≤ wY x; unfold wY; omega
  | var n f => exact Nat.le_refl _
theorem SI.done {A N q d R : Nat} {s : St} {M : PM} {V : List VA} {Met : List (VA × VA)} {c w b c' w' : Nat} (h : SI L A N q d R s M V Met c w b) (hc : c' ≤ c) (hw : w' + 1 ≤ w) : After L A N q d c' w' b ⟨0, s, M, []⟩ := by
  have hfit := h.fit
  refine .inr ⟨R, V, Met, b - 1, by omega, h.step (h.room.le (by omega)) (by omega) (by omega) ?_ h.cov (fun x hx => hx) ?_, fun p hp => (by cases hp)⟩
  · show 0 + w' + b ≤ _
    omega
  · show _ + (0 + c') ≤ _
    omega
theorem SI.less {A N q d R : Nat} {s : St} {M : PM} {V : List VA} {Met : List (VA × VA)} {c w b c' w' : Nat} (h : SI L A N q d R s M V Met c w b) (hc : c' ≤ c) (hw : w' ≤ w) : SI L A N q d R s M V Met c' w' b :=
  ⟨h.room, by have := h.fit; omega, h.cov, by have := h.size; omega, h.nd, h.inV, h.met, h.cnt, h.way, h.dep⟩
/-- a pair -/
theorem SI.pair {A N q d R : Nat} {s : St} {M : PM} {V : List VA} {Met : List (VA × VA)} {c w b : Nat} {x y : Sd} (h : SI L A N q d R s M V Met (x.nv + y.nv + c) (x.w + y.w + w) b) (hd2 : d ≤ limT) {q1 : Nat} (hq1 : q ≤ q1) (hx : x.good) (hy : y.good) (ax : x.at s.K A) (ay : y.at s.K A) : ∃ r, pairP q1 d s M x y = some r ∧ After L A N q d c w b r := by
  have px := x.w_pos
  have py := y.w_pos
  have hfit := h.fit
  unfold pairP
  split
  · exact ⟨_, rfl, h.done (by omega) (by omega)⟩
  · rename_i hsv
    cases x with
    | typ x =>
      cases y with
      | typ y => exact ⟨_, rfl, h.match_ hx hy ax ay rfl rfl⟩
      | var r g =>
        cases g with
        | link z => exact absurd rfl (hy.2.1 z)
        | opn l e o => exact (h.less (c' := (Sd.typ x).nv + c) (w' := 1 + (Sd.typ x).w + w) (by omega) (by omega)).bind hd2 hq1 hx ax hy.1 o (fun r f e => by cases e)
        | typ k2 n2 x2 => exact ⟨_, rfl, h.match_ hx hy ax ay rfl rfl⟩
    | var n f =>
      cases f with
      | link z => exact absurd rfl (hx.2.1 z)
      | typ k1 n1 x1 =>
        cases y with
        | typ y => exact ⟨_, rfl, h.match_ hx hy ax ay rfl rfl⟩
        | var r g =>
          have hne : ¬ n = r := by simpa [sameVar] using hsv
          cases g with
          | link z => exact absurd rfl (hy.2.1 z)
          | opn l e o => exact (h.less (c' := (Sd.var n (.typ k1 n1 x1)).nv + c) (w' := 1 + (Sd.var n (.typ k1 n1 x1)).w + w) (by omega) (by omega)).bind hd2 hq1 hx ax hy.1 o (fun r' f e => by injection e with e1 e2; subst e1; exact hne)
          | typ k2 n2 x2 => exact ⟨_, rfl, h.match_ hx hy ax ay rfl rfl⟩
      | opn la da ha =>
        cases y with
        | typ y => exact (h.less (c' := (Sd.typ y).nv + c) (w' := 1 + (Sd.typ y).w + w) (by omega) (by have : (Sd.var n (.opn la da ha)).w = 1 := rfl; omega)).bind hd2 hq1 hy ay hx.1 ha (fun r f e => by cases e)
        | var r g =>
          have hne : ¬ n = r := by simpa [sameVar] using hsv
          have w1 : (Sd.var n (.opn la da ha)).w = 1 := rfl
          have w2 : (Sd.var r g).w = 1 := rfl
          cases g with
          | link z => exact absurd rfl (hy.2.1 z)
          | typ k2 n2 x2 => exact (h.less (c' := (Sd.var r (.typ k2 n2 x2)).nv + c) (w' := 1 + (Sd.var r (.typ k2 n2 x2)).w + w) (by omega) (by omega)).bind hd2 hq1 hy ay hx.1 ha (fun r' f e => by injection e with e1 e2; subst e1; exact fun e => hne e.symm)
          | opn lb db hb =>
            obtain ⟨s', e1, r1⟩ := Room.join (L := L) (R := R) (b := b - 2) (h.room.le (by omega)) (la := la) (da := da) (lb := lb) (db := db) (ha := ha) (hb := hb) hx.1 hy.1 hne (Sd.at_root ax hx) (Sd.at_root ay hy)
            have hcov : Cov A V s'.K := by
              unfold joinP at e1
              split at e1 <;> (obtain ⟨s1, g1, g2⟩ := Option.bind_eq_some_iff.1 e1; rw [setP_K g2, setP_K g1]; exact (h.cov.put fun _ _ _ e => (by cases e)).put fun _ _ _ e => (by cases e))
            refine ⟨⟨0, s', M, []⟩, by dsimp only; rw [e1]; rfl, .inr ⟨R + 1, V, Met, b - 2, by omega, h.step r1 (Nat.le_refl _) (by omega) ?_ hcov (fun x hx => hx) ?_, fun p hp => (by cases hp)⟩⟩
            · show 0 + w + b ≤ _
              omega
            · show _ + (0 + c) ≤ _
              omega
/-- all that waits -/
theorem SI.same {A N q d : Nat} (hd2 : d ≤ limT) {q1 : Nat} (hq1 : q ≤ q1) : ∀ (k R : Nat) (s : St) (M : PM) (V : List VA) (Met : List (VA × VA)) (td : List (Ty × Ty)) (b : Nat), SI L A N q d R s M V Met (nvP td) (wP td) b → okP A td → b ≤ k → b < limT →
    ∃ e s', sameP q1 d k s M td = some (e, s') ∧ (e = 0 → ∃ R' W, R' < q ∧ LinkOK s'.K R' ∧ Cov A W s'.K ∧ szV W ≤ N ∧ s'.cnt ≤ L)
  | k, R, s, M, V, Met, [], b, h, _, _, _ => ⟨0, s, by unfold sameP; rfl, fun _ => ⟨R, V, by have := h.way; omega, h.room.ok, h.cov, by have := h.size; omega, by have := h.room.cnt; omega⟩⟩
  | 0, R, s, M, V, Met, p :: td, b, h, _, hk, _ => by
    have := h.fit
    have := len_wP (p :: td)
    rw [List.length_cons] at this
    omega
  | k + 1, R, s, M, V, Met, (x, y) :: td, b, h, hok, hk, hb => by
    have hxy := hok (x, y) (by simp)
    have hway := h.way
    obtain ⟨xa, t1, g1⟩ := h.room.ok.taken (q := q1) (by omega) hxy.1.1
    obtain ⟨ya, t2, g2⟩ := h.room.ok.taken (q := q1) (by omega) hxy.2.1
    obtain ⟨_, a1, w1, n1⟩ := h.room.ok.taken_at (q := q1) (by omega) hxy.1 t1
    obtain ⟨_, a2, w2, n2⟩ := h.room.ok.taken_at (q := q1) (by omega) hxy.2 t2
    have h' : SI L A N q d R s M V Met (xa.nv + ya.nv + nvP td) (xa.w + ya.w + wP td) b := h.less (by rw [nvP]; dsimp only at n1 n2 ⊢; omega) (by rw [wP]; dsimp only at w1 w2 ⊢; omega)
    obtain ⟨r, e1, e2⟩ := h'.pair hd2 hq1 g1 g2 a1 a2
    unfold sameP
    rw [t1, t2]
    dsimp only
    rw [e1]
    dsimp only
    split
    · rename_i he
      exact ⟨_, _, rfl, fun e => absurd e he⟩
    · rename_i he
      rcases e2 with e2 | ⟨R', V', Met', b', hb', hsi, hmore⟩
      · exact absurd e2 he
      · have hf := hsi.fit
        have l1 := len_wP r.more
        have l2 := len_wP td
        rw [if_pos (by omega)]
        refine SI.same hd2 hq1 k R' r.st r.M V' Met' (r.more ++ td) b' (by rw [nvP_append, wP_append]; exact hsi) (fun p hp => ?_) (by omega) (by omega)
        rcases List.mem_append.1 hp with q' | q'
        · exact hmore p q'
        · exact hok p (List.mem_cons_of_mem _ q')
/-- a store in bounds: c variables are known, ways are no longer than R, N know a type, of no more than A parts -/
structure KB (A N R c : Nat) (K : PS) : Prop where
  ok : LinkOK K R
  cov : ∃ V, Cov A V K ∧ szV V ≤ N
/-- UNIFY ANSWERS: b steps are enough -/
theorem KB.unify {A N R c : Nat} {K : PS} (h : KB A N R c K) {x y : Ty} (hx : okY A x) (hy : okY A y) {b d q k N' : Nat} (hN : N + (nvY x + nvY y) ≤ N') (hb : 2 * (N' * N') + (wY x + wY y) ≤ b) (hL : c + b ≤ lim) (hM : b ≤ 900000000) (hq : R + b < q) (hdd : N' * A + b ≤ d) (hd2 : d ≤ limT) (hk : b ≤ k) :
    ∃ e K' c', unifyQ q d k K c x y = some (e, K', c') ∧ (e = 0 → KB A N' (R + b) c' K' ∧ c' ≤ c + b) := by
  obtain ⟨V, hV, hVN⟩ := h.cov
  have hsi : SI (c + b) A N' (R + b + 1) d R ⟨K, c, []⟩ (fun _ _ => 0) V [] (nvP [(x, y)]) (wP [(x, y)]) b :=
    ⟨⟨h.ok, Nat.le_refl _, by show 0 + b ≤ _; omega, hL⟩, by show (2 * (N' * N') - 0) + (wY x + wY y + 0) ≤ b; omega, hV, by show szV V + (nvY x + nvY y + 0) ≤ N'; omega, List.nodup_nil, fun p hp => (by cases hp), fun x y => ⟨fun ⟨p, e, _⟩ => (by cases e), fun e => absurd rfl e⟩, fun x y => ⟨Int.le_refl _, by omega⟩, by omega, hdd⟩
  obtain ⟨e, s', e1, e2⟩ := SI.same hd2 (q1 := q) (by omega) k R _ _ V [] _ b hsi (fun p hp => by rw [List.mem_singleton.1 hp]; exact ⟨hx, hy⟩) hk (by unfold limT; omega)
  unfold unifyQ
  rw [e1]
  by_cases he : e = 0
  · obtain ⟨R', W, g1, g2, g3, g4, g5⟩ := e2 he
    refine ⟨0, s'.K, s'.cnt, by rw [Option.map_some]; dsimp only; rw [if_pos he], fun _ => ⟨⟨?_, W, g3, g4⟩, g5⟩⟩
    obtain ⟨⟨rk, r1, r2⟩, r3, r4⟩ := g2
    exact ⟨⟨rk, r1, fun n => by have := r2 n; omega⟩, r3, r4⟩
  · exact ⟨e, K, c, by rw [Option.map_some]; dsimp only; rw [if_neg he], fun e0 => absurd e0 he⟩
end Go.Proofs.Ytcaioffdcbjbjaa.Un
