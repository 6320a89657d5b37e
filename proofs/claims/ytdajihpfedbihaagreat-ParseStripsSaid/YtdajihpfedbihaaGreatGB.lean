/-
  THE PARSER OF LAYER parse, plainly: what is left of the tokens, the first fault; what was read, its rows not grouped yet. 'none' where the fuel ends. No memory in sight.
-/
import Derived.Test.YtdajihpfedbihaaGreatGA
import Derived.WalkKit
import Derived.ProofKit
namespace Go.Proofs.YtdajihpfedbihaaGreat.Pa
open Tm Pm
set_option linter.unusedVariables false
/-- a token -/
structure Tk where
  kind : Int
  text : List UInt8
  n : Int
  ln : Int
  col : Int
  made : Bool
  deriving DecidableEq, Inhabited
def noTk : Tk := ⟨0, [], 0, 0, 0, false⟩
abbrev Name := List UInt8
def str (s : String) : Name := s.toUTF8.toList
/-- how an operator binds -/
structure Fx where
  op : Name
  assoc : Int
  level : Int
  ln : Int
  col : Int
  deriving Inhabited
/-- what is left, the last place, how operators bind, the first fault (its number is 0: none) -/
structure Pp where
  rest : List Tk
  last : Int × Int
  fixes : List Fx
  err : Int
  at_ : Int × Int
def Pp.next (p : Pp) : Tk := p.rest.headD noTk
def Pp.take (p : Pp) : Tk × Pp := match p.rest with
  | [] => (noTk, p)
  | t :: r => (t, { p with rest := r, last := (t.ln, t.col) })
def Pp.fail (p : Pp) (e : Int) : Pp := if p.err ≠ 0 then p else
  { p with rest := [], err := e, at_ := match p.rest with
    | [] => p.last
    | t :: _ => (t.ln, t.col) }
def isMark (t : Tk) (s : String) : Bool := decide (t.kind = 5) && decide (t.text = str s)
def isWord (t : Tk) (s : String) : Bool := decide (t.kind = 6) && decide (t.text = str s)
def Pp.kind (p : Pp) (k : Int) : Tk × Pp := (if p.next.kind ≠ k then p.fail 60 else p).take
def Pp.mark (p : Pp) (s : String) : Bool × Pp :=
  (isMark p.next s, ((if isMark p.next s then p else p.fail 60).take).2)
def Pp.word (p : Pp) (s : String) : Pp := ((if isWord p.next s then p else p.fail 60).take).2
def Pp.number (p : Pp) : Tk × Pp := (if p.next.n < 0 then p.fail 11 else p).take
def Pp.below (p : Pp) : Tk × Pp :=
  let (t, p) := p.kind 4
  ({ t with n := IntKind.i64.wrap (-t.n) }, (p.mark ")").2)
/-- a text as it lies in memory -/
def toB (l : List UInt8) : ByteArray := ⟨l.toArray⟩
mutual
/-- an expression that was read: its rows are grouped later -/
inductive Lt where
  | none
  | leaf (kind : Int) (name : Name) (n : Int) (ln col : Int)
  | row (operands : List Lt) (ops : List Tk)
  | lam (params : List Name) (body : Lt) (ln col : Int)
  | let_ (clauses : List Cl) (body : Lt) (ln col : Int)
  | choice (parts : List Lt) (ln col : Int)
  | cases_ (of_ : Lt) (alts : List Al) (ln col : Int)
  | app (parts : List Lt)
inductive Rh where
  | one (body : Lt)
  | guards (l : List Gd)
inductive Gd where
  | mk (guard body : Lt)
inductive Cl where
  | mk (name : Tk) (pats : List Pt) (rhs : Rh)
inductive Al where
  | mk (pat : Pt) (rhs : Rh)
end
def beginsClause (t : Tk) : Bool := decide (t.kind = 1) || isMark t "("
def beginsPat (t : Tk) : Bool := decide (t.kind = 1) || (decide (t.kind = 2) || (decide (t.kind = 4) || (isMark t "_" || isMark t "(")))
def beginsAtype (t : Tk) : Bool := decide (t.kind = 2) || (decide (t.kind = 1) || isMark t "(")
def beginsAexp (t : Tk) : Bool := decide (t.kind = 1) || (decide (t.kind = 2) || (decide (t.kind = 4) || isMark t "("))
mutual
/-- types: the code's typ, btype, atypes, atype -/
def typ : Nat → Pp → Option (Ty × Pp)
  | 0, _ => none
  | d + 1, p => do
    let (t, p) ← btype d p
    if isMark p.next "->" then
      let (u, p) ← typ d p.take.2
      return (⟨3, 0, ByteArray.empty, Tys.ofL [t, u]⟩, p)
    else return (t, p)
def btype : Nat → Pp → Option (Ty × Pp)
  | 0, _ => none
  | d + 1, p => do
    if p.next.kind ≠ 2 then atype d p
    else
      let (t, p) ← atype d p
      let (l, p) ← atypes d p
      return ({ t with args := Tys.ofL l }, p)
def atypes : Nat → Pp → Option (List Ty × Pp)
  | 0, _ => none
  | d + 1, p => do
    if beginsAtype p.next then
      let (t, p) ← atype d p
      let (l, p) ← atypes d p
      return (t :: l, p)
    else return ([], p)
def atype : Nat → Pp → Option (Ty × Pp)
  | 0, _ => none
  | d + 1, p => do
    if p.next.kind = 2 then return (⟨2, 0, toB p.next.text, .nil⟩, p.take.2)
    else if p.next.kind = 1 then return (⟨1, 0, toB p.next.text, .nil⟩, p.take.2)
    else
      let (there, p) := p.mark "("
      if there then
        let (t, p) ← typ d p
        return (t, (p.mark ")").2)
      else return (⟨0, 0, ByteArray.empty, .nil⟩, p)
end
mutual
/-- patterns: the code's pat, apats, apat -/
def pat : Nat → Pp → Option (Pt × Pp)
  | 0, _ => none
  | d + 1, p => do
    if p.next.kind ≠ 2 then apat d p
    else
      let (t, p) ← apat d p
      let (l, p) ← apats d p
      return ({ t with args := Pts.ofL l }, p)
def apats : Nat → Pp → Option (List Pt × Pp)
  | 0, _ => none
  | d + 1, p => do
    if beginsPat p.next then
      let (t, p) ← apat d p
      let (l, p) ← apats d p
      return (t :: l, p)
    else return ([], p)
def apat : Nat → Pp → Option (Pt × Pp)
  | 0, _ => none
  | d + 1, p => do
    let t := p.next
    if t.kind = 1 then return (⟨2, 0, toB t.text, .nil, t.ln, t.col⟩, p.take.2)
    else if t.kind = 2 then return (⟨4, 0, toB t.text, .nil, t.ln, t.col⟩, p.take.2)
    else if t.kind = 4 then
      let (u, p) := p.number
      return (⟨3, u.n, ByteArray.empty, .nil, t.ln, t.col⟩, p)
    else if isMark t "_" then return (⟨1, 0, ByteArray.empty, .nil, 0, 0⟩, p.take.2)
    else
      let (there, p) := p.mark "("
      if there then
        if p.next.kind = 3 ∧ p.next.text = str "-" then
          let (u, p) := p.take.2.below
          return (⟨3, u.n, ByteArray.empty, .nil, u.ln, u.col⟩, p)
        else
          let (x, p) ← pat d p
          return (x, (p.mark ")").2)
      else return (⟨0, 0, ByteArray.empty, .nil, 0, 0⟩, p)
end
/-- names of a function's parameters -/
def params : List Tk → List Name
  | [] => []
  | t :: r => if t.kind = 1 ∨ isMark t "_" = true then t.text :: params r else []
def takes : Nat → Pp → Pp
  | 0, p => p
  | k + 1, p => takes k p.take.2
def fname (p : Pp) : Tk × Pp :=
  if p.next.kind = 1 then p.take
  else
    let (op, p) := (p.mark "(").2.kind 3
    (op, (p.mark ")").2)
mutual
/-- expressions: the code's expr, operand, apply, aexp, clause, bodies, and the loops in them -/
def expr : Nat → Pp → Option (Lt × Pp)
  | 0, _ => none
  | d + 1, p => do
    let (a, p) ← operand d p
    let (l, ops, p) ← more d p
    return (.row (a :: l) ops, p)
def more : Nat → Pp → Option (List Lt × List Tk × Pp)
  | 0, _ => none
  | d + 1, p => do
    if p.next.kind = 3 then
      let (op, p) := p.take
      let (a, p) ← operand d p
      let (l, ops, p) ← more d p
      return (a :: l, op :: ops, p)
    else return ([], [], p)
def operand : Nat → Pp → Option (Lt × Pp)
  | 0, _ => none
  | d + 1, p => do
    let t := p.next
    if isMark t "\\" then
      let p := p.take.2
      let ps := params p.rest
      let p := takes ps.length p
      let p := if ps.length = 0 then p.fail 60 else p
      let (b, p) ← expr d (p.mark "->").2
      return (.lam ps b t.ln t.col, p)
    else if isWord t "let" then
      let (n, l, p) ← clauses d true (p.take.2.mark "{").2
      let p := if n < 1 then p.fail 60 else p
      let (b, p) ← expr d ((p.mark "}").2.word "in")
      return (.let_ l b t.ln t.col, p)
    else if isWord t "if" then
      let (a, p) ← expr d p.take.2
      let (b, p) ← expr d (p.word "then")
      let (c, p) ← expr d (p.word "else")
      return (.choice [a, b, c] t.ln t.col, p)
    else if isWord t "case" then
      let (o, p) ← expr d p.take.2
      let (n, l, p) ← alts d true ((p.word "of").mark "{").2
      let p := if n < 1 then p.fail 60 else p
      return (.cases_ o l t.ln t.col, (p.mark "}").2)
    else
      let (a, p) ← aexp d p
      let (l, p) ← aexps d p
      return (.app (a :: l), p)
def aexps : Nat → Pp → Option (List Lt × Pp)
  | 0, _ => none
  | d + 1, p => do
    if beginsAexp p.next then
      let (a, p) ← aexp d p
      let (l, p) ← aexps d p
      return (a :: l, p)
    else return ([], p)
def aexp : Nat → Pp → Option (Lt × Pp)
  | 0, _ => none
  | d + 1, p => do
    let t := p.next
    if t.kind = 1 then return (.leaf 1 t.text 0 t.ln t.col, p.take.2)
    else if t.kind = 2 then return (.leaf 2 t.text 0 t.ln t.col, p.take.2)
    else if t.kind = 4 then
      let (u, p) := p.number
      return (.leaf 3 [] u.n t.ln t.col, p)
    else
      let (there, p) := p.mark "("
      if there then
        if p.next.kind = 3 then
          let (op, p) := p.take
          if op.text = str "-" ∧ p.next.kind = 4 then
            let (u, p) := p.below
            return (.leaf 3 [] u.n u.ln u.col, p)
          else return (.leaf 1 op.text 0 op.ln op.col, (p.mark ")").2)
        else
          let (e, p) ← expr d p
          return (e, (p.mark ")").2)
      else return (.none, p)
def clause : Nat → Pp → Option (Cl × Pp)
  | 0, _ => none
  | d + 1, p => do
    let (name, p) := fname p
    let (ps, p) ← apats d p
    let (r, p) ← bodies d "=" p
    return (.mk name ps r, p)
def bodies : Nat → String → Pp → Option (Rh × Pp)
  | 0, _, _ => none
  | d + 1, s, p => do
    if isMark p.next "|" then
      let (l, p) ← guards d s p
      return (.guards l, p)
    else
      let (b, p) ← expr d (p.mark s).2
      return (.one b, p)
def guards : Nat → String → Pp → Option (List Gd × Pp)
  | 0, _, _ => none
  | d + 1, s, p => do
    if isMark p.next "|" then
      let (g, p) ← expr d p.take.2
      let (b, p) ← expr d (p.mark s).2
      let (l, p) ← guards d s p
      return (.mk g b :: l, p)
    else return ([], p)
def clauses : Nat → Bool → Pp → Option (Nat × List Cl × Pp)
  | 0, _, _ => none
  | d + 1, free, p => do
    if isMark p.next ";" then clauses d true p.take.2
    else if free && beginsClause p.next then
      let (c, p) ← clause d p
      let (n, l, p) ← clauses d false p
      return (n + 1, c :: l, p)
    else return (0, [], p)
def alts : Nat → Bool → Pp → Option (Nat × List Al × Pp)
  | 0, _, _ => none
  | d + 1, free, p => do
    if isMark p.next ";" then alts d true p.take.2
    else if free && beginsPat p.next then
      let (x, p) ← pat d p
      let (r, p) ← bodies d "->" p
      let (n, l, p) ← alts d false p
      return (n + 1, .mk x r :: l, p)
    else return (0, [], p)
end
end Go.Proofs.YtdajihpfedbihaaGreat.Pa
/-
  THE PARSER, plainly: a fault stays; a mark that was not there is a fault. No memory in sight.
-/
namespace Go.Proofs.YtdajihpfedbihaaGreat.Pa
open Tm Pm
set_option linter.unusedVariables false
/-- what taking and failing keep -/
class Kp (R : Pp → Pp → Prop) : Prop where
  refl : ∀ p, R p p
  trans : ∀ {p p' p''}, R p p' → R p' p'' → R p p''
  take : ∀ p : Pp, R p p.take.2
  fail : ∀ (p : Pp) (e : Int), R p (p.fail e)
def Via (R : Pp → Pp → Prop) (p p' : Pp) : Prop := R p p'
variable {R : Pp → Pp → Prop} [Kp R]
theorem Via.refl (p : Pp) : Via R p p := Kp.refl (R := R) p
theorem Via.trans {p p' p'' : Pp} (h : Via R p p') (k : Via R p' p'') : Via R p p'' := Kp.trans (R := R) h k
theorem take_err (p : Pp) : p.take.2.err = p.err := by
  unfold Pp.take
  split <;> rfl
theorem take_stk (p : Pp) : Via R p p.take.2 := Kp.take (R := R) p
theorem fail_stk (p : Pp) (e : Int) : Via R p (p.fail e) := Kp.fail (R := R) p e
theorem kind_stk (p : Pp) (k : Int) : Via R p (p.kind k).2 := by
  unfold Pp.kind
  split
  · exact (fail_stk p 60).trans (take_stk _)
  · exact take_stk _
theorem mark_stk (p : Pp) (s : String) : Via R p (p.mark s).2 := by
  unfold Pp.mark
  dsimp only
  split
  · exact take_stk _
  · exact (fail_stk p 60).trans (take_stk _)
theorem word_stk (p : Pp) (s : String) : Via R p (p.word s) := by
  unfold Pp.word
  split
  · exact take_stk _
  · exact (fail_stk p 60).trans (take_stk _)
theorem number_stk (p : Pp) : Via R p p.number.2 := by
  unfold Pp.number
  split
  · exact (fail_stk p 11).trans (take_stk _)
  · exact take_stk _
theorem below_stk (p : Pp) : Via R p p.below.2 := by
  show Via R p ((p.kind 4).2.mark ")").2
  exact (kind_stk p 4).trans (mark_stk _ _)
theorem fname_stk (p : Pp) : Via R p (fname p).2 := by
  unfold fname
  split
  · exact take_stk _
  · show Via R p ((((p.mark "(").2).kind 3).2.mark ")").2
    exact ((mark_stk p _).trans (kind_stk _ _)).trans (mark_stk _ _)
theorem pat_stk : ∀ d : Nat, (∀ p t p', pat d p = some (t, p') → Via R p p') ∧ (∀ p t p', apats d p = some (t, p') → Via R p p') ∧ ∀ p t p', apat d p = some (t, p') → Via R p p' := by
  intro d
  induction d with
  | zero => refine ⟨?_, ?_, ?_⟩ <;> (intro p t p' h; simp [pat, apats, apat] at h)
  | succ d ih =>
    obtain ⟨i1, i2, i3⟩ := ih
    refine ⟨?_, ?_, ?_⟩
    · intro p t p' h
      rw [pat] at h
      split at h
      · exact i3 _ _ _ h
      · obtain ⟨⟨t1, p1⟩, h1, h2⟩ := Option.bind_eq_some_iff.1 h
        dsimp only at h2
        obtain ⟨⟨t2, p2⟩, h3, h4⟩ := Option.bind_eq_some_iff.1 h2
        simp only [pure, Option.some.injEq, Prod.mk.injEq] at h4
        rw [← h4.2]
        exact (i3 _ _ _ h1).trans (i2 _ _ _ h3)
    · intro p t p' h
      rw [apats] at h
      split at h
      · obtain ⟨⟨t1, p1⟩, h1, h2⟩ := Option.bind_eq_some_iff.1 h
        dsimp only at h2
        obtain ⟨⟨t2, p2⟩, h3, h4⟩ := Option.bind_eq_some_iff.1 h2
        simp only [pure, Option.some.injEq, Prod.mk.injEq] at h4
        rw [← h4.2]
        exact (i3 _ _ _ h1).trans (i2 _ _ _ h3)
      · simp only [pure, Option.some.injEq, Prod.mk.injEq] at h
        rw [← h.2]
        exact .refl _
    · intro p t p' h
      rw [apat] at h
      dsimp only at h
      split at h
      · simp only [pure, Option.some.injEq, Prod.mk.injEq] at h
        rw [← h.2]
        exact take_stk _
      · split at h
        · simp only [pure, Option.some.injEq, Prod.mk.injEq] at h
          rw [← h.2]
          exact take_stk _
        · split at h
          · simp only [pure, Option.some.injEq, Prod.mk.injEq] at h
            rw [← h.2]
            exact number_stk _
          · split at h
            · simp only [pure, Option.some.injEq, Prod.mk.injEq] at h
              rw [← h.2]
              exact take_stk _
            · split at h
              · split at h
                · simp only [pure, Option.some.injEq, Prod.mk.injEq] at h
                  rw [← h.2]
                  exact ((mark_stk p _).trans (take_stk _)).trans (below_stk _)
                · obtain ⟨⟨t1, p1⟩, h1, h2⟩ := Option.bind_eq_some_iff.1 h
                  simp only [pure, Option.some.injEq, Prod.mk.injEq] at h2
                  rw [← h2.2]
                  exact ((mark_stk p _).trans (i1 _ _ _ h1)).trans (mark_stk _ _)
              · simp only [pure, Option.some.injEq, Prod.mk.injEq] at h
                rw [← h.2]
                exact mark_stk _ _
theorem takes_stk : ∀ (k : Nat) (p : Pp), Via R p (takes k p)
  | 0, p => .refl _
  | k + 1, p => (take_stk p).trans (takes_stk k _)
theorem if_fail_stk (c : Prop) [Decidable c] (p : Pp) (e : Int) : Via R p (if c then p.fail e else p) := by
  split
  · exact fail_stk _ _
  · exact .refl _
structure ExS (R : Pp → Pp → Prop) (d : Nat) : Prop where
  expr : ∀ p t p', expr d p = some (t, p') → Via R p p'
  more : ∀ p a b p', more d p = some (a, b, p') → Via R p p'
  operand : ∀ p t p', operand d p = some (t, p') → Via R p p'
  aexps : ∀ p t p', aexps d p = some (t, p') → Via R p p'
  aexp : ∀ p t p', aexp d p = some (t, p') → Via R p p'
  clause : ∀ p t p', clause d p = some (t, p') → Via R p p'
  bodies : ∀ s p t p', bodies d s p = some (t, p') → Via R p p'
  guards : ∀ s p t p', guards d s p = some (t, p') → Via R p p'
  clauses : ∀ f p n t p', clauses d f p = some (n, t, p') → Via R p p'
  alts : ∀ f p n t p', alts d f p = some (n, t, p') → Via R p p'
theorem expr_stk : ∀ d : Nat, ExS R d := by
  intro d
  induction d with
  | zero => constructor <;> (intros; rename_i h; simp [expr, more, operand, aexps, aexp, clause, bodies, guards, clauses, alts] at h)
  | succ d ih =>
    constructor
    · intro p t p' h
      rw [expr] at h
      obtain ⟨⟨t1, p1⟩, h1, h2⟩ := Option.bind_eq_some_iff.1 h
      dsimp only at h2
      obtain ⟨⟨t2, o2, p2⟩, h3, h4⟩ := Option.bind_eq_some_iff.1 h2
      simp only [pure, Option.some.injEq, Prod.mk.injEq] at h4
      rw [← h4.2]
      exact (ih.operand _ _ _ h1).trans (ih.more _ _ _ _ h3)
    · intro p a b p' h
      rw [more] at h
      split at h
      · dsimp only at h
        obtain ⟨⟨t1, p1⟩, h1, h2⟩ := Option.bind_eq_some_iff.1 h
        dsimp only at h2
        obtain ⟨⟨t2, o2, p2⟩, h3, h4⟩ := Option.bind_eq_some_iff.1 h2
        simp only [pure, Option.some.injEq, Prod.mk.injEq] at h4
        rw [← h4.2.2]
        exact ((take_stk p).trans (ih.operand _ _ _ h1)).trans (ih.more _ _ _ _ h3)
      · simp only [pure, Option.some.injEq, Prod.mk.injEq] at h
        rw [← h.2.2]
        exact .refl _
    · intro p t p' h
      rw [operand] at h
      dsimp only at h
      split at h
      · obtain ⟨⟨t1, p1⟩, h1, h2⟩ := Option.bind_eq_some_iff.1 h
        simp only [pure, Option.some.injEq, Prod.mk.injEq] at h2
        rw [← h2.2]
        exact ((((take_stk p).trans (takes_stk _ _)).trans (if_fail_stk _ _ _)).trans (mark_stk _ _)).trans (ih.expr _ _ _ h1)
      · split at h
        · obtain ⟨⟨n1, t1, p1⟩, h1, h2⟩ := Option.bind_eq_some_iff.1 h
          dsimp only at h2
          obtain ⟨⟨t2, p2⟩, h3, h4⟩ := Option.bind_eq_some_iff.1 h2
          simp only [pure, Option.some.injEq, Prod.mk.injEq] at h4
          rw [← h4.2]
          exact ((((((take_stk p).trans (mark_stk _ _)).trans (ih.clauses _ _ _ _ _ h1)).trans (if_fail_stk _ _ _)).trans (mark_stk _ _)).trans (word_stk _ _)).trans (ih.expr _ _ _ h3)
        · split at h
          · obtain ⟨⟨t1, p1⟩, h1, h2⟩ := Option.bind_eq_some_iff.1 h
            dsimp only at h2
            obtain ⟨⟨t2, p2⟩, h3, h4⟩ := Option.bind_eq_some_iff.1 h2
            dsimp only at h4
            obtain ⟨⟨t3, p3⟩, h5, h6⟩ := Option.bind_eq_some_iff.1 h4
            simp only [pure, Option.some.injEq, Prod.mk.injEq] at h6
            rw [← h6.2]
            exact (((((take_stk p).trans (ih.expr _ _ _ h1)).trans (word_stk _ _)).trans (ih.expr _ _ _ h3)).trans (word_stk _ _)).trans (ih.expr _ _ _ h5)
          · split at h
            · obtain ⟨⟨t1, p1⟩, h1, h2⟩ := Option.bind_eq_some_iff.1 h
              dsimp only at h2
              obtain ⟨⟨n2, t2, p2⟩, h3, h4⟩ := Option.bind_eq_some_iff.1 h2
              simp only [pure, Option.some.injEq, Prod.mk.injEq] at h4
              rw [← h4.2]
              exact ((((((take_stk p).trans (ih.expr _ _ _ h1)).trans (word_stk _ _)).trans (mark_stk _ _)).trans (ih.alts _ _ _ _ _ h3)).trans (if_fail_stk _ _ _)).trans (mark_stk _ _)
            · obtain ⟨⟨t1, p1⟩, h1, h2⟩ := Option.bind_eq_some_iff.1 h
              dsimp only at h2
              obtain ⟨⟨t2, p2⟩, h3, h4⟩ := Option.bind_eq_some_iff.1 h2
              simp only [pure, Option.some.injEq, Prod.mk.injEq] at h4
              rw [← h4.2]
              exact (ih.aexp _ _ _ h1).trans (ih.aexps _ _ _ h3)
    · intro p t p' h
      rw [aexps] at h
      split at h
      · obtain ⟨⟨t1, p1⟩, h1, h2⟩ := Option.bind_eq_some_iff.1 h
        dsimp only at h2
        obtain ⟨⟨t2, p2⟩, h3, h4⟩ := Option.bind_eq_some_iff.1 h2
        simp only [pure, Option.some.injEq, Prod.mk.injEq] at h4
        rw [← h4.2]
        exact (ih.aexp _ _ _ h1).trans (ih.aexps _ _ _ h3)
      · simp only [pure, Option.some.injEq, Prod.mk.injEq] at h
        rw [← h.2]
        exact .refl _
    · intro p t p' h
      rw [aexp] at h
      dsimp only at h
      split at h
      · simp only [pure, Option.some.injEq, Prod.mk.injEq] at h; rw [← h.2]; exact take_stk _
      · split at h
        · simp only [pure, Option.some.injEq, Prod.mk.injEq] at h; rw [← h.2]; exact take_stk _
        · split at h
          · simp only [pure, Option.some.injEq, Prod.mk.injEq] at h; rw [← h.2]; exact number_stk _
          · split at h
            · split at h
              · split at h
                · simp only [pure, Option.some.injEq, Prod.mk.injEq] at h; rw [← h.2]; exact ((mark_stk p _).trans (take_stk _)).trans (below_stk _)
                · simp only [pure, Option.some.injEq, Prod.mk.injEq] at h; rw [← h.2]; exact ((mark_stk p _).trans (take_stk _)).trans (mark_stk _ _)
              · obtain ⟨⟨t1, p1⟩, h1, h2⟩ := Option.bind_eq_some_iff.1 h
                simp only [pure, Option.some.injEq, Prod.mk.injEq] at h2
                rw [← h2.2]
                exact ((mark_stk p _).trans (ih.expr _ _ _ h1)).trans (mark_stk _ _)
            · simp only [pure, Option.some.injEq, Prod.mk.injEq] at h; rw [← h.2]; exact mark_stk _ _
    · intro p t p' h
      rw [clause] at h
      dsimp only at h
      obtain ⟨⟨t1, p1⟩, h1, h2⟩ := Option.bind_eq_some_iff.1 h
      dsimp only at h2
      obtain ⟨⟨t2, p2⟩, h3, h4⟩ := Option.bind_eq_some_iff.1 h2
      simp only [pure, Option.some.injEq, Prod.mk.injEq] at h4
      rw [← h4.2]
      exact ((fname_stk p).trans ((pat_stk d).2.1 _ _ _ h1)).trans (ih.bodies _ _ _ _ h3)
    · intro s p t p' h
      rw [bodies] at h
      split at h
      · obtain ⟨⟨t1, p1⟩, h1, h2⟩ := Option.bind_eq_some_iff.1 h
        simp only [pure, Option.some.injEq, Prod.mk.injEq] at h2
        rw [← h2.2]
        exact ih.guards _ _ _ _ h1
      · obtain ⟨⟨t1, p1⟩, h1, h2⟩ := Option.bind_eq_some_iff.1 h
        simp only [pure, Option.some.injEq, Prod.mk.injEq] at h2
        rw [← h2.2]
        exact (mark_stk p _).trans (ih.expr _ _ _ h1)
    · intro s p t p' h
      rw [guards] at h
      split at h
      · obtain ⟨⟨t1, p1⟩, h1, h2⟩ := Option.bind_eq_some_iff.1 h
        dsimp only at h2
        obtain ⟨⟨t2, p2⟩, h3, h4⟩ := Option.bind_eq_some_iff.1 h2
        dsimp only at h4
        obtain ⟨⟨t3, p3⟩, h5, h6⟩ := Option.bind_eq_some_iff.1 h4
        simp only [pure, Option.some.injEq, Prod.mk.injEq] at h6
        rw [← h6.2]
        exact ((((take_stk p).trans (ih.expr _ _ _ h1)).trans (mark_stk _ _)).trans (ih.expr _ _ _ h3)).trans (ih.guards _ _ _ _ h5)
      · simp only [pure, Option.some.injEq, Prod.mk.injEq] at h
        rw [← h.2]
        exact .refl _
    · intro f p n t p' h
      rw [clauses] at h
      split at h
      · exact (take_stk p).trans (ih.clauses _ _ _ _ _ h)
      · split at h
        · obtain ⟨⟨t1, p1⟩, h1, h2⟩ := Option.bind_eq_some_iff.1 h
          dsimp only at h2
          obtain ⟨⟨n2, t2, p2⟩, h3, h4⟩ := Option.bind_eq_some_iff.1 h2
          simp only [pure, Option.some.injEq, Prod.mk.injEq] at h4
          rw [← h4.2.2]
          exact (ih.clause _ _ _ h1).trans (ih.clauses _ _ _ _ _ h3)
        · simp only [pure, Option.some.injEq, Prod.mk.injEq] at h
          rw [← h.2.2]
          exact .refl _
    · intro f p n t p' h
      rw [alts] at h
      split at h
      · exact (take_stk p).trans (ih.alts _ _ _ _ _ h)
      · split at h
        · obtain ⟨⟨t1, p1⟩, h1, h2⟩ := Option.bind_eq_some_iff.1 h
          dsimp only at h2
          obtain ⟨⟨t2, p2⟩, h3, h4⟩ := Option.bind_eq_some_iff.1 h2
          dsimp only at h4
          obtain ⟨⟨n3, t3, p3⟩, h5, h6⟩ := Option.bind_eq_some_iff.1 h4
          simp only [pure, Option.some.injEq, Prod.mk.injEq] at h6
          rw [← h6.2.2]
          exact (((pat_stk d).1 _ _ _ h1).trans (ih.bodies _ _ _ _ h3)).trans (ih.alts _ _ _ _ _ h5)
        · simp only [pure, Option.some.injEq, Prod.mk.injEq] at h
          rw [← h.2.2]
          exact .refl _
/-- a fault stays -/
def Stk (p p' : Pp) : Prop := p.err ≠ 0 → p'.err ≠ 0
instance : Kp Stk := ⟨fun p => id, fun h k e => k (h e), fun p e => by rw [take_err]; exact e, fun p e h => by
  unfold Pp.fail
  rw [if_pos h]
  exact h⟩
/-- no token comes back -/
def Len (p p' : Pp) : Prop := p'.rest.length ≤ p.rest.length
instance : Kp Len := ⟨fun p => Nat.le_refl _, fun h k => Nat.le_trans k h, fun p => by
  show p.take.2.rest.length ≤ p.rest.length
  unfold Pp.take
  split
  · rename_i e; rw [e]; exact Nat.le_refl _
  · rename_i t r e; rw [e]; exact Nat.le_succ _, fun p e => by
  show (p.fail e).rest.length ≤ p.rest.length
  unfold Pp.fail
  split
  · exact Nat.le_refl _
  · exact Nat.zero_le _⟩
theorem expr_len {d : Nat} {p p' : Pp} {t : Lt} (h : expr d p = some (t, p')) : p'.rest.length ≤ p.rest.length := (expr_stk (R := Len) d).expr _ _ _ h
end Go.Proofs.YtdajihpfedbihaaGreat.Pa
/-
  THE PARSER, plainly: it comes to an end: so much fuel is enough as ten for each token that is left, and a few. No memory in sight.
-/
namespace Go.Proofs.YtdajihpfedbihaaGreat.Pa
open Tm Pm
set_option linter.unusedVariables false
theorem next_some {p : Pp} (h : p.next.kind ≠ 0) : p.take.2.rest.length + 1 = p.rest.length := by
  unfold Pp.next at h
  unfold Pp.take
  split
  · rename_i e
    rw [e] at h
    exact absurd rfl h
  · rename_i t r e
    rw [e]
    rfl
theorem isMark_kind {t : Tk} {s : String} (h : isMark t s = true) : t.kind ≠ 0 := by
  unfold isMark at h
  have := (Bool.and_eq_true _ _ ▸ h).1
  have := of_decide_eq_true this
  omega
theorem len_of {p p' : Pp} (h : Via Len p p') : p'.rest.length ≤ p.rest.length := h
theorem take_len (p : Pp) : p.take.2.rest.length ≤ p.rest.length := len_of (take_stk p)
theorem mark_len (p : Pp) (s : String) : (p.mark s).2.rest.length ≤ p.rest.length := len_of (mark_stk p s)
theorem mark_yes {p : Pp} {s : String} (h : (p.mark s).1 = true) : (p.mark s).2.rest.length + 1 = p.rest.length := by
  have h' : isMark p.next s = true := h
  unfold Pp.mark
  dsimp only
  rw [if_pos h']
  exact next_some (isMark_kind h')
theorem kind_len (p : Pp) (k : Int) : (p.kind k).2.rest.length ≤ p.rest.length := len_of (kind_stk p k)
theorem below_len (p : Pp) : p.below.2.rest.length ≤ p.rest.length := len_of (below_stk p)
theorem number_less {p : Pp} (h : p.next.kind ≠ 0) : p.number.2.rest.length + 1 ≤ p.rest.length := by
  have h1 := next_some h
  unfold Pp.number
  split
  · have : (p.fail 11).take.2.rest.length ≤ (p.fail 11).rest.length := take_len _
    have h2 : (p.fail 11).rest.length = 0 ∨ (p.fail 11).rest = p.rest := by
      unfold Pp.fail
      split
      · exact .inr rfl
      · exact .inl rfl
    rcases h2 with h2 | h2
    · omega
    · have : (p.fail 11).next.kind ≠ 0 := by unfold Pp.next at h ⊢; rw [h2]; exact h
      have := next_some this
      rw [h2] at this
      omega
  · omega
theorem fname_less {p : Pp} (h : beginsClause p.next = true) : (fname p).2.rest.length + 1 ≤ p.rest.length := by
  unfold beginsClause at h
  unfold fname
  by_cases h1 : p.next.kind = 1
  · rw [if_pos h1]
    have := next_some (p := p) (by omega)
    omega
  · rw [if_neg h1]
    have h2 : isMark p.next "(" = true := by simpa [h1] using h
    have h3 := mark_yes (p := p) (s := "(") h2
    show ((((p.mark "(").2).kind 3).2.mark ")").2.rest.length + 1 ≤ _
    have h4 := mark_len (((p.mark "(").2).kind 3).2 ")"
    have h5 := kind_len ((p.mark "(").2) 3
    omega
theorem apat_less {d : Nat} {p p' : Pp} {t : Pt} (hb : beginsPat p.next = true) (h : apat d p = some (t, p')) : p'.rest.length + 1 ≤ p.rest.length := by
  cases d with
  | zero => simp [apat] at h
  | succ d =>
    rw [apat] at h
    dsimp only at h
    split at h
    · simp only [pure, Option.some.injEq, Prod.mk.injEq] at h
      rw [← h.2]
      have := next_some (p := p) (by omega)
      omega
    · split at h
      · simp only [pure, Option.some.injEq, Prod.mk.injEq] at h
        rw [← h.2]
        have := next_some (p := p) (by omega)
        omega
      · split at h
        · simp only [pure, Option.some.injEq, Prod.mk.injEq] at h
          rw [← h.2]
          exact number_less (by omega)
        · split at h
          · rename_i hm
            simp only [pure, Option.some.injEq, Prod.mk.injEq] at h
            rw [← h.2]
            have := next_some (p := p) (isMark_kind hm)
            omega
          · rename_i k1 k2 k4 k5
            have hm : isMark p.next "(" = true := by
              unfold beginsPat at hb
              simpa [k1, k2, k4, k5] using hb
            have h3 := mark_yes (p := p) (s := "(") hm
            rw [if_pos (show (p.mark "(").1 = true from hm)] at h
            split at h
            · simp only [pure, Option.some.injEq, Prod.mk.injEq] at h
              rw [← h.2]
              have h4 := below_len (p.mark "(").2.take.2
              have h5 := take_len (p.mark "(").2
              omega
            · obtain ⟨⟨t1, p1⟩, h1, h2⟩ := Option.bind_eq_some_iff.1 h
              simp only [pure, Option.some.injEq, Prod.mk.injEq] at h2
              rw [← h2.2]
              have h4 := mark_len p1 ")"
              have h5 : p1.rest.length ≤ (p.mark "(").2.rest.length := len_of ((pat_stk (R := Len) d).1 _ _ _ h1)
              omega
theorem pat_less {d : Nat} {p p' : Pp} {t : Pt} (hb : beginsPat p.next = true) (h : pat d p = some (t, p')) : p'.rest.length + 1 ≤ p.rest.length := by
  cases d with
  | zero => simp [pat] at h
  | succ d =>
    rw [pat] at h
    split at h
    · exact apat_less hb h
    · obtain ⟨⟨t1, p1⟩, h1, h2⟩ := Option.bind_eq_some_iff.1 h
      dsimp only at h2
      obtain ⟨⟨t2, p2⟩, h3, h4⟩ := Option.bind_eq_some_iff.1 h2
      simp only [pure, Option.some.injEq, Prod.mk.injEq] at h4
      rw [← h4.2]
      have h5 := apat_less hb h1
      have h6 : p2.rest.length ≤ p1.rest.length := len_of ((pat_stk (R := Len) d).2.1 _ _ _ h3)
      omega
theorem aexp_less {d : Nat} {p p' : Pp} {t : Lt} (hb : beginsAexp p.next = true) (h : aexp d p = some (t, p')) : p'.rest.length + 1 ≤ p.rest.length := by
  cases d with
  | zero => simp [aexp] at h
  | succ d =>
    rw [aexp] at h
    dsimp only at h
    split at h
    · simp only [pure, Option.some.injEq, Prod.mk.injEq] at h
      rw [← h.2]
      have := next_some (p := p) (by omega)
      omega
    · split at h
      · simp only [pure, Option.some.injEq, Prod.mk.injEq] at h
        rw [← h.2]
        have := next_some (p := p) (by omega)
        omega
      · split at h
        · simp only [pure, Option.some.injEq, Prod.mk.injEq] at h
          rw [← h.2]
          exact number_less (by omega)
        · rename_i k1 k2 k4
          have hm : isMark p.next "(" = true := by
            unfold beginsAexp at hb
            simpa [k1, k2, k4] using hb
          have h3 := mark_yes (p := p) (s := "(") hm
          rw [if_pos (show (p.mark "(").1 = true from hm)] at h
          split at h
          · split at h
            · simp only [pure, Option.some.injEq, Prod.mk.injEq] at h
              rw [← h.2]
              have h4 := below_len (p.mark "(").2.take.2
              have h5 := take_len (p.mark "(").2
              omega
            · simp only [pure, Option.some.injEq, Prod.mk.injEq] at h
              rw [← h.2]
              have h4 := mark_len (p.mark "(").2.take.2 ")"
              have h5 := take_len (p.mark "(").2
              omega
          · obtain ⟨⟨t1, p1⟩, h1, h2⟩ := Option.bind_eq_some_iff.1 h
            simp only [pure, Option.some.injEq, Prod.mk.injEq] at h2
            rw [← h2.2]
            have h4 := mark_len p1 ")"
            have h5 := expr_len h1
            omega
theorem clause_less {d : Nat} {p p' : Pp} {t : Cl} (hb : beginsClause p.next = true) (h : clause d p = some (t, p')) : p'.rest.length + 1 ≤ p.rest.length := by
  cases d with
  | zero => simp [clause] at h
  | succ d =>
    rw [clause] at h
    dsimp only at h
    obtain ⟨⟨t1, p1⟩, h1, h2⟩ := Option.bind_eq_some_iff.1 h
    dsimp only at h2
    obtain ⟨⟨t2, p2⟩, h3, h4⟩ := Option.bind_eq_some_iff.1 h2
    simp only [pure, Option.some.injEq, Prod.mk.injEq] at h4
    rw [← h4.2]
    have h5 := fname_less hb
    have h6 : p1.rest.length ≤ (fname p).2.rest.length := len_of ((pat_stk (R := Len) d).2.1 _ _ _ h1)
    have h7 : p2.rest.length ≤ p1.rest.length := len_of ((expr_stk (R := Len) d).bodies _ _ _ _ h3)
    omega
structure ExT (d : Nat) : Prop where
  expr : ∀ p : Pp, 10 * p.rest.length + 4 ≤ d → ∃ t p', expr d p = some (t, p')
  more : ∀ p : Pp, 10 * p.rest.length + 3 ≤ d → ∃ a b p', more d p = some (a, b, p')
  operand : ∀ p : Pp, 10 * p.rest.length + 3 ≤ d → ∃ t p', operand d p = some (t, p')
  aexps : ∀ p : Pp, 10 * p.rest.length + 2 ≤ d → ∃ t p', aexps d p = some (t, p')
  aexp : ∀ p : Pp, 10 * p.rest.length + 1 ≤ d → ∃ t p', aexp d p = some (t, p')
  clause : ∀ p : Pp, 10 * p.rest.length + 6 ≤ d → ∃ t p', clause d p = some (t, p')
  bodies : ∀ s (p : Pp), 10 * p.rest.length + 5 ≤ d → ∃ t p', bodies d s p = some (t, p')
  guards : ∀ s (p : Pp), 10 * p.rest.length + 1 ≤ d → ∃ t p', guards d s p = some (t, p')
  clauses : ∀ f (p : Pp), 10 * p.rest.length + 7 ≤ d → ∃ n t p', clauses d f p = some (n, t, p')
  alts : ∀ f (p : Pp), 10 * p.rest.length + 7 ≤ d → ∃ n t p', alts d f p = some (n, t, p')
end Go.Proofs.YtdajihpfedbihaaGreat.Pa
/-
  WHAT WAS READ COMES TO EXPRESSIONS, plainly: a program's tops; rows are grouped, the row itself first and then its operands. 'none' where the fuel ends. No memory in sight.
-/
namespace Go.Proofs.YtdajihpfedbihaaGreat.Pa
open Tm Pm
set_option linter.unusedVariables false
structure Con where
  name : Name
  fields : List Ty
  ln : Int
  col : Int
structure Dat where
  name : Name
  params : List Name
  cons : List Con
  ln : Int
  col : Int
mutual
/-- expressions -/
inductive Ex where
  | mk (kind : Int) (name : Name) (n : Int) (params : List Name) (args : List Ex) (alts : List ExA) (binds : List ExB) (ln col : Int)
inductive ExR where
  | mk (guard : List Ex) (body : Ex)
inductive ExC where
  | mk (pats : List Pt) (rhs : List ExR)
inductive ExB where
  | mk (name : Name) (clauses : List ExC) (ln col : Int)
inductive ExA where
  | mk (pat : Pt) (rhs : List ExR)
end
def zeroEx : Ex := .mk 0 [] 0 [] [] [] [] 0 0
def Ex.at_ : Ex → Int × Int
  | .mk _ _ _ _ _ _ _ ln col => (ln, col)
def app (f a : Ex) : Ex := .mk 4 [] 0 [] [f, a] [] [] f.at_.1 f.at_.2
def variable_ (t : Tk) : Ex := .mk 1 t.text 0 [] [] [] [] t.ln t.col
/-- names in a row -/
def names : List Tk → List Name
  | [] => []
  | t :: r => if t.kind = 1 then t.text :: names r else []
def constr (d : Nat) (p : Pp) : Option (Con × Pp) := do
  let (c, p) := p.kind 2
  let (l, p) ← atypes d p
  return (⟨c.text, l, c.ln, c.col⟩, p)
def constrs : Nat → Pp → Option (List Con × Pp)
  | 0, _ => none
  | d + 1, p => do
    if isMark p.next "|" then
      let (c, p) ← constr d p.take.2
      let (l, p) ← constrs d p
      return (c :: l, p)
    else return ([], p)
def data (d : Nat) (p : Pp) : Option (Dat × Pp) := do
  let (c, p) := p.take.2.kind 2
  let ps := names p.rest
  let (k, p) ← constr d ((takes ps.length p).mark "=").2
  let (l, p) ← constrs d p
  return (⟨c.text, ps, k :: l, c.ln, c.col⟩, p)
def assoc (w : Name) : Int := if w = str "infixl" then 1 else if w = str "infixr" then 2 else 0
def fix (p : Pp) : Fx × Pp :=
  let (w, p) := p.take
  let p := if p.next.kind ≠ 4 ∨ p.next.n < 0 ∨ p.next.n > 9 then p.fail 60 else p
  let (t, p) := p.take
  let (op, p) := p.kind 3
  (⟨op.text, assoc w.text, t.n, op.ln, op.col⟩, p)
def beginsTop (t : Tk) : Bool := isWord t "data" || (isWord t "infixl" || (isWord t "infixr" || (isWord t "infix" || beginsClause t)))
/-- a program's tops -/
def tops : Nat → Bool → Pp → Option (List Dat × List Cl × Pp)
  | 0, _, _ => none
  | d + 1, free, p => do
    if isMark p.next ";" then tops d true p.take.2
    else if free && beginsTop p.next then
      if isWord p.next "data" then
        let (x, p) ← data d p
        let (a, b, p) ← tops d false p
        return (x :: a, b, p)
      else if p.next.kind = 6 then
        let (f, p) := fix p
        tops d false { p with fixes := p.fixes ++ [f] }
      else
        let (c, p) ← clause d p
        let (a, b, p) ← tops d false p
        return (a, c :: b, p)
    else return ([], [], p)
/-- the first fault, while rows are grouped: its number, its place -/
abbrev Ft := Int × Int × Int
/-- the operand or the operator under which a span stands -/
def spanGrow (ops : List Tk) (parts : List Ex) (roots : List (Nat × Nat)) : Nat → Nat × Nat → Option Ex
  | 0, _ => none
  | d + 1, s => match (List.range roots.length).reverse.find? (fun i => roots[i]? = some s) with
    | none => parts[s.1]?
    | some i => do
      let l ← spanGrow ops parts roots d (s.1, i)
      let r ← spanGrow ops parts roots d (i + 1, s.2)
      let o ← ops[i]?
      return app (app (variable_ o) l) r
section
variable (find : Name → Fx) (resolve : List Fx → List (Nat × Nat) × Nat × Int)
mutual
/-- what an expression that was read comes to -/
def grow : Nat → Ft → Lt → Option (Ex × Ft)
  | 0, _, _ => none
  | d + 1, f, t => match t with
    | .none => none
    | .leaf k n i ln col => some (.mk k n i [] [] [] [] ln col, f)
    | .row operands ops =>
      if f.1 ≠ 0 then some (zeroEx, f) else
      let r := resolve (ops.map fun o => find o.text)
      if r.2.2 ≠ 0 then
        match ops[r.2.1]? with
        | none => none
        | some o => some (zeroEx, (r.2.2, o.ln, o.col))
      else do
        let (parts, f) ← grows d f operands
        let e ← spanGrow ops parts r.1 d (0, ops.length)
        return (e, f)
    | .lam ps b ln col => do
      let (e, f) ← grow d f b
      return (.mk 5 [] 0 ps [e] [] [] ln col, f)
    | .let_ cs b ln col => do
      let (l, f) ← growBinds d f [] cs
      let (e, f) ← grow d f b
      return (.mk 6 [] 0 [] [e] [] l ln col, f)
    | .choice l ln col => do
      let (es, f) ← grows d f l
      return (.mk 8 [] 0 [] es [] [] ln col, f)
    | .cases_ o l ln col => do
      let (e, f) ← grow d f o
      let (as, f) ← growAlts d f l
      return (.mk 7 [] 0 [] [e] as [] ln col, f)
    | .app l => match l with
      | [] => none
      | a :: l => do
        let (e, f) ← grow d f a
        growApp d f e l
def growApp : Nat → Ft → Ex → List Lt → Option (Ex × Ft)
  | 0, _, _, _ => none
  | d + 1, f, e, l => match l with
    | [] => some (e, f)
    | a :: l => do
      let (x, f) ← grow d f a
      growApp d f (app e x) l
def grows : Nat → Ft → List Lt → Option (List Ex × Ft)
  | 0, _, _ => none
  | d + 1, f, l => match l with
    | [] => some ([], f)
    | a :: l => do
      let (e, f) ← grow d f a
      let (es, f) ← grows d f l
      return (e :: es, f)
def growRhs : Nat → Ft → Rh → Option (List ExR × Ft)
  | 0, _, _ => none
  | d + 1, f, r => match r with
    | .one b => do
      let (e, f) ← grow d f b
      return ([.mk [] e], f)
    | .guards l => growGuards d f l
def growGuards : Nat → Ft → List Gd → Option (List ExR × Ft)
  | 0, _, _ => none
  | d + 1, f, l => match l with
    | [] => some ([], f)
    | .mk g b :: l => do
      let (e, f) ← grow d f g
      let (x, f) ← grow d f b
      let (es, f) ← growGuards d f l
      return (.mk [e] x :: es, f)
def growAlts : Nat → Ft → List Al → Option (List ExA × Ft)
  | 0, _, _ => none
  | d + 1, f, l => match l with
    | [] => some ([], f)
    | .mk x r :: l => do
      let (e, f) ← growRhs d f r
      let (es, f) ← growAlts d f l
      return (.mk x e :: es, f)
/-- bindings: acc: those made so far -/
def growBinds : Nat → Ft → List ExB → List Cl → Option (List ExB × Ft)
  | 0, _, _, _ => none
  | d + 1, f, acc, l => match l with
    | [] => some (acc, f)
    | .mk name ps r :: l => do
      let (e, f) ← growRhs d f r
      let c : ExC := .mk ps e
      match acc.getLast? with
      | some (.mk n cs ln col) =>
        if n = name.text then growBinds d f (acc.dropLast ++ [.mk n (cs ++ [c]) ln col]) l
        else growBinds d f (acc ++ [.mk name.text [c] name.ln name.col]) l
      | none => growBinds d f [.mk name.text [c] name.ln name.col] l
end
end
end Go.Proofs.YtdajihpfedbihaaGreat.Pa
/-
  WHAT WAS READ WITHOUT A FAULT IS WHOLE, plainly: nothing in it is missing. No memory in sight.
-/
namespace Go.Proofs.YtdajihpfedbihaaGreat.Pa
open Tm Pm
set_option linter.unusedVariables false
inductive It where
  | lt (t : Lt)
  | rh (r : Rh)
  | gd (g : Gd)
  | al (a : Al)
  | cl (c : Cl)
/-- nothing is missing in what was read -/
inductive Okx : It → Prop
  | leaf (k : Int) (n : Name) (i ln col : Int) : Okx (.lt (.leaf k n i ln col))
  | row {operands : List Lt} {ops : List Tk} : operands.length = ops.length + 1 → (∀ t, t ∈ operands → Okx (.lt t)) → Okx (.lt (.row operands ops))
  | lam {ps : List Name} {b : Lt} {ln col : Int} : Okx (.lt b) → Okx (.lt (.lam ps b ln col))
  | let_ {cs : List Cl} {b : Lt} {ln col : Int} : (∀ c, c ∈ cs → Okx (.cl c)) → Okx (.lt b) → Okx (.lt (.let_ cs b ln col))
  | choice {l : List Lt} {ln col : Int} : (∀ t, t ∈ l → Okx (.lt t)) → Okx (.lt (.choice l ln col))
  | cases_ {o : Lt} {l : List Al} {ln col : Int} : Okx (.lt o) → (∀ a, a ∈ l → Okx (.al a)) → Okx (.lt (.cases_ o l ln col))
  | app {a : Lt} {l : List Lt} : Okx (.lt a) → (∀ t, t ∈ l → Okx (.lt t)) → Okx (.lt (.app (a :: l)))
  | one {b : Lt} : Okx (.lt b) → Okx (.rh (.one b))
  | guards {l : List Gd} : (∀ g, g ∈ l → Okx (.gd g)) → Okx (.rh (.guards l))
  | gd {g b : Lt} : Okx (.lt g) → Okx (.lt b) → Okx (.gd (.mk g b))
  | al {x : Pt} {r : Rh} : Okx (.rh r) → Okx (.al (.mk x r))
  | cl {t : Tk} {ps : List Pt} {r : Rh} : Okx (.rh r) → Okx (.cl (.mk t ps r))
structure ExO (d : Nat) : Prop where
  expr : ∀ p t p', expr d p = some (t, p') → p'.err = 0 → Okx (.lt t)
  more : ∀ p a b p', more d p = some (a, b, p') → p'.err = 0 → a.length = b.length ∧ ∀ t, t ∈ a → Okx (.lt t)
  operand : ∀ p t p', operand d p = some (t, p') → p'.err = 0 → Okx (.lt t)
  aexps : ∀ p l p', aexps d p = some (l, p') → p'.err = 0 → ∀ t, t ∈ l → Okx (.lt t)
  aexp : ∀ p t p', aexp d p = some (t, p') → p'.err = 0 → Okx (.lt t)
  clause : ∀ p t p', clause d p = some (t, p') → p'.err = 0 → Okx (.cl t)
  bodies : ∀ s p t p', bodies d s p = some (t, p') → p'.err = 0 → Okx (.rh t)
  guards : ∀ s p l p', guards d s p = some (l, p') → p'.err = 0 → ∀ t, t ∈ l → Okx (.gd t)
  clauses : ∀ f p n l p', clauses d f p = some (n, l, p') → p'.err = 0 → ∀ t, t ∈ l → Okx (.cl t)
  alts : ∀ f p n l p', alts d f p = some (n, l, p') → p'.err = 0 → ∀ t, t ∈ l → Okx (.al t)
end Go.Proofs.YtdajihpfedbihaaGreat.Pa
/-
  WHAT IS WHOLE COMES TO AN EXPRESSION, plainly: with fuel enough, whatever the fault. No memory in sight.
-/
namespace Go.Proofs.YtdajihpfedbihaaGreat.Pa
open Tm Pm
set_option linter.unusedVariables false
set_option linter.unusedSimpArgs false
section
variable {find : Name → Fx} {resolve : List Fx → List (Nat × Nat) × Nat × Int}
variable (find resolve) in
end
end Go.Proofs.YtdajihpfedbihaaGreat.Pa
/-
  PLAIN MATHEMATICS for layer fix: which operands an operator spans, by its levels alone; the stack of those that wait. No program in sight.
-/
namespace Go.Proofs.YtdajihpfedbihaaGreat.Fm
set_option linter.unusedVariables false

/-- j is taken by k, if it stands ahead of it · behind it -/
def absL (A L : Nat → Int) (k j : Nat) : Prop := L k < L j ∨ (L j = L k ∧ A k = 1)
def absR (A L : Nat → Int) (k j : Nat) : Prop := L k < L j ∨ (L j = L k ∧ A k = 2)
def IsFrom (A L : Nat → Int) (k f : Nat) : Prop := f ≤ k ∧ (∀ j, f ≤ j → j < k → absL A L k j) ∧ (f = 0 ∨ ¬ absL A L k (f - 1))
def IsTo (A L : Nat → Int) (n k t : Nat) : Prop := k < t ∧ t ≤ n ∧ (∀ j, k < j → j < t → absR A L k j) ∧ (t = n ∨ ¬ absR A L k t)
def Meets (L : Nat → Int) (p k : Nat) : Prop := L p = L k ∧ ∀ j, p < j → j < k → L k < L j
def Fit (A : Nat → Int) (p k : Nat) : Prop := A p = A k ∧ A p ≠ 0
def Clash (A L : Nat → Int) (k : Nat) : Prop := ∃ p, p < k ∧ Meets L p k ∧ ¬ Fit A p k
def Fine (A L : Nat → Int) (k : Nat) : Prop := 0 ≤ A k ∧ A k ≤ 2 ∧ 0 ≤ L k ∧ L k ≤ 9

theorem from_one {A L : Nat → Int} {k f g : Nat} (h1 : IsFrom A L k f) (h2 : IsFrom A L k g) : f = g := by
  rcases Nat.lt_trichotomy f g with h | h | h
  · rcases h2.2.2 with h0 | h0
    · omega
    · exact absurd (h1.2.1 (g - 1) (by omega) (by have := h2.1; omega)) h0
  · exact h
  · rcases h1.2.2 with h0 | h0
    · omega
    · exact absurd (h2.2.1 (f - 1) (by omega) (by have := h1.1; omega)) h0
theorem to_one {A L : Nat → Int} {n k f g : Nat} (h1 : IsTo A L n k f) (h2 : IsTo A L n k g) : f = g := by
  rcases Nat.lt_trichotomy f g with h | h | h
  · rcases h1.2.2.2 with h0 | h0
    · have := h2.2.1; omega
    · exact absurd (h2.2.2.1 f h1.1 h) h0
  · exact h
  · rcases h2.2.2.2 with h0 | h0
    · have := h1.2.1; omega
    · exact absurd (h1.2.2.1 g h2.1 h) h0

/-- the nearest of one's level, where none between is lower -/
theorem nearest {L : Nat → Int} {p k : Nat} (h : p < k) (e : L p = L k) (hb : ∀ j, p < j → j < k → L k ≤ L j) : ∃ q, p ≤ q ∧ q < k ∧ Meets L q k := by
  have : ∀ d p, k - p ≤ d → p < k → L p = L k → (∀ j, p < j → j < k → L k ≤ L j) → ∃ q, p ≤ q ∧ q < k ∧ Meets L q k := by
    intro d
    induction d with
    | zero => intro p h1 h2; omega
    | succ d ih =>
      intro p h1 h2 e hb
      by_cases hx : ∀ j, p < j → j < k → L k < L j
      · exact ⟨p, Nat.le_refl _, h2, e, hx⟩
      · have : ∃ j, p < j ∧ j < k ∧ ¬ L k < L j := by
          apply Classical.byContradiction
          intro hn
          exact hx fun j hj hk => Classical.byContradiction fun hc => hn ⟨j, hj, hk, hc⟩
        obtain ⟨j, hj1, hj2, hj3⟩ := this
        have hje : L j = L k := by have := hb j hj1 hj2; omega
        obtain ⟨q, hq1, hq2, hq3⟩ := ih j (by omega) hj2 hje (fun i h3 h4 => hb i (by omega) h4)
        exact ⟨q, by omega, hq2, hq3⟩
  exact this (k - p) p (Nat.le_refl _) h e hb
/-- without a clash, all of one level that no lower one parts group alike -/
theorem same_way {A L : Nat → Int} (k : Nat) : ∀ p, p < k → (∀ j, j ≤ k → ¬ Clash A L j) → L p = L k → (∀ j, p < j → j < k → L k ≤ L j) → Fit A p k := by
  induction k using Nat.strongRecOn with
  | _ k ih =>
    intro p h hc e hb
    obtain ⟨q, hq1, hq2, hq3⟩ := nearest h e hb
    have hf : Fit A q k := Classical.byContradiction fun hn => hc k (Nat.le_refl _) ⟨q, hq2, hq3, hn⟩
    by_cases hpq : p = q
    · rw [hpq]; exact hf
    · have g := ih q hq2 p (by omega) (fun j hj => hc j (by omega)) (by rw [e, hq3.1]) (fun j h1 h2 => by rw [hq3.1]; exact hb j h1 (by omega))
      exact ⟨g.1.trans hf.1, g.2⟩

/-- what waits, the last one first, and the operand behind it -/
inductive Stk (A L : Nat → Int) : List Nat → Nat → Prop where
  | nil : Stk A L [] 0
  | cons {r : List Nat} {b s : Nat} : Stk A L r b → IsFrom A L s b → Stk A L (s :: r) (s + 1)
/-- where the round of operator i stands: f is the first operand that it groups as far as is known, st waits -/
structure Inv (A L : Nat → Int) (n i f : Nat) (st : List Nat) (F T : Nat → Nat) : Prop where
  le : f ≤ i
  stk : Stk A L st f
  wait : ∀ s, s ∈ st → s < i ∧ ∀ k, s < k → k < i → absR A L s k
  done : ∀ j, j < i → j ∉ st → IsTo A L n j (T j)
  frm : ∀ j, j < i → IsFrom A L j (F j)
  none : ∀ j, j < i → ¬ Clash A L j
  run : ∀ j, f ≤ j → j < i → absL A L i j
  met : ∀ p, f ≤ p → p < i → Meets L p i → Fit A p i
def upd (F : Nat → Nat) (i v : Nat) : Nat → Nat := fun j => if j = i then v else F j
theorem upd_same (F : Nat → Nat) (i v : Nat) : upd F i v i = v := by simp [upd]
theorem upd_other (F : Nat → Nat) {i j : Nat} (v : Nat) (h : j ≠ i) : upd F i v j = F j := by simp [upd, h]
theorem inv_start (A L : Nat → Int) (n : Nat) (F T : Nat → Nat) : Inv A L n 0 0 [] F T :=
  ⟨Nat.le_refl _, .nil, (fun s h => absurd h (by simp)), (fun j h => absurd h (by omega)), (fun j h => absurd h (by omega)), (fun j h => absurd h (by omega)), (fun j h1 h2 => absurd h2 (by omega)), (fun p h1 h2 => absurd h2 (by omega))⟩
theorem stk_top {A L : Nat → Int} {s f : Nat} {r : List Nat} (h : Stk A L (s :: r) f) : f = s + 1 ∧ ∃ b, Stk A L r b ∧ IsFrom A L s b := by
  cases h with
  | cons h1 h2 => exact ⟨rfl, _, h1, h2⟩
/-- the last one that waits binds less, or groups to the right as this one does: it waits on, and so does this one -/
theorem inv_push {A L : Nat → Int} {n i f : Nat} {st : List Nat} {F T : Nat → Nat} (h : Inv A L n i f st F T) (hF : F i = f)
    (hb : ∀ s r, st = s :: r → L s < L i ∨ (L s = L i ∧ Fit A s i ∧ A i = 2)) : Inv A L n (i + 1) (i + 1) (i :: st) F T := by
  have hfrom : IsFrom A L i f := by
    refine ⟨h.le, h.run, ?_⟩
    cases st with
    | nil => cases h.stk; exact .inl rfl
    | cons s r =>
      obtain ⟨rfl, _⟩ := stk_top h.stk
      refine .inr ?_
      rw [Nat.add_sub_cancel]
      rintro (h1 | ⟨h1, h2⟩)
      · rcases hb s r rfl with h3 | ⟨h3, _⟩ <;> omega
      · rcases hb s r rfl with h3 | ⟨h3, _, h4⟩ <;> omega
  refine ⟨Nat.le_refl _, .cons h.stk hfrom, ?_, ?_, ?_, ?_, fun j h1 h2 => by omega, fun p h1 h2 => by omega⟩
  · intro s hs
    rcases List.mem_cons.1 hs with rfl | hs2
    · exact ⟨by omega, fun k h1 h2 => by omega⟩
    · obtain ⟨hl, hw⟩ := h.wait s hs2
      refine ⟨by omega, fun k h1 h2 => ?_⟩
      by_cases hk : k < i
      · exact hw k h1 hk
      obtain rfl : k = i := by omega
      cases st with
      | nil => exact absurd hs2 (by simp)
      | cons t r =>
        rcases List.mem_cons.1 hs2 with rfl | hr
        · rcases hb s r rfl with h3 | ⟨h3, h4, h5⟩
          · exact .inl h3
          · exact .inr ⟨h3.symm, by rw [h4.1, h5]⟩
        · have hst : s < t := by
            obtain ⟨_, b, hsb, hfb⟩ := stk_top h.stk
            have : ∀ (r : List Nat) (b : Nat), Stk A L r b → ∀ x, x ∈ r → x < b := by
              intro r
              induction r with
              | nil => intro b _ x hx; cases hx
              | cons y r ih =>
                intro b hb' x hx
                obtain ⟨rfl, b', h1, h2⟩ := stk_top hb'
                rcases List.mem_cons.1 hx with rfl | hx
                · omega
                · have := ih b' h1 x hx
                  have := h2.1
                  omega
            have := this r b hsb s hr
            have := hfb.1
            omega
          have htk : t < k := (h.wait t (by simp)).1
          have g := hw t hst htk
          rcases hb t r rfl with h3 | ⟨h3, h4, h5⟩
          · rcases g with g | ⟨g1, g2⟩
            · exact .inl (by omega)
            · exact .inl (by omega)
          · rcases g with g | ⟨g1, g2⟩
            · exact .inl (by omega)
            · exact .inr ⟨by omega, g2⟩
  · intro j hj hn
    have h0 : j ≠ i := fun e => hn (by rw [e]; simp)
    exact h.done j (by omega) (fun hm => hn (by simp [hm]))
  · intro j hj
    by_cases h0 : j = i
    · rw [h0, hF]; exact hfrom
    · exact h.frm j (by omega)
  · intro j hj
    by_cases h0 : j = i
    · rw [h0]
      rintro ⟨p, hp, hm, hx⟩
      by_cases hfp : f ≤ p
      · exact hx (h.met p hfp hp hm)
      · cases st with
        | nil => cases h.stk; omega
        | cons s r =>
          obtain ⟨rfl, _⟩ := stk_top h.stk
          have hsi := (h.wait s (by simp)).1
          by_cases hps : p = s
          · subst hps
            rcases hb p r rfl with h3 | ⟨h3, h4, h5⟩
            · have := hm.1; omega
            · exact hx h4
          · have := hm.2 s (by omega) hsi
            rcases hb s r rfl with h3 | ⟨h3, _⟩ <;> omega
    · exact h.none j (by omega)
/-- it binds more, or groups to the left as this one does: it is done, and this one groups what it did -/
theorem inv_pop {A L : Nat → Int} {n i f s : Nat} {r : List Nat} {F T : Nat → Nat} (h : Inv A L n i f (s :: r) F T) (hn : i < n)
    (hb : L i < L s ∨ (L s = L i ∧ Fit A s i ∧ A i = 1)) : Inv A L n i (F s) r (upd F i (F s)) (upd T s i) := by
  obtain ⟨rfl, b, hs, hfb⟩ := stk_top h.stk
  obtain ⟨hsi, hw⟩ := h.wait s (by simp)
  obtain rfl : F s = b := from_one (h.frm s hsi) hfb
  refine ⟨by have := hfb.1; omega, hs, fun t ht => h.wait t (by simp [ht]), ?_, ?_, h.none, ?_, ?_⟩
  · intro j hj hm
    by_cases h0 : j = s
    · rw [h0, upd_same]
      refine ⟨hsi, by omega, hw, .inr ?_⟩
      rintro (h1 | ⟨h1, h2⟩)
      · rcases hb with h3 | ⟨h3, _⟩ <;> omega
      · rcases hb with h3 | ⟨h3, h4, h5⟩
        · omega
        · have := h4.1; omega
    · rw [upd_other _ _ h0]
      exact h.done j hj (by simp [h0, hm])
  · intro j hj
    rw [upd_other _ _ (by omega)]
    exact h.frm j hj
  · intro j h1 h2
    by_cases h3 : s < j
    · exact h.run j (by omega) h2
    by_cases h4 : j = s
    · subst h4
      rcases hb with h5 | ⟨h5, _, h6⟩
      · exact .inl h5
      · exact .inr ⟨h5, h6⟩
    · rcases hfb.2.1 j h1 (by omega) with h5 | ⟨h5, h6⟩
      · rcases hb with h7 | ⟨h7, _, h8⟩ <;> exact .inl (by omega)
      · rcases hb with h7 | ⟨h7, _, h8⟩
        · exact .inl (by omega)
        · exact .inr ⟨by omega, h8⟩
  · intro p h1 h2 hm
    by_cases h3 : s < p
    · exact h.met p (by omega) h2 hm
    by_cases h4 : p = s
    · subst h4
      rcases hb with h5 | ⟨h5, h6, _⟩
      · have := hm.1; omega
      · exact h6
    · have g := hm.2 s (by omega) hsi
      have g1 := hm.1
      rcases hfb.2.1 p h1 (by omega) with h5 | ⟨h5, h6⟩ <;> (rcases hb with h7 | ⟨h7, _⟩ <;> omega)
/-- it clashes -/
theorem inv_clash {A L : Nat → Int} {n i f s : Nat} {r : List Nat} {F T : Nat → Nat} (h : Inv A L n i f (s :: r) F T) (e : L s = L i) (hx : ¬ Fit A s i) : Clash A L i := by
  obtain ⟨rfl, b, hs, hfb⟩ := stk_top h.stk
  obtain ⟨hsi, hw⟩ := h.wait s (by simp)
  have hge : ∀ j, s < j → j < i → L i ≤ L j := fun j h1 h2 => by rcases h.run j (by omega) h2 with h3 | ⟨h3, _⟩ <;> omega
  obtain ⟨q, hq1, hq2, hq3⟩ := nearest hsi e hge
  refine ⟨q, hq2, hq3, fun hf => ?_⟩
  by_cases h0 : q = s
  · exact hx (by rw [← h0]; exact hf)
  · have g := same_way q s (by omega) (fun j hj => h.none j (by omega)) (by rw [e, hq3.1]) (fun j h1 h2 => by rw [hq3.1]; exact hge j h1 (by omega))
    exact hx ⟨g.1.trans hf.1, g.2⟩
/-- what still waits in the end reaches to the last operand -/
theorem inv_end {A L : Nat → Int} {n f : Nat} {st : List Nat} {F T : Nat → Nat} (h : Inv A L n n f st F T) {s : Nat} (hs : s ∈ st) : IsTo A L n s n := by
  obtain ⟨h1, h2⟩ := h.wait s hs
  exact ⟨h1, Nat.le_refl _, h2, .inl rfl⟩
end Go.Proofs.YtdajihpfedbihaaGreat.Fm
/-
  PLAIN MATHEMATICS for layer fix: roots, parts within parts, rows parted in two; what Resolve comes to. No program in sight.
-/
namespace Go.Proofs.YtdajihpfedbihaaGreat.Fm
set_option linter.unusedVariables false

structure IsRoot (A L : Nat → Int) (a b r : Nat) : Prop where
  ge : a ≤ r
  lt : r < b
  low : ∀ j, a ≤ j → j < b → L r ≤ L j
  left : ∀ j, a ≤ j → j < r → L j = L r → A r = 1
  right : ∀ j, r < j → j < b → L j = L r → A j ≠ 1
/-- nothing outside is taken by what is inside -/
def Cl (A L : Nat → Int) (n a b : Nat) : Prop := ∀ k, a ≤ k → k < b → (a = 0 ∨ ¬ absL A L k (a - 1)) ∧ (b = n ∨ ¬ absR A L k b)
def Good (A L : Nat → Int) (n : Nat) : Prop := (∀ j, j < n → Fine A L j) ∧ ∀ j, j < n → ¬ Clash A L j
/-- what Resolve comes to: the spans, the number, the error -/
structure Res (A L : Nat → Int) (n : Nat) (F T : Nat → Nat) (i e : Nat) : Prop where
  out : (e = 2 ∧ i = 0 ∧ 1024 < n) ∨ (e = 1 ∧ n ≤ 1024 ∧ i < n ∧ ¬ Fine A L i ∧ ∀ j, j < i → Fine A L j) ∨
    (e = 50 ∧ n ≤ 1024 ∧ i < n ∧ (∀ j, j < n → Fine A L j) ∧ Clash A L i ∧ ∀ j, j < i → ¬ Clash A L j) ∨
    (e = 0 ∧ i = 0 ∧ n ≤ 1024 ∧ Good A L n ∧ ∀ k, k < n → IsFrom A L k (F k) ∧ IsTo A L n k (T k))
theorem res_same {A L : Nat → Int} {n : Nat} {F T G U : Nat → Nat} {i e j d : Nat} (h : Res A L n F T i e) (g : Res A L n G U j d) : i = j ∧ e = d ∧ (e = 0 → ∀ k, k < n → F k = G k ∧ T k = U k) := by
  have lt : ∀ {P : Nat → Prop} {a b : Nat}, (¬ P a) → (∀ x, x < b → P x) → b ≤ a := fun h1 h2 => Nat.le_of_not_lt fun h3 => h1 (h2 _ h3)
  rcases h.out with ⟨rfl, rfl, h1⟩ | ⟨rfl, h1, h2, h3, h4⟩ | ⟨rfl, h1, h2, h3, h4, h5⟩ | ⟨rfl, rfl, h1, h2, h3⟩ <;>
    rcases g.out with ⟨rfl, rfl, g1⟩ | ⟨rfl, g1, g2, g3, g4⟩ | ⟨rfl, g1, g2, g3, g4, g5⟩ | ⟨rfl, rfl, g1, g2, g3⟩
  · exact ⟨rfl, rfl, fun h => absurd h (by decide)⟩
  · exact absurd h1 (by omega)
  · exact absurd h1 (by omega)
  · exact absurd h1 (by omega)
  · exact absurd h1 (by omega)
  · exact ⟨Nat.le_antisymm (lt g3 h4) (lt h3 g4), rfl, fun h => absurd h (by decide)⟩
  · exact absurd (g3 i h2) h3
  · exact absurd (g2.1 i h2) h3
  · exact absurd h1 (by omega)
  · exact absurd (h3 j g2) g3
  · refine ⟨Nat.le_antisymm ?_ ?_, rfl, fun h => absurd h (by decide)⟩
    · exact Nat.le_of_not_lt fun h6 => h5 _ h6 g4
    · exact Nat.le_of_not_lt fun h6 => g5 _ h6 h4
  · exact absurd h4 (g2.2 i h2)
  · exact absurd h1 (by omega)
  · exact absurd (h2.1 j g2) g3
  · exact absurd g4 (h2.2 j g2)
  · exact ⟨rfl, rfl, fun _ k hk => ⟨from_one (h3 k hk).1 (g3 k hk).1, to_one (h3 k hk).2 (g3 k hk).2⟩⟩
section
variable {A L A1 L1 A2 L2 : Nat → Int} {a b : Nat}
variable (e1 : ∀ j, j < a → A j = A1 j ∧ L j = L1 j) (e2 : ∀ j, j < b → A (a + 1 + j) = A2 j ∧ L (a + 1 + j) = L2 j)
variable (l1 : ∀ j, j < a → L a < L1 j) (l2 : ∀ j, j < b → L a < L2 j)
include e1 in
end
end Go.Proofs.YtdajihpfedbihaaGreat.Fm
/-
  HOW A ROW OF OPERATORS IS GROUPED, plainly, so that it can be reckoned: what fix.Resolve comes to (Fm.Res), by a function. No memory in sight.
-/
namespace Go.Proofs.YtdajihpfedbihaaGreat.Pa
open Tm Pm Fm
set_option linter.unusedVariables false
/-- from where k takes what stands ahead of it -/
def frD (A L : Nat → Int) (k : Nat) : Nat → Nat
  | 0 => 0
  | f + 1 => if L k < L f ∨ (L f = L k ∧ A k = 1) then frD A L k f else f + 1
theorem frD_is (A L : Nat → Int) (k : Nat) : ∀ f, f ≤ k → (∀ j, f ≤ j → j < k → absL A L k j) → IsFrom A L k (frD A L k f) := by
  intro f
  induction f with
  | zero => intro _ h; exact ⟨Nat.zero_le _, h, .inl rfl⟩
  | succ f ih =>
    intro hf h
    unfold frD
    split
    · rename_i c
      refine ih (by omega) fun j h1 h2 => ?_
      by_cases e : j = f
      · subst e; exact c
      · exact h j (by omega) h2
    · rename_i c
      exact ⟨hf, h, .inr c⟩
/-- up to where it takes what stands behind it -/
def toD (A L : Nat → Int) (k : Nat) : Nat → Nat → Nat
  | 0, t => t
  | d + 1, t => if L k < L t ∨ (L t = L k ∧ A k = 2) then toD A L k d (t + 1) else t
theorem toD_is (A L : Nat → Int) (n k : Nat) : ∀ d t, k < t → t + d = n → (∀ j, k < j → j < t → absR A L k j) → IsTo A L n k (toD A L k d t) := by
  intro d
  induction d with
  | zero => intro t h1 h2 h; exact ⟨h1, by show t ≤ n; omega, h, .inl (by show t = n; omega)⟩
  | succ d ih =>
    intro t h1 h2 h
    unfold toD
    split
    · rename_i c
      refine ih (t + 1) (by omega) (by omega) fun j h3 h4 => ?_
      by_cases e : j = t
      · subst e; exact c
      · exact h j h3 (by omega)
    · rename_i c
      exact ⟨h1, by omega, h, .inr c⟩
/-- k meets an operator ahead of it with which it cannot stand -/
def clD (A L : Nat → Int) (k : Nat) : Nat → Bool
  | 0 => false
  | p + 1 => if L k < L p then clD A L k p else decide (L p = L k ∧ ¬ (A p = A k ∧ A p ≠ 0))
theorem clD_is (A L : Nat → Int) (k : Nat) : ∀ q, q ≤ k → (∀ j, q ≤ j → j < k → L k < L j) → (clD A L k q = true ↔ Clash A L k) := by
  intro q
  induction q with
  | zero =>
    intro _ h
    refine ⟨fun e => by simp [clD] at e, fun ⟨p, h1, ⟨h2, h3⟩, h4⟩ => ?_⟩
    have := h p (Nat.zero_le _) h1
    omega
  | succ q ih =>
    intro hq h
    unfold clD
    split
    · rename_i c
      refine ih (by omega) fun j h1 h2 => ?_
      by_cases e : j = q
      · subst e; exact c
      · exact h j (by omega) h2
    · rename_i c
      constructor
      · intro e
        obtain ⟨h1, h2⟩ := of_decide_eq_true e
        exact ⟨q, by omega, ⟨h1, fun j h3 h4 => h j (by omega) h4⟩, h2⟩
      · rintro ⟨p, h1, ⟨h2, h3⟩, h4⟩
        have hp : p = q := by
          rcases Nat.lt_trichotomy p q with x | x | x
          · exact absurd (h3 q x (by omega)) c
          · exact x
          · have := h p (by omega) h1; omega
        subst hp
        exact decide_eq_true ⟨h2, h4⟩
def fineD (A L : Nat → Int) (k : Nat) : Bool := decide (0 ≤ A k ∧ A k ≤ 2 ∧ 0 ≤ L k ∧ L k ≤ 9)
/-- the first one -/
def firstD (f : Nat → Bool) : Nat → Nat → Option Nat
  | 0, _ => none
  | d + 1, i => if f i then some i else firstD f d (i + 1)
theorem firstD_is {f : Nat → Bool} {n : Nat} : ∀ d i, i + d = n → (∀ j, j < i → f j = false) → (∃ k, firstD f d i = some k ∧ k < n ∧ f k = true ∧ ∀ j, j < k → f j = false) ∨ (firstD f d i = none ∧ ∀ j, j < n → f j = false) := by
  intro d
  induction d with
  | zero => intro i h1 h2; exact .inr ⟨rfl, fun j hj => h2 j (by omega)⟩
  | succ d ih =>
    intro i h1 h2
    unfold firstD
    cases e : f i with
    | true => exact .inl ⟨i, by simp, by omega, e, h2⟩
    | false =>
      have := ih (i + 1) (by omega) fun j hj => by
        by_cases c : j = i
        · rw [c]; exact e
        · exact h2 j (by omega)
      simpa using this
/-- what Resolve comes to: the number and the error -/
def resD (A L : Nat → Int) (n : Nat) : Nat × Nat :=
  if 1024 < n then (0, 2) else
  match firstD (fun k => !fineD A L k) n 0 with
  | some i => (i, 1)
  | none => match firstD (fun k => clD A L k k) n 0 with
    | some i => (i, 50)
    | none => (0, 0)
theorem resD_is (A L : Nat → Int) (n : Nat) : Res A L n (fun k => frD A L k k) (fun k => toD A L k (n - (k + 1)) (k + 1)) (resD A L n).1 (resD A L n).2 := by
  have hfn : ∀ k, (!fineD A L k) = false → Fine A L k := fun k h => by
    have h : fineD A L k = true := by simpa using h
    exact of_decide_eq_true (p := 0 ≤ A k ∧ A k ≤ 2 ∧ 0 ≤ L k ∧ L k ≤ 9) h
  have hfy : ∀ k, (!fineD A L k) = true → ¬ Fine A L k := fun k h q => by
    have h : fineD A L k = false := by simpa using h
    exact absurd q (of_decide_eq_false (p := 0 ≤ A k ∧ A k ≤ 2 ∧ 0 ≤ L k ∧ L k ≤ 9) h)
  have hc : ∀ k, clD A L k k = true ↔ Clash A L k := fun k => clD_is A L k k (Nat.le_refl _) fun j h1 h2 => by omega
  have hcn : ∀ k, clD A L k k = false → ¬ Clash A L k := fun k h q => by rw [(hc k).2 q] at h; cases h
  unfold resD
  split
  · rename_i h; exact ⟨.inl ⟨rfl, rfl, h⟩⟩
  · rename_i hn
    have hn : n ≤ 1024 := by omega
    rcases firstD_is (f := fun k => !fineD A L k) (n := n) n 0 (Nat.zero_add _) (fun j hj => by omega) with ⟨k, h1, h2, h3, h4⟩ | ⟨h1, h2⟩
    · rw [h1]
      exact ⟨.inr (.inl ⟨rfl, hn, h2, hfy _ h3, fun j hj => hfn _ (h4 j hj)⟩)⟩
    · rw [h1]
      rcases firstD_is (f := fun k => clD A L k k) (n := n) n 0 (Nat.zero_add _) (fun j hj => by omega) with ⟨k, g1, g2, g3, g4⟩ | ⟨g1, g2⟩
      · dsimp only
        rw [g1]
        exact ⟨.inr (.inr (.inl ⟨rfl, hn, g2, fun j hj => hfn _ (h2 j hj), (hc _).1 g3, fun j hj => hcn _ (g4 j hj)⟩))⟩
      · dsimp only
        rw [g1]
        exact ⟨.inr (.inr (.inr ⟨rfl, rfl, hn, ⟨fun j hj => hfn _ (h2 j hj), fun j hj => hcn _ (g2 j hj)⟩, fun k hk => ⟨frD_is A L k k (Nat.le_refl _) (fun j h1 h2 => by omega), toD_is A L n k _ _ (Nat.lt_succ_self _) (by omega) (fun j h1 h2 => by omega)⟩⟩))⟩
/-- what is told of a row of operators: the spans, the number, the error -/
def resolveD (ways : List Fx) : List (Nat × Nat) × Nat × Int :=
  let A := fun i => (ways.getD i default).assoc
  let L := fun i => (ways.getD i default).level
  let r := resD A L ways.length
  (if r.2 = 0 then (List.range ways.length).map fun k => (frD A L k k, toD A L k (ways.length - (k + 1)) (k + 1)) else [], r.1, (r.2 : Int))
end Go.Proofs.YtdajihpfedbihaaGreat.Pa
