/-
  WORDS on layer parse: expressions in memory. CONTRACTS: a leaf is made; an application.
-/
import Derived.Test.YtdajihpfedbihaaGreatGJ

namespace Go.Proofs.YtdajihpfedbihaaGreat.Pa
open Go.RowKit Mm Tm Pm
set_option linter.unusedVariables false
set_option linter.unusedSimpArgs false
inductive EIt where
  | ex (e : Ex)
  | rhs (r : ExR)
  | cl (c : ExC)
  | bd (b : ExB)
  | al (a : ExA)
/-- an expression, or a part of one, whose cells are these, lies in blocks of Z -/
inductive EV (Z : Nat → Prop) (w : World) : EIt → List Value → Prop
  | ex {kind : Int} {name : List UInt8} {n : Int} {params : List (List UInt8)} {args : List Ex} {alts : List ExA} {binds : List ExB} {ln col : Int} {sp sa sl sb : Value} {Ca Cl Cb : Nat → List Value} :
      RowBs Z w sp params → RowZ Z w sa args.length 9 Ca → RowZ Z w sl alts.length 7 Cl → RowZ Z w sb binds.length 4 Cb →
      (∀ i e, args[i]? = some e → EV Z w (.ex e) (Ca i)) → (∀ i a, alts[i]? = some a → EV Z w (.al a) (Cl i)) → (∀ i b, binds[i]? = some b → EV Z w (.bd b) (Cb i)) →
      EV Z w (.ex (.mk kind name n params args alts binds ln col)) [.int .i64 kind, .string (toB name), .int .i64 n, sp, sa, sl, sb, .int .i64 ln, .int .i64 col]
  | rhs {guard : List Ex} {body : Ex} {sg : Value} {Cg : Nat → List Value} {cs : List Value} : RowZ Z w sg guard.length 9 Cg → (∀ i e, guard[i]? = some e → EV Z w (.ex e) (Cg i)) → EV Z w (.ex body) cs → EV Z w (.rhs (.mk guard body)) (sg :: cs)
  | cl {ps : List Pm.Pt} {rhs : List ExR} {a : Option Addr} {c : Nat} {sr : Value} {Cr : Nat → List Value} : RdP (fun b => Z b ∧ b < w.heap.size) w a (Pts.ofL ps) 0 → ps.length ≤ 100000000 → RowZ Z w sr rhs.length 10 Cr → (∀ i r, rhs[i]? = some r → EV Z w (.rhs r) (Cr i)) → EV Z w (.cl (.mk ps rhs)) [.slice a ps.length c, sr]
  | bd {name : List UInt8} {cls : List ExC} {ln col : Int} {sc : Value} {Cc : Nat → List Value} : RowZ Z w sc cls.length 2 Cc → (∀ i c, cls[i]? = some c → EV Z w (.cl c) (Cc i)) → EV Z w (.bd (.mk name cls ln col)) [.string (toB name), sc, .int .i64 ln, .int .i64 col]
  | al {x : Pm.Pt} {rhs : List ExR} {a : Option Addr} {c : Nat} {sr : Value} {Cr : Nat → List Value} : RdP (fun b => Z b ∧ b < w.heap.size) w a x.args 0 → x.nm.size ≤ 9223372036854775807 → x.args.len * 72 ≤ 140737488355328 → RowZ Z w sr rhs.length 10 Cr → (∀ i r, rhs[i]? = some r → EV Z w (.rhs r) (Cr i)) →
      EV Z w (.al (.mk x rhs)) [.int .i64 x.kd, .string x.nm, .int .i64 x.n, .slice a x.args.len c, .int .i64 x.ln, .int .i64 x.col, sr]
theorem EV.frame {Z Z' : Nat → Prop} {w w' : World} {it : EIt} {vs : List Value} (h : EV Z w it vs) (hs : w.heap.size ≤ w'.heap.size) (hb : ∀ b, Z b → b < w.heap.size → w'.heap[b]? = w.heap[b]?) (hz : ∀ b, Z b → b < w.heap.size → Z' b) : EV Z' w' it vs := by
  induction h with
  | ex h1 h2 h3 h4 _ _ _ i1 i2 i3 => exact .ex (RowZ.frame h1 hs hb hz) (h2.frame hs hb hz) (h3.frame hs hb hz) (h4.frame hs hb hz) i1 i2 i3
  | rhs h1 _ _ i1 i2 => exact .rhs (h1.frame hs hb hz) i1 i2
  | cl h1 h2 h3 _ i1 => exact .cl (rdP_frame h1 hs hb hz) h2 (h3.frame hs hb hz) i1
  | bd h1 _ i1 => exact .bd (h1.frame hs hb hz) i1
  | al h1 h2 h3 h4 _ i1 => exact .al (rdP_frame h1 hs hb hz) h2 h3 (h4.frame hs hb hz) i1
theorem EV.mono {Z Z' : Nat → Prop} {w : World} {it : EIt} {vs : List Value} (h : EV Z w it vs) (hz : ∀ b, Z b → b < w.heap.size → Z' b) : EV Z' w it vs := h.frame (Nat.le_refl _) (fun _ _ _ => rfl) hz
theorem EV.kept {Z : Nat → Prop} {w w' : World} {it : EIt} {vs : List Value} {X : Nat → Prop} (h : EV Z w it vs) (hk : Kept X w w') (hX : ∀ b, Z b → X b → b < w.heap.size → False) : EV Z w' it vs := h.frame hk.size (fun b hz hl => hk.block b hl fun x => hX b hz x hl) (fun _ hz _ => hz)
/-- the nine cells of an expression -/
abbrev exV (kd : Int) (nm : List UInt8) (n : Int) (a1 : Option Addr) (n1 c1 : Nat) (a2 : Option Addr) (n2 c2 : Nat) (a3 : Option Addr) (n3 c3 : Nat) (a4 : Option Addr) (n4 c4 : Nat) (ln col : Int) : Array Value :=
  #[.int .i64 kd, .string (toB nm), .int .i64 n, .slice a1 n1 c1, .slice a2 n2 c2, .slice a3 n3 c3, .slice a4 n4 c4, .int .i64 ln, .int .i64 col]
/-- an expression's value -/
structure ExI (Z : Nat → Prop) (w : World) (e : Ex) (kd : Int) (nm : List UInt8) (n : Int) (a1 : Option Addr) (n1 c1 : Nat) (a2 : Option Addr) (n2 c2 : Nat) (a3 : Option Addr) (n3 c3 : Nat) (a4 : Option Addr) (n4 c4 : Nat) (ln col : Int) : Prop where
  ev : EV Z w (.ex e) [.int .i64 kd, .string (toB nm), .int .i64 n, .slice a1 n1 c1, .slice a2 n2 c2, .slice a3 n3 c3, .slice a4 n4 c4, .int .i64 ln, .int .i64 col]
  at_ : e.at_ = (ln, col)
/-- what a call ends with that makes an expression -/
def Zn (B E S : Nat) (b : Nat) : Prop := B ≤ b ∧ (b < E ∨ S ≤ b)
def ExPost (N pb B E : Nat) (fv : Value) (e : Ex) (p' : Pp) (w : World) (r : Ending) (w' : World) : Prop :=
  ∃ kd nm n a1 n1 c1 a2 n2 c2 a3 n3 c3 a4 n4 c4 ln col, r = .returned (.agg (exV kd nm n a1 n1 c1 a2 n2 c2 a3 n3 c3 a4 n4 c4 ln col)) ∧ ExI (Zn B E w.heap.size) w' e kd nm n a1 n1 c1 a2 n2 c2 a3 n3 c3 a4 n4 c4 ln col ∧ PS N w' pb p' fv ∧ KP pb w w'
theorem RowZ.nil (Z : Nat → Prop) (w : World) (k : Nat) (C : Nat → List Value) : RowZ Z w (.slice none 0 0) 0 k C := ⟨none, 0, rfl, Nat.le_refl _, fun i hi => by omega⟩
/-- an expression without parts -/
theorem EV.leaf (Z : Nat → Prop) (w : World) (kd : Int) (nm : List UInt8) (n ln col : Int) : EV Z w (.ex (.mk kd nm n [] [] [] [] ln col)) [.int .i64 kd, .string (toB nm), .int .i64 n, .slice none 0 0, .slice none 0 0, .slice none 0 0, .slice none 0 0, .int .i64 ln, .int .i64 col] :=
  .ex (Ca := fun _ => []) (Cl := fun _ => []) (Cb := fun _ => []) (RowZ.nil _ _ _ _) (RowZ.nil _ _ _ _) (RowZ.nil _ _ _ _) (RowZ.nil _ _ _ _) (fun i e h => by simp at h) (fun i e h => by simp at h) (fun i e h => by simp at h)
theorem free9' {w : World} {g : Nat} {t : TypeId} {a0 a1 a2 a3 a4 a5 a6 a7 a8 : Value} (h : Box w g t #[a0, a1, a2, a3, a4, a5, a6, a7, a8]) : w.frozen? ⟨g, 0, none⟩ = false ∧ w.frozen? ⟨g, 1, none⟩ = false ∧ w.frozen? ⟨g, 2, none⟩ = false ∧ w.frozen? ⟨g, 3, none⟩ = false ∧ w.frozen? ⟨g, 4, none⟩ = false ∧ w.frozen? ⟨g, 5, none⟩ = false ∧ w.frozen? ⟨g, 6, none⟩ = false ∧ w.frozen? ⟨g, 7, none⟩ = false ∧ w.frozen? ⟨g, 8, none⟩ = false :=
  ⟨h.free 0, h.free 1, h.free 2, h.free 3, h.free 4, h.free 5, h.free 6, h.free 7, h.free 8⟩
set_option maxRecDepth 100000 in
set_option maxHeartbeats 4000000 in
theorem leaf1_any {N pb B E : Nat} {p : Pp} {fv : Value} {kd : Int} {nm : List UInt8} {n ln col : Int} {b : Nat} {Z : Nat → Prop} (w : World) (h : PS N w pb p fv) (hc : Cap Z w b TEx (exCells kd nm n ln col)) :
    Calls Tryz.prog 163 #[ptr b] w (ExPost N pb B E fv (.mk kd nm n [] [] [] [] ln col) p w) := by
  have HP := Lib.hid h
  have HB := Lib.hid ((Below.refl w.heap.size w).alloc (Nat.le_refl _) (.cells (exCells kd nm n ln col) TEx))
  have HX := Lib.hid (Box.new w (exCells kd nm n ln col) TEx)
  obtain ⟨x0, x1, x2, x3, x4, x5, x6, x7, x8⟩ := cells9 hc.2
  have hl := hc.2.lt
  clear h hc
  go_enter Tryz.func163, Tryz.ntmps163
  go_wp2_with fail
  obtain ⟨v0, v1, v2, v3, v4, v5, v6, v7, v8⟩ := cells9 HX.out
  refine bodyPost_ret (v := .agg (exCells kd nm n ln col)) (by simp [results, Tryz.results163, go_sem, v0, v1, v2, v3, v4, v5, v6, v7, v8]) rfl ?_
  exact ⟨kd, nm, n, none, 0, 0, none, 0, 0, none, 0, 0, none, 0, 0, ln, col, rfl, ⟨EV.leaf _ _ _ _ _ _ _, rfl⟩, HP.out.below HB.out, Kept.of_below HB.out (Nat.le_refl _) _⟩
end Go.Proofs.YtdajihpfedbihaaGreat.Pa
/-
  CONTRACT of layer parse: an application is made.
-/
namespace Go.Proofs.YtdajihpfedbihaaGreat.Pa
open Go.RowKit Mm Tm Pm
set_option linter.unusedVariables false
set_option linter.unusedSimpArgs false
/-- an expression that was made, behind a call that turns nothing -/
def ExNew (Z : Nat → Prop) (e : Ex) (w : World) (r : Ending) (w' : World) : Prop :=
  ∃ kd nm n a1 n1 c1 a2 n2 c2 a3 n3 c3 a4 n4 c4 ln col, r = .returned (.agg (exV kd nm n a1 n1 c1 a2 n2 c2 a3 n3 c3 a4 n4 c4 ln col)) ∧ ExI Z w' e kd nm n a1 n1 c1 a2 n2 c2 a3 n3 c3 a4 n4 c4 ln col ∧ Below w.heap.size w w'
theorem EV.later {Z : Nat → Prop} {w w' : World} {it : EIt} {vs : List Value} (h : EV Z w it vs) (hb : Below w.heap.size w w') : EV Z w' it vs := h.frame hb.size (fun b _ hl => hb.block b hl) fun b hz _ => hz
/-- a row whose cells are known, in a block of its own -/
theorem RowZ.mk {Z : Nat → Prop} {w : World} {g n k : Nat} {t : TypeId} {vs : List Value} (hb : Box w g t vs.toArray) (hz : Z g) (hl : vs.length = n * k) : RowZ Z w (.slice (some ⟨g, 0, none⟩) n n) n k (elC vs k) := by
  refine ⟨_, n, rfl, Nat.le_refl _, fun i hi => ⟨g, rfl, hz, hb.lt, fun j u hu => ?_⟩⟩
  have hj : j < k := by
    have := (List.getElem?_eq_some_iff.1 hu).1
    unfold elC at this
    rw [List.length_take] at this
    omega
  rw [hb.cell]
  unfold elC at hu
  rw [List.getElem?_take_of_lt hj, List.getElem?_drop] at hu
  simpa using hu
set_option maxRecDepth 100000 in
set_option maxHeartbeats 8000000 in
theorem app_any {Z : Nat → Prop} {f a : Ex} {k1 : Int} {m1 : List UInt8} {i1 : Int} {p1 : Option Addr} {q1 r1 : Nat} {p2 : Option Addr} {q2 r2 : Nat} {p3 : Option Addr} {q3 r3 : Nat} {p4 : Option Addr} {q4 r4 : Nat} {l1 o1 : Int} {k2 : Int} {m2 : List UInt8} {i2 : Int} {s1 : Option Addr} {t1 u1 : Nat} {s2 : Option Addr} {t2 u2 : Nat} {s3 : Option Addr} {t3 u3 : Nat} {s4 : Option Addr} {t4 u4 : Nat} {l2 o2 : Int}
    (w : World) (hf : ExI Z w f k1 m1 i1 p1 q1 r1 p2 q2 r2 p3 q3 r3 p4 q4 r4 l1 o1) (ha : ExI Z w a k2 m2 i2 s1 t1 u1 s2 t2 u2 s3 t3 u3 s4 t4 u4 l2 o2) (hB : ∀ b, w.heap.size ≤ b → Z b) :
    Calls Tryz.prog 135 #[.agg (exV k1 m1 i1 p1 q1 r1 p2 q2 r2 p3 q3 r3 p4 q4 r4 l1 o1), .agg (exV k2 m2 i2 s1 t1 u1 s2 t2 u2 s3 t3 u3 s4 t4 u4 l2 o2)] w (ExNew Z (app f a) w) := by
  obtain ⟨W2, hW2⟩ : ∃ W2, (w.alloc (.cells (exV k1 m1 i1 p1 q1 r1 p2 q2 r2 p3 q3 r3 p4 q4 r4 l1 o1) TEx)).alloc (.cells (exV k2 m2 i2 s1 t1 u1 s2 t2 u2 s3 t3 u3 s4 t4 u4 l2 o2) TEx) = W2 := ⟨_, rfl⟩
  have hb2 : Below w.heap.size w W2 := by rw [← hW2]; exact ((Below.refl _ _).alloc (Nat.le_refl _) _).alloc (by simp) _
  have hz2 : W2.heap.size = w.heap.size + 1 + 1 := by rw [← hW2]; simp
  have hF : Box W2 w.heap.size TEx (exV k1 m1 i1 p1 q1 r1 p2 q2 r2 p3 q3 r3 p4 q4 r4 l1 o1) := by rw [← hW2]; exact (Box.new w _ _).alloc _
  have hA : Box W2 (w.heap.size + 1) TEx (exV k2 m2 i2 s1 t1 u1 s2 t2 u2 s3 t3 u3 s4 t4 u4 l2 o2) := by rw [← hW2]; exact Box.at_ _ _ (by simp)
  obtain ⟨x0, x1, x2, x3, x4, x5, x6, x7, x8⟩ := cells9 hF
  obtain ⟨y0, y1, y2, y3, y4, y5, y6, y7, y8⟩ := cells9 hA
  have hl1 := hF.lt
  have hl2 := hA.lt
  have HF := Lib.hid hf
  have HA := Lib.hid ha
  have HB2 := Lib.hid hb2
  have HBB := Lib.hid hB
  have HZ := Lib.hid hz2
  clear hf ha hb2 hB hF hA
  go_enter Tryz.func135, Tryz.ntmps135
  go_wp2_with fail
  have hB := HBB.out
  have hz := HZ.out
  have hX : Box ((W2.alloc (.cells #[.int .i64 4, .string ⟨#[]⟩, .int .i64 0, .slice none 0 0, .slice (some ⟨w.heap.size + 1 + 1 + 1, 0, none⟩) 2 2, .slice none 0 0, .slice none 0 0, .int .i64 l1, .int .i64 o1] TEx)).alloc (.cells #[.int .i64 k1, .string (toB m1), .int .i64 i1, .slice p1 q1 r1, .slice p2 q2 r2, .slice p3 q3 r3, .slice p4 q4 r4, .int .i64 l1, .int .i64 o1, .int .i64 k2, .string (toB m2), .int .i64 i2, .slice s1 t1 u1, .slice s2 t2 u2, .slice s3 t3 u3, .slice s4 t4 u4, .int .i64 l2, .int .i64 o2] TEx)) (w.heap.size + 1 + 1) TEx #[.int .i64 4, .string ⟨#[]⟩, .int .i64 0, .slice none 0 0, .slice (some ⟨w.heap.size + 1 + 1 + 1, 0, none⟩) 2 2, .slice none 0 0, .slice none 0 0, .int .i64 l1, .int .i64 o1] := (Box.at_ _ _ hz).alloc _
  have hR : Box ((W2.alloc (.cells #[.int .i64 4, .string ⟨#[]⟩, .int .i64 0, .slice none 0 0, .slice (some ⟨w.heap.size + 1 + 1 + 1, 0, none⟩) 2 2, .slice none 0 0, .slice none 0 0, .int .i64 l1, .int .i64 o1] TEx)).alloc (.cells #[.int .i64 k1, .string (toB m1), .int .i64 i1, .slice p1 q1 r1, .slice p2 q2 r2, .slice p3 q3 r3, .slice p4 q4 r4, .int .i64 l1, .int .i64 o1, .int .i64 k2, .string (toB m2), .int .i64 i2, .slice s1 t1 u1, .slice s2 t2 u2, .slice s3 t3 u3, .slice s4 t4 u4, .int .i64 l2, .int .i64 o2] TEx)) (w.heap.size + 1 + 1 + 1) TEx [.int .i64 k1, .string (toB m1), .int .i64 i1, .slice p1 q1 r1, .slice p2 q2 r2, .slice p3 q3 r3, .slice p4 q4 r4, .int .i64 l1, .int .i64 o1, .int .i64 k2, .string (toB m2), .int .i64 i2, .slice s1 t1 u1, .slice s2 t2 u2, .slice s3 t3 u3, .slice s4 t4 u4, .int .i64 l2, .int .i64 o2].toArray := Box.at_ _ _ (by simp [hz])
  have hb : Below w.heap.size w ((W2.alloc (.cells #[.int .i64 4, .string ⟨#[]⟩, .int .i64 0, .slice none 0 0, .slice (some ⟨w.heap.size + 1 + 1 + 1, 0, none⟩) 2 2, .slice none 0 0, .slice none 0 0, .int .i64 l1, .int .i64 o1] TEx)).alloc (.cells #[.int .i64 k1, .string (toB m1), .int .i64 i1, .slice p1 q1 r1, .slice p2 q2 r2, .slice p3 q3 r3, .slice p4 q4 r4, .int .i64 l1, .int .i64 o1, .int .i64 k2, .string (toB m2), .int .i64 i2, .slice s1 t1 u1, .slice s2 t2 u2, .slice s3 t3 u3, .slice s4 t4 u4, .int .i64 l2, .int .i64 o2] TEx)) := (HB2.out.alloc (by omega) _).alloc (by simp; omega) _
  obtain ⟨v0, v1, v2, v3, v4, v5, v6, v7, v8⟩ := cells9 hX
  refine bodyPost_ret (v := .agg (exV 4 [] 0 none 0 0 (some ⟨w.heap.size + 1 + 1 + 1, 0, none⟩) 2 2 none 0 0 none 0 0 l1 o1)) (by simp [results, Tryz.results135, go_sem, toB_nil, v0, v1, v2, v3, v4, v5, v6, v7, v8]) rfl ?_
  have hat : f.at_ = (l1, o1) := HF.out.at_
  refine ⟨4, [], 0, none, 0, 0, some ⟨w.heap.size + 1 + 1 + 1, 0, none⟩, 2, 2, none, 0, 0, none, 0, 0, l1, o1, rfl, ⟨?_, by show (f.at_.1, f.at_.2) = _; rw [hat]⟩, hb⟩
  show EV Z _ (.ex (.mk 4 [] 0 [] [f, a] [] [] f.at_.1 f.at_.2)) _
  rw [hat]
  refine .ex (Cl := fun _ => []) (Cb := fun _ => []) (RowZ.nil _ _ _ _) (RowZ.mk hR (hB _ (by omega)) rfl) (RowZ.nil _ _ _ _) (RowZ.nil _ _ _ _) (fun i e he => ?_) (fun i e h => by simp at h) (fun i e h => by simp at h)
  match i, he with
  | 0, he =>
    simp at he
    subst he
    exact HF.out.ev.later hb
  | 1, he =>
    simp at he
    subst he
    exact HA.out.ev.later hb
  | i + 2, he => simp at he
end Go.Proofs.YtdajihpfedbihaaGreat.Pa
/-
  CONTRACT of layer parse: what each part of a list comes to.
-/
namespace Go.Proofs.YtdajihpfedbihaaGreat.Pa
open Go.RowKit Mm Tm Pm
set_option linter.unusedVariables false
set_option linter.unusedSimpArgs false
/-- a row of the call's own, of what was made: the row lies from B on, what it is made of in blocks of Q -/
structure OwnE {α : Type} (f : α → EIt) (TE : TypeId) (k B : Nat) (Q : Nat → Prop) (w : World) (sv : Value) (l : List α) (vs : List Value) : Prop where
  own : w.ownsRow B TE k sv l.length vs
  el : ∀ i t, l[i]? = some t → EV (fun b => Q b ∧ sv.ownBlock ≠ some b) w (f t) (elC vs k i)
section
variable {α : Type} {f : α → EIt} {TE : TypeId} {k B : Nat} {Q : Nat → Prop} {w w' : World} {sv : Value} {l : List α} {vs : List Value}
theorem OwnE.nil (B : Nat) (Q : Nat → Prop) (w : World) : OwnE f TE k B Q w (.slice none 0 0) [] [] := ⟨World.ownsRow_nil _ _ _ _, fun i t ht => by simp at ht⟩
theorem OwnE.kept (h : OwnE f TE k B Q w sv l vs) {X : Nat → Prop} (hk : Kept X w w') (hX : ∀ b, X b → b < w.heap.size → ¬ B ≤ b ∧ ¬ Q b) : OwnE f TE k B Q w' sv l vs := by
  refine ⟨⟨h.own.1, ?_⟩, fun i t ht => (h.el i t ht).kept hk fun b hz hx hl => (hX b hx hl).2 hz.1⟩
  rcases h.own.2 with q | ⟨g, cap, cur, rfl, hg, hh, r⟩
  · exact .inl q
  · exact .inr ⟨g, cap, cur, rfl, hg, (hk.block g (lt_of_block hh) fun x => (hX g x (lt_of_block hh)).1 hg).trans hh, r⟩
theorem OwnE.below (h : OwnE f TE k B Q w sv l vs) (hb : Below w.heap.size w w') : OwnE f TE k B Q w' sv l vs := h.kept (X := fun _ => False) (Kept.of_below hb (Nat.le_refl _) _) fun b q => q.elim
theorem OwnE.slice (h : OwnE f TE k B Q w sv l vs) : ∃ a c, sv = .slice a l.length c := own_slice h.own
theorem OwnE.more (h : OwnE f TE k B Q w sv l vs) {t : α} {new : List Value} {w7 : World} {v7 : Value} {o : Obj} (hn : new.length = k) (hr : EV (fun b => Q b ∧ sv.ownBlock ≠ some b) w (f t) new)
    (hown : w7.ownsRow B TE k v7 (l.length + 1) (vs ++ new)) (hg : (w.alloc o).grownBy w7 sv.ownBlock) (hat : v7.ownBlock = sv.ownBlock ∨ v7.ownBlock = some (w.alloc o).heap.size) :
    OwnE f TE k B Q w7 v7 (l ++ [t]) (vs ++ new) := by
  have hsz : (w.alloc o).heap.size = w.heap.size + 1 := by simp
  have fr : ∀ {it : EIt} {us : List Value}, EV (fun b => Q b ∧ sv.ownBlock ≠ some b) w it us → EV (fun b => Q b ∧ v7.ownBlock ≠ some b) w7 it us := by
    intro it us hR
    refine hR.frame ?_ (fun b hz hl => ?_) fun b hz hl => ?_
    · have := hg.size; omega
    · rw [hg.block b (by omega) (fun e => hz.2 e.symm), Below.heap_alloc w o b hl]
    · refine ⟨hz.1, ?_⟩
      rcases hat with q | q
      · rw [q]; exact hz.2
      · rw [q, hsz]; intro e; injection e with e; omega
  refine ⟨by rw [List.length_append, List.length_singleton]; exact hown, fun i u hu => ?_⟩
  by_cases hi : i < l.length
  · rw [List.getElem?_append_left hi] at hu
    rw [elC_old h.own.1 hi]
    exact fr (h.el i u hu)
  · have hil : i = l.length := by
      have := (List.getElem?_eq_some_iff.1 hu).1
      rw [List.length_append, List.length_singleton] at this
      omega
    subst hil
    simp at hu
    subst hu
    rw [elC_new h.own.1 hn]
    exact fr hr
theorem OwnE.rowz (h : OwnE f TE k B Q w sv l vs) (hQ : ∀ b, B ≤ b → Q b) : RowZ Q w sv l.length k (elC vs k) := by
  obtain ⟨a, c, rfl⟩ := h.slice
  by_cases h0 : l.length = 0
  · exact ⟨a, c, rfl, by omega, fun i hi => by omega⟩
  · obtain ⟨g, rfl, h1, h2, h3, h4⟩ := own_at h.own (by omega)
    refine ⟨_, c, rfl, h3, fun i hi => ⟨g, rfl, hQ g h1, h2, fun j u hu => ?_⟩⟩
    have hj : j < k := by
      have := (List.getElem?_eq_some_iff.1 hu).1
      unfold elC at this
      rw [List.length_take] at this
      omega
    have hle : i * k + k ≤ l.length * k := by rw [← Nat.succ_mul]; exact Nat.mul_le_mul_right k hi
    rw [h4 _ (by omega)]
    unfold elC at hu
    rw [List.getElem?_take_of_lt hj, List.getElem?_drop] at hu
    exact hu
theorem OwnE.ev (h : OwnE f TE k B Q w sv l vs) {i : Nat} {t : α} (ht : l[i]? = some t) : EV Q w (f t) (elC vs k i) := (h.el i t ht).mono fun b hz _ => hz.1
end
/-- the parser's state with another fault -/
def pf (p : Pp) (f : Ft) : Pp := { p with err := f.1, at_ := (f.2.1, f.2.2) }
/-- a function in memory that makes an expression when it is called -/
def Makes (N pb B E : Nat) (fv v : Value) (e : Ex) (p' : Pp) (w : World) : Prop :=
  ∃ k cap, v = .func (.func k) #[] cap ∧ Enters Tryz.prog k ∧ Calls Tryz.prog k cap w (ExPost N pb B E fv e p' w)
/-- what was read makes what it comes to, with so much fuel; F: what else is asked of the world, which making expressions keeps -/
def GrowC (find : Name → Fx) (resolve : List Fx → List (Nat × Nat) × Nat × Int) (F : World → Prop) (N pb B E : Nat) (fv : Value) (p0 : Pp) (d : Nat) : Prop :=
  ∀ t f v w e f', grow find resolve d f t = some (e, f') → R pb (fun b => B ≤ b ∧ b < E) w (.lt t) [v] → PS N w pb (pf p0 f) fv → F w → E ≤ w.heap.size → Makes N pb B E fv v e (pf p0 f') w
theorem Tex : (Tryz.prog.info? 33).map (fun i => (i.zero, i.size, i.bytes)) = some (some (.agg #[.int .i64 0, .string ByteArray.empty, .int .i64 0, .slice none 0 0, .slice none 0 0, .slice none 0 0, .slice none 0 0, .int .i64 0, .int .i64 0]), 9, 144) := by kernel_rfl
abbrev TExs : TypeId := 28
/-- what the list of all ends with -/
def GrownPost {α : Type} (g : α → EIt) (k N pb B E : Nat) (fv : Value) (l : List α) (p' : Pp) (w : World) (r : Ending) (w' : World) : Prop :=
  ∃ a c C, r = .returned (.slice a l.length c) ∧ RowZ (Zn B E w.heap.size) w' (.slice a l.length c) l.length k C ∧ (∀ i t, l[i]? = some t → EV (Zn B E w.heap.size) w' (g t) (C i)) ∧ PS N w' pb p' fv ∧ KP pb w w'
theorem grows_cons {find : Name → Fx} {resolve : List Fx → List (Nat × Nat) × Nat × Int} {d : Nat} {f : Ft} {a : Lt} {l : List Lt} {r : List Ex × Ft} (h : grows find resolve (d + 1) f (a :: l) = some r) : ∃ e f1 es f2, grow find resolve d f a = some (e, f1) ∧ grows find resolve d f1 l = some (es, f2) ∧ r = (e :: es, f2) := by
  rw [grows] at h
  obtain ⟨⟨e, f1⟩, h1, h2⟩ := Option.bind_eq_some_iff.1 h
  dsimp only at h2
  obtain ⟨⟨es, f2⟩, h3, h4⟩ := Option.bind_eq_some_iff.1 h2
  exact ⟨e, f1, es, f2, h1, h3, (Option.some.inj h4).symm⟩
structure GwL (find : Name → Fx) (resolve : List Fx → List (Nat × Nat) × Nat × Int) (F : World → Prop) (N pb B E : Nat) (fv : Value) (p0 : Pp) (L : List Lt) (es : List Ex) (f' : Ft) (w : World) (D k : Nat) (wr : World) (sv : Value) (es1 : List Ex) (vs : List Value) (fk : Ft) : Prop where
  run : ∃ d es2, d ≤ D ∧ grows find resolve d fk (L.drop k) = some (es2, f') ∧ es = es1 ++ es2
  own : OwnE EIt.ex TEx 9 w.heap.size (Zn B E w.heap.size) wr sv es1 vs
  len : es1.length = k
  le : k ≤ L.length
  ps : PS N wr pb (pf p0 fk) fv
  kp : KP pb w wr
  hf : F wr
set_option maxRecDepth 100000 in
set_option maxHeartbeats 8000000 in
theorem grown_any {find : Name → Fx} {resolve : List Fx → List (Nat × Nat) × Nat × Int} {F : World → Prop} {N pb B E d : Nat} {fv sv : Value} {p0 : Pp} {L : List Lt} {es : List Ex} {f f' : Ft} {C : Nat → List Value} (w : World)
    (hF : ∀ w w', F w → KP pb w w' → F w') (ih : ∀ d', d' < d → GrowC find resolve F N pb B E fv p0 d') (hg : grows find resolve d f L = some (es, f'))
    (hrow : RowZ (fun b => B ≤ b ∧ b < E) w sv L.length 1 C) (hel : ∀ i t, L[i]? = some t → R pb (fun b => B ≤ b ∧ b < E) w (.lt t) (C i)) (hps : PS N w pb (pf p0 f) fv) (hf : F w) (hpB : pb < B) (hNB : N ≤ B) (hBw : B ≤ E) (hEw : E ≤ w.heap.size) (hlen : L.length ≤ 100000001) :
    Calls Tryz.prog 133 #[sv] w (GrownPost EIt.ex 9 N pb B E fv es (pf p0 f') w) := by
  obtain ⟨i0, hi0, hi1, hi2, hi3⟩ := info_parts Tex
  have hrow' := hrow
  obtain ⟨a0, c0, rfl, hc0, hrd⟩ := hrow
  have HRD := Lib.hid hrow'
  have HEL := Lib.hid hel
  have HIH := Lib.hid ih
  have HFF := Lib.hid hF
  have HPB := Lib.hid hpB
  have HNB := Lib.hid hNB
  have HBW := Lib.hid hBw
  have HEW := Lib.hid hEw
  have HLN := Lib.hid hlen
  have HF0 := Lib.hid hf
  have HNW := Lib.hid hps.size
  have HST := Lib.hid (GwL.mk (L := L) (es := es) (w := w) (D := d) (es1 := []) ⟨d, es, Nat.le_refl _, hg, rfl⟩ (OwnE.nil w.heap.size (Zn B E w.heap.size) w) rfl (Nat.zero_le _) hps (Kept.refl (fun b => b = pb) w) hf)
  clear hrow' hrd hel ih hF hpB hNB hBw hEw hlen hg hps hf
  go_enter Tryz.func133, Tryz.ntmps133
  go_wp2_with fail
  go_loopg [3, 8] L.length (fun dd v3 v8 wr => ∃ (k : Nat) (es1 : List Ex) (vs : List Value) (fk : Ft), k + dd = L.length ∧ v8 = .int .i64 k ∧ GwL find resolve F N pb B E fv p0 L es f' w d k wr v3 es1 vs fk)
  case atStart => exact ⟨0, _, _, _, by omega, rfl, HST.out⟩
  case round =>
    obtain ⟨k, es1, vs, fk, hk, rfl, hI⟩ := hrel
    obtain ⟨a5, c5, rfl⟩ := hI.own.slice
    have HI := Lib.hid hI
    have HK := Lib.hid hk
    have hkle : k ≤ L.length := by omega
    have hll := HLN.out
    by_cases hlt : k < L.length
    · have hlt' : (k : Int) < L.length := by omega
      obtain ⟨d2, es2, hd2, hg2, heq⟩ := hI.run
      rw [List.drop_eq_getElem_cons hlt] at hg2
      obtain ⟨d3, rfl⟩ : ∃ d3, d2 = d3 + 1 := by
        cases d2 with
        | zero => simp [grows] at hg2
        | succ d3 => exact ⟨d3, rfl⟩
      obtain ⟨e, f1, es3, f2, k1, k2, k3⟩ := grows_cons hg2
      have hrk := HEL.out k L[k] (List.getElem?_eq_getElem hlt)
      obtain ⟨vk, hvk, _⟩ := hrk.one_lt
      rw [hvk] at hrk
      have hrk' := hrk.kept hI.kp (fun b hz hx _ => by have hx : b = pb := hx; have := HPB.out; have := hz.1; omega)
      obtain ⟨kf, cap, rfl, egk, hcall⟩ := HIH.out d3 (by omega) L[k] fk vk wr e f1 k1 hrk' hI.ps hI.hf (Nat.le_trans HEW.out hI.kp.size)
      have HCALL := Lib.hid hcall
      have eg2 : ∀ args w, (callFunc kf args).run Tryz.prog w = .ok (.enter kf args) w := egk
      have HK2 := Lib.hid (show grows find resolve d3 f1 (L.drop (k + 1)) = some (es3, f2) from k2)
      have HK3 := Lib.hid (show es = es1 ++ (e :: es3) ∧ f' = f2 ∧ d3 ≤ d from by
        injection k3 with q1 q2
        exact ⟨by rw [heq, q1], q2, by omega⟩)
      have hrow2 := (HRD.out.frame hI.kp.size (fun b hz hl => hI.kp.block b hl fun x => by have x : b = pb := x; have := HPB.out; have := hz.1; omega) (fun b hz _ => hz) : RowZ (fun b => B ≤ b ∧ b < E) wr (.slice a0 L.length c0) L.length 1 C)
      obtain ⟨aa, cc, hq, _, hrd2⟩ := hrow2
      injection hq with hq1 hq2 hq3
      subst hq1 hq3
      obtain ⟨g, rfl, hgz, hgl, hcell⟩ := hrd2 k hlt
      have x0 := hcell 0 _ (by rw [hvk]; rfl)
      rw [Nat.mul_one, Nat.add_zero] at x0
      clear hI hk hd2 hg2 heq k1 k2 k3 hrk hrk' hvk hcall hrd2 hcell
      go_wp2_with fail
      refine HCALL.out.mono ?_
      rintro e' w5 ⟨kd, nm, n, a1, n1, c1, a2, n2, c2, a3, n3, c3, a4, n4, c4, ln, col, rfl, hx5, hp5, hk5⟩
      have HX5 := Lib.hid hx5
      have HP5 := Lib.hid hp5
      have HK5 := Lib.hid hk5
      have HO5 := Lib.hid (HI.out.own.kept hk5 (fun b e _ => by have e : b = pb := e; have := HPB.out; have := HBW.out; have := HEW.out; exact ⟨by omega, fun q => by have := q.1; omega⟩))
      have hsB : w.heap.size ≤ w5.heap.size := Nat.le_trans HI.out.kp.size hk5.size
      clear hx5 hp5 hk5
      obtain ⟨ho5, _⟩ := id HO5.out
      have HW5 := Lib.hid ho5
      have hesl := HI.out.len
      have HESL := Lib.hid hesl
      have hbk : es1.length + 1 ≤ 100000001 := by omega
      clear ho5 hesl
      go_wp2_with (at_builtin; refine wpList_append_own_at _ rfl _ _ TExs rfl w.heap.size TEx i0 _ 9 144 Tryz.underlying28 hi0 hi1 hi2 hi3 rfl (by decide) _ _ _ rfl (HW5.out.alloc _) ⟨w5.heap.size, 0, none⟩ 1 1 [.int .i64 kd, .string (toB nm), .int .i64 n, .slice a1 n1 c1, .slice a2 n2 c2, .slice a3 n3 c3, .slice a4 n4 c4, .int .i64 ln, .int .i64 col] rfl rfl (news_new w5 (exV kd nm n a1 n1 c1 a2 n2 c2 a3 n3 c3 a4 n4 c4 ln col) TEx) (fun u hu => by simp only [List.mem_cons, List.not_mem_nil, or_false] at hu; rcases hu with rfl | rfl | rfl | rfl | rfl | rfl | rfl | rfl | rfl <;> rfl) (by unfold maxLen; omega) (by omega) (by simp; omega) ?_)
      intro v7 w7 hown hgrow _ hat
      have HO7 := Lib.hid (OwnE.more (t := e) (new := [.int .i64 kd, .string (toB nm), .int .i64 n, .slice a1 n1 c1, .slice a2 n2 c2, .slice a3 n3 c3, .slice a4 n4 c4, .int .i64 ln, .int .i64 col]) HO5.out rfl (HX5.out.ev.mono fun b hz _ => ⟨⟨hz.1, hz.2.imp id fun q => Nat.le_trans HI.out.kp.size q⟩, fun q => by have := HI.out.own.own.lt b q; have := HEW.out; rcases hz.2 with z | z <;> omega⟩) hown hgrow (by rwa [World.size_alloc]))
      have HK7 := Lib.hid (((Kept.refl (fun b => (Value.slice a5 es1.length c5).ownBlock = some b) w5).alloc (.cells (exV kd nm n a1 n1 c1 a2 n2 c2 a3 n3 c3 a4 n4 c4 ln col) TEx)).grown hgrow (fun k hk _ => hk))
      obtain ⟨a7, c7, rfl⟩ := own_slice hown
      clear hown hgrow hat
      go_wp2_with fail
      go_roundg (L.length - (k + 1))
      case measure => have := HK.out; omega
      case rel =>
        have hge : ∀ b, (Value.slice a5 es1.length c5).ownBlock = some b → w.heap.size ≤ b := fun b e => (HI.out.own.own.lt b e).1
        have hkp7 : KP pb w w7 := kept_new (HI.out.kp.trans HK5.out) HK7.out (fun b e q => by have := hge b e; omega)
        have h3 := HK3.out
        refine ⟨k + 1, es1 ++ [e], _, f1, by have := HK.out; omega, by go_num, ⟨⟨d3, es3, h3.2.2, by rw [h3.2.1]; exact HK2.out, by rw [h3.1, List.append_assoc]; rfl⟩, HO7.out, by rw [List.length_append, List.length_singleton, HESL.out], by omega, HP5.out.frame HK7.out (fun b e => Nat.le_trans HNW.out (hge b e)), hkp7, HFF.out _ _ HF0.out hkp7⟩⟩
    · have hge : ¬ (k : Int) < L.length := by omega
      obtain ⟨d2, es2, hd2, hg2, heq⟩ := hI.run
      rw [List.drop_eq_nil_of_le (by omega)] at hg2
      have hend : es = es1 ∧ f' = fk := by
        cases d2 with
        | zero => simp [grows] at hg2
        | succ d3 =>
          rw [grows] at hg2
          have := Option.some.inj hg2
          injection this with q1 q2
          exact ⟨by rw [heq, ← q1, List.append_nil], q2.symm⟩
      have HEND := Lib.hid hend
      clear hI hk hd2 hg2 heq hend
      go_wp2_with fail
      go_ret
      rw [HEND.out.1, HEND.out.2]
      exact ⟨a5, c5, _, rfl, HI.out.own.rowz (fun b hb => ⟨by have := HBW.out; have := HEW.out; omega, .inr hb⟩), fun i t ht => HI.out.own.ev ht, HI.out.ps, HI.out.kp⟩
end Go.Proofs.YtdajihpfedbihaaGreat.Pa
/-
  CONTRACTS of layer parse: a choice is made; a function without a name.
-/
namespace Go.Proofs.YtdajihpfedbihaaGreat.Pa
open Go.RowKit Mm Tm Pm
set_option linter.unusedVariables false
set_option linter.unusedSimpArgs false
abbrev zEx : Obj := .cells #[.int .i64 0, .string ByteArray.empty, .int .i64 0, .slice none 0 0, .slice none 0 0, .slice none 0 0, .slice none 0 0, .int .i64 0, .int .i64 0] TEx
theorem zbex (w : World) : Box (w.alloc zEx) w.heap.size TEx #[.int .i64 0, .string ByteArray.empty, .int .i64 0, .slice none 0 0, .slice none 0 0, .slice none 0 0, .slice none 0 0, .int .i64 0, .int .i64 0] := Box.new w _ _
theorem Cap.kp {B E pb : Nat} {w w' : World} {b : Nat} {t : TypeId} {cs : Array Value} (h : Cap (fun b => B ≤ b ∧ b < E) w b t cs) (hk : KP pb w w') (hp : pb < B) : Cap (fun b => B ≤ b ∧ b < E) w' b t cs :=
  h.frame (fun b hz hl => hk.block b hl fun e => by have e : b = pb := e; have := hz.1; omega) fun b hz _ => hz
theorem R.kp {B E pb : Nat} {w w' : World} {it : Item} {vs : List Value} (h : R pb (fun b => B ≤ b ∧ b < E) w it vs) (hk : KP pb w w') (hp : pb < B) : R pb (fun b => B ≤ b ∧ b < E) w' it vs := h.kept hk fun b hz hx _ => by have hx : b = pb := hx; have := hz.1; omega
theorem RowZ.kp {B E pb : Nat} {w w' : World} {v : Value} {n k : Nat} {C : Nat → List Value} (h : RowZ (fun b => B ≤ b ∧ b < E) w v n k C) (hk : KP pb w w') (hp : pb < B) : RowZ (fun b => B ≤ b ∧ b < E) w' v n k C :=
  h.frame hk.size (fun b hz hl => hk.block b hl fun e => by have e : b = pb := e; have := hz.1; omega) fun b hz _ => hz
/-- behind a call, the result's own box written: what was made stays -/
theorem EV.boxed {B E S : Nat} {w V : World} {it : EIt} {vs : List Value} (h : EV (Zn B E (S + 1)) w it vs) (hw : Wrote w V S) (hE : E ≤ S) : EV (Zn B E S) V it vs :=
  h.frame (by rw [hw.size]; exact Nat.le_refl _) (fun b hz hl => hw.block b (fun e => by rcases hz.2 with z | z <;> omega)) fun b hz _ => ⟨hz.1, hz.2.imp id fun z => by omega⟩
theorem RowZ.boxed {B E S : Nat} {w V : World} {v : Value} {n k : Nat} {C : Nat → List Value} (h : RowZ (Zn B E (S + 1)) w v n k C) (hw : Wrote w V S) (hE : E ≤ S) : RowZ (Zn B E S) V v n k C :=
  h.frame (by rw [hw.size]; exact Nat.le_refl _) (fun b hz hl => hw.block b (fun e => by rcases hz.2 with z | z <;> omega)) fun b hz _ => ⟨hz.1, hz.2.imp id fun z => by omega⟩
section
variable {find : Name → Fx} {resolve : List Fx → List (Nat × Nat) × Nat × Int} {F : World → Prop} {N pb B E d : Nat} {fv : Value} {p0 : Pp}
set_option maxRecDepth 100000 in
set_option maxHeartbeats 8000000 in
theorem choice1_any {L : List Lt} {es : List Ex} {f f' : Ft} {ln col : Int} {bs ba : Nat} {sp : Value} {C : Nat → List Value} (w : World)
    (hF : ∀ w w', F w → KP pb w w' → F w') (ih : ∀ d', d' < d → GrowC find resolve F N pb B E fv p0 d') (hg : grows find resolve d f L = some (es, f'))
    (hbs : Cap (fun b => B ≤ b ∧ b < E) w bs TFEs #[sp]) (hba : Cap (fun b => B ≤ b ∧ b < E) w ba TPos #[.int .i64 ln, .int .i64 col]) (hrow : RowZ (fun b => B ≤ b ∧ b < E) w sp L.length 1 C) (hel : ∀ i t, L[i]? = some t → R pb (fun b => B ≤ b ∧ b < E) w (.lt t) (C i))
    (hps : PS N w pb (pf p0 f) fv) (hf : F w) (hpB : pb < B) (hNB : N ≤ B) (hBE : B ≤ E) (hEw : E ≤ w.heap.size) (hlen : L.length ≤ 100000001) :
    Calls Tryz.prog 146 #[ptr bs, ptr ba] w (ExPost N pb B E fv (.mk 8 [] 0 [] es [] [] ln col) (pf p0 f') w) := by
  have hk0 : KP pb w (w.alloc zEx).drew := ((Kept.refl (fun b => b = pb) w).alloc zEx).drew
  have hz0 : (w.alloc zEx).heap.size = w.heap.size + 1 := by simp
  have HG := Lib.hid (grown_any (w.alloc zEx).drew hF ih hg (hrow.kp hk0 hpB) (fun i t ht => (hel i t ht).kp hk0 hpB) (hps.below (((Below.refl w.heap.size w).alloc (Nat.le_refl _) zEx).drew)) (hF _ _ hf hk0) hpB hNB hBE (by show E ≤ (w.alloc zEx).heap.size; omega) hlen)
  have HBS := Lib.hid (hbs.kp hk0 hpB)
  have HBA := Lib.hid (hba.kp hk0 hpB)
  have HX0 := Lib.hid (zbex w)
  have HPB := Lib.hid hpB
  have HBE := Lib.hid hBE
  have HEW := Lib.hid hEw
  have HNW := Lib.hid hps.size
  have HK0 := Lib.hid hk0
  obtain ⟨ap, cp, rfl, _⟩ := hrow
  have x0 := hbs.2.cell 0
  have x1 := hba.2.cell 0
  have x2 := hba.2.cell 1
  have l1 := hbs.2.lt
  have l2 := hba.2.lt
  have HNE := Lib.hid (show w.heap.size ≠ pb by omega)
  clear hF ih hg hbs hba hel hps hf hpB hNB hBE hEw hlen hk0
  go_enter Tryz.func146, Tryz.ntmps146
  go_wp2_with fail
  have y0 : (w.alloc zEx).drew.cell? ⟨bs, 0, none⟩ = some (.slice ap L.length cp) := HBS.out.2.cell 0
  have y1 : (w.alloc zEx).drew.cell? ⟨ba, 0, none⟩ = some (.int .i64 ln) := HBA.out.2.cell 0
  have y2 : (w.alloc zEx).drew.cell? ⟨ba, 1, none⟩ = some (.int .i64 col) := HBA.out.2.cell 1
  go_region_held3 (fun w' => w'.cell? ⟨bs, 0, none⟩ = some (.slice ap L.length cp) ∧ w'.cell? ⟨ba, 0, none⟩ = some (.int .i64 ln) ∧ w'.cell? ⟨ba, 1, none⟩ = some (.int .i64 col))
    (first
      | exact ⟨y0, y1, y2⟩
      | exact ⟨m0, m1, m2⟩
      | (rw [hV]; exact ⟨o0, o1, o2⟩)
      | exact ⟨o0, o1, o2⟩)
    (first
      | (go_at_call 133; refine HG.out.mono ?_; rintro e w3 ⟨a3, c3, C3, rfl, hr3, he3, hp3, hk3⟩; have hbs3 := HBS.out.kp hk3 HPB.out; have hba3 := HBA.out.kp hk3 HPB.out; have m0 := hbs3.2.cell 0; have m1 := hba3.2.cell 0; have m2 := hba3.2.cell 1; have hx3 := hk3.box HX0.out.drew HNE.out; obtain ⟨z0, z1, z2, z3, z4, z5, z6, z7, z8⟩ := cells9 hx3; obtain ⟨f0, f1, f2, f3, f4, f5, f6, f7, f8⟩ := free9' hx3; obtain ⟨V, hV, hvb, hvw⟩ := hx3.write9 (.int .i64 8) (.string ⟨#[]⟩) (.int .i64 0) (.slice none 0 0) (.slice a3 es.length c3) (.slice none 0 0) (.slice none 0 0) (.int .i64 ln) (.int .i64 col); have hbs4 := hbs3.2.wrote hvw (by have := hbs3.1.2; have := HEW.out; omega); have hba4 := hba3.2.wrote hvw (by have := hba3.1.2; have := HEW.out; omega); have o0 := hbs4.cell 0; have o1 := hba4.cell 0; have o2 := hba4.cell 1; have HR3 := Lib.hid hr3; have HE3 := Lib.hid he3; have HP3 := Lib.hid hp3; have HK3 := Lib.hid hk3; have HVB := Lib.hid hvb; have HVW := Lib.hid hvw; clear hr3 he3 hp3 hk3 hbs3 hba3 hx3 hbs4 hba4 hvb hvw))
  go_wp2_with fail
  obtain ⟨v0, v1, v2, v3, v4, v5, v6, v7, v8⟩ := cells9 HVB.out
  refine bodyPost_ret (v := .agg (exV 8 [] 0 none 0 0 a3 es.length c3 none 0 0 none 0 0 ln col)) (by simp [results, Tryz.results146, go_sem, toB_nil, v0, v1, v2, v3, v4, v5, v6, v7, v8]) rfl ?_
  have hE := HEW.out
  have hk : KP pb w V := kept_wrote (HK0.out.trans HK3.out) HVW.out (fun q => absurd q (Nat.lt_irrefl _))
  have hs : (w.alloc zEx).drew.heap.size = w.heap.size + 1 := by show (w.alloc zEx).heap.size = _; simp
  have hr := HR3.out
  have he := HE3.out
  rw [hs] at hr he
  exact ⟨8, [], 0, none, 0, 0, a3, es.length, c3, none, 0, 0, none, 0, 0, ln, col, rfl, ⟨.ex (Cl := fun _ => []) (Cb := fun _ => []) (RowZ.nil _ _ _ _) (hr.boxed HVW.out hE) (RowZ.nil _ _ _ _) (RowZ.nil _ _ _ _) (fun i e h => (he i e h).boxed HVW.out hE) (fun i e h => by simp at h) (fun i e h => by simp at h), rfl⟩, HP3.out.frame (X := fun b => b = w.heap.size) (kept_wrote (Kept.refl (fun b => b = w.heap.size) _) HVW.out fun _ => rfl) (fun b e => by have := HNW.out; omega), hk⟩
end
end Go.Proofs.YtdajihpfedbihaaGreat.Pa
/-
  CONTRACTS of layer parse: a function without a name is made; bodies.
-/
namespace Go.Proofs.YtdajihpfedbihaaGreat.Pa
open Go.RowKit Mm Tm Pm
set_option linter.unusedVariables false
set_option linter.unusedSimpArgs false
/-- what lies in the closures' blocks is among what may be -/
theorem RowZ.zn {B E S : Nat} {w V : World} {v : Value} {n k : Nat} {C : Nat → List Value} {X : Nat → Prop} (h : RowZ (fun b => B ≤ b ∧ b < E) w v n k C) (hk : Kept X w V) (hX : ∀ b, X b → B ≤ b → b < E → False) : RowZ (Zn B E S) V v n k C :=
  h.frame hk.size (fun b hz hl => hk.block b hl fun e => hX b e hz.1 hz.2) fun b hz _ => ⟨hz.1, .inl hz.2⟩
section
variable {find : Name → Fx} {resolve : List Fx → List (Nat × Nat) × Nat × Int} {F : World → Prop} {N pb B E d : Nat} {fv : Value} {p0 : Pp}
set_option maxRecDepth 100000 in
set_option maxHeartbeats 8000000 in
theorem lambda1_any {ps : List (List UInt8)} {b : Lt} {e : Ex} {f f' : Ft} {ln col : Int} {bs bb ba : Nat} {sp vb : Value} (w : World)
    (hF : ∀ w w', F w → KP pb w w' → F w') (ih : GrowC find resolve F N pb B E fv p0 d) (hg : grow find resolve d f b = some (e, f'))
    (hbs : Cap (fun b => B ≤ b ∧ b < E) w bs TStrs #[sp]) (hbb : Cap (fun b => B ≤ b ∧ b < E) w bb TFE #[vb]) (hba : Cap (fun b => B ≤ b ∧ b < E) w ba TPos #[.int .i64 ln, .int .i64 col]) (hrow : RowBs (fun b => B ≤ b ∧ b < E) w sp ps) (hel : R pb (fun b => B ≤ b ∧ b < E) w (.lt b) [vb])
    (hps : PS N w pb (pf p0 f) fv) (hf : F w) (hpB : pb < B) (hNB : N ≤ B) (hBE : B ≤ E) (hEw : E ≤ w.heap.size) :
    Calls Tryz.prog 142 #[ptr bs, ptr bb, ptr ba] w (ExPost N pb B E fv (.mk 5 [] 0 ps [e] [] [] ln col) (pf p0 f') w) := by
  have hk0 : KP pb w (w.alloc zEx).drew := ((Kept.refl (fun b => b = pb) w).alloc zEx).drew
  have hz0 : (w.alloc zEx).heap.size = w.heap.size + 1 := by simp
  obtain ⟨kf, cap, rfl, egk, hcall⟩ := ih b f vb (w.alloc zEx).drew e f' hg (hel.kp hk0 hpB) (hps.below (((Below.refl w.heap.size w).alloc (Nat.le_refl _) zEx).drew)) (hF _ _ hf hk0) (by show E ≤ (w.alloc zEx).heap.size; omega)
  have HG := Lib.hid hcall
  have eg2 : ∀ args w, (callFunc kf args).run Tryz.prog w = .ok (.enter kf args) w := egk
  have HBS := Lib.hid (hbs.kp hk0 hpB)
  have HBB := Lib.hid (hbb.kp hk0 hpB)
  have HBA := Lib.hid (hba.kp hk0 hpB)
  have HX0 := Lib.hid (zbex w)
  have HPB := Lib.hid hpB
  have HBE := Lib.hid hBE
  have HEW := Lib.hid hEw
  have HNW := Lib.hid hps.size
  have HK0 := Lib.hid hk0
  have HRW := Lib.hid hrow
  obtain ⟨ap, cp, rfl, _⟩ := hrow
  have HNE := Lib.hid (show w.heap.size ≠ pb by omega)
  have y0 : (w.alloc zEx).drew.cell? ⟨bs, 0, none⟩ = some (.slice ap ps.length cp) := HBS.out.2.cell 0
  have y3 : (w.alloc zEx).drew.cell? ⟨bb, 0, none⟩ = some (.func (.func kf) #[] cap) := HBB.out.2.cell 0
  have y1 : (w.alloc zEx).drew.cell? ⟨ba, 0, none⟩ = some (.int .i64 ln) := HBA.out.2.cell 0
  have y2 : (w.alloc zEx).drew.cell? ⟨ba, 1, none⟩ = some (.int .i64 col) := HBA.out.2.cell 1
  clear hF ih hg hbs hbb hba hel hps hf hpB hNB hBE hEw hk0 hcall egk
  go_enter Tryz.func142, Tryz.ntmps142
  go_wp2_with fail
  go_region_held3 (fun w' => w'.cell? ⟨bs, 0, none⟩ = some (.slice ap ps.length cp) ∧ w'.cell? ⟨bb, 0, none⟩ = some (.func (.func kf) #[] cap) ∧ w'.cell? ⟨ba, 0, none⟩ = some (.int .i64 ln) ∧ w'.cell? ⟨ba, 1, none⟩ = some (.int .i64 col))
    (first
      | exact ⟨y0, y3, y1, y2⟩
      | exact ⟨m0, m3, m1, m2⟩
      | exact ⟨n0, n3, n1, n2⟩
      | (rw [hV]; exact ⟨o0, o3, o1, o2⟩)
      | exact ⟨o0, o3, o1, o2⟩)
    (first
      | (go_at_fn kf; refine HG.out.mono ?_; rintro e' w3 ⟨kd, nm, n, a1, n1', c1, a2, n2', c2, a3, n3', c3, a4, n4, c4, ln', col', rfl, hx, hp3, hk3⟩; have hbs3 := HBS.out.kp hk3 HPB.out; have hbb3 := HBB.out.kp hk3 HPB.out; have hba3 := HBA.out.kp hk3 HPB.out; have m0 := hbs3.2.cell 0; have m3 := hbb3.2.cell 0; have m1 := hba3.2.cell 0; have m2 := hba3.2.cell 1; have hx3 := hk3.box HX0.out.drew HNE.out; have hbs4 := hbs3.2.alloc (.cells (exV kd nm n a1 n1' c1 a2 n2' c2 a3 n3' c3 a4 n4 c4 ln' col') TEx); have hbb4 := hbb3.2.alloc (.cells (exV kd nm n a1 n1' c1 a2 n2' c2 a3 n3' c3 a4 n4 c4 ln' col') TEx); have hba4 := hba3.2.alloc (.cells (exV kd nm n a1 n1' c1 a2 n2' c2 a3 n3' c3 a4 n4 c4 ln' col') TEx); have hx4 := hx3.alloc (.cells (exV kd nm n a1 n1' c1 a2 n2' c2 a3 n3' c3 a4 n4 c4 ln' col') TEx); have n0 := hbs4.cell 0; have n3 := hbb4.cell 0; have n1 := hba4.cell 0; have n2 := hba4.cell 1; obtain ⟨z0, z1, z2, z3, z4, z5, z6, z7, z8⟩ := cells9 hx4; obtain ⟨f0, f1, f2, f3, f4, f5, f6, f7, f8⟩ := free9' hx4; obtain ⟨V, hV, hvb, hvw⟩ := hx4.write9 (.int .i64 5) (.string ⟨#[]⟩) (.int .i64 0) (.slice ap ps.length cp) (.slice (some ⟨w3.heap.size, 0, none⟩) 1 1) (.slice none 0 0) (.slice none 0 0) (.int .i64 ln) (.int .i64 col); have hbs5 := hbs4.wrote hvw (by have := hbs3.1.2; have := HEW.out; omega); have hbb5 := hbb4.wrote hvw (by have := hbb3.1.2; have := HEW.out; omega); have hba5 := hba4.wrote hvw (by have := hba3.1.2; have := HEW.out; omega); have o0 := hbs5.cell 0; have o3 := hbb5.cell 0; have o1 := hba5.cell 0; have o2 := hba5.cell 1; have HX := Lib.hid hx; have HP3 := Lib.hid hp3; have HK3 := Lib.hid hk3; have HVB := Lib.hid hvb; have HVW := Lib.hid hvw; clear hx hp3 hk3 hbs3 hbb3 hba3 hx3 hbs4 hbb4 hba4 hx4 hbs5 hbb5 hba5 hvb hvw))
  go_wp2_with fail
  obtain ⟨v0, v1, v2, v3, v4, v5, v6, v7, v8⟩ := cells9 HVB.out
  refine bodyPost_ret (v := .agg (exV 5 [] 0 ap ps.length cp (some ⟨w3.heap.size, 0, none⟩) 1 1 none 0 0 none 0 0 ln col)) (by simp [results, Tryz.results142, go_sem, toB_nil, v0, v1, v2, v3, v4, v5, v6, v7, v8]) rfl ?_
  have hE := HEW.out
  have hpb := HPB.out
  have hbe := HBE.out
  have hk3V : Kept (fun b => b = w.heap.size) w3 V := kept_wrote ((Kept.refl (fun b => b = w.heap.size) w3).alloc _) HVW.out fun _ => rfl
  have hk : KP pb w V := kept_new (HK0.out.trans HK3.out) hk3V (fun b e q => by omega)
  have hs : (w.alloc zEx).drew.heap.size = w.heap.size + 1 := by show (w.alloc zEx).heap.size = _; simp
  have hs3 : w.heap.size + 1 ≤ w3.heap.size := by have := HK3.out.size; rwa [hs] at this
  have hb : Box V w3.heap.size TEx [.int .i64 kd, .string (toB nm), .int .i64 n, .slice a1 n1' c1, .slice a2 n2' c2, .slice a3 n3' c3, .slice a4 n4 c4, .int .i64 ln', .int .i64 col'].toArray := (Box.new w3 _ _).wrote HVW.out (by omega)
  have hx := HX.out.ev
  rw [hs] at hx
  have hx' : EV (Zn B E w.heap.size) V (.ex e) _ := hx.frame hk3V.size (fun b hz hl => hk3V.block b hl fun e => by rcases hz.2 with z | z <;> omega) fun b hz _ => ⟨hz.1, hz.2.imp id fun z => by omega⟩
  refine ⟨5, [], 0, ap, ps.length, cp, some ⟨w3.heap.size, 0, none⟩, 1, 1, none, 0, 0, none, 0, 0, ln, col, rfl, ⟨.ex (Cl := fun _ => []) (Cb := fun _ => []) (RowZ.zn HRW.out hk (fun b e q1 q2 => by omega)) (RowZ.mk hb ⟨by omega, .inr (by omega)⟩ rfl) (RowZ.nil _ _ _ _) (RowZ.nil _ _ _ _) (fun i e' h => ?_) (fun i e h => by simp at h) (fun i e h => by simp at h), rfl⟩, HP3.out.frame hk3V (fun b e => by have := HNW.out; omega), hk⟩
  cases i with
  | zero =>
    simp at h
    subst h
    exact hx'
  | succ i => simp at h
end
end Go.Proofs.YtdajihpfedbihaaGreat.Pa
/-
  CONTRACTS of layer parse: a right-hand side is made (bodies$1, bodies$2).
-/
namespace Go.Proofs.YtdajihpfedbihaaGreat.Pa
open Go.RowKit Mm Tm Pm
set_option linter.unusedVariables false
set_option linter.unusedSimpArgs false
theorem cells10 {w : World} {g : Nat} {t : TypeId} {a0 a1 a2 a3 a4 a5 a6 a7 a8 a9 : Value} (h : Box w g t #[a0, a1, a2, a3, a4, a5, a6, a7, a8, a9]) : w.cell? ⟨g, 0, none⟩ = some a0 ∧ w.cell? ⟨g, 1, none⟩ = some a1 ∧ w.cell? ⟨g, 2, none⟩ = some a2 ∧ w.cell? ⟨g, 3, none⟩ = some a3 ∧ w.cell? ⟨g, 4, none⟩ = some a4 ∧ w.cell? ⟨g, 5, none⟩ = some a5 ∧ w.cell? ⟨g, 6, none⟩ = some a6 ∧ w.cell? ⟨g, 7, none⟩ = some a7 ∧ w.cell? ⟨g, 8, none⟩ = some a8 ∧ w.cell? ⟨g, 9, none⟩ = some a9 :=
  ⟨h.cell 0, h.cell 1, h.cell 2, h.cell 3, h.cell 4, h.cell 5, h.cell 6, h.cell 7, h.cell 8, h.cell 9⟩
theorem free10 {w : World} {g : Nat} {t : TypeId} {a0 a1 a2 a3 a4 a5 a6 a7 a8 a9 : Value} (h : Box w g t #[a0, a1, a2, a3, a4, a5, a6, a7, a8, a9]) : w.frozen? ⟨g, 0, none⟩ = false ∧ w.frozen? ⟨g, 1, none⟩ = false ∧ w.frozen? ⟨g, 2, none⟩ = false ∧ w.frozen? ⟨g, 3, none⟩ = false ∧ w.frozen? ⟨g, 4, none⟩ = false ∧ w.frozen? ⟨g, 5, none⟩ = false ∧ w.frozen? ⟨g, 6, none⟩ = false ∧ w.frozen? ⟨g, 7, none⟩ = false ∧ w.frozen? ⟨g, 8, none⟩ = false ∧ w.frozen? ⟨g, 9, none⟩ = false :=
  ⟨h.free 0, h.free 1, h.free 2, h.free 3, h.free 4, h.free 5, h.free 6, h.free 7, h.free 8, h.free 9⟩
theorem write10 {w : World} {g : Nat} {t : TypeId} {a0 a1 a2 a3 a4 a5 a6 a7 a8 a9 : Value} (h : Box w g t #[a0, a1, a2, a3, a4, a5, a6, a7, a8, a9]) (v0 v1 v2 v3 v4 v5 v6 v7 v8 v9 : Value) : ∃ W, ((((((((((w.setCell ⟨g, 0, none⟩ v0).setCell ⟨g, 1, none⟩ v1).setCell ⟨g, 2, none⟩ v2).setCell ⟨g, 3, none⟩ v3).setCell ⟨g, 4, none⟩ v4).setCell ⟨g, 5, none⟩ v5).setCell ⟨g, 6, none⟩ v6).setCell ⟨g, 7, none⟩ v7).setCell ⟨g, 8, none⟩ v8).setCell ⟨g, 9, none⟩ v9) = W ∧ Box W g t #[v0, v1, v2, v3, v4, v5, v6, v7, v8, v9] ∧ Wrote w W g := by
  have h0 : Box _ g t #[v0, a1, a2, a3, a4, a5, a6, a7, a8, a9] := h.put 0 v0
  have h1 : Box _ g t #[v0, v1, a2, a3, a4, a5, a6, a7, a8, a9] := h0.put 1 v1
  have h2 : Box _ g t #[v0, v1, v2, a3, a4, a5, a6, a7, a8, a9] := h1.put 2 v2
  have h3 : Box _ g t #[v0, v1, v2, v3, a4, a5, a6, a7, a8, a9] := h2.put 3 v3
  have h4 : Box _ g t #[v0, v1, v2, v3, v4, a5, a6, a7, a8, a9] := h3.put 4 v4
  have h5 : Box _ g t #[v0, v1, v2, v3, v4, v5, a6, a7, a8, a9] := h4.put 5 v5
  have h6 : Box _ g t #[v0, v1, v2, v3, v4, v5, v6, a7, a8, a9] := h5.put 6 v6
  have h7 : Box _ g t #[v0, v1, v2, v3, v4, v5, v6, v7, a8, a9] := h6.put 7 v7
  have h8 : Box _ g t #[v0, v1, v2, v3, v4, v5, v6, v7, v8, a9] := h7.put 8 v8
  have h9 : Box _ g t #[v0, v1, v2, v3, v4, v5, v6, v7, v8, v9] := h8.put 9 v9
  exact ⟨_, rfl, h9, (((((((((((Wrote.refl w g).set 0 v0).set 1 v1).set 2 v2).set 3 v3).set 4 v4).set 5 v5).set 6 v6).set 7 v7).set 8 v8).set 9 v9)⟩
abbrev TRh : TypeId := 102
abbrev rhCells (ag : Option Addr) (ng cg : Nat) (kd : Int) (nm : List UInt8) (n : Int) (a1 : Option Addr) (n1 c1 : Nat) (a2 : Option Addr) (n2 c2 : Nat) (a3 : Option Addr) (n3 c3 : Nat) (a4 : Option Addr) (n4 c4 : Nat) (ln col : Int) : Array Value :=
  #[.slice ag ng cg, .int .i64 kd, .string (toB nm), .int .i64 n, .slice a1 n1 c1, .slice a2 n2 c2, .slice a3 n3 c3, .slice a4 n4 c4, .int .i64 ln, .int .i64 col]
abbrev zRh : Obj := .cells #[.slice none 0 0, .int .i64 0, .string ByteArray.empty, .int .i64 0, .slice none 0 0, .slice none 0 0, .slice none 0 0, .slice none 0 0, .int .i64 0, .int .i64 0] TRh
/-- a right-hand side that was made -/
def RhsPost (N pb B E : Nat) (fv : Value) (r : ExR) (p' : Pp) (w : World) (e : Ending) (w' : World) : Prop :=
  ∃ ag ng cg kd nm n a1 n1 c1 a2 n2 c2 a3 n3 c3 a4 n4 c4 ln col, e = .returned (.agg (rhCells ag ng cg kd nm n a1 n1 c1 a2 n2 c2 a3 n3 c3 a4 n4 c4 ln col)) ∧
    EV (Zn B E w.heap.size) w' (.rhs r) [.slice ag ng cg, .int .i64 kd, .string (toB nm), .int .i64 n, .slice a1 n1 c1, .slice a2 n2 c2, .slice a3 n3 c3, .slice a4 n4 c4, .int .i64 ln, .int .i64 col] ∧ PS N w' pb p' fv ∧ KP pb w w'
/-- what was made before a call, and lies in blocks of Zn, stays -/
theorem EV.zn {B E S S' : Nat} {w V : World} {it : EIt} {vs : List Value} {X : Nat → Prop} (h : EV (Zn B E S') w it vs) (hk : Kept X w V) (hX : ∀ b, X b → b < w.heap.size → Zn B E S' b → False) (hS : S ≤ S') : EV (Zn B E S) V it vs :=
  h.frame hk.size (fun b hz hl => hk.block b hl fun x => hX b x hl hz) fun b hz _ => ⟨hz.1, hz.2.imp id fun z => Nat.le_trans hS z⟩
section
variable {find : Name → Fx} {resolve : List Fx → List (Nat × Nat) × Nat × Int} {F : World → Prop} {N pb B E d : Nat} {fv : Value} {p0 : Pp}
set_option maxRecDepth 100000 in
set_option maxHeartbeats 8000000 in
theorem bodies1_any {b : Lt} {e : Ex} {f f' : Ft} {bb : Nat} {vb : Value} (w : World)
    (ih : GrowC find resolve F N pb B E fv p0 d) (hg : grow find resolve d f b = some (e, f'))
    (hbb : Cap (fun b => B ≤ b ∧ b < E) w bb TFE #[vb]) (hel : R pb (fun b => B ≤ b ∧ b < E) w (.lt b) [vb])
    (hps : PS N w pb (pf p0 f) fv) (hf : F w) (hpB : pb < B) (hNB : N ≤ B) (hBE : B ≤ E) (hEw : E ≤ w.heap.size) :
    Calls Tryz.prog 117 #[ptr bb] w (GrownPost EIt.rhs 10 N pb B E fv [.mk [] e] (pf p0 f') w) := by
  obtain ⟨kf, cap, rfl, egk, hcall⟩ := ih b f vb w e f' hg hel hps hf hEw
  have HG := Lib.hid hcall
  have eg2 : ∀ args w, (callFunc kf args).run Tryz.prog w = .ok (.enter kf args) w := egk
  have HPB := Lib.hid hpB
  have HBE := Lib.hid hBE
  have HEW := Lib.hid hEw
  have HNW := Lib.hid hps.size
  have y0 := hbb.2.cell 0
  have l0 := hbb.2.lt
  clear ih hg hbb hel hps hf hpB hNB hBE hEw hcall
  go_enter Tryz.func117, Tryz.ntmps117
  go_wp2_with fail
  refine HG.out.mono ?_
  rintro e' w3 ⟨kd, nm, n, a1, n1, c1, a2, n2, c2, a3, n3, c3, a4, n4, c4, ln, col, rfl, hx, hp3, hk3⟩
  have HX := Lib.hid hx
  have HP3 := Lib.hid hp3
  have HK3 := Lib.hid hk3
  clear hx hp3 hk3
  go_wp2_with fail
  go_ret
  have hbel : Below w3.heap.size w3 (w3.alloc (.cells (rhCells none 0 0 kd nm n a1 n1 c1 a2 n2 c2 a3 n3 c3 a4 n4 c4 ln col) TRh)) := (Below.refl _ _).alloc (Nat.le_refl _) _
  have hsz := HK3.out.size
  have hbe := HBE.out
  have hE := HEW.out
  refine ⟨some ⟨w3.heap.size, 0, none⟩, 1, _, rfl, RowZ.mk (vs := [.slice none 0 0, .int .i64 kd, .string (toB nm), .int .i64 n, .slice a1 n1 c1, .slice a2 n2 c2, .slice a3 n3 c3, .slice a4 n4 c4, .int .i64 ln, .int .i64 col]) (Box.new w3 (rhCells none 0 0 kd nm n a1 n1 c1 a2 n2 c2 a3 n3 c3 a4 n4 c4 ln col) TRh) ⟨by omega, .inr (by omega)⟩ rfl, fun i t h => ?_, HP3.out.below hbel, HK3.out.here hbel⟩
  cases i with
  | zero =>
    simp at h
    subst h
    exact .rhs (Cg := fun _ => []) (RowZ.nil _ _ _ _) (fun i e h => by simp at h) (HX.out.ev.later hbel)
  | succ i => simp at h
set_option maxRecDepth 100000 in
set_option maxHeartbeats 8000000 in
theorem bodies2_any {g b : Lt} {e x : Ex} {f f1 f' : Ft} {bg bb : Nat} {vg vb : Value} (w : World)
    (hF : ∀ w w', F w → KP pb w w' → F w') (ih : GrowC find resolve F N pb B E fv p0 d) (hg1 : grow find resolve d f g = some (e, f1)) (hg2 : grow find resolve d f1 b = some (x, f'))
    (hbg : Cap (fun b => B ≤ b ∧ b < E) w bg TFE #[vg]) (hbb : Cap (fun b => B ≤ b ∧ b < E) w bb TFE #[vb]) (hel : R pb (fun b => B ≤ b ∧ b < E) w (.lt g) [vg]) (hel2 : R pb (fun b => B ≤ b ∧ b < E) w (.lt b) [vb])
    (hps : PS N w pb (pf p0 f) fv) (hf : F w) (hpB : pb < B) (hNB : N ≤ B) (hBE : B ≤ E) (hEw : E ≤ w.heap.size) :
    Calls Tryz.prog 118 #[ptr bg, ptr bb] w (RhsPost N pb B E fv (.mk [e] x) (pf p0 f') w) := by
  have hk0 : KP pb w (w.alloc zRh) := (Kept.refl (fun b => b = pb) w).alloc zRh
  have hz0 : (w.alloc zRh).heap.size = w.heap.size + 1 := by simp
  have hf0 := hF _ _ hf hk0
  obtain ⟨kf, cap, rfl, egk, hcall⟩ := ih g f vg (w.alloc zRh) e f1 hg1 (hel.kp hk0 hpB) (hps.below ((Below.refl w.heap.size w).alloc (Nat.le_refl _) zRh)) hf0 (by omega)
  have HG := Lib.hid hcall
  have eg2 : ∀ args w, (callFunc kf args).run Tryz.prog w = .ok (.enter kf args) w := egk
  have HBG := Lib.hid (hbg.kp hk0 hpB)
  have HBB := Lib.hid (hbb.kp hk0 hpB)
  have HEL := Lib.hid (hel2.kp hk0 hpB)
  have HIH := Lib.hid ih
  have HFF := Lib.hid hF
  have HF0 := Lib.hid hf0
  have HG2 := Lib.hid hg2
  have HX0 := Lib.hid (Box.new w #[.slice none 0 0, .int .i64 0, .string ByteArray.empty, .int .i64 0, .slice none 0 0, .slice none 0 0, .slice none 0 0, .slice none 0 0, .int .i64 0, .int .i64 0] TRh)
  have HPB := Lib.hid hpB
  have HBE := Lib.hid hBE
  have HEW := Lib.hid hEw
  have HNW := Lib.hid hps.size
  have HK0 := Lib.hid hk0
  have HZ0 := Lib.hid hz0
  have HNE := Lib.hid (show w.heap.size ≠ pb by omega)
  have y0 := hbg.2.cell 0
  have l0 := hbg.2.lt
  clear hF ih hg1 hg2 hbg hbb hel hel2 hps hf hpB hNB hBE hEw hk0 hz0 hcall hf0
  go_enter Tryz.func118, Tryz.ntmps118
  go_wp2_with fail
  refine HG.out.mono ?_
  rintro e' w3 ⟨kd, nm, n, a1, n1, c1, a2, n2, c2, a3, n3, c3, a4, n4, c4, ln, col, rfl, hx, hp3, hk3⟩
  have hkA : KP pb (w.alloc zRh) (w3.alloc (.cells (exV kd nm n a1 n1 c1 a2 n2 c2 a3 n3 c3 a4 n4 c4 ln col) TEx)) := hk3.alloc _
  have hszA : (w3.alloc (.cells (exV kd nm n a1 n1 c1 a2 n2 c2 a3 n3 c3 a4 n4 c4 ln col) TEx)).heap.size = w3.heap.size + 1 := by simp
  have hs3 : w.heap.size + 1 ≤ w3.heap.size := by have := hk3.size; have := HZ0.out; omega
  obtain ⟨kf2, cap2, rfl, egk2, hcall2⟩ := HIH.out b f1 vb (w3.alloc (.cells (exV kd nm n a1 n1 c1 a2 n2 c2 a3 n3 c3 a4 n4 c4 ln col) TEx)) x f' HG2.out (HEL.out.kp hkA HPB.out) (hp3.below ((Below.refl _ _).alloc (Nat.le_refl _) _)) (HFF.out _ _ HF0.out hkA) (by have := HEW.out; omega)
  have HG3 := Lib.hid hcall2
  have eg3 : ∀ args w, (callFunc kf2 args).run Tryz.prog w = .ok (.enter kf2 args) w := egk2
  have y1 := (HBB.out.kp hk3 HPB.out).2.cell 0
  have l1 := (HBB.out.kp hk3 HPB.out).2.lt
  have HXA := Lib.hid ((hk3.box HX0.out HNE.out).alloc (.cells (exV kd nm n a1 n1 c1 a2 n2 c2 a3 n3 c3 a4 n4 c4 ln col) TEx))
  have HY3 := Lib.hid (Box.new w3 (exV kd nm n a1 n1 c1 a2 n2 c2 a3 n3 c3 a4 n4 c4 ln col) TEx)
  have HX := Lib.hid hx
  have HKA := Lib.hid hkA
  have HSA := Lib.hid hszA
  have HS3 := Lib.hid hs3
  clear hx hp3 hk3 hkA hszA hs3 hcall2
  go_wp2_with fail
  refine HG3.out.mono ?_
  rintro e' w5 ⟨kd5, nm5, n5, b1, m1, d1, b2, m2, d2, b3, m3, d3, b4, m4, d4, ln5, col5, rfl, hx5, hp5, hk5⟩
  have hx5' := hk5.box HXA.out HNE.out
  have hy5 := hk5.box HY3.out (by have := HS3.out; have := HEW.out; have := HPB.out; have := HBE.out; omega)
  obtain ⟨z0, z1, z2, z3, z4, z5, z6, z7, z8, z9⟩ := cells10 hx5'
  obtain ⟨q0, q1, q2, q3, q4, q5, q6, q7, q8, q9⟩ := free10 hx5'
  obtain ⟨V, hV, hvb, hvw⟩ := write10 hx5' (.slice (some ⟨w3.heap.size, 0, none⟩) 1 1) (.int .i64 kd5) (.string (toB nm5)) (.int .i64 n5) (.slice b1 m1 d1) (.slice b2 m2 d2) (.slice b3 m3 d3) (.slice b4 m4 d4) (.int .i64 ln5) (.int .i64 col5)
  have HX5 := Lib.hid hx5
  have HP5 := Lib.hid hp5
  have HK5 := Lib.hid hk5
  have HY5 := Lib.hid hy5
  have HVB := Lib.hid hvb
  have HVW := Lib.hid hvw
  clear hx5 hp5 hk5 hx5' hy5 hvb hvw
  go_wp2_with fail
  obtain ⟨v0, v1, v2, v3, v4, v5, v6, v7, v8, v9⟩ := cells10 HVB.out
  refine bodyPost_ret (v := .agg (rhCells (some ⟨w3.heap.size, 0, none⟩) 1 1 kd5 nm5 n5 b1 m1 d1 b2 m2 d2 b3 m3 d3 b4 m4 d4 ln5 col5)) (by simp [results, Tryz.results118, go_sem, toB_nil, v0, v1, v2, v3, v4, v5, v6, v7, v8, v9]) rfl ?_
  have hE := HEW.out
  have hpb := HPB.out
  have hbe := HBE.out
  have hs3 := HS3.out
  have hsA := HSA.out
  have hz0 := HZ0.out
  have hk5V : Kept (fun b => b = w.heap.size) w5 V := kept_wrote (Kept.refl (fun b => b = w.heap.size) w5) HVW.out fun _ => rfl
  have hkA5 : KP pb (w3.alloc (.cells (exV kd nm n a1 n1 c1 a2 n2 c2 a3 n3 c3 a4 n4 c4 ln col) TEx)) w5 := HK5.out
  have hk : KP pb w V := kept_new ((HK0.out.trans HKA.out).trans HK5.out) hk5V (fun b e q => by omega)
  have hb : Box V w3.heap.size TEx _ := HY5.out.wrote HVW.out (by omega)
  have hx := HX.out.ev
  rw [hz0] at hx
  have hx1 : EV (Zn B E (w.heap.size + 1)) w5 (.ex e) _ := ((hx.later ((Below.refl _ _).alloc (Nat.le_refl _) _)).kept hkA5 fun b hz hx _ => by have hx : b = pb := hx; have := hz.1; omega)
  have hx' := hx1.boxed HVW.out hE
  have hy := HX5.out.ev
  rw [hsA] at hy
  have hy' : EV (Zn B E w.heap.size) V (.ex x) _ := (hy.mono (Z' := Zn B E (w.heap.size + 1)) fun b hz _ => ⟨hz.1, hz.2.imp id fun z => by omega⟩).boxed HVW.out hE
  refine ⟨some ⟨w3.heap.size, 0, none⟩, 1, 1, kd5, nm5, n5, b1, m1, d1, b2, m2, d2, b3, m3, d3, b4, m4, d4, ln5, col5, rfl, .rhs (RowZ.mk (n := 1) (k := 9) (vs := [.int .i64 kd, .string (toB nm), .int .i64 n, .slice a1 n1 c1, .slice a2 n2 c2, .slice a3 n3 c3, .slice a4 n4 c4, .int .i64 ln, .int .i64 col]) hb ⟨by omega, .inr (by omega)⟩ rfl) (fun i e' h => ?_) hy', HP5.out.frame hk5V (fun b e => by have := HNW.out; omega), hk⟩
  cases i with
  | zero =>
    simp at h
    subst h
    exact hx'
  | succ i => simp at h
end
end Go.Proofs.YtdajihpfedbihaaGreat.Pa
