/-
  CONTRACTS of layer unify: a variable in new memory; a row whose types are replaced one by one.
-/
import Derived.Test.YtgomafdhckfnbaaGF

namespace Go.Proofs.Ytgomafdhckfnbaa.Un
open Go.RowKit Mm Tm Mk Rn Go.Maps Go.ChangeMaps Go.MapKept Go.WideMaps
set_option linter.unusedVariables false
set_option linter.unusedSimpArgs false
/-- a type in new memory -/
def NewTy (y : Ty) (w : World) (e : Ending) (w' : World) : Prop :=
  ∃ a c, e = .returned (.agg #[.int .i64 y.kd, .int .i64 y.n, .string y.nm, .slice a y.args.len c]) ∧ RdT (fun b => w.heap.size ≤ b ∧ b < w'.heap.size) w' a y.args 0 ∧ y.args.len * 56 ≤ 140737488355328 ∧ y.nm.size ≤ 9223372036854775807 ∧ Below w.heap.size w w'
set_option maxRecDepth 100000 in
set_option maxHeartbeats 4000000 in
theorem copied_var {n : Int} {a : Option Addr} {c : Nat} (w : World) :
    Calls Try.prog 54 #[.agg #[.int .i64 1, .int .i64 n, .string noN, .slice a 0 c]] w (NewTy (vr n) w) := by
  obtain ⟨W0, hW0⟩ : ∃ W0, (w.alloc (.cells #[.int .i64 1, .int .i64 n, .string noN, .slice a 0 c] TT)).alloc (.cells zeroTy TT) = W0 := ⟨_, rfl⟩
  have hB0 : Below w.heap.size w W0 := by rw [← hW0]; exact ((Below.refl w.heap.size w).alloc (Nat.le_refl _) _).alloc (by simp) _
  have hX0 : Box W0 w.heap.size TT #[.int .i64 1, .int .i64 n, .string noN, .slice a 0 c] := by rw [← hW0]; exact (Box.new w _ _).alloc _
  have hR0 : Box W0 (w.heap.size + 1) TT zeroTy := by rw [← hW0]; exact Box.at_ _ _ (by simp)
  have HCL := Lib.hid (clone_any (Z := fun _ => False) (t := .nil) (b := a) (n := 0) (c := c) W0 trivial rfl (fun b hb => hb.elim) (Nat.zero_le _))
  obtain ⟨x0, x1, x2, x3, _, _, _, f3⟩ := hX0.cells4
  have HX0 := Lib.hid hX0
  have HR0 := Lib.hid hR0
  have HB0 := Lib.hid hB0
  clear hX0 hR0 hB0
  go_enter Try.func54, Try.ntmps54
  go_wp2_with fail
  refine HCL.out.mono ?_
  rintro e w1 ⟨v, vs, rfl, ho0, hrow, hb1⟩
  have ho : w1.ownsRow W0.heap.size TT 4 v 0 vs := ho0
  clear ho0
  obtain ⟨ag, cg, rfl⟩ := own_slice ho
  obtain ⟨W2, hW2⟩ : ∃ W2, w1.setCell ⟨w.heap.size, 3, none⟩ (.slice ag 0 cg) = W2 := ⟨_, rfl⟩
  have hX1 := HX0.out.below hb1 HX0.out.lt
  have hR1 := HR0.out.below hb1 HR0.out.lt
  have hX2 : Box W2 w.heap.size TT #[.int .i64 1, .int .i64 n, .string noN, .slice ag 0 cg] := by rw [← hW2]; exact hX1.put 3 _
  have hR2 : Box W2 (w.heap.size + 1) TT zeroTy := by rw [← hW2]; exact hR1.far (by show w.heap.size ≠ _; omega) _
  have hB2 : Below w.heap.size w W2 := by rw [← hW2]; exact (HB0.out.trans (hb1.mono HB0.out.size)).setCell (p := ⟨w.heap.size, 3, none⟩) (Nat.le_refl _) _
  obtain ⟨v0, v1, v2, v3, vf0, vf1, vf2, vf3⟩ := hX1.cells4
  obtain ⟨y0, y1, y2, y3, _⟩ := hX2.cells4
  obtain ⟨W6, hW6, hbx, hwr⟩ := hR2.write4 (.int .i64 1) (.int .i64 n) (.string noN) (.slice ag 0 cg)
  obtain ⟨q0, q1, q2, q3, _⟩ := hbx.cells4
  have HQ := Lib.hid (And.intro q0 (And.intro q1 (And.intro q2 q3)))
  have HB6 := Lib.hid (hwr.below hB2 (Nat.le_succ _))
  obtain ⟨s0, s1, s2, s3, sf0, sf1, sf2, sf3⟩ := hR2.cells4
  clear ho hrow hb1 hX1 hR1 hX2 hR2 hB2 x0 x1 x2 x3 f3 hbx hwr q0 q1 q2 q3 hW0
  go_wp2_with fail
  go_loopg [12] 0 (fun d v wr => v = .int .i64 0 ∧ wr = W2)
  case atStart => exact ⟨rfl, rfl⟩
  case round =>
    obtain ⟨rfl, rfl⟩ := hrel
    go_wp2_with fail
    obtain ⟨q0, q1, q2, q3⟩ := HQ.out
    refine bodyPost_ret (v := .agg #[.int .i64 1, .int .i64 n, .string noN, .slice ag 0 cg]) (by simp [results, Try.results54, go_sem, q0, q1, q2, q3]) rfl ?_
    exact ⟨ag, cg, rfl, trivial, by simp [vr, Tys.len], Nat.zero_le _, HB6.out⟩
theorem set4_mid {vd r : List Value} {k : Nat} (hl : vd.length = k * 4) (a b c d v0 v1 v2 v3 : Value) :
    (((((vd ++ ([a, b, c, d] ++ r)).set (k * 4) v0).set (k * 4 + 1) v1).set (k * 4 + 2) v2).set (k * 4 + 3) v3) = (vd ++ [v0, v1, v2, v3]) ++ r := by
  rw [List.set_append_right _ _ (by omega), List.set_append_right _ _ (by omega), List.set_append_right _ _ (by omega), List.set_append_right _ _ (by omega), hl]
  simp [show k * 4 + 1 - k * 4 = 1 by omega, show k * 4 + 2 - k * 4 = 2 by omega, show k * 4 + 3 - k * 4 = 3 by omega]
/-- a row of the call's own: the types that are done, in new memory, and the others, in the old one -/
def RepR (B wB : Nat) (w : World) (v : Value) (n : Nat) (done rest : List Ty) : Prop :=
  ∃ vd vr, w.ownsRow B TT 4 v n (vd ++ vr) ∧ RowT (fun b => (B ≤ b ∧ b < w.heap.size) ∧ v.ownBlock ≠ some b) w vd done ∧ RowT (fun b => b < wB) w vr rest ∧ n = done.length + rest.length ∧ wB ≤ B
theorem RepR.here {B wB : Nat} {w w' : World} {v : Value} {n : Nat} {done rest : List Ty} (h : RepR B wB w v n done rest) (hb : Below w.heap.size w w') (hB : wB ≤ w.heap.size) : RepR B wB w' v n done rest := by
  obtain ⟨vd, vr, h1, h2, h3, h4, h5⟩ := h
  exact ⟨vd, vr, own_here h1 hb, (h2.below hb fun b hz => hz.1.2).mono fun b hz => ⟨⟨hz.1.1, Nat.lt_of_lt_of_le hz.1.2 hb.size⟩, hz.2⟩, h3.below hb (fun b hz => Nat.lt_of_lt_of_le hz hB), h4, h5⟩
theorem rowT_app {Z : Nat → Prop} {w : World} : ∀ {vs1 vs2 : List Value} {l1 l2 : List Ty}, RowT Z w vs1 l1 → RowT Z w vs2 l2 → RowT Z w (vs1 ++ vs2) (l1 ++ l2)
  | vs1, vs2, [], l2, h1, h2 => by rw [show vs1 = [] from h1]; exact h2
  | vs1, vs2, x :: l1, l2, ⟨a2, c2, r, e, q2, q3, q4, q5⟩, h2 => by
    subst e
    exact ⟨a2, c2, r ++ vs2, List.append_assoc _ _ _, q2, q3, q4, rowT_app q5 h2⟩
/-- the type that is replaced next -/
theorem RepR.next {B wB : Nat} {w : World} {v : Value} {n : Nat} {done rest : List Ty} {y : Ty} (h : RepR B wB w v n done (y :: rest)) :
    ∃ g c a2 c2, v = .slice (some ⟨g, 0, none⟩) n c ∧ B ≤ g ∧ g < w.heap.size ∧ w.cell? ⟨g, done.length * 4, none⟩ = some (.int .i64 y.kd) ∧ w.cell? ⟨g, done.length * 4 + 1, none⟩ = some (.int .i64 y.n) ∧ w.cell? ⟨g, done.length * 4 + 2, none⟩ = some (.string y.nm) ∧ w.cell? ⟨g, done.length * 4 + 3, none⟩ = some (.slice a2 y.args.len c2) ∧
      y.nm.size ≤ 9223372036854775807 ∧ y.args.len * 56 ≤ 140737488355328 ∧ RdT (fun b => b < wB) w a2 y.args 0 := by
  obtain ⟨vd, vr, h1, h2, ⟨a2, c2, r, e, q2, q3, q4, q5⟩, h4, h5⟩ := h
  subst e
  obtain ⟨a, c, hv⟩ := own_slice h1
  rw [hv] at h1
  obtain ⟨g, rfl, hg1, hg2, _, hc⟩ := own_at h1 (by rw [h4, List.length_cons]; omega)
  have hl := h2.len
  have hn : n = done.length + (rest.length + 1) := h4
  refine ⟨g, c, a2, c2, hv, hg1, hg2, ?_, ?_, ?_, ?_, q2, q3, q4⟩
  · rw [hc _ (by omega), List.getElem?_append_right (by omega), hl, Nat.sub_self]; rfl
  · rw [hc _ (by omega), List.getElem?_append_right (by omega), hl, show done.length * 4 + 1 - done.length * 4 = 1 by omega]; rfl
  · rw [hc _ (by omega), List.getElem?_append_right (by omega), hl, show done.length * 4 + 2 - done.length * 4 = 2 by omega]; rfl
  · rw [hc _ (by omega), List.getElem?_append_right (by omega), hl, show done.length * 4 + 3 - done.length * 4 = 3 by omega]; rfl
/-- it is replaced -/
theorem RepR.put {B wB : Nat} {w W8 : World} {g n c : Nat} {done rest : List Ty} {y z : Ty} {a3 : Option Addr} {c3 : Nat} (h : RepR B wB w (.slice (some ⟨g, 0, none⟩) n c) n done (y :: rest)) (hz : RdT (fun b => (B ≤ b ∧ b < w.heap.size) ∧ b ≠ g) w a3 z.args 0) (hl : z.args.len * 56 ≤ 140737488355328) (hn : z.nm.size ≤ 9223372036854775807)
    (hW8 : ((((w.setCell ⟨g, done.length * 4, none⟩ (.int .i64 z.kd)).setCell ⟨g, done.length * 4 + 1, none⟩ (.int .i64 z.n)).setCell ⟨g, done.length * 4 + 2, none⟩ (.string z.nm)).setCell ⟨g, done.length * 4 + 3, none⟩ (.slice a3 z.args.len c3)) = W8) :
    RepR B wB W8 (.slice (some ⟨g, 0, none⟩) n c) n (done ++ [z]) rest ∧ Wrote w W8 g := by
  obtain ⟨vd, vr, h1, h2, ⟨a2, c2, r, e, q2, q3, q4, q5⟩, h4, h5⟩ := h
  subst e
  obtain ⟨o8, r8⟩ := own_set4 h1 done.length (.int .i64 z.kd) (.int .i64 z.n) (.string z.nm) (.slice a3 z.args.len c3)
  rw [set4_mid h2.len, hW8] at o8
  rw [hW8] at r8
  obtain ⟨g', hg, hg1, hg2, _⟩ := own_at h1 (by rw [h4, List.length_cons]; omega)
  injection hg with hg
  injection hg with hg
  subst hg
  have hne : ∀ b, ((B ≤ b ∧ b < w.heap.size) ∧ (Value.slice (some ⟨g, 0, none⟩) n c).ownBlock ≠ some b) → b ≠ g := fun b q e => q.2 (by rw [e]; rfl)
  refine ⟨⟨_, r, o8, RowT.snoc (c2 := c3) hn hl (hz.frame (fun b o q => r8.cell ⟨b, o, none⟩ q.2) (fun ad q => r8.cell ad q.2) fun b q => ⟨⟨q.1.1, by rw [r8.size]; exact q.1.2⟩, fun e => q.2 (by have : some g = some b := e; injection this with this; exact this.symm)⟩) (h2.frame (fun b o q => r8.cell ⟨b, o, none⟩ (hne b q)) (fun ad q => r8.cell ad (hne _ q)) fun b q => ⟨⟨q.1.1, by rw [r8.size]; exact q.1.2⟩, q.2⟩), q5.frame (fun b o q => r8.cell ⟨b, o, none⟩ (by show b ≠ g; omega)) (fun ad q => r8.cell ad (by omega)) fun b q => q, by rw [h4, List.length_append, List.length_cons, List.length_cons, List.length_nil]; omega, h5⟩, r8⟩
/-- all are replaced -/
theorem RepR.end_ {B wB : Nat} {w : World} {v : Value} {n : Nat} {done : List Ty} (h : RepR B wB w v n done []) : ∃ a c, v = .slice a n c ∧ n = done.length ∧ RdT (fun b => B ≤ b ∧ b < w.heap.size) w a (Tys.ofL done) 0 := by
  obtain ⟨vd, vr, h1, h2, h3, h4, h5⟩ := h
  rw [show vr = [] from h3, List.append_nil] at h1
  have hn : n = done.length := h4
  subst hn
  obtain ⟨b, d, hv⟩ := own_slice h1
  refine ⟨b, d, hv, rfl, RdT.mk fun i x hx => ?_⟩
  rw [Tys.toL_ofL] at hx
  have hi : i < done.length := (List.getElem?_eq_some_iff.1 hx).1
  have h1' := h1
  rw [hv] at h1'
  obtain ⟨g, rfl, hg1, hg2, _, hc⟩ := own_at h1' (by omega)
  obtain ⟨a2, c2, g0, g1, g2, g3, g4, g5, g6⟩ := h2.get i x hx
  have hadd : ((⟨g, 0, none⟩ : Addr).add ((0 + i) * 4)) = ⟨g, i * 4, none⟩ := by
    rw [Nat.zero_add]
    simp [Addr.add]
    try (intro e; omega)
  refine ⟨⟨g, 0, none⟩, a2, c2, rfl, ⟨hg1, hg2⟩, ?_, ?_, ?_, ?_, g4, g5, g6.mono fun b hZ => hZ.1⟩
  · rw [hadd, hc _ (by omega)]; exact g0
  · rw [hadd]; show w.cell? ⟨g, i * 4 + 1, none⟩ = _; rw [hc _ (by omega)]; exact g1
  · rw [hadd]; show w.cell? ⟨g, i * 4 + 2, none⟩ = _; rw [hc _ (by omega)]; exact g2
  · rw [hadd]; show w.cell? ⟨g, i * 4 + 3, none⟩ = _; rw [hc _ (by omega)]; exact g3
end Go.Proofs.Ytgomafdhckfnbaa.Un
/-
  CONTRACT of layer unify: a type with variables in the place of its variables, in new memory.
-/
namespace Go.Proofs.Ytgomafdhckfnbaa.Un
open Go.RowKit Mm Tm Mk Rn Go.Maps Go.ChangeMaps Go.MapKept Go.WideMaps
set_option linter.unusedVariables false
set_option linter.unusedSimpArgs false
/-- at which place of a row a variable stands first -/
def PlaceI (w : World) (pm : Nat) (l : List Int) : Prop := ∃ Fs cs, MapK w Try.prog TI pm Fs cs ∧ ∀ n i, inI n = true → idx n l = some i → Fs (.int .i64 n) = some (.int .i64 (i : Nat))
theorem PlaceI.below {w w' : World} {pm B : Nat} {l : List Int} (h : PlaceI w pm l) (hb : Below B w w') (hp : pm < B) : PlaceI w' pm l := by
  obtain ⟨Fs, cs, h1, h2⟩ := h
  exact ⟨Fs, cs, h1.below hb hp, h2⟩
/-- the row of variables -/
def vrs (g : Nat → Int) (n : Nat) : List Ty := (List.range n).map fun i => vr (g i)
theorem vrs_len (g : Nat → Int) (n : Nat) : (vrs g n).length = n := by unfold vrs; rw [List.length_map, List.length_range]
theorem vrs_get (g : Nat → Int) {n i : Nat} (h : i < n) : (vrs g n)[i]? = some (vr (g i)) := by
  unfold vrs
  rw [List.getElem?_map, List.getElem?_range h]
  rfl
theorem subF_vrs {l : List Int} {g : Nat → Int} {n : Int} : subF l (vrs g l.length) n = rn l g n := by
  unfold subF rn
  cases h : idx n l with
  | none => rfl
  | some i => rw [Option.bind_some, vrs_get g (idx_lt h)]; rfl
theorem subF_eq (l : List Int) (g : Nat → Int) : subF l (vrs g l.length) = rn l g := funext fun n => subF_vrs
def RepC (l : List Int) (g : Nat → Int) (pm : Nat) (p : Option Addr) (cp : Nat) (x : Ty) : Prop := ∀ (a : Option Addr) (c : Nat) (w : World), RdT (fun k => k < w.heap.size) w a x.args 0 → x.args.len * 56 ≤ 140737488355328 → x.nm.size ≤ 9223372036854775807 → okTy x = true → (∀ n ∈ occ x, n ∈ l) → pm < w.heap.size → PlaceI w pm l → RdT (fun k => k < w.heap.size) w p (Tys.ofL (vrs g l.length)) 0 →
  Calls Try.prog 45 #[tyV x a c, .map (some pm), .slice p l.length cp] w (NewTy (sub1 (rn l g) x) w)
/-- the end: a type is put in the result's box -/
theorem new_end {rb : Nat} {y : Ty} {a : Option Addr} {c : Nat} {w wr W6 : World} (hbw : Below w.heap.size w wr) (hrb : Box wr rb TT zeroTy) (hrbw : w.heap.size ≤ rb)
    (hrd : RdT (fun b => (w.heap.size ≤ b ∧ b < wr.heap.size) ∧ b ≠ rb) wr a y.args 0) (hl : y.args.len * 56 ≤ 140737488355328) (hn : y.nm.size ≤ 9223372036854775807)
    (hW6 : ((((wr.setCell ⟨rb, 0, none⟩ (.int .i64 y.kd)).setCell ⟨rb, 1, none⟩ (.int .i64 y.n)).setCell ⟨rb, 2, none⟩ (.string y.nm)).setCell ⟨rb, 3, none⟩ (.slice a y.args.len c)) = W6) :
    (W6.cell? ⟨rb, 0, none⟩ = some (.int .i64 y.kd) ∧ W6.cell? ⟨rb, 1, none⟩ = some (.int .i64 y.n) ∧ W6.cell? ⟨rb, 2, none⟩ = some (.string y.nm) ∧ W6.cell? ⟨rb, 3, none⟩ = some (.slice a y.args.len c)) ∧
      NewTy y w (.returned (.agg #[.int .i64 y.kd, .int .i64 y.n, .string y.nm, .slice a y.args.len c])) W6 := by
  obtain ⟨W, hW, hbx, hwr⟩ := hrb.write4 (.int .i64 y.kd) (.int .i64 y.n) (.string y.nm) (.slice a y.args.len c)
  rw [hW] at hW6
  subst hW6
  obtain ⟨q0, q1, q2, q3, _⟩ := hbx.cells4
  refine ⟨⟨q0, q1, q2, q3⟩, a, c, rfl, ?_, hl, hn, hwr.below hbw hrbw⟩
  exact hrd.frame (fun b o hz => hwr.cell ⟨b, o, none⟩ hz.2) (fun ad hz => hwr.cell ad hz.2) fun b hz => ⟨hz.1.1, by rw [hwr.size]; exact hz.1.2⟩
set_option maxRecDepth 100000 in
set_option maxHeartbeats 4000000 in
theorem replaced_var {l : List Int} {g : Nat → Int} {pm : Nat} {p : Option Addr} {cp : Nat} {x : Ty} {a : Option Addr} {c : Nat} (w : World) (hk : x.kd = 1) (hok : okTy x = true) (hin : ∀ n ∈ occ x, n ∈ l) (hpm : pm < w.heap.size) (hpl : PlaceI w pm l) (hp : RdT (fun k => k < w.heap.size) w p (Tys.ofL (vrs g l.length)) 0) (hll : l.length ≤ 1000000) :
    Calls Try.prog 45 #[.agg #[.int .i64 x.kd, .int .i64 x.n, .string x.nm, .slice a x.args.len c], .map (some pm), .slice p l.length cp] w (NewTy (sub1 (rn l g) x) w) := by
  obtain ⟨hi, h0⟩ := ok_inI hok hk
  obtain ⟨kd, xn, nm, args⟩ := x
  simp only at hk hi h0 ⊢
  subst hk
  obtain ⟨i, hix⟩ := idx_mem (hin xn (by unfold occ; rw [if_pos rfl]; exact List.mem_singleton.2 rfl))
  have hilt := idx_lt hix
  have hsub : sub1 (rn l g) ⟨1, xn, nm, args⟩ = vr (g i) := by unfold sub1 rn; simp only [if_true, hix, Option.map_some, Option.getD_some]
  rw [hsub]
  obtain ⟨Fs, cs, hm, hF⟩ := hpl
  have hF1 := hF xn i hi hix
  obtain ⟨W0, hW0⟩ : ∃ W0, (w.alloc (.cells #[.int .i64 1, .int .i64 xn, .string nm, .slice a args.len c] TT)).alloc (.cells zeroTy TT) = W0 := ⟨_, rfl⟩
  have hB0 : Below w.heap.size w W0 := by rw [← hW0]; exact ((Below.refl w.heap.size w).alloc (Nat.le_refl _) _).alloc (by simp) _
  have hX0 : Box W0 w.heap.size TT #[.int .i64 1, .int .i64 xn, .string nm, .slice a args.len c] := by rw [← hW0]; exact (Box.new w _ _).alloc _
  have hR0 : Box W0 (w.heap.size + 1) TT zeroTy := by rw [← hW0]; exact Box.at_ _ _ (by simp)
  have HI := Lib.hid (key_int (inI_iff.1 hi))
  have HM0 := Lib.hid (hm.below hB0 hm.lt)
  have HN := Lib.hid hF1
  have hx := ((hp.below hB0 fun q h => h).at_ i (vr (g i)) (by rw [Tys.toL_ofL]; exact vrs_get g hilt))
  rw [Nat.zero_add] at hx
  obtain ⟨zd, a2, c2, rfl, _, z0, z1, z2, z3, _, _, _⟩ := hx
  have z0' : W0.cell? (zd.add (i * 4)) = some (.int .i64 1) := z0
  have z1' : W0.cell? ⟨(zd.add (i * 4)).block, (zd.add (i * 4)).off + 1, none⟩ = some (.int .i64 (g i)) := z1
  have z2' : W0.cell? ⟨(zd.add (i * 4)).block, (zd.add (i * 4)).off + 2, none⟩ = some (.string noN) := z2
  have z3' : W0.cell? ⟨(zd.add (i * 4)).block, (zd.add (i * 4)).off + 3, none⟩ = some (.slice a2 0 c2) := z3
  have HCO := Lib.hid (copied_var (n := g i) (a := a2) (c := c2) W0)
  obtain ⟨x0, x1, x2, x3, _⟩ := hX0.cells4
  have HR0 := Lib.hid hR0
  have HB0 := Lib.hid hB0
  have hilt' : (i : Int) < l.length := by omega
  clear z0 z1 z2 z3 hX0 hR0 hB0 hok hin hpm hp hm hF hF1 hi h0 hix hsub
  go_enter Try.func45, Try.ntmps45
  go_wp2_with (at_lookup; refine wpList_look_okK _ rfl _ _ 88 rfl TI TI keyI Try.underlying88 (zeroI _) pm _ _ rfl HM0.out _ _ (lit_int _) rfl HI.out ?_; rw [HN.out, Option.getD_some, Option.isSome_some])
  refine HCO.out.mono ?_
  rintro e w3 ⟨a3, c3, rfl, hrd3, hl3, hn3, hb3⟩
  have hR3 := HR0.out.below hb3 HR0.out.lt
  have zz := HR0.out.lt
  obtain ⟨W6, hW6⟩ : ∃ W6, ((((w3.setCell ⟨w.heap.size + 1, 0, none⟩ (.int .i64 1)).setCell ⟨w.heap.size + 1, 1, none⟩ (.int .i64 (g i))).setCell ⟨w.heap.size + 1, 2, none⟩ (.string noN)).setCell ⟨w.heap.size + 1, 3, none⟩ (.slice a3 0 c3)) = W6 := ⟨_, rfl⟩
  have hEND := new_end (y := vr (g i)) (w := w) (HB0.out.trans (hb3.mono HB0.out.size)) hR3 (Nat.le_succ _) (hrd3.mono fun q h => ⟨⟨by have := h.1; omega, h.2⟩, by have := h.1; omega⟩) hl3 hn3 hW6
  have HEND := Lib.hid hEND
  obtain ⟨s0, s1, s2, s3, sf0, sf1, sf2, sf3⟩ := hR3.cells4
  clear hEND hrd3 hl3 hn3 hb3 hR3 hW0 z0' z1' z2' z3' x0 x1 x2 x3
  simp only [vr, Tys.len]
  go_wp2_with fail
  obtain ⟨⟨q0, q1, q2, q3⟩, hP⟩ := HEND.out
  refine bodyPost_ret (v := .agg #[.int .i64 1, .int .i64 (g i), .string noN, .slice a3 0 c3]) (by simp [results, Try.results45, go_sem]; simp [vr, Tys.len] at q0 q1 q2 q3; simp [q0, q1, q2, q3]) rfl ?_
  exact hP
end Go.Proofs.Ytgomafdhckfnbaa.Un
/-
  CONTRACT of layer unify: a type with variables in the place of its variables: its parts.
-/
namespace Go.Proofs.Ytgomafdhckfnbaa.Un
open Go.RowKit Mm Tm Mk Rn Go.Maps Go.ChangeMaps Go.MapKept Go.WideMaps
set_option linter.unusedVariables false
set_option linter.unusedSimpArgs false
set_option maxRecDepth 100000 in
set_option maxHeartbeats 8000000 in
theorem replaced_of {l : List Int} {g : Nat → Int} {pm : Nat} {p : Option Addr} {cp : Nat} {x : Ty} {a : Option Addr} {c : Nat} (w : World) (hk : x.kd ≠ 1) (hr : RdT (fun k => k < w.heap.size) w a x.args 0) (hlx : x.args.len * 56 ≤ 140737488355328) (hnx : x.nm.size ≤ 9223372036854775807) (hok : okTy x = true) (hin : ∀ n ∈ occ x, n ∈ l) (hpm : pm < w.heap.size) (hpl : PlaceI w pm l) (hp : RdT (fun k => k < w.heap.size) w p (Tys.ofL (vrs g l.length)) 0)
    (hC : ∀ y ∈ x.args.toL, RepC l g pm p cp y) :
    Calls Try.prog 45 #[.agg #[.int .i64 x.kd, .int .i64 x.n, .string x.nm, .slice a x.args.len c], .map (some pm), .slice p l.length cp] w (NewTy (sub1 (rn l g) x) w) := by
  obtain ⟨L, hL⟩ : ∃ L, x.args.toL = L := ⟨_, rfl⟩
  have hLn : x.args.len = L.length := by rw [← hL, Tys.toL_len]
  have hoka : ∀ y ∈ L, okTy y = true := by
    unfold okTy at hok
    rw [if_neg hk, Bool.and_eq_true, okT_all] at hok
    rw [← hL]
    exact List.all_eq_true.1 hok.2
  have hocc : ∀ y ∈ L, ∀ n ∈ occ y, n ∈ l := fun y hy n hn => hin n (by
    unfold occ
    rw [if_neg hk, occT_all, hL]
    exact List.mem_flatMap.2 ⟨y, hy, hn⟩)
  have hsub : sub1 (rn l g) x = ⟨x.kd, x.n, x.nm, Tys.ofL (L.map (sub1 (rn l g)))⟩ := by
    have h : sub1 (rn l g) x = ⟨x.kd, x.n, x.nm, subT (rn l g) x.args⟩ := by unfold sub1; exact if_neg hk
    rw [h, ← hL, ← subT_all, Tys.ofL_toL]
  obtain ⟨W0, hW0⟩ : ∃ W0, (w.alloc (.cells #[.int .i64 x.kd, .int .i64 x.n, .string x.nm, .slice a x.args.len c] TT)).alloc (.cells zeroTy TT) = W0 := ⟨_, rfl⟩
  have hB0 : Below w.heap.size w W0 := by rw [← hW0]; exact ((Below.refl w.heap.size w).alloc (Nat.le_refl _) _).alloc (by simp) _
  have hz0 : W0.heap.size = w.heap.size + 2 := by rw [← hW0]; simp
  have hX0 : Box W0 w.heap.size TT #[.int .i64 x.kd, .int .i64 x.n, .string x.nm, .slice a x.args.len c] := by rw [← hW0]; exact (Box.new w _ _).alloc _
  have hR0 : Box W0 (w.heap.size + 1) TT zeroTy := by rw [← hW0]; exact Box.at_ _ _ (by simp)
  have HCL := Lib.hid (clone_any (Z := fun b => b < w.heap.size) (n := x.args.len) (c := c) W0 (hr.below hB0 fun b hb => hb) rfl (fun b hb => by omega) hlx)
  obtain ⟨x0, x1, x2, x3, _, _, _, f3⟩ := hX0.cells4
  have HX0 := Lib.hid hX0
  have HR0 := Lib.hid hR0
  have HB0 := Lib.hid hB0
  have HC := Lib.hid (show ∀ y ∈ L, RepC l g pm p cp y by rw [← hL]; exact hC)
  have HO := Lib.hid (And.intro hoka hocc)
  have HS := Lib.hid hsub
  have HP := Lib.hid (And.intro hpm (And.intro hpl hp))
  have HLN := Lib.hid hLn
  have hll : L.length * 56 ≤ 140737488355328 := by rw [← hLn]; exact hlx
  have hlen : L.length ≤ 140737488355328 := by omega
  have HNX := Lib.hid hnx
  have qk : (x.kd == 1) = false := by simpa using hk
  rw [hL] at HCL
  clear hoka hocc hsub hC hL hLn hX0 hR0 hB0 hr hlx hnx hok hin hpm hpl hp hk
  go_enter Try.func45, Try.ntmps45
  go_wp2_with fail
  refine HCL.out.mono ?_
  rintro e w1 ⟨v, vs, rfl, ho, hrow, hb1⟩
  obtain ⟨ag, cg, rfl⟩ := own_slice ho
  obtain ⟨W2, hW2⟩ : ∃ W2, w1.setCell ⟨w.heap.size, 3, none⟩ (.slice ag L.length cg) = W2 := ⟨_, rfl⟩
  have hX1 := HX0.out.below hb1 HX0.out.lt
  have hR1 := HR0.out.below hb1 HR0.out.lt
  have hX2 : Box W2 w.heap.size TT #[.int .i64 x.kd, .int .i64 x.n, .string x.nm, .slice ag L.length cg] := by rw [← hW2]; exact hX1.put 3 _
  have hR2 : Box W2 (w.heap.size + 1) TT zeroTy := by rw [← hW2]; exact hR1.far (by show w.heap.size ≠ _; omega) _
  have hB2 : Below w.heap.size w W2 := by rw [← hW2]; exact (HB0.out.trans (hb1.mono HB0.out.size)).setCell (p := ⟨w.heap.size, 3, none⟩) (Nat.le_refl _) _
  have ho2 : W2.ownsRow W0.heap.size TT 4 (.slice ag L.length cg) L.length vs := by
    rw [← hW2]
    exact ownsRow_setCell_other ho (fun e => by have := (ho.lt _ e).1; simp only at this; omega) _
  have hrow2 : RowT (fun b => b < w.heap.size) W2 vs L := by
    rw [← hW2]
    exact hrow.frame (fun b o hz => World.cell?_of_block (Below.heap_setCell w1 ⟨w.heap.size, 3, none⟩ _ b (by show b ≠ w.heap.size; omega))) (fun ad hz => World.cell?_of_block (Below.heap_setCell w1 ⟨w.heap.size, 3, none⟩ _ _ (by show ad.block ≠ w.heap.size; omega))) fun _ h => h
  have HB2 := Lib.hid hB2
  have HX2 := Lib.hid hX2
  have HR2 := Lib.hid hR2
  have HRR : Hid (RepR W0.heap.size w.heap.size W2 (.slice ag L.length cg) L.length [] L) := Lib.hid ⟨[], vs, by rw [List.nil_append]; exact ho2, rfl, hrow2, by simp, by omega⟩
  have hz1 := hb1.size
  obtain ⟨v0, v1, v2, v3, _, _, _, vf3⟩ := hX1.cells4
  obtain ⟨y0, y1, y2, y3, _⟩ := hX2.cells4
  clear ho hrow hb1 hX1 hR1 hX2 hR2 hB2 ho2 hrow2 x0 x1 x2 x3 f3
  go_wp2_with fail
  clear hW2 v0 v1 v2 v3 vf3
  obtain ⟨TC, hTC⟩ : ∃ TC : Array Value, TC = #[.int .i64 x.kd, .int .i64 x.n, .string x.nm, .slice ag L.length cg] := ⟨_, rfl⟩
  go_loopg [9, 10, 34] L.length (fun d v9 v10 v wr => ∃ (k : Nat) (rest : List Ty), k + d = L.length ∧ v = .int .i64 k ∧ rest = L.drop k ∧ RepR W0.heap.size w.heap.size wr (.slice ag L.length cg) L.length ((L.take k).map (sub1 (rn l g))) rest ∧ Box wr w.heap.size TT TC ∧ Box wr (w.heap.size + 1) TT zeroTy ∧ Below w.heap.size w wr)
  case atStart => exact ⟨0, L, by omega, rfl, by rw [List.drop_zero], by rw [List.take_zero]; exact HRR.out, by rw [hTC]; exact HX2.out, HR2.out, HB2.out⟩
  case round =>
    obtain ⟨k, rest, hkd, rfl, hrest, hrr, hx, hrb, hbw⟩ := hrel
    have HK := Lib.hid hkd
    have HX := Lib.hid hx
    have HR := Lib.hid hrb
    have HB := Lib.hid hbw
    have HTC := Lib.hid hTC
    have hzr : w.heap.size + 1 < wr.heap.size := hrb.lt
    have hkle : k ≤ L.length := by omega
    have hdl : ((L.take k).map (sub1 (rn l g))).length = k := by rw [List.length_map, List.length_take]; omega
    have HDL := Lib.hid hdl
    have hx' := hx
    rw [hTC] at hx'
    obtain ⟨y0, y1, y2, y3, _⟩ := hx'.cells4
    clear hkd hx hrb hbw hx' hTC hdl
    by_cases hlt : k < L.length
    · have hlt' : (k : Int) < L.length := by omega
      obtain ⟨y, hy⟩ : ∃ y, L[k]? = some y := ⟨_, List.getElem?_eq_getElem hlt⟩
      have hd : L.drop k = y :: L.drop (k + 1) := by
        rw [List.drop_eq_getElem_cons hlt]
        rw [List.getElem?_eq_getElem hlt] at hy
        injection hy with hy
        rw [hy]
      have hym := List.mem_of_getElem? hy
      rw [hrest, hd] at hrr
      have HRR := Lib.hid hrr
      obtain ⟨gb, cg', a2, c2, hv, hgB, hgW, z0, z1, z2, z3, hyn, hyl, hyr⟩ := hrr.next
      obtain ⟨rfl, rfl⟩ : ag = some ⟨gb, 0, none⟩ ∧ cg = cg' := by injection hv with q1 q2 q3; exact ⟨q1, q3⟩
      rw [HDL.out] at z0 z1 z2 z3
      have HTK := Lib.hid (show (L.take (k + 1)).map (sub1 (rn l g)) = (L.take k).map (sub1 (rn l g)) ++ [sub1 (rn l g) y] by rw [List.take_add_one, hy, List.map_append]; rfl)
      obtain ⟨z, hz⟩ : ∃ z, sub1 (rn l g) y = z := ⟨_, rfl⟩
      obtain ⟨W3, hW3⟩ : ∃ W3, wr.alloc (.cells #[.int .i64 y.kd, .int .i64 y.n, .string y.nm, .slice a2 y.args.len c2] TT) = W3 := ⟨_, rfl⟩
      have hB3 : Below wr.heap.size wr W3 := by rw [← hW3]; exact (Below.refl wr.heap.size wr).alloc (Nat.le_refl _) _
      have hA3 : Box W3 wr.heap.size TT #[.int .i64 y.kd, .int .i64 y.n, .string y.nm, .slice a2 y.args.len c2] := by rw [← hW3]; exact Box.new _ _ _
      have hz3 : W3.heap.size = wr.heap.size + 1 := by rw [← hW3]; simp
      have hBW3 : Below w.heap.size w W3 := HB.out.trans (hB3.mono HB.out.size)
      have hw3 : w.heap.size ≤ W3.heap.size := hBW3.size
      have HCC := Lib.hid (HC.out y hym a2 c2 W3.drew (((hyr.below hB3 fun b hb => by omega).mono fun b hb => Nat.lt_of_lt_of_le hb hw3).drew) hyl hyn (HO.out.1 y hym) (HO.out.2 y hym) (Nat.lt_of_lt_of_le HP.out.1 hw3) (HP.out.2.1.below hBW3.drew HP.out.1) (((HP.out.2.2.below hBW3 fun b hb => hb).mono fun b hb => Nat.lt_of_lt_of_le hb hw3).drew))
      unfold tyV at HCC
      rw [hz] at HCC HTK
      have HB3 := Lib.hid hB3
      have HA3 := Lib.hid hA3
      have hX3 : Box W3 w.heap.size TT TC := HX.out.below hB3 HX.out.lt
      have HX3 := Lib.hid hX3
      have hX3' := hX3
      rw [HTC.out] at hX3'
      obtain ⟨x0', x1', x2', x3', _⟩ := hX3'.cells4
      obtain ⟨u0, u1, u2, u3, _⟩ := hA3.cells4
      clear hrr hv hyn hyl hyr hy hym hd hz hB3 hA3 hX3 hX3' hBW3 hrest y0 y1 y2 x0' x1' x2'
      go_wp2_with fail
      go_region_held3 (fun w' => w'.cell? ⟨w.heap.size, 3, none⟩ = some (.slice (some ⟨gb, 0, none⟩) L.length cg) ∧ (w'.cell? ⟨wr.heap.size, 0, none⟩ = some (.int .i64 y.kd) ∧ w'.cell? ⟨wr.heap.size, 1, none⟩ = some (.int .i64 y.n) ∧ w'.cell? ⟨wr.heap.size, 2, none⟩ = some (.string y.nm) ∧ w'.cell? ⟨wr.heap.size, 3, none⟩ = some (.slice a2 y.args.len c2)))
        (first
          | exact ⟨x3', ⟨u0, u1, u2, u3⟩⟩
          | exact ⟨m0, ⟨m1, m2, m3, m4⟩⟩
          | exact ⟨n0, ⟨n1, n2, n3, n4⟩⟩
          | (rw [hW8]; exact ⟨n0, ⟨n1, n2, n3, n4⟩⟩)
          | go_keep)
        (first
          | (go_at_call 45; refine HCC.out.mono ?_; rintro e w7 ⟨a3, c3, rfl, hrd7, hl7, hn7, hb7⟩; replace hb7 : Below W3.heap.size W3 w7 := ⟨hb7.os, hb7.tape, hb7.output, hb7.size, hb7.block⟩; have X7 := HX3.out.below hb7 (by omega); have A7 := HA3.out.below hb7 (by omega); have hbr7 := HB3.out.trans (hb7.mono HB3.out.size); have r7 := HRR.out.here hbr7 (by omega); obtain ⟨gb2, cg2, a9, c9, hv9, _, _, t0, t1, t2, t3, _, _, _⟩ := r7.next; obtain ⟨rfl, rfl⟩ : gb = gb2 ∧ cg = cg2 := (by injection hv9 with q1 q2 q3; injection q1 with q1; injection q1 with q1; exact ⟨q1, q3⟩); clear hv9; rw [HDL.out] at t0 t1 t2 t3; obtain ⟨vdr, vrr, o7, -⟩ := r7; have f0 := o7.frozenAt (k * 4); have f1 := o7.frozenAt (k * 4 + 1); have f2 := o7.frozenAt (k * 4 + 2); have f3 := o7.frozenAt (k * 4 + 3); have X7' := X7; rw [HTC.out] at X7'; have m0 : w7.cell? ⟨w.heap.size, 3, none⟩ = some (.slice (some ⟨gb, 0, none⟩) L.length cg) := X7'.cell 3; have m1 : w7.cell? ⟨wr.heap.size, 0, none⟩ = some (.int .i64 y.kd) := A7.cell 0; have m2 : w7.cell? ⟨wr.heap.size, 1, none⟩ = some (.int .i64 y.n) := A7.cell 1; have m3 : w7.cell? ⟨wr.heap.size, 2, none⟩ = some (.string y.nm) := A7.cell 2; have m4 : w7.cell? ⟨wr.heap.size, 3, none⟩ = some (.slice a2 y.args.len c2) := A7.cell 3; obtain ⟨W8, hW8⟩ : ∃ W8, ((((w7.setCell ⟨gb, k * 4, none⟩ (.int .i64 z.kd)).setCell ⟨gb, k * 4 + 1, none⟩ (.int .i64 z.n)).setCell ⟨gb, k * 4 + 2, none⟩ (.string z.nm)).setCell ⟨gb, k * 4 + 3, none⟩ (.slice a3 z.args.len c3)) = W8 := ⟨_, rfl⟩; obtain ⟨p8, wr8⟩ := RepR.put (z := z) (W8 := W8) (HRR.out.here hbr7 (by omega)) (hrd7.mono fun b q => (show (W0.heap.size ≤ b ∧ b < w7.heap.size) ∧ b ≠ gb from (by have h9 : W3.heap.size ≤ b := q.1; have h8 := q.2; clear q; exact ⟨⟨by omega, h8⟩, by omega⟩))) hl7 hn7 (by rw [HDL.out]; exact hW8); have P8 := Lib.hid p8; have R8 := Lib.hid wr8; clear p8 wr8; have X8 := X7.wrote R8.out (by omega); have A8 := A7.wrote R8.out (by omega); have X8' := X8; rw [HTC.out] at X8'; have n0 : W8.cell? ⟨w.heap.size, 3, none⟩ = some (.slice (some ⟨gb, 0, none⟩) L.length cg) := X8'.cell 3; have n1 : W8.cell? ⟨wr.heap.size, 0, none⟩ = some (.int .i64 y.kd) := A8.cell 0; have n2 : W8.cell? ⟨wr.heap.size, 1, none⟩ = some (.int .i64 y.n) := A8.cell 1; have n3 : W8.cell? ⟨wr.heap.size, 2, none⟩ = some (.string y.nm) := A8.cell 2; have n4 : W8.cell? ⟨wr.heap.size, 3, none⟩ = some (.slice a2 y.args.len c2) := A8.cell 3))
      have HRB := Lib.hid ((HR.out.below hbr7 HR.out.lt).wrote R8.out (by omega))
      have HXB := Lib.hid X8
      have HBB := Lib.hid (R8.out.below (HB.out.trans (hbr7.mono HB.out.size)) (by omega))
      clear X7 A7 X7' X8 A8 X8' m0 m1 m2 m3 m4 n0 n1 n2 n3 n4 t0 t1 t2 t3 f0 f1 f2 f3 hW8 hrd7 hl7 hn7 hb7 hbr7 z0 z1 z2 z3 u0 u1 u2 u3 x3' o7
      go_wp2_with fail
      go_roundg (L.length - (k + 1))
      case measure => have := HK.out; omega
      case rel => exact ⟨k + 1, L.drop (k + 1), by have := HK.out; omega, by go_num, rfl, by rw [HTK.out]; exact P8.out, HXB.out, HRB.out, HBB.out⟩
    · have hge : ¬ (k : Int) < L.length := by omega
      have hkL : k = L.length := by omega
      rw [hrest, List.drop_of_length_le (by omega), List.take_of_length_le (by omega)] at hrr
      obtain ⟨a5, c5, hv5, hn5, hrd5⟩ := hrr.end_
      obtain ⟨rfl, rfl⟩ : ag = a5 ∧ cg = c5 := by injection hv5 with q1 q2 q3; exact ⟨q1, q3⟩
      obtain ⟨W6, hW6⟩ : ∃ W6, ((((wr.setCell ⟨w.heap.size + 1, 0, none⟩ (.int .i64 x.kd)).setCell ⟨w.heap.size + 1, 1, none⟩ (.int .i64 x.n)).setCell ⟨w.heap.size + 1, 2, none⟩ (.string x.nm)).setCell ⟨w.heap.size + 1, 3, none⟩ (.slice ag L.length cg)) = W6 := ⟨_, rfl⟩
      have hlo : (Tys.ofL (L.map (sub1 (rn l g)))).len = L.length := by rw [Tys.len_ofL, List.length_map]
      have hEND := new_end (y := ⟨x.kd, x.n, x.nm, Tys.ofL (L.map (sub1 (rn l g)))⟩) HB.out HR.out (Nat.le_succ _) (hrd5.mono fun q h => ⟨⟨by have := h.1; omega, h.2⟩, by have := h.1; omega⟩) (by show (Tys.ofL (L.map (sub1 (rn l g)))).len * 56 ≤ _; rw [hlo]; exact hll) HNX.out (by show _ = _; simp only [hlo]; exact hW6)
      simp only [hlo] at hEND
      have HEND := Lib.hid hEND
      obtain ⟨s0, s1, s2, s3, sf0, sf1, sf2, sf3⟩ := HR.out.cells4
      clear hEND hkL hrr hrd5 hv5 hn5 hlo hrest
      go_wp2_with fail
      obtain ⟨⟨q0, q1, q2, q3⟩, hP⟩ := HEND.out
      refine bodyPost_ret (v := .agg #[.int .i64 x.kd, .int .i64 x.n, .string x.nm, .slice ag L.length cg]) (by simp [results, Try.results45, go_sem, q0, q1, q2, q3]) rfl ?_
      rw [HS.out]
      exact hP
theorem replaced_any {l : List Int} {g : Nat → Int} {pm : Nat} {p : Option Addr} {cp : Nat} (hll : l.length ≤ 1000000) : ∀ (q : Nat) (x : Ty), x.args.nodes ≤ q → RepC l g pm p cp x := by
  intro q
  induction q with
  | zero =>
    intro x hx a c w hr hlx hnx hok hin hpm hpl hp
    by_cases hk : x.kd = 1
    · exact replaced_var w hk hok hin hpm hpl hp hll
    · refine replaced_of w hk hr hlx hnx hok hin hpm hpl hp fun y hy => ?_
      obtain ⟨i, hi⟩ := List.getElem?_of_mem hy
      have := Tys.nodes_get x.args i y hi
      omega
  | succ q ih =>
    intro x hx a c w hr hlx hnx hok hin hpm hpl hp
    by_cases hk : x.kd = 1
    · exact replaced_var w hk hok hin hpm hpl hp hll
    · refine replaced_of w hk hr hlx hnx hok hin hpm hpl hp fun y hy => ?_
      obtain ⟨i, hi⟩ := List.getElem?_of_mem hy
      have := Tys.nodes_get x.args i y hi
      exact ih y (by omega)
end Go.Proofs.Ytgomafdhckfnbaa.Un
/-
  CONTRACT of layer unify: the code's Subst, where all of a type's variables become variables.
-/
namespace Go.Proofs.Ytgomafdhckfnbaa.Un
open Go.RowKit Mm Tm Mk Rn Go.Maps Go.ChangeMaps Go.MapKept Go.WideMaps
set_option linter.unusedVariables false
set_option linter.unusedSimpArgs false
theorem idx_snoc {n y : Int} : ∀ {l : List Int}, idx n (l ++ [y]) = (idx n l).or (if y = n then some l.length else none)
  | [] => by rw [List.nil_append, idx, idx]; rfl
  | m :: l => by
    rw [List.cons_append, idx, idx, idx_snoc]
    by_cases hm : m = n
    · rw [if_pos hm, if_pos hm]; rfl
    · rw [if_neg hm, if_neg hm]
      cases idx n l with
      | none =>
        by_cases hy : y = n
        · simp [hy]
        · simp [hy]
      | some i => rfl
def PlaceK (w : World) (pm : Nat) (l : List Int) (k : Nat) : Prop := ∃ Fs cs, MapK w Try.prog TI pm Fs cs ∧ cs ≤ k ∧ ∀ n, inI n = true → Fs (.int .i64 n) = (idx n (l.take k)).map fun i => .int .i64 (i : Nat)
set_option maxRecDepth 100000 in
set_option maxHeartbeats 4000000 in
theorem subst_any {l : List Int} {g : Nat → Int} {x : Ty} {a b p : Option Addr} {c cb cp : Nat} (w : World) (hr : RdT (fun k => k < w.heap.size) w a x.args 0) (hlx : x.args.len * 56 ≤ 140737488355328) (hnx : x.nm.size ≤ 9223372036854775807) (hok : okTy x = true) (hin : ∀ n ∈ occ x, n ∈ l) (hli : ∀ n ∈ l, inI n = true) (hl : RdI (fun k => k < w.heap.size) w b l) (hll : l.length ≤ 1000000) (hp : RdT (fun k => k < w.heap.size) w p (Tys.ofL (vrs g l.length)) 0) :
    Calls Try.prog 35 #[.agg #[.int .i64 x.kd, .int .i64 x.n, .string x.nm, .slice a x.args.len c], .slice b l.length cb, .slice p l.length cp] w (NewTy (sub1 (rn l g) x) w) := by
  have hmm := @run_makeMap Try.prog
  obtain ⟨W0, hW0⟩ : ∃ W0, (w.alloc (.cells #[.int .i64 x.kd, .int .i64 x.n, .string x.nm, .slice a x.args.len c] TT)).alloc (.cells zeroTy TT) = W0 := ⟨_, rfl⟩
  have hB0 : Below w.heap.size w W0 := by rw [← hW0]; exact ((Below.refl w.heap.size w).alloc (Nat.le_refl _) _).alloc (by simp) _
  have hX0 : Box W0 w.heap.size TT #[.int .i64 x.kd, .int .i64 x.n, .string x.nm, .slice a x.args.len c] := by rw [← hW0]; exact (Box.new w _ _).alloc _
  have hR0 : Box W0 (w.heap.size + 1) TT zeroTy := by rw [← hW0]; exact Box.at_ _ _ (by simp)
  have HRX := Lib.hid (right_any x.args.nodes x (Nat.le_refl _) a c W0 (hr.below hB0 fun q h => h) (fun b hz => by have := hB0.size; omega) hlx)
  unfold tyV at HRX
  rw [hok] at HRX
  have HB0 := Lib.hid hB0
  have HX0 := Lib.hid hX0
  have HR0 := Lib.hid hR0
  have HH := Lib.hid (And.intro hr (And.intro hlx (And.intro hnx (And.intro hok hin))))
  have HL := Lib.hid (And.intro hl (And.intro hp hli))
  obtain ⟨x0, x1, x2, x3, _⟩ := hX0.cells4
  clear hr hlx hnx hok hin hl hp hli hB0 hX0 hR0
  go_enter Try.func35, Try.ntmps35
  go_wp2_with fail
  refine HRX.out.mono ?_
  rintro e W1 ⟨rfl, hb1⟩
  have HB1 := Lib.hid (HB0.out.trans (hb1.mono HB0.out.size))
  have HX1 := Lib.hid (HX0.out.below hb1 HX0.out.lt)
  have HR1 := Lib.hid (HR0.out.below hb1 HR0.out.lt)
  have zw1 : w.heap.size + 1 < W1.heap.size := HR1.out.lt
  obtain ⟨W2, hW2⟩ : ∃ W2, W1.alloc (.map #[] 0) = W2 := ⟨_, rfl⟩
  have hB2 : Below W1.heap.size W1 W2 := by rw [← hW2]; exact (Below.refl _ W1).alloc (Nat.le_refl _) _
  have hP2 : PlaceK W2 W1.heap.size l 0 := by rw [← hW2]; exact ⟨_, 0, MapK.made W1 _ _, Nat.le_refl _, fun n _ => rfl⟩
  have HB2 := Lib.hid hB2
  have HP2 := Lib.hid hP2
  have HW2 := Lib.hid hW2
  have hmin : ¬ ((l.length : Int) < (l.length : Int)) := by omega
  clear hb1 hW0 x0 x1 x2 x3 hB2 hP2 hW2
  go_wp2_with fail
  rw [HW2.out]
  go_loopg [8, 9, 10, 21] l.length (fun d v8 v9 v10 v wr => ∃ k : Nat, k + d = l.length ∧ v = .int .i64 k ∧ PlaceK wr W1.heap.size l k ∧ Below W1.heap.size W1 wr)
  case atStart => exact ⟨0, by omega, rfl, HP2.out, HB2.out⟩
  case round =>
    obtain ⟨k, hkd, rfl, ⟨Fs, cs, hmk, hcs, hF⟩, hb⟩ := hrel
    have HK := Lib.hid hkd
    have HB := Lib.hid hb
    have HMK := Lib.hid hmk
    have HF := Lib.hid (And.intro hcs hF)
    have hkle : k ≤ l.length := by omega
    have hzw := hb.size
    clear hkd hb hmk hcs hF
    by_cases hlt : k < l.length
    · have hlt' : (k : Int) < l.length := by omega
      obtain ⟨y, hy⟩ : ∃ y, l[k]? = some y := ⟨_, List.getElem?_eq_getElem hlt⟩
      obtain ⟨ad, rfl, hadl, y0⟩ := ((HL.out.1.below HB1.out fun q h => h).below HB.out fun q h => by omega) k y hy
      have hyi := HL.out.2.2 y (List.mem_of_getElem? hy)
      have HI := Lib.hid (key_int (inI_iff.1 hyi))
      have HTK := Lib.hid (show ∀ n, idx n (l.take (k + 1)) = (idx n (l.take k)).or (if y = n then some k else none) from fun n => by
        rw [List.take_add_one, hy]
        show idx n (l.take k ++ [y]) = _
        rw [idx_snoc, List.length_take, Nat.min_eq_left hkle])
      have hFy := HF.out.2 y hyi
      have HYI := Lib.hid hyi
      cases hix : idx y (l.take k) with
      | none =>
        rw [hix] at hFy
        have HN := Lib.hid (show Fs (.int .i64 y) = none from hFy)
        have HIX := Lib.hid hix
        clear hy hyi hFy hix
        go_wp2_with (first
          | (at_lookup; refine wpList_look_okK _ rfl _ _ 88 rfl TI TI keyI Try.underlying88 (zeroI _) W1.heap.size _ _ rfl HMK.out _ _ (lit_int _) rfl HI.out ?_; rw [HN.out, Option.getD_none, Option.isSome_none])
          | (at_mapUpdate; refine wpList_putK _ rfl _ _ _ 88 rfl TI TI keyI Try.underlying88 W1.heap.size _ _ rfl HMK.out (by have := HF.out.1; unfold maxLen; omega) _ _ _ (lit_int _) rfl rfl HI.out ?_))
        intro w5 hm5 ht5
        have hgb := (turned_same ht5).1
        have HP5 := Lib.hid (show PlaceK w5 W1.heap.size l (k + 1) from ⟨_, _, hm5, Nat.le_trans (cntPut_le _ _ _) (Nat.succ_le_succ HF.out.1), fun n hn => by
          rw [HTK.out n]
          unfold updK
          by_cases e : n = y
          · subst e
            rw [if_pos rfl, HIX.out, if_pos rfl]
            rfl
          · rw [if_neg (fun q => e (by injection q)), HF.out.2 n hn, if_neg (fun q => e q.symm), Option.or_none]⟩)
        have HB5 := Lib.hid (HB.out.grown hgb hzw (fun q hq => by injection hq with hq; omega))
        clear hm5 ht5 hgb
        go_wp2_with fail
        go_roundg (l.length - (k + 1))
        case measure => have := HK.out; omega
        case rel => exact ⟨k + 1, by have := HK.out; omega, by go_num, HP5.out, HB5.out⟩
      | some j =>
        rw [hix] at hFy
        have HN := Lib.hid (show Fs (.int .i64 y) = some (.int .i64 (j : Nat)) from hFy)
        have HIX := Lib.hid hix
        clear hy hyi hFy hix
        go_wp2_with (at_lookup; refine wpList_look_okK _ rfl _ _ 88 rfl TI TI keyI Try.underlying88 (zeroI _) W1.heap.size _ _ rfl HMK.out _ _ (lit_int _) rfl HI.out ?_; rw [HN.out, Option.getD_some, Option.isSome_some])
        have HP5 := Lib.hid (show PlaceK wr W1.heap.size l (k + 1) from ⟨_, _, HMK.out, Nat.le_succ_of_le HF.out.1, fun n hn => by
          rw [HTK.out n, HF.out.2 n hn]
          by_cases e : n = y
          · subst e
            rw [HIX.out]
            rfl
          · rw [if_neg (fun q => e q.symm), Option.or_none]⟩)
        go_roundg (l.length - (k + 1))
        case measure => have := HK.out; omega
        case rel => exact ⟨k + 1, by have := HK.out; omega, by go_num, HP5.out, HB.out⟩
    · have hge : ¬ (k : Int) < l.length := by omega
      have hX := HX1.out.below HB.out HX1.out.lt
      have hRw := HR1.out.below HB.out HR1.out.lt
      have HRw := Lib.hid hRw
      have HBW := Lib.hid (HB1.out.trans (HB.out.mono HB1.out.size))
      have hww : w.heap.size ≤ wr.heap.size := HBW.out.size
      have HCC := Lib.hid (replaced_any (g := g) (pm := W1.heap.size) (p := p) (cp := cp) hll x.args.nodes x (Nat.le_refl _) a c wr ((HH.out.1.below HBW.out fun q h => h).mono fun q h => by omega) HH.out.2.1 HH.out.2.2.1 HH.out.2.2.2.1 HH.out.2.2.2.2 HMK.out.lt
        ⟨Fs, cs, HMK.out, fun n i hn hi => by rw [HF.out.2 n hn, List.take_of_length_le (by omega), hi]; rfl⟩ ((HL.out.2.1.below HBW.out fun q h => h).mono fun q h => by omega))
      unfold tyV at HCC
      obtain ⟨z, hz⟩ : ∃ z, sub1 (rn l g) x = z := ⟨_, rfl⟩
      rw [hz] at HCC
      have HZ := Lib.hid hz
      obtain ⟨x0, x1, x2, x3, _⟩ := hX.cells4
      clear hX hRw hz
      go_wp2_with fail
      refine HCC.out.mono ?_
      rintro e w3 ⟨a3, c3, rfl, hrd3, hl3, hn3, hb3⟩
      have hR3 := HRw.out.below hb3 HRw.out.lt
      obtain ⟨W6, hW6⟩ : ∃ W6, ((((w3.setCell ⟨w.heap.size + 1, 0, none⟩ (.int .i64 z.kd)).setCell ⟨w.heap.size + 1, 1, none⟩ (.int .i64 z.n)).setCell ⟨w.heap.size + 1, 2, none⟩ (.string z.nm)).setCell ⟨w.heap.size + 1, 3, none⟩ (.slice a3 z.args.len c3)) = W6 := ⟨_, rfl⟩
      have hEND := new_end (y := z) (w := w) (HBW.out.trans (hb3.mono HBW.out.size)) hR3 (Nat.le_succ _) (hrd3.mono fun q h => ⟨⟨by have := h.1; omega, h.2⟩, by have := h.1; omega⟩) hl3 hn3 hW6
      have HEND := Lib.hid hEND
      obtain ⟨s0, s1, s2, s3, sf0, sf1, sf2, sf3⟩ := hR3.cells4
      clear hEND hrd3 hl3 hn3 hb3 hR3 x0 x1 x2 x3
      go_wp2_with fail
      obtain ⟨⟨q0, q1, q2, q3⟩, hP⟩ := HEND.out
      refine bodyPost_ret (v := .agg #[.int .i64 z.kd, .int .i64 z.n, .string z.nm, .slice a3 z.args.len c3]) (by simp [results, Try.results35, go_sem, q0, q1, q2, q3]) rfl ?_
      rw [HZ.out]
      exact hP
end Go.Proofs.Ytgomafdhckfnbaa.Un
/-
  CONTRACT of layer unify: Rename.
-/
namespace Go.Proofs.Ytgomafdhckfnbaa.Un
open Go.RowKit Mm Tm Mk Rn Go.Maps Go.ChangeMaps Go.MapKept Go.WideMaps
set_option linter.unusedVariables false
set_option linter.unusedSimpArgs false
theorem rowT_get {Z : Nat → Prop} {w : World} : ∀ {l : List Ty} {vs : List Value}, vs.length = l.length * 4 → (∀ (i : Nat) (x : Ty), l[i]? = some x → ∃ a2 c2, vs[i * 4]? = some (.int .i64 x.kd) ∧ vs[i * 4 + 1]? = some (.int .i64 x.n) ∧ vs[i * 4 + 2]? = some (.string x.nm) ∧ vs[i * 4 + 3]? = some (.slice a2 x.args.len c2) ∧ x.nm.size ≤ 9223372036854775807 ∧ x.args.len * 56 ≤ 140737488355328 ∧ RdT Z w a2 x.args 0) → RowT Z w vs l
  | [], vs, hl, _ => List.length_eq_zero_iff.1 (by simpa using hl)
  | y :: l, vs, hl, h => by
    obtain ⟨a2, c2, q0, q1, q2, q3, q4, q5, q6⟩ := h 0 y rfl
    match vs, hl, h, q0, q1, q2, q3 with
    | v0 :: v1 :: v2 :: v3 :: r, hl, h, q0, q1, q2, q3 =>
      simp at q0 q1 q2 q3
      subst q0 q1 q2 q3
      refine ⟨a2, c2, r, rfl, q4, q5, q6, rowT_get (by simp at hl; omega) fun i x hx => ?_⟩
      obtain ⟨a3, c3, p0, p1, p2, p3, p4⟩ := h (i + 1) x (by simpa using hx)
      rw [show (i + 1) * 4 = i * 4 + 4 by omega] at p0 p1 p2 p3
      exact ⟨a3, c3, by simpa using p0, by simpa [Nat.add_right_comm] using p1, by simpa [Nat.add_right_comm] using p2, by simpa [Nat.add_right_comm] using p3, p4⟩
    | [], hl, _, _, _, _, _ => simp at hl
    | [_], hl, _, _, _, _, _ => simp at hl; omega
    | [_, _], hl, _, _, _, _, _ => simp at hl; omega
    | [_, _, _], hl, _, _, _, _, _ => simp at hl; omega
def z0T : Ty := ⟨0, 0, noN, .nil⟩
theorem made_get (n j : Nat) (hj : j < n * 4) : (madeCells zeroTy (n * 4)).toList[j]? = zeroTy[j % 4]? := by
  have h4 : j % 4 < 4 := Nat.mod_lt _ (by decide)
  unfold madeCells
  rw [Array.getElem?_toList, Array.getElem?_map, Array.getElem?_range]
  simp only [hj, if_true, Option.map_some]
  show some (zeroTy[j % 4]!) = zeroTy[j % 4]?
  generalize j % 4 = m at h4
  match m, h4 with
  | 0, _ => rfl
  | 1, _ => rfl
  | 2, _ => rfl
  | 3, _ => rfl
theorem made_row {Z : Nat → Prop} {w : World} (n : Nat) : RowT Z w (madeCells zeroTy (n * 4)).toList (List.replicate n z0T) := by
  refine rowT_get (by rw [Array.length_toList, size_madeCells, List.length_replicate]) fun i x hx => ?_
  rw [List.getElem?_replicate] at hx
  split at hx
  case isFalse => cases hx
  case isTrue hi =>
  injection hx with hx
  subst hx
  refine ⟨none, 0, ?_, ?_, ?_, ?_, Nat.zero_le _, by simp [z0T, Tys.len], trivial⟩
  · rw [made_get n _ (by omega), show i * 4 % 4 = 0 by omega]; rfl
  · rw [made_get n _ (by omega), show (i * 4 + 1) % 4 = 1 by omega]; rfl
  · rw [made_get n _ (by omega), show (i * 4 + 2) % 4 = 2 by omega]; rfl
  · rw [made_get n _ (by omega), show (i * 4 + 3) % 4 = 3 by omega]; rfl
theorem occ_inI : ∀ t : Tys, okT t = true → ∀ n ∈ occT t, inI n = true
  | .nil, _, n, hn => by simp [occT] at hn
  | .cons kd m nm args rest, h, n, hn => by
    rw [okT, Bool.and_eq_true] at h
    rw [occT] at hn
    rcases List.mem_append.1 hn with q | q
    · by_cases hk : kd = 1
      · rw [if_pos hk] at q h
        have hq : n = m := by simpa using q
        subst hq
        exact (ok_inI (x := ⟨kd, n, nm, args⟩) (by unfold okTy; rw [if_pos hk]; exact h.1) hk).1
      · rw [if_neg hk] at q h
        rw [Bool.and_eq_true] at h
        exact occ_inI args h.1.2 n q
    · exact occ_inI rest h.2 n q
theorem occ_inI1 {x : Ty} (h : okTy x = true) : ∀ n ∈ occ x, inI n = true := by
  intro n hn
  unfold occ at hn
  by_cases hk : x.kd = 1
  · rw [if_pos hk] at hn
    have hq : n = x.n := by simpa using hn
    subst hq
    exact (ok_inI h hk).1
  · rw [if_neg hk] at hn
    unfold okTy at h
    rw [if_neg hk, Bool.and_eq_true] at h
    exact occ_inI x.args h.2 n hn
theorem vars_len (x : Ty) : (varsP x).length ≤ x.args.nodes + 1 := by
  have h1 := fold_len (occ x) []
  have h2 : (occ x).length ≤ x.args.nodes + 1 := by
    unfold occ
    split
    · simp
    · exact Nat.le_succ_of_le (occ_nodes _)
  unfold varsP
  simp at h1
  omega
set_option maxRecDepth 100000 in
set_option maxHeartbeats 4000000 in
theorem rename_any {x : Ty} {a : Option Addr} {c : Nat} (w : World) (hr : RdT (fun b => b < w.heap.size) w a x.args 0) (hlx : x.args.len * 56 ≤ 140737488355328) (hnx : x.nm.size ≤ 9223372036854775807) (hok : okTy x = true) (hv : x.args.nodes + 1 ≤ 1000000) :
    Calls Try.prog 22 #[.agg #[.int .i64 x.kd, .int .i64 x.n, .string x.nm, .slice a x.args.len c]] w (NewTy (ren x) w) := by
  obtain ⟨i0, hi, hz0, hz1, hz2'⟩ := info_parts Ttype
  obtain ⟨l, hl⟩ : ∃ l, varsP x = l := ⟨_, rfl⟩
  have hll : l.length ≤ 1000000 := by rw [← hl]; exact Nat.le_trans (vars_len x) hv
  have hin : ∀ n ∈ occ x, n ∈ l := fun n hn => by rw [← hl]; exact mem_vars.2 hn
  have hli : ∀ n ∈ l, inI n = true := fun n hn => occ_inI1 hok n (mem_vars.1 (by rw [hl]; exact hn))
  have hren : ren x = sub1 (rn l fun i => (i : Nat)) x := by unfold ren; rw [hl]
  obtain ⟨W0, hW0⟩ : ∃ W0, (w.alloc (.cells #[.int .i64 x.kd, .int .i64 x.n, .string x.nm, .slice a x.args.len c] TT)).alloc (.cells zeroTy TT) = W0 := ⟨_, rfl⟩
  have hB0 : Below w.heap.size w W0 := by rw [← hW0]; exact ((Below.refl w.heap.size w).alloc (Nat.le_refl _) _).alloc (by simp) _
  have hX0 : Box W0 w.heap.size TT #[.int .i64 x.kd, .int .i64 x.n, .string x.nm, .slice a x.args.len c] := by rw [← hW0]; exact (Box.new w _ _).alloc _
  have hR0 : Box W0 (w.heap.size + 1) TT zeroTy := by rw [← hW0]; exact Box.at_ _ _ (by simp)
  have hw0 : w.heap.size ≤ W0.heap.size := hB0.size
  have HVA := Lib.hid (vars_any (a := a) (c := c) W0 ((hr.below hB0 fun q h => h).mono fun q h => by omega) hlx hok hv)
  unfold VarsOut at HVA
  rw [hl] at HVA
  have HB0 := Lib.hid hB0
  have HX0 := Lib.hid hX0
  have HR0 := Lib.hid hR0
  have HH := Lib.hid (And.intro hr (And.intro hlx (And.intro hnx (And.intro hok (And.intro hin hli)))))
  have HRE := Lib.hid hren
  obtain ⟨x0, x1, x2, x3, _⟩ := hX0.cells4
  clear hr hlx hnx hok hin hli hB0 hX0 hR0 hren hl hv
  go_enter Try.func22, Try.ntmps22
  go_wp2_with fail
  refine HVA.out.mono ?_
  rintro e W1 ⟨a1, c1, rfl, ho1, hb1⟩
  have HO1 := Lib.hid (rdI_here (ownI_rds ho1) (Below.refl _ W1))
  have HB1 := Lib.hid (HB0.out.trans (hb1.mono HB0.out.size))
  have HX1 := Lib.hid (HX0.out.below hb1 HX0.out.lt)
  have HR1 := Lib.hid (HR0.out.below hb1 HR0.out.lt)
  have zw1 : w.heap.size + 1 < W1.heap.size := HR1.out.lt
  clear ho1 hb1 hW0 x0 x1 x2 x3
  go_wp2_with (at_make; refine wpList_make_full _ rfl _ _ 27 rfl W1.heap.size TT i0 _ 4 Try.underlying27 hi hz0 hz1 _ _ _ _ l.length rfl rfl rfl rfl (by rw [hz2']; omega) (by unfold maxLen; omega) (Nat.le_refl _) ?_)
  intro w2 hown hgrow
  have HRR : Hid (RepR W1.heap.size w.heap.size w2 (.slice (some ⟨W1.heap.size, 0, none⟩) l.length l.length) l.length [] (List.replicate l.length z0T)) := Lib.hid ⟨[], _, by rw [List.nil_append]; exact hown, rfl, made_row _, by simp, by omega⟩
  have HB2 := Lib.hid ((Below.refl W1.heap.size W1).grown hgrow (Nat.le_refl _) (fun k h => by cases h))
  clear hown hgrow
  go_wp2_with fail
  go_loopg [5, 13] l.length (fun d v5 v wr => ∃ (k : Nat) (rest : List Ty), k + d = l.length ∧ v = .int .i64 k ∧ rest = List.replicate (l.length - k) z0T ∧ RepR W1.heap.size w.heap.size wr (.slice (some ⟨W1.heap.size, 0, none⟩) l.length l.length) l.length (vrs (fun i => (i : Nat)) k) rest ∧ Below W1.heap.size W1 wr)
  case atStart => exact ⟨0, _, by omega, rfl, rfl, HRR.out, HB2.out⟩
  case round =>
    obtain ⟨k, rest, hkd, rfl, hrest, hrr, hb⟩ := hrel
    have HK := Lib.hid hkd
    have HB := Lib.hid hb
    have hzw := hb.size
    have hkle : k ≤ l.length := by omega
    clear hkd hb
    by_cases hlt : k < l.length
    · have hlt' : (k : Int) < l.length := by omega
      have hd : rest = z0T :: List.replicate (l.length - (k + 1)) z0T := by
        rw [hrest, show l.length - k = (l.length - (k + 1)) + 1 by omega, List.replicate_succ]
      rw [hd] at hrr
      have HRR := Lib.hid hrr
      have HVA := Lib.hid (variable_any (k : Int) wr)
      clear hrr hrest hd
      go_wp2_with fail
      refine HVA.out.mono ?_
      rintro e w3 ⟨rfl, hb3⟩
      have hr3 := HRR.out.here hb3 (by omega)
      obtain ⟨gb, cg, a2, c2, hv, _, hg3, t0, t1, t2, t3, _, _, _⟩ := hr3.next
      obtain ⟨rfl, rfl⟩ : W1.heap.size = gb ∧ l.length = cg := by injection hv with q1 q2 q3; injection q1 with q1; injection q1 with q1; exact ⟨q1, q3⟩
      rw [vrs_len] at t0 t1 t2 t3
      obtain ⟨W8, hW8⟩ : ∃ W8, ((((w3.setCell ⟨W1.heap.size, k * 4, none⟩ (.int .i64 1)).setCell ⟨W1.heap.size, k * 4 + 1, none⟩ (.int .i64 k)).setCell ⟨W1.heap.size, k * 4 + 2, none⟩ (.string noN)).setCell ⟨W1.heap.size, k * 4 + 3, none⟩ (.slice none 0 0)) = W8 := ⟨_, rfl⟩
      obtain ⟨p8, r8⟩ := RepR.put (z := vr k) (a3 := none) (c3 := 0) (W8 := W8) hr3 trivial (by simp [vr, Tys.len]) (Nat.zero_le _) (by rw [vrs_len]; exact hW8)
      obtain ⟨vdr, vrr, o7, -⟩ := hr3
      have f0 := o7.frozenAt (k * 4)
      have f1 := o7.frozenAt (k * 4 + 1)
      have f2 := o7.frozenAt (k * 4 + 2)
      have f3 := o7.frozenAt (k * 4 + 3)
      have P8 := Lib.hid (show RepR W1.heap.size w.heap.size W8 (.slice (some ⟨W1.heap.size, 0, none⟩) l.length l.length) l.length (vrs (fun i => (i : Nat)) (k + 1)) (List.replicate (l.length - (k + 1)) z0T) by
        have e : vrs (fun i => ((i : Nat) : Int)) (k + 1) = vrs (fun i => ((i : Nat) : Int)) k ++ [vr k] := by unfold vrs; rw [List.range_succ, List.map_append]; rfl
        rw [e]
        exact p8)
      have HB8 := Lib.hid (r8.below (HB.out.trans (hb3.mono hzw)) (Nat.le_refl _))
      clear hb3 hv p8 r8 o7
      go_wp2_with fail
      go_roundg (l.length - (k + 1))
      case measure => have := HK.out; omega
      case rel => exact ⟨k + 1, _, by have := HK.out; omega, by go_num, rfl, P8.out, HB8.out⟩
    · have hge : ¬ (k : Int) < l.length := by omega
      have hkl : k = l.length := by omega
      rw [hrest, hkl, Nat.sub_self] at hrr
      obtain ⟨a5, c5, hv5, -, hrd5⟩ := RepR.end_ (show RepR W1.heap.size w.heap.size wr (.slice (some ⟨W1.heap.size, 0, none⟩) l.length l.length) l.length (vrs (fun i => (i : Nat)) l.length) [] from hrr)
      obtain rfl : some ⟨W1.heap.size, 0, none⟩ = a5 := by injection hv5
      have hBW : Below w.heap.size w wr := HB1.out.trans (HB.out.mono HB1.out.size)
      have hww : w.heap.size ≤ wr.heap.size := hBW.size
      have hX := HX1.out.below HB.out HX1.out.lt
      have HRw := Lib.hid (HR1.out.below HB.out HR1.out.lt)
      have HBW := Lib.hid hBW
      have HCC := Lib.hid (subst_any (g := fun i => (i : Nat)) (l := l) (b := a1) (cb := c1) (p := some ⟨W1.heap.size, 0, none⟩) (cp := l.length) (a := a) (c := c) wr ((HH.out.1.below hBW fun q h => h).mono fun q h => by omega) HH.out.2.1 HH.out.2.2.1 HH.out.2.2.2.1 HH.out.2.2.2.2.1 HH.out.2.2.2.2.2 (rdI_here HO1.out HB.out) hll (hrd5.mono fun q h => h.2))
      rw [← HRE.out] at HCC
      obtain ⟨z, hz⟩ : ∃ z, ren x = z := ⟨_, rfl⟩
      rw [hz] at HCC
      have HZ := Lib.hid hz
      obtain ⟨x0, x1, x2, x3, _⟩ := hX.cells4
      clear hX hz hrr hrd5 hv5 hrest hkl hBW
      go_wp2_with fail
      refine HCC.out.mono ?_
      rintro e w3 ⟨a3, c3, rfl, hrd3, hl3, hn3, hb3⟩
      have hR3 := HRw.out.below hb3 HRw.out.lt
      obtain ⟨W6, hW6⟩ : ∃ W6, ((((w3.setCell ⟨w.heap.size + 1, 0, none⟩ (.int .i64 z.kd)).setCell ⟨w.heap.size + 1, 1, none⟩ (.int .i64 z.n)).setCell ⟨w.heap.size + 1, 2, none⟩ (.string z.nm)).setCell ⟨w.heap.size + 1, 3, none⟩ (.slice a3 z.args.len c3)) = W6 := ⟨_, rfl⟩
      have hEND := new_end (y := z) (w := w) (HBW.out.trans (hb3.mono HBW.out.size)) hR3 (Nat.le_succ _) (hrd3.mono fun q h => ⟨⟨by have := h.1; omega, h.2⟩, by have := h.1; omega⟩) hl3 hn3 hW6
      have HEND := Lib.hid hEND
      obtain ⟨s0, s1, s2, s3, sf0, sf1, sf2, sf3⟩ := hR3.cells4
      clear hEND hrd3 hl3 hn3 hb3 hR3 x0 x1 x2 x3
      go_wp2_with fail
      obtain ⟨⟨q0, q1, q2, q3⟩, hP⟩ := HEND.out
      refine bodyPost_ret (v := .agg #[.int .i64 z.kd, .int .i64 z.n, .string z.nm, .slice a3 z.args.len c3]) (by simp [results, Try.results22, go_sem, q0, q1, q2, q3]) rfl ?_
      rw [HZ.out]
      exact hP
end Go.Proofs.Ytgomafdhckfnbaa.Un
