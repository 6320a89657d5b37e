/-
  CONTRACTS of layer unify: two stores beside each other: Unify from both sides, Resolve.
-/
import Derived.Test.YtcaioffdcbjbjaaGE
import Derived.Test.YtcaioffdcbjbjaaGPrF
import Derived.Test.YtcaioffdcbjbjaaGTuF

namespace Go.Proofs.Ytcaioffdcbjbjaa.Un
open Go.RowKit Go.Shelf Mm Tm Mk Go.Maps Go.ChangeMaps Go.MapKept Go.WideMaps Rg Ua
set_option linter.unusedVariables false
set_option linter.unusedSimpArgs false
set_option maxRecDepth 100000 in
set_option maxHeartbeats 4000000 in
theorem resolve_er {x : Ty} {ax : Option Addr} {cx : Nat} {p : Option Addr} {er : Int} (w : World) (her : er ≠ 0)
    (hA : ∀ W : World, Below w.heap.size w W → Calls Try.prog 19 #[.pointer p, .agg #[.int .i64 x.kd, .int .i64 x.n, .string x.nm, .slice ax x.args.len cx]] W (ValB (.int .i64 er) W)) :
    Calls Try.prog 8 #[.pointer p, .agg #[.int .i64 x.kd, .int .i64 x.n, .string x.nm, .slice ax x.args.len cx]] w (ValB (.tuple #[zeroTV, .int .i64 er]) w) := by
  obtain ⟨W0, hW0⟩ : ∃ W0, (w.alloc (.cells #[.int .i64 x.kd, .int .i64 x.n, .string x.nm, .slice ax x.args.len cx] TT)).alloc (.cells zeroT TT) = W0 := ⟨_, rfl⟩
  have hB0 : Below w.heap.size w W0 := by rw [← hW0]; exact ((Below.refl w.heap.size w).alloc (Nat.le_refl _) _).alloc (by simp) _
  have hX0 : Box W0 w.heap.size TT #[.int .i64 x.kd, .int .i64 x.n, .string x.nm, .slice ax x.args.len cx] := by rw [← hW0]; exact (Box.new w _ _).alloc _
  have hR0 : Box W0 (w.heap.size + 1) TT zeroT := by rw [← hW0]; exact Box.at_ _ _ (by simp)
  have HA := Lib.hid (hA W0 hB0)
  have HB0 := Lib.hid hB0
  have HR0 := Lib.hid hR0
  obtain ⟨x0, x1, x2, x3, _⟩ := hX0.cells4
  have qe : (er != 0) = true := by simpa using her
  clear hB0 hX0 hR0 hA her
  go_enter Try.func8, Try.ntmps8
  go_wp2_with fail
  refine HA.out.mono ?_
  rintro e W1 ⟨rfl, hb1⟩
  have hR1 := HR0.out.below hb1 HR0.out.lt
  obtain ⟨W6, hW6, hbx, hwr⟩ := hR1.write4 (.int .i64 0) (.int .i64 0) (.string ⟨#[]⟩) (.slice none 0 0)
  obtain ⟨q0, q1, q2, q3, _⟩ := hbx.cells4
  have HQ := Lib.hid (And.intro q0 (And.intro q1 (And.intro q2 q3)))
  have HB6 := Lib.hid (hwr.below (HB0.out.trans (hb1.mono HB0.out.size)) (Nat.le_succ _))
  obtain ⟨s0, s1, s2, s3, sf0, sf1, sf2, sf3⟩ := hR1.cells4
  clear hb1 hR1 hbx hwr q0 q1 q2 q3 hW0 x0 x1 x2 x3
  go_wp2_with fail
  obtain ⟨q0, q1, q2, q3⟩ := HQ.out
  refine bodyPost_ret (v := .tuple #[zeroTV, .int .i64 er]) (by simp [results, Try.results8, go_sem, q0, q1, q2, q3]) rfl ?_
  exact ⟨rfl, HB6.out⟩
theorem resolve_no {base s : Nat} {x : Ty} {ax : Option Addr} {cx : Nat} (w : World) (hx : TyR base w x ax) (okx : okTy x = false) :
    Calls Try.prog 8 #[.pointer (some ⟨s, 0, none⟩), .agg #[.int .i64 x.kd, .int .i64 x.n, .string x.nm, .slice ax x.args.len cx]] w (ValB (.tuple #[zeroTV, .int .i64 1]) w) := resolve_er w (by decide) fun W hb => asked_no (base := base) (m := 0) (cnt := 0) (nx := 0) (K := fun _ => none) W (hx.below hb) okx
/-- two stores in memory -/
structure TwoS (base : Nat) (w : World) (s1 m1 s2 m2 : Nat) (K1 K2 : PS) (c1 c2 : Nat) : Prop where
  a : ∃ nx, StoreI base w s1 m1 nx K1 c1
  b : ∃ nx, StoreI base w s2 m2 nx K2 c2
  ne : s1 ≠ s2
  nm : m1 ≠ m2
theorem TwoS.below {base : Nat} {w w' : World} {s1 m1 s2 m2 : Nat} {K1 K2 : PS} {c1 c2 : Nat} (h : TwoS base w s1 m1 s2 m2 K1 K2 c1 c2) (hb : Below w.heap.size w w') : TwoS base w' s1 m1 s2 m2 K1 K2 c1 c2 := by
  obtain ⟨⟨n1, h1⟩, ⟨n2, h2⟩, h3, h4⟩ := h
  exact ⟨⟨n1, h1.below hb⟩, ⟨n2, h2.below hb⟩, h3, h4⟩
theorem TwoS.swap {base : Nat} {w : World} {s1 m1 s2 m2 : Nat} {K1 K2 : PS} {c1 c2 : Nat} (h : TwoS base w s1 m1 s2 m2 K1 K2 c1 c2) : TwoS base w s2 m2 s1 m1 K2 K1 c2 c1 := ⟨h.b, h.a, h.ne.symm, h.nm.symm⟩
theorem TwoS.given {base : Nat} {w w' : World} {s1 m1 s2 m2 : Nat} {K1 K2 : PS} {c1 c2 : Nat} {nx' : Int} (h : TwoS base w s1 m1 s2 m2 K1 K2 c1 c2) (hb : Box w' s1 TSt #[.map (some m1), .int .i64 nx']) (hk : Kept (fun b => b = s1) w w') : TwoS base w' s1 m1 s2 m2 K1 K2 c1 c2 := by
  obtain ⟨⟨n1, h1⟩, ⟨n2, h2⟩, h3, h4⟩ := h
  exact ⟨⟨nx', h1.given hb hk⟩, ⟨n2, ⟨hk.box h2.box (fun e => h3 e.symm), h2.kn.kept hk (fun e => h2.kn.ne h1.box e) (fun b e => by rw [e]; exact Box.notTyB h1.box (by decide)), h2.bs, h2.bm⟩⟩, h3, h4⟩
def U2P (base s1 m1 s2 m2 : Nat) (K1 K2 : PS) (c : Nat) (er : Int) (w : World) (e : Ending) (w' : World) : Prop := e = .returned (.int .i64 er) ∧ TwoS base w' s1 m1 s2 m2 K1 K2 c c ∧ Below base w w' ∧ KeepT w w'
def U1P (base s1 m1 s2 m2 i : Nat) (xv yv : Value) (w : World) (e : Ending) (w' : World) : Prop := ∃ (er : Int) (K1' K2' : PS) (c' : Nat), e = .returned (.int .i64 er) ∧ TwoK (i + 1) c' K1' K2' ∧ Below base w w' ∧ KeepT w w' ∧ ∀ w2, Below w'.heap.size w' w2 → Calls Try.prog 7 #[.pointer (some ⟨s2, 0, none⟩), yv, xv] w2 (U2P base s1 m1 s2 m2 K1' K2' c' er w2)
theorem unify_two {q d kk : Nat} (hN : Nums q d kk) {base s1 m1 s2 m2 i c cx cy : Nat} {K1 K2 : PS} {x y : Ty} {ax ay : Option Addr} (w : World) (hb : base ≤ w.heap.size) (t : TwoS base w s1 m1 s2 m2 K1 K2 c c) (h : TwoK i c K1 K2) (hi : i ≤ 40)
    (rx : RdT (· < base) w ax x.args 0) (lx : x.args.len * 56 ≤ 140737488355328) (nx1 : x.nm.size ≤ 9223372036854775807) (ry : RdT (· < base) w ay y.args 0) (ly : y.args.len * 56 ≤ 140737488355328) (ny1 : y.nm.size ≤ 9223372036854775807) (sx : x.args.nodes < 60) (sy : y.args.nodes < 60) :
    Calls Try.prog 7 #[.pointer (some ⟨s1, 0, none⟩), .agg #[.int .i64 x.kd, .int .i64 x.n, .string x.nm, .slice ax x.args.len cx], .agg #[.int .i64 y.kd, .int .i64 y.n, .string y.nm, .slice ay y.args.len cy]] w
      (U1P base s1 m1 s2 m2 i (.agg #[.int .i64 x.kd, .int .i64 x.n, .string x.nm, .slice ax x.args.len cx]) (.agg #[.int .i64 y.kd, .int .i64 y.n, .string y.nm, .slice ay y.args.len cy]) w) := by
  have hx : ∀ w', Below base w w' → base ≤ w'.heap.size → TyR base w' x ax := fun w' hb' hs => tyR_low rx hb' hs lx nx1
  have hy : ∀ w', Below base w w' → base ≤ w'.heap.size → TyR base w' y ay := fun w' hb' hs => tyR_low ry hb' hs ly ny1
  obtain ⟨⟨n1, h1⟩, ⟨n2, h2⟩, h3, h4⟩ := t
  cases hok : okTy x && okTy y with
  | false =>
    refine (unify_no (s := s1) w (hx w (Below.refl _ _) hb) (hy w (Below.refl _ _) hb) hok).mono fun e w' ⟨he, hb'⟩ => ?_
    have hz : base ≤ w'.heap.size := Nat.le_trans hb hb'.size
    refine ⟨1, K1, K2, c, he, h.more, hb'.mono hb, KeepT.of_below hb', fun w2 hb2 => ?_⟩
    have hz2 : base ≤ w2.heap.size := Nat.le_trans hz hb2.size
    have hbb := (hb'.mono hb).trans (hb2.mono hz)
    refine (unify_no (s := s2) w2 (hy w2 hbb hz2) (hx w2 hbb hz2) (by rw [Bool.and_comm]; exact hok)).mono fun e3 w3 ⟨he3, hb3⟩ => ?_
    exact ⟨he3, ((TwoS.mk ⟨n1, h1⟩ ⟨n2, h2⟩ h3 h4).below (hb'.trans (hb2.mono hb'.size))).below hb3, hb3.mono hz2, KeepT.of_below hb3⟩
  | true =>
    rw [Bool.and_eq_true] at hok
    obtain ⟨er, K1', K2', c', u1, u2, hk'⟩ := h.unify hN hi hok.1 hok.2 sx sy
    refine (unify_any (cx := cx) (cy := cy) w h1 hb (hx w (Below.refl _ _) hb) (hy w (Below.refl _ _) hb) hok.1 hok.2 (Nat.le_of_eq hN.d) (Nat.le_of_eq hN.k) (by have := h.k1.2; omega) u1).mono fun e w' ⟨he, hS', hk3⟩ => ?_
    have hbb := KG.below hk3 hb
    have hz : base ≤ w'.heap.size := Nat.le_trans hb hbb.size
    have h2' := h2.other h1 (Ne.symm h3) (Ne.symm h4) hk3
    refine ⟨er, K1', K2', c', he, hk', hbb, h1.keepU hk3, fun w2 hb2 => ?_⟩
    have hz2 : base ≤ w2.heap.size := Nat.le_trans hz hb2.size
    have hbb2 := hbb.trans (hb2.mono hz)
    have g1 := hS'.below hb2
    have g2 := h2'.below hb2
    refine (unify_any (cx := cy) (cy := cx) w2 g2 hz2 (hy w2 hbb2 hz2) (hx w2 hbb2 hz2) hok.2 hok.1 (Nat.le_of_eq hN.d) (Nat.le_of_eq hN.k) (by have := h.k1.2; omega) u2).mono fun e3 w3 ⟨he3, hS3, hk4⟩ => ?_
    exact ⟨he3, ⟨⟨_, g1.other g2 h3 h4 hk4⟩, ⟨_, hS3⟩, h3, h4⟩, KG.below hk4 hz2, g2.keepU hk4⟩
theorem resolve_two {q d kk : Nat} (hN : Nums q d kk) {base s1 m1 s2 m2 i c cx : Nat} {K1 K2 : PS} {x : Ty} {ax : Option Addr} (w : World) (h : TwoK i c K1 K2) (hi : i ≤ 41)
    (rx : RdT (· < base) w ax x.args 0) (lx : x.args.len * 56 ≤ 140737488355328) (nx1 : x.nm.size ≤ 9223372036854775807) :
    ∃ y er, (∀ w', Below base w w' → base ≤ w'.heap.size → TwoS base w' s1 m1 s2 m2 K1 K2 c c → Calls Try.prog 8 #[.pointer (some ⟨s1, 0, none⟩), .agg #[.int .i64 x.kd, .int .i64 x.n, .string x.nm, .slice ax x.args.len cx]] w' (ResIs s1 m1 y er w')) ∧
      (∀ w', Below base w w' → base ≤ w'.heap.size → TwoS base w' s1 m1 s2 m2 K1 K2 c c → Calls Try.prog 8 #[.pointer (some ⟨s2, 0, none⟩), .agg #[.int .i64 x.kd, .int .i64 x.n, .string x.nm, .slice ax x.args.len cx]] w' (ResIs s2 m2 y er w')) := by
  have hx : ∀ w', Below base w w' → base ≤ w'.heap.size → TyR base w' x ax := fun w' hb' hs => tyR_low rx hb' hs lx nx1
  cases hok : okTy x with
  | true =>
    have heq := h.whole hN hi 256 256 x
    refine ⟨resP q K1 x, resE q K1 x, fun w' hb' hs t => ?_, fun w' hb' hs t => ?_⟩
    · obtain ⟨⟨n1, h1⟩, _⟩ := t
      exact resolve_is hN w' h.k1 hi h1 hs (hx w' hb' hs) hok
    · obtain ⟨_, ⟨n2, h2⟩, _⟩ := t
      have g1 : resP q K1 x = resP q K2 x := by unfold resP; rw [heq]
      have g2 : resE q K1 x = resE q K2 x := by unfold resE; rw [heq]
      rw [g1, g2]
      exact resolve_is hN w' h.k2 hi h2 hs (hx w' hb' hs) hok
  | false =>
    refine ⟨z0U, 1, fun w' hb' hs t => ?_, fun w' hb' hs t => ?_⟩
    · obtain ⟨⟨n1, h1⟩, _⟩ := t
      refine (resolve_no (s := s1) w' (hx w' hb' hs) hok).mono fun e w2 ⟨he, hb2⟩ => ?_
      exact ⟨none, 0, n1, he, trivial, by simp [z0U, Tys.len], Nat.zero_le _, (h1.below hb2).box, Kept.of_below hb2 (Nat.le_refl _) _⟩
    · obtain ⟨_, ⟨n2, h2⟩, _⟩ := t
      refine (resolve_no (s := s2) w' (hx w' hb' hs) hok).mono fun e w2 ⟨he, hb2⟩ => ?_
      exact ⟨none, 0, n2, he, trivial, by simp [z0U, Tys.len], Nat.zero_le _, (h2.below hb2).box, Kept.of_below hb2 (Nat.le_refl _) _⟩
end Go.Proofs.Ytcaioffdcbjbjaa.Un
