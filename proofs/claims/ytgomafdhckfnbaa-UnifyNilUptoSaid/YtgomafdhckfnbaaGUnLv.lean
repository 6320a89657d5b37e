/-
  CONTRACTS of layer unify: a store that is not there, and types that may not be, are told: Resolve, Leaves, Unify.
-/
import Derived.Test.YtgomafdhckfnbaaGE

namespace Go.Proofs.Ytgomafdhckfnbaa.Un
open Go.RowKit Go.Shelf Mm Tm Mk Go.Maps Go.ChangeMaps Go.MapKept Go.WideMaps Rg
set_option linter.unusedVariables false
set_option linter.unusedSimpArgs false
set_option maxRecDepth 100000 in
set_option maxHeartbeats 4000000 in
theorem resolve_er {x : Ty} {ax : Option Addr} {cx : Nat} {p : Option Addr} {er : Int} (w : World) (her : er ≠ 0)
    (hA : ∀ W : World, Below w.heap.size w W → Calls Try.prog 27 #[.pointer p, .agg #[.int .i64 x.kd, .int .i64 x.n, .string x.nm, .slice ax x.args.len cx]] W (ValB (.int .i64 er) W)) :
    Calls Try.prog 11 #[.pointer p, .agg #[.int .i64 x.kd, .int .i64 x.n, .string x.nm, .slice ax x.args.len cx]] w (ValB (.tuple #[zeroTV, .int .i64 er]) w) := by
  obtain ⟨W0, hW0⟩ : ∃ W0, (w.alloc (.cells #[.int .i64 x.kd, .int .i64 x.n, .string x.nm, .slice ax x.args.len cx] TT)).alloc (.cells zeroT TT) = W0 := ⟨_, rfl⟩
  have hB0 : Below w.heap.size w W0 := by rw [← hW0]; exact ((Below.refl w.heap.size w).alloc (Nat.le_refl _) _).alloc (by simp) _
  have hX0 : Box W0 w.heap.size TT #[.int .i64 x.kd, .int .i64 x.n, .string x.nm, .slice ax x.args.len cx] := by rw [← hW0]; exact (Box.new w _ _).alloc _
  have hR0 : Box W0 (w.heap.size + 1) TT zeroT := by rw [← hW0]; exact Box.at_ _ _ (by simp)
  have HA := Lib.hid (hA W0 hB0)
  have HB0 := Lib.hid hB0
  have HR0 := Lib.hid hR0
  obtain ⟨x0, x1, x2, x3, _⟩ := hX0.cells4
  have qe : (er != 0) = true := by simpa using her
  clear hB0 hX0 hR0 hA her
  go_enter Try.func11, Try.ntmps11
  go_wp2_with fail
  refine HA.out.mono ?_
  rintro e W1 ⟨rfl, hb1⟩
  have hR1 := HR0.out.below hb1 HR0.out.lt
  obtain ⟨W6, hW6, hbx, hwr⟩ := hR1.write4 (.int .i64 0) (.int .i64 0) (.string ⟨#[]⟩) (.slice none 0 0)
  obtain ⟨q0, q1, q2, q3, _⟩ := hbx.cells4
  have HQ := Lib.hid (And.intro q0 (And.intro q1 (And.intro q2 q3)))
  have HB6 := Lib.hid (hwr.below (HB0.out.trans (hb1.mono HB0.out.size)) (Nat.le_succ _))
  obtain ⟨s0, s1, s2, s3, sf0, sf1, sf2, sf3⟩ := hR1.cells4
  clear hb1 hR1 hbx hwr q0 q1 q2 q3 hW0 x0 x1 x2 x3
  go_wp2_with fail
  obtain ⟨q0, q1, q2, q3⟩ := HQ.out
  refine bodyPost_ret (v := .tuple #[zeroTV, .int .i64 er]) (by simp [results, Try.results11, go_sem, q0, q1, q2, q3]) rfl ?_
  exact ⟨rfl, HB6.out⟩
set_option maxRecDepth 100000 in
set_option maxHeartbeats 4000000 in
theorem leaves_er {x : Ty} {ax : Option Addr} {cx : Nat} {p : Option Addr} {er : Int} (w : World) (her : er ≠ 0)
    (hA : ∀ W : World, Below w.heap.size w W → Calls Try.prog 27 #[.pointer p, .agg #[.int .i64 x.kd, .int .i64 x.n, .string x.nm, .slice ax x.args.len cx]] W (ValB (.int .i64 er) W)) :
    Calls Try.prog 23 #[.pointer p, .agg #[.int .i64 x.kd, .int .i64 x.n, .string x.nm, .slice ax x.args.len cx]] w (ValB (.tuple #[.slice none 0 0, .int .i64 er]) w) := by
  obtain ⟨W0, hW0⟩ : ∃ W0, w.alloc (.cells #[.int .i64 x.kd, .int .i64 x.n, .string x.nm, .slice ax x.args.len cx] TT) = W0 := ⟨_, rfl⟩
  have hB0 : Below w.heap.size w W0 := by rw [← hW0]; exact (Below.refl w.heap.size w).alloc (Nat.le_refl _) _
  have hX0 : Box W0 w.heap.size TT #[.int .i64 x.kd, .int .i64 x.n, .string x.nm, .slice ax x.args.len cx] := by rw [← hW0]; exact Box.new w _ _
  have HA := Lib.hid (hA W0 hB0)
  have HB0 := Lib.hid hB0
  obtain ⟨x0, x1, x2, x3, _⟩ := hX0.cells4
  have qe : (er != 0) = true := by simpa using her
  clear hB0 hX0 hA her
  go_enter Try.func23, Try.ntmps23
  go_wp2_with fail
  refine HA.out.mono ?_
  rintro e W1 ⟨rfl, hb1⟩
  have HB1 := Lib.hid (HB0.out.trans (hb1.mono HB0.out.size))
  clear hb1 hW0 x0 x1 x2 x3
  go_wp2_with fail
  refine bodyPost_ret (v := .tuple #[.slice none 0 0, .int .i64 er]) (by simp [results, Try.results23, go_sem]) rfl ?_
  exact ⟨rfl, HB1.out⟩
set_option maxRecDepth 100000 in
set_option maxHeartbeats 4000000 in
theorem unify_nil {x y : Ty} {ax ay : Option Addr} {cx cy : Nat} (w : World) :
    Calls Try.prog 18 #[.pointer none, .agg #[.int .i64 x.kd, .int .i64 x.n, .string x.nm, .slice ax x.args.len cx], .agg #[.int .i64 y.kd, .int .i64 y.n, .string y.nm, .slice ay y.args.len cy]] w (ValB (.int .i64 3) w) := by
  have HB0 := Lib.hid (((Below.refl w.heap.size w).alloc (Nat.le_refl _) (.cells #[.int .i64 x.kd, .int .i64 x.n, .string x.nm, .slice ax x.args.len cx] TT)).alloc (by simp) (.cells #[.int .i64 y.kd, .int .i64 y.n, .string y.nm, .slice ay y.args.len cy] TT))
  go_enter Try.func18, Try.ntmps18
  go_wp2_with fail
  go_ret
  exact ⟨rfl, HB0.out⟩
theorem resolve_nil {x : Ty} {ax : Option Addr} {cx : Nat} (w : World) :
    Calls Try.prog 11 #[.pointer none, .agg #[.int .i64 x.kd, .int .i64 x.n, .string x.nm, .slice ax x.args.len cx]] w (ValB (.tuple #[zeroTV, .int .i64 3]) w) := resolve_er w (by decide) fun W _ => asked_nil W
theorem leaves_nil {x : Ty} {ax : Option Addr} {cx : Nat} (w : World) :
    Calls Try.prog 23 #[.pointer none, .agg #[.int .i64 x.kd, .int .i64 x.n, .string x.nm, .slice ax x.args.len cx]] w (ValB (.tuple #[.slice none 0 0, .int .i64 3]) w) := leaves_er w (by decide) fun W _ => asked_nil W
theorem resolve_no {base s : Nat} {x : Ty} {ax : Option Addr} {cx : Nat} (w : World) (hx : TyR base w x ax) (okx : okTy x = false) :
    Calls Try.prog 11 #[.pointer (some ⟨s, 0, none⟩), .agg #[.int .i64 x.kd, .int .i64 x.n, .string x.nm, .slice ax x.args.len cx]] w (ValB (.tuple #[zeroTV, .int .i64 1]) w) := resolve_er w (by decide) fun W hb => asked_no (base := base) (m := 0) (cnt := 0) (nx := 0) (K := fun _ => none) W (hx.below hb) okx
theorem leaves_no {base s : Nat} {x : Ty} {ax : Option Addr} {cx : Nat} (w : World) (hx : TyR base w x ax) (okx : okTy x = false) :
    Calls Try.prog 23 #[.pointer (some ⟨s, 0, none⟩), .agg #[.int .i64 x.kd, .int .i64 x.n, .string x.nm, .slice ax x.args.len cx]] w (ValB (.tuple #[.slice none 0 0, .int .i64 1]) w) := leaves_er w (by decide) fun W hb => asked_no (base := base) (m := 0) (cnt := 0) (nx := 0) (K := fun _ => none) W (hx.below hb) okx
end Go.Proofs.Ytgomafdhckfnbaa.Un
