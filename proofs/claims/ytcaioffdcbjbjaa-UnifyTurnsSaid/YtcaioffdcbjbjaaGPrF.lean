/-
  CONTRACT: Resolve in a store of pairs made the same; what blocks of types keep.
-/
import Derived.Test.YtcaioffdcbjbjaaGPrE

namespace Go.Proofs.Ytcaioffdcbjbjaa.Un
open Go.RowKit Go.Shelf Mm Tm Mk Go.Maps Go.ChangeMaps Go.MapKept Go.WideMaps Rg Ua
set_option linter.unusedVariables false
set_option linter.unusedSimpArgs false
/-- blocks of types stay as they are -/
def KeepT (w w' : World) : Prop := w.heap.size ≤ w'.heap.size ∧ ∀ b, TyB TT w b → w'.heap[b]? = w.heap[b]?
theorem KeepT.refl (w : World) : KeepT w w := ⟨Nat.le_refl _, fun b _ => rfl⟩
theorem KeepT.tyB {w w' : World} (h : KeepT w w') {b : Nat} (hb : TyB TT w b) : TyB TT w' b := hb.same (h.2 b hb)
theorem KeepT.trans {w w' w'' : World} (h : KeepT w w') (k : KeepT w' w'') : KeepT w w'' := ⟨Nat.le_trans h.1 k.1, fun b hb => (k.2 b (h.tyB hb)).trans (h.2 b hb)⟩
theorem KeepT.of_below {w w' : World} (h : Below w.heap.size w w') : KeepT w w' := ⟨h.size, fun b hb => h.block b hb.lt⟩
theorem KeepT.of_kept {w w' : World} {X : Nat → Prop} (h : Kept X w w') (hX : ∀ b, X b → ¬ TyB TT w b) : KeepT w w' := ⟨h.size, fun b hb => h.block b hb.lt fun x => hX b x hb⟩
theorem KeepT.box {w w' : World} (h : KeepT w w') {g : Nat} {cs : Array Value} (hb : Box w g TT cs) : Box w' g TT cs := (h.2 g ⟨cs, hb⟩).trans hb
theorem KeepT.zn {w w' : World} (h : KeepT w w') {B : Nat} {a : Option Addr} {t : Tys} {k : Nat} (hr : RdT (ZN B w) w a t k) : RdT (ZN B w') w' a t k :=
  hr.frame (fun b o q => World.cell?_of_block (h.2 b q.2)) (fun ad q => World.cell?_of_block (h.2 _ q.2)) fun b q => ⟨q.1, h.tyB q.2⟩
theorem KeepT.own {w w' : World} (h : KeepT w w') {B : Nat} {v : Value} {l : List Ty} (ho : OwnT B TT w v l) : OwnT B TT w' v l := by
  obtain ⟨vs, h1, h2⟩ := ho
  refine ⟨vs, ⟨h1.1, ?_⟩, h2.frame (fun b o q => World.cell?_of_block (h.2 b q.2.1)) (fun ad q => World.cell?_of_block (h.2 _ q.2.1)) fun b q => ⟨q.1, h.tyB q.2.1, q.2.2⟩⟩
  rcases h1.2 with h3 | ⟨g, cap, cur, rfl, hg, hh, r⟩
  · exact .inl h3
  · exact .inr ⟨g, cap, cur, rfl, hg, h.box (show Box w g TT cur from hh), r⟩
theorem StoreI.keepT {base : Nat} {w w' : World} {s m : Nat} {nx : Int} {K : PS} {cnt : Nat} (h : StoreI base w s m nx K cnt) (hk : Kept (fun b => b = s) w w') : KeepT w w' :=
  KeepT.of_kept hk fun b e => by rw [e]; exact Box.notTyB h.box (by decide)
theorem StoreI.keepU {base : Nat} {w w' : World} {s m : Nat} {nx : Int} {K : PS} {cnt : Nat} (h : StoreI base w s m nx K cnt) (hk : KU base s m w w') : KeepT w w' :=
  KeepT.of_kept hk fun b e ht => by
    obtain ⟨_, (rfl | rfl) | ⟨t, ht', cs, hb⟩⟩ := e
    · exact Box.notTyB h.box (by decide) ht
    · obtain ⟨KS, q, _⟩ := h.kn
      exact map_notTyB q ht
    · obtain ⟨cs', hb'⟩ := ht
      have := (show Box w b t cs from hb).same (show Box w b TT cs' from hb')
      subst this
      revert ht'
      decide
/-- a row's own block -/
theorem ownT_block {w : World} {B : Nat} {v : Value} {l : List Ty} (ho : OwnT B TT w v l) {g : Nat} (h : v.ownBlock = some g) : B ≤ g ∧ TyB TT w g := by
  obtain ⟨vs, h1, _⟩ := ho
  rcases h1.2 with ⟨rfl, _⟩ | ⟨g', cap, cur, rfl, hg, hh, r⟩
  · cases h
  · obtain rfl : g' = g := by simpa [Value.ownBlock] using h
    exact ⟨hg, cur, hh⟩
def z0U : Ty := ⟨0, 0, noN, .nil⟩
/-- what Resolve answers: a type, and how it went -/
def resP (q : Nat) (K : PS) (x : Ty) : Ty := match wholeP q K 256 256 x with
  | some (_, some y) => y
  | _ => z0U
def resE (q : Nat) (K : PS) (x : Ty) : Int := match wholeP q K 256 256 x with
  | some (_, some y) => 0
  | _ => 102
def ResIs (s m : Nat) (y : Ty) (er : Int) (w : World) (e : Ending) (w' : World) : Prop := ∃ a c nx, e = .returned (.tuple #[.agg #[.int .i64 y.kd, .int .i64 y.n, .string y.nm, .slice a y.args.len c], .int .i64 er]) ∧ RdT (ZN w.heap.size w') w' a y.args 0 ∧ y.args.len * 56 ≤ 140737488355328 ∧ y.nm.size ≤ 9223372036854775807 ∧ Box w' s TSt #[.map (some m), .int .i64 nx] ∧ Kept (fun b => b = s) w w'
theorem resolve_is {q d kk i : Nat} (hN : Nums q d kk) {base s m cnt cx : Nat} {nx : Int} {K : PS} {x : Ty} {ax : Option Addr} (w : World) (hkb : KBi i cnt K) (hi : i ≤ 41) (hS : StoreI base w s m nx K cnt) (hb : base ≤ w.heap.size) (hx : TyR base w x ax) (okx : okTy x = true) :
    Calls Try.prog 8 #[.pointer (some ⟨s, 0, none⟩), .agg #[.int .i64 x.kd, .int .i64 x.n, .string x.nm, .slice ax x.args.len cx]] w (ResIs s m (resP q K x) (resE q K x) w) := by
  obtain ⟨r, hr⟩ := hkb.whole hN hi okx
  refine (resolve_ok (cx := cx) w hS hb hx okx hr).mono fun e w' ⟨hv, hs, hk⟩ => ?_
  obtain ⟨r1, o⟩ := r
  unfold resP resE
  rw [hr]
  cases o with
  | none => exact ⟨none, 0, _, hv, trivial, by simp [z0U, Tys.len], Nat.zero_le _, hs.box, hk⟩
  | some y =>
    obtain ⟨a, c, he, h1, h2, h3⟩ := hv
    exact ⟨a, c, _, he, h1, h2, h3, hs.box, hk⟩
/-- with an error all is as it was -/
theorem unifyQ_err {q d k : Nat} {K : PS} {c : Nat} {x y : Ty} {e : Int} {K' : PS} {c' : Nat} (h : unifyQ q d k K c x y = some (e, K', c')) (he : e ≠ 0) : K' = K ∧ c' = c := by
  obtain ⟨r, _, h2⟩ := Option.map_eq_some_iff.1 h
  split at h2
  · injection h2 with h2; exact absurd h2.symm he
  · injection h2 with _ h2
    injection h2 with h2 h3
    exact ⟨h2.symm, h3.symm⟩
/-- a row of one pair -/
theorem prs_one {w : World} {b : Nat} {x y : Ty} {ax ay : Option Addr} {cx cy : Nat} {Z : Nat → Prop} (h : Box w b TPr #[.int .i64 x.kd, .int .i64 x.n, .string x.nm, .slice ax x.args.len cx, .int .i64 y.kd, .int .i64 y.n, .string y.nm, .slice ay y.args.len cy]) (hb : Z b) (n1 : x.nm.size ≤ 9223372036854775807) (l1 : x.args.len * 56 ≤ 140737488355328) (r1 : RdT Z w ax x.args 0) (n2 : y.nm.size ≤ 9223372036854775807) (l2 : y.args.len * 56 ≤ 140737488355328) (r2 : RdT Z w ay y.args 0) : Prs Z w (some ⟨b, 0, none⟩) [(x, y)] := by
  intro k p hp
  match k, hp with
  | 0, hp =>
    obtain rfl : (x, y) = p := Option.some.inj hp
    exact ⟨⟨b, 0, none⟩, ax, cx, ay, cy, rfl, hb, h.cell 0, h.cell 1, h.cell 2, h.cell 3, h.cell 4, h.cell 5, h.cell 6, h.cell 7, n1, l1, r1, n2, l2, r2⟩
/-- the types that were resolved, in a row -/
def befL (q : Nat) (K : PS) (l : List Pr) : List Ty := l.map fun p => resP q K p.1
theorem befL_next {q : Nat} {K : PS} {l : List Pr} {k : Nat} {p : Pr} (h : l[k]? = some p) : befL q K (l.take (k + 1)) = befL q K (l.take k) ++ [resP q K p.1] := by
  unfold befL
  rw [take_next h, List.map_append]
  rfl
theorem befL_get {q : Nat} {K : PS} {l : List Pr} {k : Nat} {p : Pr} (h : l[k]? = some p) : (Tys.ofL (befL q K l)).toL[k]? = some (resP q K p.1) := by
  rw [Tys.toL_ofL]
  unfold befL
  rw [List.getElem?_map, h]
  rfl
end Go.Proofs.Ytcaioffdcbjbjaa.Un
