/-
  CONTRACT: a store in which pairs were made the same: joined.
-/
import Derived.Test.YtcaioffdcbjbjaaGE
import Derived.Test.YtcaioffdcbjbjaaGPrC
import Derived.Test.YtcaioffdcbjbjaaGPrD

namespace Go.Proofs.Ytcaioffdcbjbjaa.Un
open Go.RowKit Go.Shelf Mm Tm Mk Go.Maps Go.ChangeMaps Go.MapKept Go.WideMaps Rg Ua
set_option linter.unusedVariables false
set_option linter.unusedSimpArgs false
def JoinPost (q d kk : Nat) (l : List Pr) (base : Nat) (w : World) (e : Ending) (w' : World) : Prop := ∃ s m nx v, e = .returned (.tuple #[.pointer (some ⟨s, 0, none⟩), .bool v]) ∧ Below base w w' ∧ (v = false → JoinNo q d kk l) ∧ (v = true → fewP l ∧ ∃ K cnt, JoinR q d kk l K cnt ∧ StoreI base w' s m nx K cnt)
/-- a type below the base -/
theorem tyR_low {base : Nat} {w w' : World} {x : Ty} {a : Option Addr} (h : RdT (· < base) w a x.args 0) (hb : Below base w w') (hs : base ≤ w'.heap.size) (h1 : x.args.len * 56 ≤ 140737488355328) (h2 : x.nm.size ≤ 9223372036854775807) : TyR base w' x a :=
  ⟨(h.below hb fun q h => h).mono fun q h => .inl ⟨h, Nat.lt_of_lt_of_le h hs⟩, h1, h2⟩
theorem take_next {l : List Pr} {k : Nat} {p : Pr} (hp : l[k]? = some p) : l.take (k + 1) = l.take k ++ [p] := by
  rw [List.take_add_one, hp]; rfl
/-- one pair more -/
def StepPost (q d kk : Nat) (l : List Pr) (k base s m : Nat) (w : World) (e : Ending) (w' : World) : Prop := ∃ er, e = .returned (.int .i64 er) ∧ Below base w w' ∧ (er = 0 → ∃ K cnt nx, JoinR q d kk (l.take (k + 1)) K cnt ∧ StoreI base w' s m nx K cnt) ∧ (er ≠ 0 → JoinNo q d kk l)
theorem step_any {q d kk : Nat} (hN : Nums q d kk) {base s m cnt k cx cy : Nat} {nx : Int} {K : PS} {l : List Pr} {x y : Ty} {ax ay : Option Addr} (w : World) (hb : base ≤ w.heap.size) (hfew : fewP l) (hp : l[k]? = some (x, y)) (hj : JoinR q d kk (l.take k) K cnt) (hS : StoreI base w s m nx K cnt) (hx : TyR base w x ax) (hy : TyR base w y ay) :
    Calls Try.prog 7 #[.pointer (some ⟨s, 0, none⟩), .agg #[.int .i64 x.kd, .int .i64 x.n, .string x.nm, .slice ax x.args.len cx], .agg #[.int .i64 y.kd, .int .i64 y.n, .string y.nm, .slice ay y.args.len cy]] w (StepPost q d kk l k base s m w) := by
  cases hok : okTy x && okTy y with
  | false => exact (unify_no (s := s) w hx hy hok).mono fun e w' ⟨he, hb'⟩ => ⟨1, he, hb'.mono hb, fun h => absurd h (by decide), fun _ => .inr ⟨k, (x, y), K, cnt, hp, hj, .inl hok⟩⟩
  | true =>
    rw [Bool.and_eq_true] at hok
    have hkl : k < l.length := (List.getElem?_eq_some_iff.1 hp).1
    have hlk : (l.take k).length = k := by rw [List.length_take]; omega
    have h40 := hfew.1
    have hkb := hj.kb hN (by omega) fun p hp => hfew.2 p (List.mem_of_mem_take hp)
    rw [hlk] at hkb
    have hsm := hfew.2 _ (List.mem_of_getElem? hp)
    obtain ⟨er, K', c', hu, hk'⟩ := hkb.unify hN (by omega) hok.1 hok.2 hsm.1 hsm.2
    refine (unify_any (cx := cx) (cy := cy) w hS hb hx hy hok.1 hok.2 (Nat.le_of_eq hN.d) (Nat.le_of_eq hN.k) (by have := hkb.2; omega) hu).mono fun e w' ⟨he, hS', hk3⟩ => ⟨er, he, KG.below hk3 hb, fun h0 => ⟨K', c', _, ?_, hS'⟩, fun h0 => .inr ⟨k, (x, y), K, cnt, hp, hj, .inr ⟨er, _, h0, hu⟩⟩⟩
    rw [take_next hp]
    exact .snoc hj hok.1 hok.2 (by rw [← h0]; exact hu)
end Go.Proofs.Ytcaioffdcbjbjaa.Un
