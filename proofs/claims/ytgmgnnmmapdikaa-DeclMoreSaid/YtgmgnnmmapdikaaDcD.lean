/-
  CONTRACT of layer decl: a row of types numbered.
-/
import Derived.Test.YtgmgnnmmapdikaaDcC
namespace Go.Proofs.Ytgmgnnmmapdikaa.Dc
open Go.RowKit Mm Tm Mv Go.Maps Go.ChangeMaps Go.MapKept Go.WideMaps
set_option linter.unusedVariables false
set_option linter.unusedSimpArgs false
set_option maxRecDepth 100000 in
theorem numbered_of {F : FM} {mb n : Nat} {t : Tys} {a : Option Addr} {c : Nat} (w : World) (hF : IntF F) (hr : RdT (· < w.heap.size) w a t 0) (hl : t.len * 56 ≤ 140737488355328) (hm : MapIs w Try.prog TS mb n F)
    (hC : ∀ x ∈ t.toL, ∀ a2 c2 w', Below w.heap.size w w' → RdT (· < w'.heap.size) w' a2 x.args 0 → x.args.len * 56 ≤ 140737488355328 → Calls Try.prog 20 #[.slice a2 x.args.len c2, .map (some mb)] w' (NumPost F x.args w')) :
    Calls Try.prog 20 #[.slice a t.len c, .map (some mb)] w (NumPost F t w) := by
  have hmf : ∀ (fn : Fn) (first cap : Array Value) (w : World), (Instr.makeFunc fn first cap).run Try.prog w = .ok (.func fn first cap) w := fun _ _ _ _ => rfl
  have hB : Below w.heap.size w (w.alloc (.cells #[.map (some mb)] 58)) := (Below.refl _ w).alloc (Nat.le_refl _) _
  have hr1 : RdT (· < w.heap.size) (w.alloc (.cells #[.map (some mb)] 58)) a (Tys.ofL t.toL) 0 := by rw [Tys.ofL_toL]; exact hr.below hB fun b h => h
  have hfit := fits_of hr1
  have HE := Lib.hid (each_num_any (pb := w.heap.size) (G := numX F) (a := a) (c := c) (l := t.toL) (w.alloc (.cells #[.map (some mb)] 58)) (hr1.mono fun b h => by simp; omega) (by rw [Tys.toL_len]; exact hl) (fun x hx => numX_fits (hfit x hx).1 (hfit x hx).2)
    (fun x hx a2 c2 w' hb' hrd hs ha => by
      have hlt := hm.lt
      have hm' := ((hm.alloc (.cells #[.map (some mb)] 58)).below hb' (by simp; omega))
      have hp' : w'.cell? ⟨w.heap.size, 0, none⟩ = some (.map (some mb)) := (hb'.cell (p := ⟨w.heap.size, 0, none⟩) (by simp)).trans ((Box.new w #[.map (some mb)] 58).cell 0)
      refine (numx_any (x := x) (a := a2) (c := c2) w' hF hm' hp' hs (fun w'' hb'' => ?_)).mono fun e w'' h => h
      have hbb : Below w.heap.size w w'' := hB.trans ((hb'.mono (by simp)).trans (hb''.mono (by have := hb'.size; simp at this; omega)))
      exact hC x hx a2 c2 w'' hbb (((hrd.mono fun b h => Nat.lt_of_lt_of_le h hb'.size).below hb'' (fun b h => h)).mono fun b h => Nat.lt_of_lt_of_le h hb''.size) ha))
  have hB0 := Lib.hid hB
  clear hr hm hC hB hr1 hfit
  rw [Tys.toL_len] at HE
  go_enter Try.func20, Try.ntmps20
  go_wp2_with fail
  refine HE.out.mono ?_
  rintro e w3 ⟨a3, c3, rfl, ho3, hb3⟩
  have HO := Lib.hid ho3
  have HB := Lib.hid hb3
  clear ho3 hb3
  go_wp2_with fail
  go_ret
  have e1 : t.toL.length = t.len := Tys.toL_len t
  have ho := HO.out
  rw [e1, ← numK_toL] at ho
  exact ⟨a3, c3, ret_slice e1, ho.base (by simp), hB0.out.trans (HB.out.mono (by simp))⟩
theorem numbered_any {F : FM} {mb n : Nat} (hF : IntF F) : ∀ (q : Nat) (t : Tys), t.nodes ≤ q → ∀ (a : Option Addr) (c : Nat) (w : World), RdT (· < w.heap.size) w a t 0 → t.len * 56 ≤ 140737488355328 → MapIs w Try.prog TS mb n F →
    Calls Try.prog 20 #[.slice a t.len c, .map (some mb)] w (NumPost F t w) := by
  intro q
  induction q with
  | zero =>
    intro t ht a c w hr hl hm
    refine numbered_of w hF hr hl hm fun x hx => ?_
    obtain ⟨i, hi⟩ := List.getElem?_of_mem hx
    have := Tys.nodes_get t i x hi
    omega
  | succ q ih =>
    intro t ht a c w hr hl hm
    refine numbered_of w hF hr hl hm fun x hx a2 c2 w' hb hrd hl2 => ?_
    obtain ⟨i, hi⟩ := List.getElem?_of_mem hx
    have := Tys.nodes_get t i x hi
    exact ih x.args (by omega) a2 c2 w' hrd hl2 (hm.below hb hm.lt)
end Go.Proofs.Ytgmgnnmmapdikaa.Dc
