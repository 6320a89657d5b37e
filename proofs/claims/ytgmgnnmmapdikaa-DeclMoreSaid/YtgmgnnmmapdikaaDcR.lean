/-
  CONTRACTS: rows of types, rows of constructors that are the same are told so.
-/
import Derived.Test.YtgmgnnmmapdikaaDcQ
namespace Go.Proofs.Ytgmgnnmmapdikaa.Dc
open Go.RowKit Mm Tm Mv Go.Maps Go.ChangeMaps Go.MapKept Go.WideMaps
set_option linter.unusedVariables false
set_option linter.unusedSimpArgs false
def TrueQuiet (w : World) (e : Ending) (w' : World) : Prop := e = .returned (.bool true) ∧ ∃ n, w' = w.drewN n
set_option maxRecDepth 100000 in
set_option maxHeartbeats 4000000 in
theorem samet_of {Z Z' : Nat → Prop} {t : Tys} {a b : Option Addr} {c d : Nat} (w : World) (h : RdT Z w a t 0) (h' : RdT Z' w b t 0)
    (hl : t.len * 56 ≤ 140737488355328) (hC : ∀ x ∈ t.toL, ∀ a2 b2 c2 d2 n, RdT Z (w.drewN n) a2 x.args 0 → RdT Z' (w.drewN n) b2 x.args 0 → x.args.len * 56 ≤ 140737488355328 → Calls Try.prog 23 #[.slice a2 x.args.len c2, .slice b2 x.args.len d2] (w.drewN n) (TrueQuiet (w.drewN n))) :
    Calls Try.prog 23 #[.slice a t.len c, .slice b t.len d] w (TrueQuiet w) := by
  have HA := Lib.hid h
  have HB := Lib.hid h'
  have HC := Lib.hid hC
  have HLEN := Lib.hid (Tys.toL_len t)
  clear h h' hC
  go_enter Try.func23, Try.ntmps23
  go_wp2_with fail
  go_loopg [5] t.len (fun d v wr => ∃ k n : Nat, k + d = t.len ∧ v = .int .i64 k ∧ wr = w.drewN n)
  case atStart => exact ⟨0, 0, by omega, rfl, rfl⟩
  case round =>
    obtain ⟨k, n, hk, rfl, rfl⟩ := hrel
    have HK := Lib.hid hk
    have hkle : k ≤ t.len := by omega
    clear hk
    by_cases hlt : k < t.len
    · have hlt' : (k : Int) < t.len := by omega
      have hkL : k < t.toL.length := by rw [HLEN.out]; exact hlt
      have hx := (HA.out.drewN n).at_ k t.toL[k] (List.getElem?_eq_getElem hkL)
      have hy := (HB.out.drewN n).at_ k t.toL[k] (List.getElem?_eq_getElem hkL)
      have HM := Lib.hid (List.getElem_mem hkL)
      generalize t.toL[k] = x at hx hy HM
      rw [Nat.zero_add] at hx hy
      obtain ⟨ad, a2, c2, rfl, _, x0, x1, x2, x3, _, ha, hrd⟩ := hx
      obtain ⟨bd, b2, d2, rfl, _, y0, y1, y2, y3, _, _, hrd'⟩ := hy
      have HR := Lib.hid hrd
      have HR' := Lib.hid hrd'
      have HCC := Lib.hid (fun m => HC.out x HM.out a2 b2 c2 d2 (n + m) (by have := HR.out.drewN m; rwa [World.drewN_drewN] at this) (by have := HR'.out.drewN m; rwa [World.drewN_drewN] at this) ha)
      obtain ⟨W, hW⟩ : ∃ W, w.drewN n = W := ⟨_, rfl⟩
      have HCW := Lib.hid (show ∀ m, Calls Try.prog 23 #[.slice a2 x.args.len c2, .slice b2 x.args.len d2] (W.drewN m) (TrueQuiet (W.drewN m)) from fun m => by have := HCC.out m; rwa [← World.drewN_drewN, hW] at this)
      rw [hW] at x0 x1 x2 x3 y0 y1 y2 y3 ⊢
      have HW := Lib.hid hW
      clear hrd hrd' hW HCC
      go_wp2_with fail
      go_quiet ((go_at_call 23; exact Calls.quiet_of (HCW.out _)))
      go_wp2_with fail
      go_roundg (t.len - (k + 1))
      case measure => have := HK.out; omega
      case rel => exact ⟨k + 1, _, by have := HK.out; omega, by go_num, by rw [← HW.out, World.drewN_drewN]⟩
    · have hge : ¬ (k : Int) < t.len := by omega
      go_wp2_with fail
      go_ret
      exact ⟨rfl, n, rfl⟩
theorem samet_any {Z Z' : Nat → Prop} : ∀ (q : Nat) (t : Tys), t.nodes ≤ q → ∀ (a b : Option Addr) (c d : Nat) (w : World), RdT Z w a t 0 → RdT Z' w b t 0 → t.len * 56 ≤ 140737488355328 →
    Calls Try.prog 23 #[.slice a t.len c, .slice b t.len d] w (TrueQuiet w) := by
  intro q
  induction q with
  | zero =>
    intro t ht a b c d w h h' hl
    refine samet_of w h h' hl fun x hx => ?_
    obtain ⟨i, hi⟩ := List.getElem?_of_mem hx
    have := Tys.nodes_get t i x hi
    omega
  | succ q ih =>
    intro t ht a b c d w h h' hl
    refine samet_of w h h' hl fun x hx a2 b2 c2 d2 n hr hr' hl2 => ?_
    obtain ⟨i, hi⟩ := List.getElem?_of_mem hx
    have := Tys.nodes_get t i x hi
    exact ih x.args (by omega) a2 b2 c2 d2 _ hr hr' hl2
def TrueBelow (w : World) (e : Ending) (w' : World) : Prop := e = .returned (.bool true) ∧ Below w.heap.size w w'
set_option maxRecDepth 100000 in
set_option maxHeartbeats 8000000 in
theorem samec_any {l : List ConS} {a b : Option Addr} {c d : Nat} (w : World) (h : RdC (· < w.heap.size) w a l) (h' : RdC (· < w.heap.size) w b l) (hl : l.length ≤ 1000000000) :
    Calls Try.prog 12 #[.slice a l.length c, .slice b l.length d] w (TrueBelow w) := by
  have HA := Lib.hid h
  have HB := Lib.hid h'
  clear h h'
  go_enter Try.func12, Try.ntmps12
  go_wp2_with fail
  go_loopg [5] l.length (fun d v wr => ∃ k : Nat, k + d = l.length ∧ v = .int .i64 k ∧ Below w.heap.size w wr)
  case atStart => exact ⟨0, by omega, rfl, Below.refl _ _⟩
  case round =>
    obtain ⟨k, hk, rfl, hb⟩ := hrel
    have HK := Lib.hid hk
    have HBr := Lib.hid hb
    have hzB := hb.size
    have hkle : k ≤ l.length := by omega
    clear hk hb
    by_cases hlt : k < l.length
    · have hlt' : (k : Int) < l.length := by omega
      have hx := (HA.out.below HBr.out (fun b h => h)) k l[k] (List.getElem?_eq_getElem hlt)
      have hy := (HB.out.below HBr.out (fun b h => h)) k l[k] (List.getElem?_eq_getElem hlt)
      generalize l[k] = x at hx hy
      obtain ⟨ad, a2, c2, rfl, hza, x0, x1, x2, x3, x4, _, hf, hrd⟩ := hx
      obtain ⟨bd, b2, d2, rfl, hzb, y0, y1, y2, y3, y4, _, _, hrd'⟩ := hy
      have HR := Lib.hid hrd
      have HR' := Lib.hid hrd'
      have qa : ∀ j, (ad.add j).block < wr.heap.size := fun j => by rw [add_block]; omega
      have qb : ∀ j, (bd.add j).block < wr.heap.size := fun j => by rw [add_block]; omega
      have za := qa (k * 5)
      have zb := qb (k * 5)
      clear hrd hrd' qa qb
      go_wp2_with fail
      go_cut [6, 7] (fun v6 v7 wx => ∃ b6 b7, v6 = .pointer (some ⟨b6, 0, none⟩) ∧ v7 = .pointer (some ⟨b7, 0, none⟩) ∧ Box wx b6 41 #[.string x.name, .string x.data, .int .i64 x.tag, .int .i64 x.params, .slice a2 x.fields.length c2] ∧ Box wx b7 41 #[.string x.name, .string x.data, .int .i64 x.tag, .int .i64 x.params, .slice b2 x.fields.length d2] ∧ Below wr.heap.size wr wx)
      case first =>
        go_region
        all_goals
          go_wp2_with fail
          go_meet
          first
            | exact ⟨_, _, rfl, rfl, (Box.new wr _ _).alloc _, Box.at_ (w := wr.alloc _) _ _ (by simp), ((((Below.refl wr.heap.size wr).alloc (Nat.le_refl _) _).alloc (by simp) _).drew)⟩
            | exact ⟨_, _, rfl, rfl, Box.at_ (w := wr.alloc _) _ _ (by simp), (Box.new wr _ _).alloc _, ((((Below.refl wr.heap.size wr).alloc (Nat.le_refl _) _).alloc (by simp) _).drew)⟩
      case rest =>
        obtain ⟨b6, b7, rfl, rfl, hx6, hx7, hbx⟩ := hcut
        obtain ⟨p0, p1, p2, p3, p4, _⟩ := hx6.cells5
        obtain ⟨r0, r1, r2, r3, r4, _⟩ := hx7.cells5
        have HBx := Lib.hid (HBr.out.trans (hbx.mono hzB))
        have HS := Lib.hid (samet_any _ (Tys.ofL x.fields) (Nat.le_refl _) a2 b2 c2 d2 wc (HR.out.below hbx (fun b hb => by omega)) (HR'.out.below hbx (fun b hb => by omega)) (by rw [Tys.len_ofL]; exact hf))
        rw [Tys.len_ofL] at HS
        clear hx6 hx7 hbx
        go_wp2_with fail
        refine HS.out.mono ?_
        rintro e w4 ⟨rfl, n, rfl⟩
        have HB4 := Lib.hid (show Below w.heap.size w (wc.drewN n) from ⟨HBx.out.os, HBx.out.tape, HBx.out.output, HBx.out.size, HBx.out.block⟩)
        go_wp2_with fail
        go_roundg (l.length - (k + 1))
        case measure => have := HK.out; omega
        case rel => exact ⟨k + 1, by have := HK.out; omega, by go_num, HB4.out⟩
    · have hge : ¬ (k : Int) < l.length := by omega
      go_wp2_with fail
      go_ret
      exact ⟨rfl, HBr.out⟩
end Go.Proofs.Ytgmgnnmmapdikaa.Dc
