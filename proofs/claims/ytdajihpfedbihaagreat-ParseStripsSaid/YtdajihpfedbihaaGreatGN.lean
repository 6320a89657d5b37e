/-
  CONTRACTS of layer fix: how operators bind: Default, Find, and the document's own.
-/
import Derived.Test.YtdajihpfedbihaaGreatGA
import Derived.Test.YtdajihpfedbihaaGreatGM
import Derived.Deep.LoopGhost
namespace Go.Proofs.YtdajihpfedbihaaGreat.Fx
open Go.RowKit Fm Mm Nm
set_option linter.unusedVariables false

def defA (l : List UInt8) : Int := if 6 ≤ opOf l then 0 else 1
def defL (l : List UInt8) : Int := if opOf l = 1 ∨ opOf l = 2 then 6 else if 3 ≤ opOf l ∧ opOf l ≤ 5 then 7 else if 6 ≤ opOf l then 4 else 9
def defV (s : ByteArray) : Value := fixV s (defA s.data.toList) (defL s.data.toList) 0 0
def DefPost (s : ByteArray) (w : World) (e : Ending) (w' : World) : Prop := e = .returned (defV s) ∧ Below w.heap.size w w'
theorem defPost {s : ByteArray} {a l : Int} {w w' : World} (h1 : defA s.data.toList = a) (h2 : defL s.data.toList = l) (hb : Below w.heap.size w w') : DefPost s w (.returned (fixV s a l 0 0)) w' := by
  unfold DefPost defV; rw [h1, h2]; exact ⟨rfl, hb⟩
theorem op_is {s : ByteArray} {n : Int} (h : opOf s.data.toList = n) (w : World) : Calls Tryz.prog 161 #[.string s] w fun e w' => e = .returned (.int .i64 n) ∧ w = w' := by
  refine (op_any s w).mono ?_
  rintro e w' ⟨⟨he, _⟩, hw⟩
  exact ⟨by rw [he, h], hw⟩
theorem opOf_rng (l : List UInt8) : 0 ≤ opOf l ∧ opOf l ≤ 11 := by
  unfold opOf
  (repeat' split) <;> omega
theorem set_same {X : World} {p : Addr} {u v : Value} (h : X.cell? p = some u) : (X.setCell p v).cell? p = some v := World.cell?_setCell_same _ _ _ h
/-- a struct of five cells, written one behind the other, reads as written -/
theorem setFix {w2 : World} {b : Nat} {a0 a1 a2 a3 a4 : Value} (k0 : w2.cell? ⟨b, 0, none⟩ = some a0) (k1 : w2.cell? ⟨b, 1, none⟩ = some a1) (k2 : w2.cell? ⟨b, 2, none⟩ = some a2) (k3 : w2.cell? ⟨b, 3, none⟩ = some a3) (k4 : w2.cell? ⟨b, 4, none⟩ = some a4) :
    (∀ v0, (w2.setCell ⟨b, 0, none⟩ v0).cell? ⟨b, 0, none⟩ = some v0) ∧
    (∀ v0 v1, ((w2.setCell ⟨b, 0, none⟩ v0).setCell ⟨b, 1, none⟩ v1).cell? ⟨b, 1, none⟩ = some v1) ∧
    (∀ v0 v1 v2, (((w2.setCell ⟨b, 0, none⟩ v0).setCell ⟨b, 1, none⟩ v1).setCell ⟨b, 2, none⟩ v2).cell? ⟨b, 2, none⟩ = some v2) ∧
    (∀ v0 v1 v2 v3, ((((w2.setCell ⟨b, 0, none⟩ v0).setCell ⟨b, 1, none⟩ v1).setCell ⟨b, 2, none⟩ v2).setCell ⟨b, 3, none⟩ v3).cell? ⟨b, 3, none⟩ = some v3) ∧
    (∀ v0 v1 v2 v3 v4, (((((w2.setCell ⟨b, 0, none⟩ v0).setCell ⟨b, 1, none⟩ v1).setCell ⟨b, 2, none⟩ v2).setCell ⟨b, 3, none⟩ v3).setCell ⟨b, 4, none⟩ v4).cell? ⟨b, 4, none⟩ = some v4) := by
  refine ⟨fun v0 => World.cell?_setCell_same _ _ _ k0, fun v0 v1 => set_same (u := a1) ?_, fun v0 v1 v2 => set_same (u := a2) ?_, fun v0 v1 v2 v3 => set_same (u := a3) ?_, fun v0 v1 v2 v3 v4 => set_same (u := a4) ?_⟩
  all_goals
    (repeat rw [World.cell?_setCell_other _ _ _ _ (by simp)])
    assumption
theorem below5 {B : Nat} {w w2 : World} {g : Nat} (h : Below B w w2) (hg : B ≤ g) (v0 v1 v2 v3 v4 : Value) : Below B w (((((w2.setCell ⟨g, 0, none⟩ v0).setCell ⟨g, 1, none⟩ v1).setCell ⟨g, 2, none⟩ v2).setCell ⟨g, 3, none⟩ v3).setCell ⟨g, 4, none⟩ v4) :=
  ((((h.setCell (p := ⟨g, 0, none⟩) hg v0).setCell (p := ⟨g, 1, none⟩) hg v1).setCell (p := ⟨g, 2, none⟩) hg v2).setCell (p := ⟨g, 3, none⟩) hg v3).setCell (p := ⟨g, 4, none⟩) hg v4
theorem fixW {w2 : World} {g : Nat} {a0 a1 a2 a3 a4 : Value} (k0 : w2.cell? ⟨g, 0, none⟩ = some a0) (k1 : w2.cell? ⟨g, 1, none⟩ = some a1) (k2 : w2.cell? ⟨g, 2, none⟩ = some a2) (k3 : w2.cell? ⟨g, 3, none⟩ = some a3) (k4 : w2.cell? ⟨g, 4, none⟩ = some a4) (v0 v1 v2 v3 v4 : Value) :
    ∃ W, (((((w2.setCell ⟨g, 0, none⟩ v0).setCell ⟨g, 1, none⟩ v1).setCell ⟨g, 2, none⟩ v2).setCell ⟨g, 3, none⟩ v3).setCell ⟨g, 4, none⟩ v4) = W ∧
      W.cell? ⟨g, 0, none⟩ = some v0 ∧ W.cell? ⟨g, 1, none⟩ = some v1 ∧ W.cell? ⟨g, 2, none⟩ = some v2 ∧ W.cell? ⟨g, 3, none⟩ = some v3 ∧ W.cell? ⟨g, 4, none⟩ = some v4 ∧ W.heap.size = w2.heap.size ∧ ∀ B w, Below B w w2 → B ≤ g → Below B w W := by
  obtain ⟨q0, q1, q2, q3, q4⟩ := setFix k0 k1 k2 k3 k4
  refine ⟨_, rfl, ?_, ?_, ?_, ?_, q4 _ _ _ _ _, by simp, fun B w h hg => below5 h hg _ _ _ _ _⟩
  · rw [World.cell?_setCell_other _ _ _ _ (by simp), World.cell?_setCell_other _ _ _ _ (by simp), World.cell?_setCell_other _ _ _ _ (by simp), World.cell?_setCell_other _ _ _ _ (by simp)]; exact q0 _
  · rw [World.cell?_setCell_other _ _ _ _ (by simp), World.cell?_setCell_other _ _ _ _ (by simp), World.cell?_setCell_other _ _ _ _ (by simp)]; exact q1 _ _
  · rw [World.cell?_setCell_other _ _ _ _ (by simp), World.cell?_setCell_other _ _ _ _ (by simp)]; exact q2 _ _ _
  · rw [World.cell?_setCell_other _ _ _ _ (by simp)]; exact q3 _ _ _ _
end Go.Proofs.YtdajihpfedbihaaGreat.Fx
/-
  CONTRACTS of layer fix: how operators bind: Default, Find.
-/
namespace Go.Proofs.YtdajihpfedbihaaGreat.Fx
open Go.RowKit Fm Mm Nm
set_option linter.unusedVariables false

theorem fdef_42 (w : World) : Calls Tryz.prog 153 #[.string ⟨#[42]⟩] w (DefPost ⟨#[42]⟩ w) := by
  go_enter Tryz.func153, Tryz.ntmps153
  go_wp2
  go_returns
  exact defPost (by decide) (by decide) (by go_grown)
theorem fdef_47 (w : World) : Calls Tryz.prog 153 #[.string ⟨#[47]⟩] w (DefPost ⟨#[47]⟩ w) := by
  go_enter Tryz.func153, Tryz.ntmps153
  go_wp2
  go_returns
  exact defPost (by decide) (by decide) (by go_grown)
theorem fdef_37 (w : World) : Calls Tryz.prog 153 #[.string ⟨#[37]⟩] w (DefPost ⟨#[37]⟩ w) := by
  go_enter Tryz.func153, Tryz.ntmps153
  go_wp2
  go_returns
  exact defPost (by decide) (by decide) (by go_grown)
theorem fdef_43 (w : World) : Calls Tryz.prog 153 #[.string ⟨#[43]⟩] w (DefPost ⟨#[43]⟩ w) := by
  go_enter Tryz.func153, Tryz.ntmps153
  go_wp2
  go_returns
  exact defPost (by decide) (by decide) (by go_grown)
theorem fdef_45 (w : World) : Calls Tryz.prog 153 #[.string ⟨#[45]⟩] w (DefPost ⟨#[45]⟩ w) := by
  go_enter Tryz.func153, Tryz.ntmps153
  go_wp2
  go_returns
  exact defPost (by decide) (by decide) (by go_grown)
theorem fdef_any (s : ByteArray) (w : World) : Calls Tryz.prog 153 #[.string s] w (DefPost s w) := by
  by_cases h42 : s.data.toList = [42]
  · obtain rfl := is_text h42; exact fdef_42 w
  by_cases h47 : s.data.toList = [47]
  · obtain rfl := is_text h47; exact fdef_47 w
  by_cases h37 : s.data.toList = [37]
  · obtain rfl := is_text h37; exact fdef_37 w
  by_cases h43 : s.data.toList = [43]
  · obtain rfl := is_text h43; exact fdef_43 w
  by_cases h45 : s.data.toList = [45]
  · obtain rfl := is_text h45; exact fdef_45 w
  obtain ⟨n, hn⟩ : ∃ n, opOf s.data.toList = n := ⟨_, rfl⟩
  have hr : n = 0 ∨ (6 ≤ n ∧ n ≤ 11) := by
    have h := opOf_rng s.data.toList
    rw [hn] at h
    have : ¬ (1 ≤ n ∧ n ≤ 5) := by
      rw [← hn]
      unfold opOf
      rw [if_neg h43, if_neg h45, if_neg h42, if_neg h47, if_neg h37]
      (repeat' split) <;> omega
    omega
  have n42 : (s.toList == [42]) = false := by rw [Lib.toList_data]; exact beq_eq_false_iff_ne.2 h42
  have n47 : (s.toList == [47]) = false := by rw [Lib.toList_data]; exact beq_eq_false_iff_ne.2 h47
  have n37 : (s.toList == [37]) = false := by rw [Lib.toList_data]; exact beq_eq_false_iff_ne.2 h37
  have n43 : (s.toList == [43]) = false := by rw [Lib.toList_data]; exact beq_eq_false_iff_ne.2 h43
  have n45 : (s.toList == [45]) = false := by rw [Lib.toList_data]; exact beq_eq_false_iff_ne.2 h45
  have HN := Lib.hid hn
  clear h42 h47 h37 h43 h45
  rcases hr with rfl | h0
  · have HA := Lib.hid (show defA s.data.toList = 1 by unfold defA; rw [hn, if_neg (by omega)])
    have HL := Lib.hid (show defL s.data.toList = 9 by unfold defL; rw [hn, if_neg (by omega), if_neg (by omega), if_neg (by omega)])
    clear hn
    go_enter Tryz.func153, Tryz.ntmps153
    go_wp2_with fail
    refine (op_is HN.out _).mono ?_
    rintro e w2 ⟨rfl, rfl⟩
    go_wp2_with fail
    refine (rel_no 0 _ (.inl (by omega))).mono ?_
    rintro e w2 ⟨rfl, rfl⟩
    go_wp2
    go_returns
    exact defPost HA.out HL.out (by go_grown)
  · have HA := Lib.hid (show defA s.data.toList = 0 by unfold defA; rw [hn, if_pos (by omega)])
    have HL := Lib.hid (show defL s.data.toList = 4 by unfold defL; rw [hn, if_neg (by omega), if_neg (by omega), if_pos (by omega)])
    clear hn
    go_enter Tryz.func153, Tryz.ntmps153
    go_wp2_with fail
    refine (op_is HN.out _).mono ?_
    rintro e w2 ⟨rfl, rfl⟩
    go_wp2_with fail
    refine (rel_yes n _ h0.1 h0.2).mono ?_
    rintro e w2 ⟨rfl, rfl⟩
    go_wp2
    go_returns
    exact defPost HA.out HL.out (by go_grown)
end Go.Proofs.YtdajihpfedbihaaGreat.Fx
/-
  CONTRACTS of layer fix: rows of spans compared; the fixed calls of its statements.
-/
namespace Go.Proofs.YtdajihpfedbihaaGreat.Fx
open Go.RowKit Fm Mm Nm
set_option linter.unusedVariables false

def ShowsS (w : World) (v : Value) (n : Nat) (F T : Nat → Nat) : Prop := ∃ b c, v = .slice b n c ∧ ∀ i, i < n → ∃ g, b = some ⟨g, 0, none⟩ ∧ g < w.heap.size ∧
  w.cell? ⟨g, i * 2, none⟩ = some (.int .i64 (F i : Nat)) ∧ w.cell? ⟨g, i * 2 + 1, none⟩ = some (.int .i64 (T i : Nat))
theorem ShowsS.below {w w' : World} {v : Value} {n : Nat} {F T : Nat → Nat} (h : ShowsS w v n F T) (hb : Below w.heap.size w w') : ShowsS w' v n F T := by
  obtain ⟨b, c, rfl, hc⟩ := h
  refine ⟨b, c, rfl, fun i hi => ?_⟩
  obtain ⟨g, h1, h2, h3, h4⟩ := hc i hi
  exact ⟨g, h1, by have := hb.size; omega, (hb.cell (p := ⟨g, i * 2, none⟩) h2).trans h3, (hb.cell (p := ⟨g, i * 2 + 1, none⟩) h2).trans h4⟩
theorem ShowsS.ext {w : World} {v : Value} {n : Nat} {F T G U : Nat → Nat} (h : ShowsS w v n F T) (he : ∀ k, k < n → F k = G k ∧ T k = U k) : ShowsS w v n G U := by
  obtain ⟨b, c, rfl, hc⟩ := h
  refine ⟨b, c, rfl, fun i hi => ?_⟩
  obtain ⟨g, h1, h2, h3, h4⟩ := hc i hi
  exact ⟨g, h1, h2, by rw [h3, (he i hi).1], by rw [h4, (he i hi).2]⟩
theorem below_drewN {B : Nat} {a w : World} (h : Below B a w) (n : Nat) : Below B a (w.drewN n) := by
  induction n with
  | zero => exact h
  | succ n ih => exact ih.drew
theorem fdef_is {s : ByteArray} {a l : Int} (h1 : defA s.data.toList = a) (h2 : defL s.data.toList = l) (w : World) : Calls Tryz.prog 153 #[.string s] w fun e w' => e = .returned (fixV s a l 0 0) ∧ Below w.heap.size w w' := by
  refine (fdef_any s w).mono ?_
  rintro e w' ⟨he, hb⟩
  exact ⟨by rw [he]; unfold defV; rw [h1, h2], hb⟩
end Go.Proofs.YtdajihpfedbihaaGreat.Fx
/-
  The walk of 'changelinglaw05.FixFinds'.
-/
namespace Go.Proofs.YtdajihpfedbihaaGreat.Fx
open Go.RowKit Fm Mm Nm
set_option linter.unusedVariables false

structure Way where
  o : ByteArray
  a : Int
  l : Int
  p : Int
  q : Int
def findAt (r : Row) (s : ByteArray) : Nat → Nat → Way
  | _, 0 => ⟨s, defA s.data.toList, defL s.data.toList, 0, 0⟩
  | k, d + 1 => if r.O k = s then ⟨r.O k, r.A k, r.L k, r.P k, r.Q k⟩ else findAt r s (k + 1) d
def FindPost (x : Way) (w : World) (e : Ending) (w' : World) : Prop := e = .returned (fixV x.o x.a x.l x.p x.q) ∧ Below w.heap.size w w'
theorem str_eq {a b : ByteArray} (h : a = b) : (a.toList == b.toList) = true := by rw [h]; exact beq_self_eq_true _
theorem str_ne {a b : ByteArray} (h : ¬ a = b) : (a.toList == b.toList) = false := by
  rw [Lib.toList_data, Lib.toList_data]
  refine beq_eq_false_iff_ne.2 fun e => h ?_
  apply ByteArray.ext
  exact Array.toList_inj.1 e
set_option maxHeartbeats 2000000 in
theorem find_any (b : Option Addr) (n c : Nat) (hn : n ≤ 9223372036854775807) (r : Row) (s : ByteArray) (w : World) (hr : Reads w w.heap.size b n r) :
    Calls Tryz.prog 131 #[.slice b n c, .string s] w (FindPost (findAt r s 0 n) w) := by
  have HR := Lib.hid hr
  clear hr
  go_enter Tryz.func131, Tryz.ntmps131
  go_wp2_with fail
  go_loopg [9] n (fun d i wr => ∃ k : Nat, d + k = n ∧ i = .int .i64 k ∧ findAt r s 0 n = findAt r s k d ∧ Box wr w.heap.size 58 #[.string ByteArray.empty, .int .i64 0, .int .i64 0, .int .i64 0, .int .i64 0] ∧ Below w.heap.size w wr)
  case atStart => exact ⟨0, by omega, rfl, rfl, Box.new _ _ _, (Below.refl _ _).alloc (Nat.le_refl _) _⟩
  case round =>
    obtain ⟨k, hk, rfl, hf, hx, hbw⟩ := hrel
    have HK := Lib.hid hk
    have HF := Lib.hid hf
    have HX := Lib.hid hx
    have HBW := Lib.hid hbw
    have hle : k ≤ n := by omega
    have zr := hx.lt
    have x0 := hx.cell 0
    have x1 := hx.cell 1
    have x2 := hx.cell 2
    have x3 := hx.cell 3
    have x4 := hx.cell 4
    have y0 := hx.free 0
    have y1 := hx.free 1
    have y2 := hx.free 2
    have y3 := hx.free 3
    have y4 := hx.free 4
    simp only [List.getElem?_toArray, List.getElem?_cons_zero, List.getElem?_cons_succ] at x0 x1 x2 x3 x4
    clear hk hf hx hbw
    by_cases hlt : k < n
    · have hlt' : (k : Int) < n := by omega
      obtain ⟨ad, rfl, had, c0, c1, c2, c3, c4⟩ := (HR.out.below HBW.out (Nat.le_refl _)) k hlt
      by_cases he : r.O k = s
      · have d0 := str_eq he
        have HF2 := Lib.hid (show findAt r s 0 n = ⟨r.O k, r.A k, r.L k, r.P k, r.Q k⟩ by
          rw [HF.out]
          have := HK.out
          obtain ⟨d, rfl⟩ : ∃ d, gk = d + 1 := ⟨gk - 1, by omega⟩
          show (if _ then _ else _) = _
          rw [if_pos he])
        obtain ⟨W, hW, q0, q1, q2, q3, q4, qs, qb⟩ := fixW x0 x1 x2 x3 x4 (.string (r.O k)) (.int .i64 (r.A k)) (.int .i64 (r.L k)) (.int .i64 (r.P k)) (.int .i64 (r.Q k))
        have HB2 := Lib.hid (qb _ _ HBW.out (Nat.le_refl _))
        have hz4 : w.heap.size < W.heap.size := by omega
        have hz5 : w.heap.size ≤ W.heap.size := by omega
        have Q0 := Lib.hid q0
        have Q1 := Lib.hid q1
        have Q2 := Lib.hid q2
        have Q3 := Lib.hid q3
        have Q4 := Lib.hid q4
        clear qs qb q0 q1 q2 q3 q4 he
        go_wp2_with fail
        refine bodyPost_ret (v := fixV (r.O k) (r.A k) (r.L k) (r.P k) (r.Q k)) (by simp [results, Tryz.results131, go_sem, hz4, Q0.out, Q1.out, Q2.out, Q3.out, Q4.out]) rfl ?_
        exact ⟨by rw [HF2.out], HB2.out.alloc hz5 _⟩
      · have d0 := str_ne he
        have HF2 := Lib.hid (show findAt r s 0 n = findAt r s (k + 1) (n - (k + 1)) by
          rw [HF.out]
          have := HK.out
          obtain ⟨d, rfl⟩ : ∃ d, gk = d + 1 := ⟨gk - 1, by omega⟩
          rw [show n - (k + 1) = d by omega]
          show (if _ then _ else _) = _
          rw [if_neg he])
        clear he
        go_wp2
        go_roundg (n - (k + 1))
        case measure => have := HK.out; omega
        case rel => exact ⟨k + 1, by have := HK.out; omega, by go_num, HF2.out, HX.out.alloc _, HBW.out.alloc (by omega) _⟩
    · have hke : k = n := by omega
      subst hke
      obtain ⟨da, hda⟩ : ∃ da, defA s.data.toList = da := ⟨_, rfl⟩
      obtain ⟨dl, hdl⟩ : ∃ dl, defL s.data.toList = dl := ⟨_, rfl⟩
      have HDA := Lib.hid hda
      have HDL := Lib.hid hdl
      have HF2 := Lib.hid (show findAt r s 0 k = ⟨s, da, dl, 0, 0⟩ by
        rw [HF.out, ← hda, ← hdl]
        have := HK.out
        obtain rfl : gk = 0 := by omega
        rfl)
      clear hda hdl
      go_wp2_with fail
      refine (fdef_is HDA.out HDL.out _).mono ?_
      rintro e w2 ⟨rfl, hb2⟩
      have HX2 := HX.out.below hb2 zr
      have u0 := HX2.cell 0
      have u1 := HX2.cell 1
      have u2 := HX2.cell 2
      have u3 := HX2.cell 3
      have u4 := HX2.cell 4
      have v0 := HX2.free 0
      have v1 := HX2.free 1
      have v2 := HX2.free 2
      have v3 := HX2.free 3
      have v4 := HX2.free 4
      simp only [List.getElem?_toArray, List.getElem?_cons_zero, List.getElem?_cons_succ] at u0 u1 u2 u3 u4
      have HBW2 := HBW.out.trans (hb2.mono (by omega))
      have z2 := HX2.lt
      obtain ⟨W, hW, q0, q1, q2, q3, q4, qs, qb⟩ := fixW u0 u1 u2 u3 u4 (.string s) (.int .i64 da) (.int .i64 dl) (.int .i64 0) (.int .i64 0)
      have HB2 := Lib.hid (qb _ _ HBW2 (Nat.le_refl _))
      have hz4 : w.heap.size < W.heap.size := by omega
      have Q0 := Lib.hid q0
      have Q1 := Lib.hid q1
      have Q2 := Lib.hid q2
      have Q3 := Lib.hid q3
      have Q4 := Lib.hid q4
      clear qs qb q0 q1 q2 q3 q4 hb2 HX2 HBW2 x0 x1 x2 x3 x4 y0 y1 y2 y3 y4
      go_wp2_with fail
      refine bodyPost_ret (v := fixV s da dl 0 0) (by simp [results, Tryz.results131, go_sem, Q0.out, Q1.out, Q2.out, Q3.out, Q4.out]) rfl ?_
      exact ⟨by rw [HF2.out], HB2.out⟩
theorem find_is {b : Option Addr} {n c : Nat} {r : Row} {s : ByteArray} {x : Way} (h : findAt r s 0 n = x) (hn : n ≤ 9223372036854775807) (w : World) (hr : Reads w w.heap.size b n r) :
    Calls Tryz.prog 131 #[.slice b n c, .string s] w (FindPost x w) := by rw [← h]; exact find_any b n c hn r s w hr
end Go.Proofs.YtdajihpfedbihaaGreat.Fx
namespace Go.Proofs.YtdajihpfedbihaaGreat.FixFinds
open Go.RowKit Fx
set_option linter.unusedVariables false
end Go.Proofs.YtdajihpfedbihaaGreat.FixFinds
