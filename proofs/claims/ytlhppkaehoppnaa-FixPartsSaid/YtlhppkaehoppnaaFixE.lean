/-
  CONTRACTS of layer fix: rows of spans compared; the fixed calls of its statements.
-/
import Derived.Test.YtlhppkaehoppnaaFixB
import Derived.Test.YtlhppkaehoppnaaFixD
namespace Go.Proofs.Ytlhppkaehoppnaa.Fx
open Go.RowKit Fm Mm Nm
set_option linter.unusedVariables false

def ShowsS (w : World) (v : Value) (n : Nat) (F T : Nat → Nat) : Prop := ∃ b c, v = .slice b n c ∧ ∀ i, i < n → ∃ g, b = some ⟨g, 0, none⟩ ∧ g < w.heap.size ∧
  w.cell? ⟨g, i * 2, none⟩ = some (.int .i64 (F i : Nat)) ∧ w.cell? ⟨g, i * 2 + 1, none⟩ = some (.int .i64 (T i : Nat))
theorem shows_of {w : World} {B n : Nat} {v : Value} {F T : Nat → Nat} (h : OwnsS w B v n F T) : ShowsS w v n F T := by
  obtain ⟨b, c, rfl⟩ := own_slice h
  refine ⟨b, c, rfl, fun i hi => ?_⟩
  obtain ⟨g, hb, _, hg, _, hc⟩ := own_at h (by omega)
  exact ⟨g, hb, hg, (hc (i * 2) (by omega)).trans (span_at F T n i hi).1, (hc (i * 2 + 1) (by omega)).trans (span_at F T n i hi).2⟩
theorem ShowsS.below {w w' : World} {v : Value} {n : Nat} {F T : Nat → Nat} (h : ShowsS w v n F T) (hb : Below w.heap.size w w') : ShowsS w' v n F T := by
  obtain ⟨b, c, rfl, hc⟩ := h
  refine ⟨b, c, rfl, fun i hi => ?_⟩
  obtain ⟨g, h1, h2, h3, h4⟩ := hc i hi
  exact ⟨g, h1, by have := hb.size; omega, (hb.cell (p := ⟨g, i * 2, none⟩) h2).trans h3, (hb.cell (p := ⟨g, i * 2 + 1, none⟩) h2).trans h4⟩
theorem ShowsS.ext {w : World} {v : Value} {n : Nat} {F T G U : Nat → Nat} (h : ShowsS w v n F T) (he : ∀ k, k < n → F k = G k ∧ T k = U k) : ShowsS w v n G U := by
  obtain ⟨b, c, rfl, hc⟩ := h
  refine ⟨b, c, rfl, fun i hi => ?_⟩
  obtain ⟨g, h1, h2, h3, h4⟩ := hc i hi
  exact ⟨g, h1, h2, by rw [h3, (he i hi).1], by rw [h4, (he i hi).2]⟩
theorem below_drewN {B : Nat} {a w : World} (h : Below B a w) (n : Nat) : Below B a (w.drewN n) := by
  induction n with
  | zero => exact h
  | succ n ih => exact ih.drew
set_option maxHeartbeats 1000000 in
theorem same_yes {v1 v2 : Value} {n : Nat} {F T : Nat → Nat} (hn : n ≤ 1000000000) (w : World) (h1 : ShowsS w v1 n F T) (h2 : ShowsS w v2 n F T) :
    Calls Try.prog 11 #[v1, v2] w fun e w' => e = .returned (.bool true) ∧ Below w.heap.size w w' := by
  obtain ⟨b1, c1, rfl, k1⟩ := h1
  obtain ⟨b2, c2, rfl, k2⟩ := h2
  have K1 := Lib.hid k1
  have K2 := Lib.hid k2
  clear k1 k2
  go_enter Try.func11, Try.ntmps11
  go_wp2_with fail
  go_loopg [5] n (fun j i wr => ∃ k : Nat, j + k = n ∧ i = .int .i64 k ∧ Below w.heap.size w wr)
  case atStart => exact ⟨0, by omega, rfl, Below.refl _ _⟩
  case round =>
    obtain ⟨k, hk, rfl, hbw⟩ := hrel
    have HK := Lib.hid hk
    have HBW := Lib.hid hbw
    have hle : k ≤ n := by omega
    clear hk hbw
    by_cases hlt : k < n
    · have hlt' : (k : Int) < n := by omega
      obtain ⟨g1, rfl, hg1, p1, p2⟩ := K1.out k hlt
      obtain ⟨g2, rfl, hg2, q1, q2⟩ := K2.out k hlt
      rw [← HBW.out.cell (p := ⟨g1, k * 2, none⟩) hg1] at p1
      rw [← HBW.out.cell (p := ⟨g1, k * 2 + 1, none⟩) hg1] at p2
      rw [← HBW.out.cell (p := ⟨g2, k * 2, none⟩) hg2] at q1
      rw [← HBW.out.cell (p := ⟨g2, k * 2 + 1, none⟩) hg2] at q2
      go_wp2_with fail
      go_quiet (fail)
      go_wp2
      go_roundg (n - (k + 1))
      case measure => have := HK.out; omega
      case rel => exact ⟨k + 1, by have := HK.out; omega, by go_num, below_drewN HBW.out _⟩
    · have hke : k = n := by omega
      subst hke
      go_wp2
      go_returns
      exact ⟨rfl, HBW.out⟩
theorem fdef_is {s : ByteArray} {a l : Int} (h1 : defA s.data.toList = a) (h2 : defL s.data.toList = l) (w : World) : Calls Try.prog 13 #[.string s] w fun e w' => e = .returned (fixV s a l 0 0) ∧ Below w.heap.size w w' := by
  refine (fdef_any s w).mono ?_
  rintro e w' ⟨he, hb⟩
  exact ⟨by rw [he]; unfold defV; rw [h1, h2], hb⟩
/-- what Resolve comes to, where its outcome is known -/
theorem resolve_is {v : Option Addr} {n cap : Nat} {r : Row} {F T : Nat → Nat} {i e : Nat} (hk : Res r.A r.L n F T i e) (hn : n ≤ 9223372036854775807) (w : World) (hr : Reads w w.heap.size v n r) :
    Calls Try.prog 9 #[.slice v n cap] w fun x w' => ∃ v', x = .returned (.tuple #[v', .int .i64 (i : Nat), .int .i64 (e : Nat)]) ∧ (e = 0 → ShowsS w' v' n F T) ∧ (e ≠ 0 → v' = .slice none 0 0) ∧ Below w.heap.size w w' := by
  refine (resolve_any v n cap r hn w hr).mono ?_
  rintro x w' ⟨v', G, U, j, d, rfl, hd, ho, hz, hb⟩
  obtain ⟨rfl, rfl, hs⟩ := res_same hd hk
  exact ⟨v', rfl, fun h => (shows_of (ho h)).ext (hs h), hz, hb⟩
abbrev row2 (o0 o1 : ByteArray) (a0 l0 a1 l1 : Int) : Row := ⟨fun i => if i = 0 then o0 else o1, fun i => if i = 0 then a0 else a1, fun i => if i = 0 then l0 else l1, fun _ => 0, fun _ => 0⟩
theorem reads2 (w : World) (o0 o1 : ByteArray) (a0 l0 a1 l1 : Int) {g : Nat} (hg : g = w.heap.size) : Reads (w.alloc (.cells #[.string o0, .int .i64 a0, .int .i64 l0, .int .i64 0, .int .i64 0, .string o1, .int .i64 a1, .int .i64 l1, .int .i64 0, .int .i64 0] 33))
    (w.alloc (.cells #[.string o0, .int .i64 a0, .int .i64 l0, .int .i64 0, .int .i64 0, .string o1, .int .i64 a1, .int .i64 l1, .int .i64 0, .int .i64 0] 33)).heap.size (some ⟨g, 0, none⟩) 2 (row2 o0 o1 a0 l0 a1 l1) := by
  subst hg
  have H := Box.new w #[.string o0, .int .i64 a0, .int .i64 l0, .int .i64 0, .int .i64 0, .string o1, .int .i64 a1, .int .i64 l1, .int .i64 0, .int .i64 0] 33
  intro i hi
  refine ⟨_, rfl, by simp, ?_⟩
  rcases (show i = 0 ∨ i = 1 by omega) with rfl | rfl
  · exact ⟨H.cell 0, H.cell 1, H.cell 2, H.cell 3, H.cell 4⟩
  · exact ⟨H.cell 5, H.cell 6, H.cell 7, H.cell 8, H.cell 9⟩
theorem res_k1 {A L : Nat → Int} (a0 : A 0 = 1) (a1 : A 1 = 1) (l0 : L 0 = 6) (l1 : L 1 = 7) : Res A L 2 (fun k => k) (fun _ => 2) 0 0 := by
  refine ⟨.inr (.inr (.inr ⟨rfl, rfl, by omega, ⟨fun j hj => ?_, fun j hj => ?_⟩, fun k hk => ?_⟩))⟩
  · unfold Fine; rcases (show j = 0 ∨ j = 1 by omega) with rfl | rfl <;> omega
  · rintro ⟨p, hp, hm, _⟩
    obtain rfl : j = 1 := by omega
    obtain rfl : p = 0 := by omega
    have := hm.1
    omega
  · rcases (show k = 0 ∨ k = 1 by omega) with rfl | rfl
    · refine ⟨⟨by omega, fun j h1 h2 => absurd h2 (by omega), .inl rfl⟩, by omega, by omega, fun j h1 h2 => ?_, .inl rfl⟩
      obtain rfl : j = 1 := by omega
      exact .inl (by omega)
    · exact ⟨⟨by omega, fun j h1 h2 => absurd h2 (by omega), .inr (by unfold absL; simp; omega)⟩, by omega, by omega, fun j h1 h2 => absurd h2 (by omega), .inl rfl⟩
theorem res_k2 {A L : Nat → Int} (a0 : A 0 = 1) (a1 : A 1 = 1) (l0 : L 0 = 6) (l1 : L 1 = 6) : Res A L 2 (fun _ => 0) (fun k => k + 1) 0 0 := by
  have hA : ∀ j, j < 2 → A j = 1 := fun j hj => by rcases (show j = 0 ∨ j = 1 by omega) with rfl | rfl <;> assumption
  have hL : ∀ j, j < 2 → L j = 6 := fun j hj => by rcases (show j = 0 ∨ j = 1 by omega) with rfl | rfl <;> assumption
  have hs := sides (n := 2) hA hL (.inl rfl)
  refine ⟨.inr (.inr (.inr ⟨rfl, rfl, by omega, ⟨fun j hj => ?_, hs.1⟩, fun k hk => (hs.2 k hk).1 rfl⟩))⟩
  unfold Fine; rw [hA j hj, hL j hj]; omega
theorem res_k3 {A L : Nat → Int} (a0 : A 0 = 0) (a1 : A 1 = 0) (l0 : L 0 = 4) (l1 : L 1 = 4) : Res A L 2 (fun _ => 0) (fun _ => 0) 1 50 := by
  refine ⟨.inr (.inr (.inl ⟨rfl, by omega, by omega, fun j hj => ?_, ⟨0, by omega, ⟨by omega, fun j h1 h2 => absurd h2 (by omega)⟩, by unfold Fit; omega⟩, fun j hj => ?_⟩))⟩
  · unfold Fine; rcases (show j = 0 ∨ j = 1 by omega) with rfl | rfl <;> omega
  · obtain rfl : j = 0 := by omega
    rintro ⟨p, hp, _⟩
    omega
theorem shows2 (w : World) (a b c d : Nat) {g : Nat} (hg : g = w.heap.size) {F T : Nat → Nat} (h0 : F 0 = a ∧ T 0 = b ∧ F 1 = c ∧ T 1 = d) {va vb vc vd : Value} (ha : va = .int .i64 (a : Int)) (hb : vb = .int .i64 (b : Int)) (hc : vc = .int .i64 (c : Int)) (hd : vd = .int .i64 (d : Int)) :
    ShowsS (w.alloc (.cells #[va, vb, vc, vd] 39)) (.slice (some ⟨g, 0, none⟩) 2 2) 2 F T := by
  subst hg ha hb hc hd
  obtain ⟨rfl, rfl, rfl, rfl⟩ := h0
  have H := Box.new w #[.int .i64 (F 0 : Int), .int .i64 (T 0 : Int), .int .i64 (F 1 : Int), .int .i64 (T 1 : Int)] 39
  refine ⟨_, _, rfl, fun i hi => ⟨_, rfl, by simp, ?_⟩⟩
  rcases (show i = 0 ∨ i = 1 by omega) with rfl | rfl
  · exact ⟨H.cell 0, H.cell 1⟩
  · exact ⟨H.cell 2, H.cell 3⟩
set_option maxRecDepth 100000 in
set_option maxHeartbeats 4000000 in
theorem known_any (w : World) : Calls Try.prog 12 #[] w fun e w' => e = .returned (.bool true) ∧ Below w.heap.size w w' := by
  go_enter Try.func12, Try.ntmps12
  go_wp2_with fail
  refine (fdef_is (a := 1) (l := 6) (by decide) (by decide) _).mono ?_
  rintro e w1 ⟨rfl, hb1⟩
  go_wp2_with fail
  refine (fdef_is (a := 1) (l := 7) (by decide) (by decide) _).mono ?_
  rintro e w2 ⟨rfl, hb2⟩
  have HB2 := Lib.hid (hb1.trans (hb2.mono hb1.size))
  have z2 := HB2.out.size
  clear hb1 hb2
  go_wp2_with fail
  refine (resolve_is (r := row2 ⟨#[43]⟩ ⟨#[42]⟩ 1 6 1 7) (res_k1 rfl rfl rfl rfl) (by omega) _ (reads2 _ _ _ _ _ _ _ (by simp))).mono ?_
  rintro e w3 ⟨v3, rfl, ho3, _, hb3⟩
  have HS3 := Lib.hid (ho3 rfl)
  have HB3 := Lib.hid ((((HB2.out.alloc z2 _).alloc (by simp; omega) _).alloc (by simp; omega) _).trans (hb3.mono (by simp; omega)))
  have z3 := HB3.out.size
  clear ho3 hb3 z2
  go_wp2_with fail
  refine (fdef_is (a := 1) (l := 6) (by decide) (by decide) _).mono ?_
  rintro e w4 ⟨rfl, hb4⟩
  have HS4 := Lib.hid (HS3.out.below hb4)
  have HB4 := Lib.hid (HB3.out.trans (hb4.mono z3))
  have z4 := HB4.out.size
  clear hb4 z3
  go_wp2_with fail
  refine (fdef_is (a := 1) (l := 6) (by decide) (by decide) _).mono ?_
  rintro e w5 ⟨rfl, hb5⟩
  have HS5 := Lib.hid (HS4.out.below hb5)
  have HB5 := Lib.hid (HB4.out.trans (hb5.mono z4))
  have z5 := HB5.out.size
  clear hb5 z4
  go_wp2_with fail
  refine (resolve_is (r := row2 ⟨#[45]⟩ ⟨#[45]⟩ 1 6 1 6) (res_k2 rfl rfl rfl rfl) (by omega) _ (reads2 _ _ _ _ _ _ _ (by simp))).mono ?_
  rintro e w6 ⟨v6, rfl, ho6, _, hb6⟩
  have HT6 := Lib.hid (ho6 rfl)
  have HS6 := Lib.hid ((HS5.out.below ((Below.refl _ w5).alloc (Nat.le_refl _) _)).below hb6)
  have HB6 := Lib.hid ((HB5.out.alloc z5 _).trans (hb6.mono (by simp; omega)))
  have z6 := HB6.out.size
  clear ho6 hb6 z5
  go_wp2_with fail
  refine (fdef_is (a := 0) (l := 4) (by decide) (by decide) _).mono ?_
  rintro e w7 ⟨rfl, hb7⟩
  have HS7 := Lib.hid (HS6.out.below hb7)
  have HT7 := Lib.hid (HT6.out.below hb7)
  have HB7 := Lib.hid (HB6.out.trans (hb7.mono z6))
  have z7 := HB7.out.size
  clear hb7 z6
  go_wp2_with fail
  refine (fdef_is (a := 0) (l := 4) (by decide) (by decide) _).mono ?_
  rintro e w8 ⟨rfl, hb8⟩
  have HS8 := Lib.hid (HS7.out.below hb8)
  have HT8 := Lib.hid (HT7.out.below hb8)
  have HB8 := Lib.hid (HB7.out.trans (hb8.mono z7))
  have z8 := HB8.out.size
  clear hb8 z7
  go_wp2_with fail
  refine (resolve_is (r := row2 ⟨#[60]⟩ ⟨#[60]⟩ 0 4 0 4) (res_k3 rfl rfl rfl rfl) (by omega) _ (reads2 _ _ _ _ _ _ _ (by simp))).mono ?_
  rintro e w9 ⟨v9, rfl, _, hv9, hb9⟩
  obtain rfl := hv9 (by decide)
  have HS9 := Lib.hid ((HS8.out.below ((Below.refl _ w8).alloc (Nat.le_refl _) _)).below hb9)
  have HT9 := Lib.hid ((HT8.out.below ((Below.refl _ w8).alloc (Nat.le_refl _) _)).below hb9)
  have HB9 := Lib.hid ((HB8.out.alloc z8 _).trans (hb9.mono (by simp; omega)))
  have z9 := HB9.out.size
  clear hv9 hb9 z8
  go_wp2_with fail
  refine (same_yes (n := 2) (F := fun k => k) (T := fun _ => 2) (by omega) _ (HS9.out.below ((Below.refl _ w9).alloc (Nat.le_refl _) _)) (shows2 w9 0 2 1 2 (by simp) ⟨rfl, rfl, rfl, rfl⟩ rfl rfl rfl rfl)).mono ?_
  rintro e w10 ⟨rfl, hb10⟩
  have HT10 := Lib.hid ((HT9.out.below ((Below.refl _ w9).alloc (Nat.le_refl _) _)).below hb10)
  have HB10 := Lib.hid ((HB9.out.alloc z9 _).trans (hb10.mono (by simp; omega)))
  have z10 := HB10.out.size
  clear hb10 z9
  go_wp2_with fail
  refine (same_yes (n := 2) (F := fun _ => 0) (T := fun k => k + 1) (by omega) _ (HT10.out.below ((Below.refl _ w10).alloc (Nat.le_refl _) _)) (shows2 w10 0 1 0 2 (by simp) ⟨rfl, rfl, rfl, rfl⟩ rfl rfl rfl rfl)).mono ?_
  rintro e w11 ⟨rfl, hb11⟩
  have HB11 := Lib.hid ((HB10.out.alloc z10 _).trans (hb11.mono (by simp; omega)))
  clear hb11 z10
  go_wp2
  go_returns
  exact ⟨rfl, HB11.out⟩
end Go.Proofs.Ytlhppkaehoppnaa.Fx
