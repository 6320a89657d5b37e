/-
  The walk of 'changelinglaw02.LexTokens'.
-/
import Derived.Test.YtigidagcpjmjnaaLexRefH
namespace Go.Proofs.Ytigidagcpjmjnaa.Lx
open Go.RowKit Pl Ar Dg Pa
set_option linter.unusedVariables false
set_option linter.unusedSimpArgs false
theorem rtokens_is {s : ByteArray} {r : Lexed} (hs : s.size ≤ 9223372036854775807) (h : lexed s.data.toList = r) (w : World) : Calls Try.prog 10 #[.string s] w fun e w' =>
    ∃ v, e = .returned (.tuple #[v, .agg #[.int .i64 r.err, .int .i64 r.line, .int .i64 r.col]]) ∧ OwnsT w' w.heap.size v r.toks ∧ Below w.heap.size w w' := by
  have g := rtokens_any s hs w
  unfold TokensPost at g
  rw [h] at g
  exact g
set_option maxRecDepth 100000 in
set_option maxHeartbeats 2000000 in
theorem sameT_yes {v1 v2 : Value} {l : List Tok} (hn : l.length ≤ 1000000000) (w : World) (h1 : ShowsT w v1 l) (h2 : ShowsT w v2 l) :
    Calls Try.prog 11 #[v1, v2] w fun e w' => e = .returned (.bool true) ∧ Below w.heap.size w w' := by
  obtain ⟨b1, c1, rfl, k1⟩ := h1
  obtain ⟨b2, c2, rfl, k2⟩ := h2
  obtain ⟨n, hn1⟩ : ∃ n, l.length = n := ⟨_, rfl⟩
  rw [hn1]
  rw [hn1] at hn
  have K1 := Lib.hid k1
  have K2 := Lib.hid k2
  have HN1 := Lib.hid hn1
  clear k1 k2 hn1
  go_enter Try.func11, Try.ntmps11
  go_wp2_with fail
  go_loopg [5] n (fun j i wr => ∃ k : Nat, j + k = n ∧ i = .int .i64 k ∧ Below w.heap.size w wr)
  case atStart => exact ⟨0, by omega, rfl, Below.refl _ _⟩
  case round =>
    obtain ⟨k, hk, rfl, hbw⟩ := hrel
    have HK := Lib.hid hk
    have HBW := Lib.hid hbw
    have hle : k ≤ n := by omega
    clear hk hbw
    by_cases hlt : k < n
    · have hlt' : (k : Int) < n := by omega
      have hk1 : k < l.length := by rw [HN1.out]; exact hlt
      obtain ⟨g1, rfl, hg1, p0, p1, p2, p3, p4, p5⟩ := K1.out k hk1
      obtain ⟨g2, rfl, hg2, q0, q1, q2, q3, q4, q5⟩ := K2.out k hk1
      obtain ⟨kd, hkd⟩ : ∃ x, l[k].kind = x := ⟨_, rfl⟩
      obtain ⟨tx, htx⟩ : ∃ x : ByteArray, (⟨l[k].text.toArray⟩ : ByteArray) = x := ⟨_, rfl⟩
      obtain ⟨nu, hnu⟩ : ∃ x, l[k].num = x := ⟨_, rfl⟩
      obtain ⟨li, hli⟩ : ∃ x, l[k].line = x := ⟨_, rfl⟩
      obtain ⟨co, hco⟩ : ∃ x, l[k].col = x := ⟨_, rfl⟩
      rw [hkd] at p0 q0
      rw [htx] at p1 q1
      rw [hnu] at p2 q2
      rw [hli] at p3 q3
      rw [hco] at p4 q4
      rw [← HBW.out.cell (p := ⟨g1, k * 6, none⟩) hg1] at p0
      rw [← HBW.out.cell (p := ⟨g1, k * 6 + 1, none⟩) hg1] at p1
      rw [← HBW.out.cell (p := ⟨g1, k * 6 + 2, none⟩) hg1] at p2
      rw [← HBW.out.cell (p := ⟨g1, k * 6 + 3, none⟩) hg1] at p3
      rw [← HBW.out.cell (p := ⟨g1, k * 6 + 4, none⟩) hg1] at p4
      rw [← HBW.out.cell (p := ⟨g1, k * 6 + 5, none⟩) hg1] at p5
      rw [← HBW.out.cell (p := ⟨g2, k * 6, none⟩) hg2] at q0
      rw [← HBW.out.cell (p := ⟨g2, k * 6 + 1, none⟩) hg2] at q1
      rw [← HBW.out.cell (p := ⟨g2, k * 6 + 2, none⟩) hg2] at q2
      rw [← HBW.out.cell (p := ⟨g2, k * 6 + 3, none⟩) hg2] at q3
      rw [← HBW.out.cell (p := ⟨g2, k * 6 + 4, none⟩) hg2] at q4
      rw [← HBW.out.cell (p := ⟨g2, k * 6 + 5, none⟩) hg2] at q5
      clear hkd htx hnu hli hco
      go_wp2_with fail
      try go_quiet (fail)
      go_wp2
      go_roundg (n - (k + 1))
      case measure => have := HK.out; omega
      case rel => exact ⟨k + 1, by have := HK.out; omega, by go_num, belowN HBW.out _⟩
    · have hke : k = n := by omega
      subst hke
      go_wp2
      go_returns
      exact ⟨rfl, HBW.out⟩
set_option maxRecDepth 100000 in
set_option maxHeartbeats 2000000 in
theorem tokens_law (s : ByteArray) (hs : s.size ≤ 9223372036854775807) (w : World) :
    Calls Try.prog 3 #[.string s] w fun e w' => e = .returned (.bool true) ∧ Below w.heap.size w w' := by
  obtain ⟨r, hr⟩ : ∃ r, lexed s.data.toList = r := ⟨_, rfl⟩
  have HL := Lib.hid hr
  have HLen := Lib.hid (show r.toks.length ≤ 1000000000 by have := lexed_len s.data.toList; rw [hr] at this; omega)
  clear hr
  go_enter Try.func3, Try.ntmps3
  go_wp2_with fail
  refine (tokens_is hs HL.out _).mono ?_
  rintro e w1 ⟨v1, rfl, o1, hb1⟩
  have HB1 := Lib.hid hb1
  have z1 := hb1.size
  have HS1 := Lib.hid (showsT_of o1)
  clear o1 hb1
  go_wp2_with fail
  refine (rtokens_is hs HL.out _).mono ?_
  rintro e w2 ⟨v2, rfl, o2, hb2⟩
  have HB2 := Lib.hid hb2
  have HS2 := Lib.hid (showsT_of o2)
  clear o2 hb2
  go_wp2_with fail
  have z2 : w1.heap.size + 1 ≤ w2.heap.size := by have := HB2.out.size; simp at this; omega
  refine (sameT_yes HLen.out _ (HS1.out.below ((((Below.refl w1.heap.size w1).alloc (Nat.le_refl _) _).trans (HB2.out.mono (by simp))).alloc (by omega) _)) (HS2.out.below ((Below.refl w2.heap.size w2).alloc (Nat.le_refl _) _))).mono ?_
  rintro e w3 ⟨rfl, hb3⟩
  have z3 : w2.heap.size + 1 ≤ w3.heap.size := by have := hb3.size; simp at this; omega
  have a0 : w3.cell? ⟨w1.heap.size, 0, none⟩ = some (.int .i64 r.err) := keepF HB2.out hb3 0
  have a1 : w3.cell? ⟨w1.heap.size, 1, none⟩ = some (.int .i64 r.line) := keepF HB2.out hb3 1
  have a2 : w3.cell? ⟨w1.heap.size, 2, none⟩ = some (.int .i64 r.col) := keepF HB2.out hb3 2
  have b0 : w3.cell? ⟨w2.heap.size, 0, none⟩ = some (.int .i64 r.err) := keepL hb3 0
  have b1 : w3.cell? ⟨w2.heap.size, 1, none⟩ = some (.int .i64 r.line) := keepL hb3 1
  have b2 : w3.cell? ⟨w2.heap.size, 2, none⟩ = some (.int .i64 r.col) := keepL hb3 2
  have HB3 := Lib.hid (all3 HB1.out HB2.out hb3)
  clear hb3
  go_wp2_with fail
  refine (known_any _).mono ?_
  rintro e w4 ⟨rfl, hb4⟩
  have HB4 := Lib.hid (HB3.out.trans (hb4.mono (by have := HB3.out.size; omega)) : Below w.heap.size w w4)
  clear hb4
  go_wp2
  go_ret
  exact ⟨rfl, HB4.out⟩
end Go.Proofs.Ytigidagcpjmjnaa.Lx
namespace Go.Proofs.Ytigidagcpjmjnaa.LexTokens
open Go.RowKit Lx
theorem law (s : ByteArray) (hs : s.size ≤ 9223372036854775807) (w : World) :
    Calls Try.prog 3 #[.string s] w fun e w' => e = .returned (.bool true) ∧ Below w.heap.size w w' := tokens_law s hs w
end Go.Proofs.Ytigidagcpjmjnaa.LexTokens
