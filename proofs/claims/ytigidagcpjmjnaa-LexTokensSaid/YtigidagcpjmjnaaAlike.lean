/-
  CONTRACT: rows of tokens that are alike but for places (changelingref02.Alike).
-/
import Derived.Test.YtigidagcpjmjnaaLexRel
namespace Go.Proofs.Ytigidagcpjmjnaa.Lx
open Go.RowKit Pl Ar Dg Pa
set_option linter.unusedVariables false

/-- without an error the fault is the zero one -/
theorem lexG_zero (f : Nat) : ∀ (l : List UInt8) (ln col : Int) (acc : List Tok), (lexG f l ln col acc).err = 0 → (lexG f l ln col acc).line = 0 ∧ (lexG f l ln col acc).col = 0 := by
  induction f with
  | zero => intro l ln col acc _; exact ⟨rfl, rfl⟩
  | succ f ih =>
    intro l ln col acc h
    unfold lexG at h ⊢
    split
    · exact ⟨rfl, rfl⟩
    rename_i h1
    rw [if_neg h1] at h
    split
    · rename_i h2
      rw [if_pos h2] at h
      exact ih _ _ _ _ h
    rename_i h2
    rw [if_neg h2] at h
    split
    · rename_i h3
      rw [if_pos h3] at h
      exact absurd h h3
    rename_i h3
    rw [if_neg h3] at h
    split
    · rename_i h4
      rw [if_pos h4] at h
      exact absurd (show (2 : Int) = 0 from h) (by decide)
    rename_i h4
    rw [if_neg h4] at h
    exact ih _ _ _ _ h
theorem lexed_zero {l : List UInt8} (h : (lexed l).err = 0) : (lexed l).line = 0 ∧ (lexed l).col = 0 := by
  unfold lexed at h ⊢
  split
  · rename_i h1
    rw [if_pos h1] at h
    exact absurd (show (2 : Int) = 0 from h) (by decide)
  · rename_i h1
    rw [if_neg h1] at h
    exact lexG_zero _ _ _ _ _ h
/-- a value reads as a row of tokens -/
def ShowsT (w : World) (v : Value) (l : List Tok) : Prop := ∃ b c, v = .slice b l.length c ∧ ∀ (k : Nat) (hk : k < l.length), ∃ g, b = some ⟨g, 0, none⟩ ∧ g < w.heap.size ∧
  w.cell? ⟨g, k * 6, none⟩ = some (.int .i64 l[k].kind) ∧ w.cell? ⟨g, k * 6 + 1, none⟩ = some (.string ⟨l[k].text.toArray⟩) ∧ w.cell? ⟨g, k * 6 + 2, none⟩ = some (.int .i64 l[k].num) ∧
  w.cell? ⟨g, k * 6 + 3, none⟩ = some (.int .i64 l[k].line) ∧ w.cell? ⟨g, k * 6 + 4, none⟩ = some (.int .i64 l[k].col) ∧ w.cell? ⟨g, k * 6 + 5, none⟩ = some (.bool false)
theorem showsT_of {w : World} {B : Nat} {v : Value} {l : List Tok} (h : OwnsT w B v l) : ShowsT w v l := by
  have hv : ∃ b c, v = .slice b l.length c := by
    rcases h.2 with ⟨rfl, hn⟩ | ⟨g, cap, cur, rfl, _⟩
    · exact ⟨none, 0, by rw [hn]⟩
    · exact ⟨_, _, rfl⟩
  obtain ⟨b, c, rfl⟩ := hv
  refine ⟨b, c, rfl, fun k hk => ?_⟩
  obtain ⟨g, hb, hg, hc⟩ := owns_at rfl hk h
  exact ⟨g, hb, hg, hc k hk⟩
theorem ShowsT.below {w w' : World} {v : Value} {l : List Tok} (h : ShowsT w v l) (hb : Below w.heap.size w w') : ShowsT w' v l := by
  obtain ⟨b, c, rfl, hc⟩ := h
  refine ⟨b, c, rfl, fun k hk => ?_⟩
  obtain ⟨g, h1, h2, h3, h4, h5, h6, h7, h8⟩ := hc k hk
  exact ⟨g, h1, by have := hb.size; omega, (hb.cell (p := ⟨g, k * 6, none⟩) h2).trans h3, (hb.cell (p := ⟨g, k * 6 + 1, none⟩) h2).trans h4, (hb.cell (p := ⟨g, k * 6 + 2, none⟩) h2).trans h5, (hb.cell (p := ⟨g, k * 6 + 3, none⟩) h2).trans h6, (hb.cell (p := ⟨g, k * 6 + 4, none⟩) h2).trans h7, (hb.cell (p := ⟨g, k * 6 + 5, none⟩) h2).trans h8⟩
theorem belowN {B : Nat} {a w : World} (h : Below B a w) (n : Nat) : Below B a (w.drewN n) := by
  induction n with
  | zero => exact h
  | succ n ih => exact ih.drew
set_option maxRecDepth 100000 in
set_option maxHeartbeats 2000000 in
theorem alike_yes {v1 v2 : Value} {l1 l2 : List Tok} (he : l1.map strip = l2.map strip) (hn : l1.length ≤ 1000000000) (w : World) (h1 : ShowsT w v1 l1) (h2 : ShowsT w v2 l2) :
    Calls Try.prog 13 #[v1, v2] w fun e w' => e = .returned (.bool true) ∧ Below w.heap.size w w' := by
  obtain ⟨b1, c1, rfl, k1⟩ := h1
  obtain ⟨b2, c2, rfl, k2⟩ := h2
  have hl : l2.length = l1.length := by have := congrArg List.length he; simp at this; exact this.symm
  obtain ⟨n, hn1⟩ : ∃ n, l1.length = n := ⟨_, rfl⟩
  rw [hl, hn1]
  rw [hn1] at hn
  have HE := Lib.hid he
  have K1 := Lib.hid k1
  have K2 := Lib.hid k2
  have HN1 := Lib.hid hn1
  have HL := Lib.hid hl
  clear he k1 k2 hn1 hl
  go_enter Try.func13, Try.ntmps13
  go_wp2_with fail
  go_loopg [5] n (fun j i wr => ∃ k : Nat, j + k = n ∧ i = .int .i64 k ∧ Below w.heap.size w wr)
  case atStart => exact ⟨0, by omega, rfl, Below.refl _ _⟩
  case round =>
    obtain ⟨k, hk, rfl, hbw⟩ := hrel
    have HK := Lib.hid hk
    have HBW := Lib.hid hbw
    have hle : k ≤ n := by omega
    clear hk hbw
    by_cases hlt : k < n
    · have hlt' : (k : Int) < n := by omega
      have hk1 : k < l1.length := by rw [HN1.out]; exact hlt
      have hk2 : k < l2.length := by rw [HL.out, HN1.out]; exact hlt
      obtain ⟨g1, rfl, hg1, p0, p1, p2, p3, p4, p5⟩ := K1.out k hk1
      obtain ⟨g2, rfl, hg2, q0, q1, q2, q3, q4, q5⟩ := K2.out k hk2
      have hs : strip l1[k] = strip l2[k] := by
        have h1 : (l1.map strip)[k]? = some (strip l1[k]) := by rw [List.getElem?_map, List.getElem?_eq_getElem hk1]; rfl
        have h2 : (l2.map strip)[k]? = some (strip l2[k]) := by rw [List.getElem?_map, List.getElem?_eq_getElem hk2]; rfl
        rw [HE.out, h2] at h1
        exact (Option.some.inj h1).symm
      unfold strip at hs
      injection hs with hs1 hs2 hs3
      rw [← hs1] at q0
      rw [← hs2] at q1
      rw [← hs3] at q2
      obtain ⟨kd, hkd⟩ : ∃ x, l1[k].kind = x := ⟨_, rfl⟩
      obtain ⟨tx, htx⟩ : ∃ x : ByteArray, (⟨l1[k].text.toArray⟩ : ByteArray) = x := ⟨_, rfl⟩
      obtain ⟨nu, hnu⟩ : ∃ x, l1[k].num = x := ⟨_, rfl⟩
      rw [hkd] at p0 q0
      rw [htx] at p1 q1
      rw [hnu] at p2 q2
      rw [← HBW.out.cell (p := ⟨g1, k * 6, none⟩) hg1] at p0
      rw [← HBW.out.cell (p := ⟨g1, k * 6 + 1, none⟩) hg1] at p1
      rw [← HBW.out.cell (p := ⟨g1, k * 6 + 2, none⟩) hg1] at p2
      rw [← HBW.out.cell (p := ⟨g1, k * 6 + 5, none⟩) hg1] at p5
      rw [← HBW.out.cell (p := ⟨g2, k * 6, none⟩) hg2] at q0
      rw [← HBW.out.cell (p := ⟨g2, k * 6 + 1, none⟩) hg2] at q1
      rw [← HBW.out.cell (p := ⟨g2, k * 6 + 2, none⟩) hg2] at q2
      rw [← HBW.out.cell (p := ⟨g2, k * 6 + 5, none⟩) hg2] at q5
      clear p3 p4 q3 q4 hs1 hs2 hs3 hkd htx hnu
      go_wp2_with fail
      go_quiet (fail)
      go_wp2
      go_roundg (n - (k + 1))
      case measure => have := HK.out; omega
      case rel => exact ⟨k + 1, by have := HK.out; omega, by go_num, belowN HBW.out _⟩
    · have hke : k = n := by omega
      subst hke
      go_wp2
      go_returns
      exact ⟨rfl, HBW.out⟩
end Go.Proofs.Ytigidagcpjmjnaa.Lx
