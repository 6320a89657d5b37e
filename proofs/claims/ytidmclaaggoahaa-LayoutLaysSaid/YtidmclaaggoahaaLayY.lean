/-
  CONTRACT: the fixed calls of the statements of layer layout hold.
-/
import Derived.Test.YtidmclaaggoahaaLayX
namespace Go.Proofs.Ytidmclaaggoahaa.Ly
open Go.RowKit Pl Ar Mm Lx
set_option linter.unusedVariables false
set_option linter.unusedSimpArgs false
theorem ltokens_is {s : ByteArray} {r : Lexed} (hs : s.size ≤ 9223372036854775807) (h : lexed s.data.toList = r) (w : World) : Calls Try.prog 11 #[.string s] w fun e w' =>
    ∃ v, e = .returned (.tuple #[v, .agg #[.int .i64 r.err, .int .i64 r.line, .int .i64 r.col]]) ∧ OwnsM w' w.heap.size v (r.toks.map toM) ∧ Below w.heap.size w w' := by
  have g := tokens_any s hs w
  unfold TokensPost at g
  rw [h] at g
  refine g.mono ?_
  rintro e w' ⟨v, he, ho, hb⟩
  exact ⟨v, he, owns_toM ho, hb⟩
theorem Lay_is {v : Value} {L M : List TokM} (hl : L.length ≤ 100000000) (hM : layAll L = M) (w : World) (h : ShowsM w w.heap.size v L) :
    Calls Try.prog 14 #[v] w fun e w' => ∃ v2, e = .returned v2 ∧ OwnsM w' w.heap.size v2 M ∧ Below w.heap.size w w' := by
  subst hM
  exact Lay_any hl w h
theorem texts_is {v : Value} {L : List TokM} {s : ByteArray} (w : World) (h : ShowsM w w.heap.size v L) (hl : L.length ≤ 1000000) (hs : ∀ k, k ≤ L.length → (textsB L k).size ≤ 1000000) (he : textsB L L.length = s) :
    Calls Try.prog 23 #[v] w fun e w' => e = .returned (.string s) ∧ Below w.heap.size w w' := by
  subst he
  exact texts_any w h hl hs
def src1 : List UInt8 := [120, 32, 61, 32, 49, 10, 121, 32, 61, 32, 50]
def src2 : List UInt8 := [120, 32, 61, 32, 108, 101, 116, 32, 97, 32, 61, 32, 49, 32, 105, 110, 32, 97]
def toks1 : List Tok := [⟨1, [120], 0, 1, 1⟩, ⟨5, [61], 0, 1, 3⟩, ⟨4, [49], 1, 1, 5⟩, ⟨1, [121], 0, 2, 1⟩, ⟨5, [61], 0, 2, 3⟩, ⟨4, [50], 2, 2, 5⟩]
def toks2 : List Tok := [⟨1, [120], 0, 1, 1⟩, ⟨5, [61], 0, 1, 3⟩, ⟨6, [108, 101, 116], 0, 1, 5⟩, ⟨1, [97], 0, 1, 9⟩, ⟨5, [61], 0, 1, 11⟩, ⟨4, [49], 1, 1, 13⟩, ⟨6, [105, 110], 0, 1, 15⟩, ⟨1, [97], 0, 1, 18⟩]
theorem lexed_k1 : lexed src1 = ⟨toks1, 0, 0, 0⟩ := by rfl
theorem lexed_k2 : lexed src2 = ⟨toks2, 0, 0, 0⟩ := by rfl
def mk (k : Int) (s : List UInt8) (n l c : Int) (m : Bool) : TokM := ⟨k, ⟨s.toArray⟩, n, l, c, m⟩
def lay1 : List TokM := [mk 5 [123] 0 1 1 true, mk 1 [120] 0 1 1 false, mk 5 [61] 0 1 3 false, mk 4 [49] 1 1 5 false, mk 5 [59] 0 2 1 true, mk 1 [121] 0 2 1 false, mk 5 [61] 0 2 3 false, mk 4 [50] 2 2 5 false, mk 5 [125] 0 2 5 true]
def lay2 : List TokM := [mk 5 [123] 0 1 1 true, mk 1 [120] 0 1 1 false, mk 5 [61] 0 1 3 false, mk 6 [108, 101, 116] 0 1 5 false, mk 5 [123] 0 1 9 true, mk 1 [97] 0 1 9 false, mk 5 [61] 0 1 11 false, mk 4 [49] 1 1 13 false, mk 5 [125] 0 1 15 true, mk 6 [105, 110] 0 1 15 false, mk 1 [97] 0 1 18 false, mk 5 [125] 0 1 18 true]
theorem lay_k1 : layAll (toks1.map toM) = lay1 := by rfl
theorem lay_k2 : layAll (toks2.map toM) = lay2 := by rfl
theorem texts_k1 : textsB lay1 lay1.length = ⟨#[123, 32, 120, 32, 61, 32, 49, 32, 59, 32, 121, 32, 61, 32, 50, 32, 125, 32]⟩ := by rfl
theorem texts_k2 : textsB lay2 lay2.length = ⟨#[123, 32, 120, 32, 61, 32, 108, 101, 116, 32, 123, 32, 97, 32, 61, 32, 49, 32, 125, 32, 105, 110, 32, 97, 32, 125, 32]⟩ := by rfl
theorem textsB_le (L : List TokM) (h : ∀ t ∈ L, t.text.size ≤ 1000) : ∀ k, k ≤ L.length → (textsB L k).size ≤ 1001 * k
  | 0, _ => Nat.le_refl _
  | k + 1, hk => by
    have := textsB_le L h k (by omega)
    have h2 : (tk L k).text.size ≤ 1000 := by
      have e : tk L k = L[k] := by unfold tk; rw [List.getD_eq_getElem?_getD, List.getElem?_eq_getElem (by omega)]; rfl
      rw [e]
      exact h _ (List.getElem_mem _)
    have e1 : (⟨#[32]⟩ : ByteArray).size = 1 := rfl
    unfold textsB
    rw [ByteArray.size_append, ByteArray.size_append, e1]
    omega
theorem texts_b1 : ∀ k, k ≤ lay1.length → (textsB lay1 k).size ≤ 1000000 := fun k hk => by
  have := textsB_le lay1 (by decide) k hk
  have h2 : lay1.length = 9 := rfl
  omega
theorem texts_b2 : ∀ k, k ≤ lay2.length → (textsB lay2 k).size ≤ 1000000 := fun k hk => by
  have := textsB_le lay2 (by decide) k hk
  have h2 : lay2.length = 12 := rfl
  omega
set_option maxRecDepth 100000 in
set_option maxHeartbeats 2000000 in
theorem known_any (w : World) : Calls Try.prog 12 #[] w fun e w' => e = .returned (.bool true) ∧ Below w.heap.size w w' := by
  go_enter Try.func12, Try.ntmps12
  go_wp2_with fail
  refine (ltokens_is (by decide) lexed_k1 _).mono ?_
  rintro e w1 ⟨v1, rfl, o1, hb1⟩
  have S1 := Lib.hid (shows_own o1)
  have B1 := Lib.hid hb1
  have s1 := hb1.size
  clear o1 hb1
  go_wp2_with fail
  refine (ltokens_is (by decide) lexed_k2 _).mono ?_
  rintro e w2 ⟨v2, rfl, o2, hb2⟩
  have S2 := Lib.hid (shows_own o2)
  have B2 := Lib.hid hb2
  have s2 := hb2.size
  simp only [World.size_alloc] at s2
  clear o2 hb2
  have f1 : w2.cell? ⟨w1.heap.size, 0, none⟩ = some (.int .i64 0) := by rw [B2.out.cell (p := ⟨w1.heap.size, 0, none⟩) (by simp), World.cell?_alloc_at _ _ _ _ rfl]; rfl
  have f2 : (w2.alloc (.cells #[.int .i64 0, .int .i64 0, .int .i64 0] 27)).cell? ⟨w1.heap.size, 0, none⟩ = some (.int .i64 0) := by rw [World.cell?_alloc_past _ _ _ (by show w1.heap.size < _; omega)]; exact f1
  clear f1
  have BA := Lib.hid (show Below w1.heap.size w1 (w2.alloc (.cells #[.int .i64 0, .int .i64 0, .int .i64 0] 27)) from (((Below.refl w1.heap.size w1).alloc (Nat.le_refl _) _).trans (B2.out.mono (by simp))).alloc (by omega) _)
  have BC := Lib.hid (show Below w2.heap.size w2 (w2.alloc (.cells #[.int .i64 0, .int .i64 0, .int .i64 0] 27)) from (Below.refl w2.heap.size w2).alloc (Nat.le_refl _) _)
  go_wp2_with fail
  refine (Lay_is (by decide) lay_k1 _ ((S1.out.below BA.out (Nat.le_refl _)).mono (by simp; omega))).mono ?_
  rintro e w3 ⟨v3, rfl, o3, hb3⟩
  have S3 := Lib.hid (shows_own o3)
  have B3 := Lib.hid hb3
  have s3 := hb3.size
  simp only [World.size_alloc] at s3
  clear o3 hb3
  go_wp2_with fail
  refine (texts_is _ S3.out (by decide) texts_b1 texts_k1).mono ?_
  rintro e w4 ⟨rfl, hb4⟩
  have B4 := Lib.hid (show Below (w2.heap.size + 1) (w2.alloc (.cells #[.int .i64 0, .int .i64 0, .int .i64 0] 27)) w4 from by
    have := B3.out
    simp only [World.size_alloc] at this
    exact this.trans (hb4.mono (by omega)))
  have s4 := hb4.size
  clear hb4
  go_wp2_with fail
  refine (Lay_is (by decide) lay_k2 _ (((S2.out.below BC.out (Nat.le_refl _)).below B4.out (by omega)).mono (by omega))).mono ?_
  rintro e w5 ⟨v5, rfl, o5, hb5⟩
  have S5 := Lib.hid (shows_own o5)
  have s5 := hb5.size
  have B5 := Lib.hid (B4.out.trans (hb5.mono (by omega)))
  clear o5 hb5
  go_wp2_with fail
  refine (texts_is _ S5.out (by decide) texts_b2 texts_k2).mono ?_
  rintro e w6 ⟨rfl, hb6⟩
  have s6 := hb6.size
  have B6 := Lib.hid (B5.out.trans (hb6.mono (by omega)))
  clear hb6
  go_wp2_with fail
  refine (real_any (L := toks1.map toM) _ (((S1.out.below BA.out (Nat.le_refl _)).below B6.out (by omega)).mono (by omega)) (by decide)).mono ?_
  rintro e w7 ⟨v7, rfl, o7, hb7⟩
  obtain ⟨b7, c7, rfl⟩ := own_slice o7
  have s7 := hb7.size
  have hn7 : ((toks1.map toM).map realT).length = 6 := rfl
  rw [hn7]
  have B7 := Lib.hid (show Below w.heap.size w w7 from (B1.out.trans (BA.out.mono s1)).trans ((B6.out.trans (hb7.mono (by omega))).mono (by omega)))
  clear o7 hb7
  go_wp2
  go_returns
  exact ⟨rfl, B7.out⟩
end Go.Proofs.Ytidmclaaggoahaa.Ly
