/-
  CONTRACTS: a row's texts; the document's Plain; tokens of lex as tokens of layout.
-/
import Derived.Test.YtidmclaaggoahaaLayV
import Derived.Maps.AppendAt
namespace Go.Proofs.Ytidmclaaggoahaa.Ly
open Go.RowKit Pl Ar Mm Lx
set_option linter.unusedVariables false
set_option linter.unusedSimpArgs false
def toM (t : Tok) : TokM := ⟨t.kind, ⟨t.text.toArray⟩, t.num, t.line, t.col, false⟩
theorem cells_toM (l : List Tok) : toksCells l = tmsCells (l.map toM) := by
  induction l with
  | nil => rfl
  | cons t l ih =>
    show tokCells t ++ toksCells l = tmCells (toM t) ++ tmsCells (l.map toM)
    rw [ih]; rfl
theorem owns_toM {w : World} {B : Nat} {v : Value} {l : List Tok} (h : OwnsT w B v l) : OwnsM w B v (l.map toM) := by
  unfold OwnsM
  rw [List.length_map, ← cells_toM]
  exact h
def textsB (L : List TokM) : Nat → ByteArray
  | 0 => ⟨#[]⟩
  | k + 1 => textsB L k ++ (tk L k).text ++ ⟨#[32]⟩
set_option maxRecDepth 100000 in
set_option maxHeartbeats 2000000 in
theorem texts_any {v : Value} {L : List TokM} (w : World) (h : ShowsM w w.heap.size v L) (hl : L.length ≤ 1000000) (hs : ∀ k, k ≤ L.length → (textsB L k).size ≤ 1000000) :
    Calls Try.prog 23 #[v] w fun e w' => e = .returned (.string (textsB L L.length)) ∧ Below w.heap.size w w' := by
  obtain ⟨b, c, rfl, hc⟩ := h
  obtain ⟨N, hN⟩ : ∃ N, L.length = N := ⟨_, rfl⟩
  have HC := Lib.hid hc
  have HN := Lib.hid hN
  rw [hN] at hl hs ⊢
  have HS := Lib.hid hs
  clear hc hN hs
  go_enter Try.func23, Try.ntmps23
  go_wp2_with fail
  go_loopg [3, 4] N (fun d v3 v4 wr => ∃ k : Nat, d + k = N ∧ v4 = .int .i64 k ∧ v3 = .string (textsB L k) ∧ Below w.heap.size w wr)
  case atStart => exact ⟨0, by omega, rfl, rfl, Below.refl _ _⟩
  case round =>
    obtain ⟨k, hk, rfl, rfl, hbw⟩ := hrel
    have HK := Lib.hid hk
    have HBW := Lib.hid hbw
    have hle : k ≤ N := by omega
    clear hk hbw
    by_cases hlt : k < N
    · have hlt' : (k : Int) < N := by omega
      obtain ⟨ad, e, hg, y⟩ := HC.out k (by rw [HN.out]; exact hlt)
      subst e
      obtain ⟨t, ht⟩ : ∃ t, tk L k = t := ⟨_, rfl⟩
      rw [ht] at y
      have z1 := (y.below HBW.out hg).c1
      have hs1 := HS.out (k + 1) (by omega)
      obtain ⟨S, hS⟩ : ∃ S, textsB L k = S := ⟨_, rfl⟩
      have hS2 : textsB L (k + 1) = S ++ t.text ++ ⟨#[32]⟩ := by show textsB L k ++ (tk L k).text ++ ⟨#[32]⟩ = _; rw [hS, ht]
      rw [hS2] at hs1
      have hs3 : S.size + t.text.size + 1 ≤ 1000000 := by
        have e1 : (⟨#[32]⟩ : ByteArray).size = 1 := rfl
        rw [ByteArray.size_append, ByteArray.size_append, e1] at hs1
        omega
      clear hs1
      have HS2 := Lib.hid hS2
      rw [hS]
      clear y ht hS hS2
      go_wp2
      go_roundg (N - (k + 1))
      case measure => have := HK.out; omega
      case rel => exact ⟨k + 1, by have := HK.out; omega, by go_num, by rw [HS2.out], HBW.out⟩
    · obtain rfl : k = N := by omega
      go_wp2
      go_returns
      exact ⟨rfl, HBW.out⟩
/-- the first tokens that were not made -/
def plainF (L : List TokM) : Nat → List TokM
  | 0 => []
  | k + 1 => if (tk L k).made = true then plainF L k else plainF L k ++ [tk L k]
theorem plainF_len (L : List TokM) : ∀ k, (plainF L k).length ≤ k
  | 0 => by simp [plainF]
  | k + 1 => by
    have := plainF_len L k
    unfold plainF
    split <;> simp <;> omega
set_option maxRecDepth 100000 in
set_option maxHeartbeats 2000000 in
theorem plain_any {v : Value} {L : List TokM} (w : World) (h : ShowsM w w.heap.size v L) (hl : L.length ≤ 1000000000) :
    Calls Try.prog 17 #[v] w fun e w' => ∃ v2, e = .returned v2 ∧ OwnsM w' w.heap.size v2 (plainF L L.length) ∧ Below w.heap.size w w' := by
  obtain ⟨i0, hi, hz0, hz1, hz2'⟩ := info_parts Ttok
  obtain ⟨b, c, rfl, hc⟩ := h
  obtain ⟨N, hN⟩ : ∃ N, L.length = N := ⟨_, rfl⟩
  have HC := Lib.hid hc
  have HN := Lib.hid hN
  rw [hN] at hl ⊢
  clear hc hN
  go_enter Try.func17, Try.ntmps17
  go_wp2_with fail
  go_loopg [3, 4] N (fun d v3 v4 wr => ∃ k : Nat, d + k = N ∧ v4 = .int .i64 k ∧ OwnsM wr w.heap.size v3 (plainF L k) ∧ Below w.heap.size w wr)
  case atStart => exact ⟨0, by omega, rfl, World.ownsRow_nil _ _ _ _, Below.refl _ _⟩
  case round =>
    obtain ⟨k, hk, rfl, ho, hbw⟩ := hrel
    have HK := Lib.hid hk
    have HBW := Lib.hid hbw
    have HO := Lib.hid ho
    have hle : k ≤ N := by omega
    have hpl := plainF_len L k
    clear hk hbw ho
    by_cases hlt : k < N
    · have hlt' : (k : Int) < N := by omega
      obtain ⟨ad, e, hg, y⟩ := HC.out k (by rw [HN.out]; exact hlt)
      subst e
      obtain ⟨t, ht⟩ : ∃ t, tk L k = t := ⟨_, rfl⟩
      rw [ht] at y
      obtain ⟨z0, z1, z2, z3, z4, z5⟩ := y.below HBW.out hg
      have hp2 : plainF L (k + 1) = if t.made = true then plainF L k else plainF L k ++ [t] := by show (if (tk L k).made = true then _ else _ ++ [tk L k]) = _; rw [ht]
      have HP2 := Lib.hid hp2
      clear y ht hp2
      obtain ⟨tk0, tx, tn, tl, tc, tm⟩ := t
      simp only at z0 z1 z2 z3 z4 z5
      cases tm with
      | true =>
        go_wp2
        go_roundg (N - (k + 1))
        case measure => have := HK.out; omega
        case rel => exact ⟨k + 1, by have := HK.out; omega, by go_num, by rw [HP2.out]; exact HO.out, HBW.out⟩
      | false =>
        obtain ⟨a3, n3, hv3⟩ := own_slice HO.out
        subst hv3
        go_wp2_with (at_builtin; refine wpList_append_own _ rfl _ _ 22 rfl w.heap.size 35 i0 _ 6 56 Try.underlying22 hi hz0 hz1 hz2' rfl (by decide) _ _ _ rfl (HO.out.alloc _) ⟨wr.heap.size, 0, none⟩ 1 1 [.int .i64 tk0, .string tx, .int .i64 tn, .int .i64 tl, .int .i64 tc, .bool false] rfl rfl ?c1 ?c2 ?c3 ?c4 ?c5 ?_)
        case c2 => exact ⟨rfl, rfl, rfl, rfl, rfl, rfl⟩
        case c3 => unfold maxLen; omega
        case c4 => omega
        case c5 => have := HBW.out.size; simp; omega
        intro v' w5 hown hgrow _
        have HO5 := Lib.hid hown
        have HB5 := Lib.hid (show Below w.heap.size w w5 from (HBW.out.alloc HBW.out.size _).grown hgrow (by have := HBW.out.size; simp; omega) (fun g hg => (World.ownsRow.lt HO.out g hg).1))
        clear hown hgrow
        go_wp2
        go_roundg (N - (k + 1))
        case measure => have := HK.out; omega
        case rel => exact ⟨k + 1, by have := HK.out; omega, by go_num, by rw [HP2.out]; unfold OwnsM; simp only [Bool.false_eq_true, if_false]; rw [tms_push, List.length_append]; exact HO5.out, HB5.out⟩
    · obtain rfl : k = N := by omega
      go_wp2
      refine bodyPost_ret (v := _) (by simp [results, Try.results17, go_sem]; rfl) rfl ?_
      exact ⟨_, rfl, HO.out, HBW.out⟩
end Go.Proofs.Ytidmclaaggoahaa.Ly
