/-
  The walk of 'changelinglaw02.LexBack'.
-/
import Derived.Test.YtigidagcpjmjnaaAlike
namespace Go.Proofs.Ytigidagcpjmjnaa.Lx
open Go.RowKit Pl Ar Dg Pa
set_option linter.unusedVariables false

/-- the first tokens' texts, each with a blank behind it -/
def joinK (l : List Tok) (k : Nat) : List UInt8 := joinT ((l.take k).map strip)
theorem joinT_app (a b : List Tk) : joinT (a ++ b) = joinT a ++ joinT b := by
  induction a with
  | nil => rfl
  | cons t a ih => simp [joinT, ih]
theorem joinK_succ {l : List Tok} {k : Nat} (h : k < l.length) : joinK l (k + 1) = joinK l k ++ l[k].text ++ [32] := by
  unfold joinK
  rw [List.take_succ_eq_append_getElem h, List.map_append, joinT_app]
  simp [joinT, strip]
theorem joinK_zero (l : List Tok) : joinK l 0 = [] := rfl
theorem joinK_all (l : List Tok) : joinK l l.length = joinT (l.map strip) := by unfold joinK; rw [List.take_length]
theorem joinK_len {l : List Tok} (h : ∀ t, t ∈ l → t.text.length ≤ 8192) (k : Nat) (hk : k ≤ l.length) : (joinK l k).length ≤ k * 8193 := by
  induction k with
  | zero => simp [joinK_zero]
  | succ k ih =>
    rw [joinK_succ (by omega)]
    have := h _ (List.getElem_mem (show k < l.length by omega))
    have := ih (by omega)
    simp
    omega
theorem joinK_mono {l : List Tok} {k : Nat} (hk : k ≤ l.length) : (joinK l k).length ≤ (joinK l l.length).length := by
  have : ∀ d k, k + d ≤ l.length → (joinK l k).length ≤ (joinK l (k + d)).length := by
    intro d
    induction d with
    | zero => intro k _; exact Nat.le_refl _
    | succ d ih =>
      intro k hk
      have h1 := ih k (by omega)
      rw [show k + (d + 1) = (k + d) + 1 by omega, joinK_succ (show k + d < l.length by omega)]
      simp
      omega
  have := this (l.length - k) k (by omega)
  rwa [show k + (l.length - k) = l.length by omega] at this
set_option maxRecDepth 100000 in
set_option maxHeartbeats 1000000 in
theorem back_law (s : ByteArray) (hs : s.size ≤ 9223372036854775807) (w : World) :
    Calls Try.prog 4 #[.string s] w fun e w' => e = .returned (.bool true) ∧ Below w.heap.size w w' := by
  obtain ⟨r, hr⟩ : ∃ r, lexed s.data.toList = r := ⟨_, rfl⟩
  have HL := Lib.hid hr
  have hnone := lexed_none s.data.toList
  rw [hr] at hnone
  by_cases he : r.err = 0
  · have d0 : (r.err != 0) = false := by simp [he]
    have hz : s.size ≤ 8192 := by
      by_cases h : 8192 < s.data.toList.length
      · rw [← hr] at he
        unfold lexed at he
        rw [if_pos h] at he
        exact absurd (show (2 : Int) = 0 from he) (by decide)
      · rw [Lib.size_eq]; omega
    have hst := (lexed_stands s.data.toList).1
    have hlen := lexed_len s.data.toList
    rw [hr] at hst hlen
    have htx : ∀ t, t ∈ r.toks → t.text.length ≤ 8192 := fun t ht => by
      obtain ⟨a, b, h1, _, _⟩ := hst t ht
      have := congrArg List.length h1
      rw [← Lib.size_eq] at this
      simp at this
      omega
    obtain ⟨N, hN⟩ : ∃ N, r.toks.length = N := ⟨_, rfl⟩
    rw [hN] at hlen
    have HTX := Lib.hid htx
    have HN := Lib.hid hN
    have HE := Lib.hid he
    have hJ : ∀ k, k ≤ N → (joinK r.toks k).length ≤ k * 8193 := fun k hk => joinK_len htx k (by omega)
    have HJ := Lib.hid hJ
    have hsz2 : decide (s.size ≤ 8192) = true := decide_eq_true hz
    have hsz3 : decide ((s.size : Int) ≤ 8192) = true := decide_eq_true (by omega)
    clear hr hnone he hst htx hN hJ
    go_enter Try.func4, Try.ntmps4
    go_wp2_with fail
    refine (tokens_is hs HL.out _).mono ?_
    rintro e w1 ⟨v1, rfl, o1, hb1⟩
    have HB1 := Lib.hid hb1
    have z1 := hb1.size
    have HS := Lib.hid (showsT_of o1)
    obtain ⟨b, c, rfl, hc⟩ := showsT_of o1
    have HSN := Lib.hid (show ShowsT w1 (.slice b N c) r.toks by rw [← HN.out]; exact HS.out)
    rw [HN.out]
    have HC := Lib.hid hc
    clear o1 hb1 hc
    go_wp2_with fail
    go_loopg [5, 6] N (fun d v5 v6 wr => ∃ k : Nat, d + k = N ∧ v6 = .int .i64 k ∧ v5 = .int .i64 ((joinK r.toks k).length : Nat) ∧ Below w1.heap.size w1 wr)
    case atStart => exact ⟨0, by omega, rfl, rfl, (Below.refl _ _).alloc (Nat.le_refl _) _⟩
    case round =>
      obtain ⟨k, hk, rfl, rfl, hbw⟩ := hrel
      have HK := Lib.hid hk
      have HBW := Lib.hid hbw
      have hle : k ≤ N := by omega
      clear hk hbw
      by_cases hlt : k < N
      · have hlt' : (k : Int) < N := by omega
        have hkl : k < r.toks.length := by rw [HN.out]; exact hlt
        obtain ⟨g, rfl, hg, _, p1, _, _, _, _⟩ := HC.out k hkl
        rw [← HBW.out.cell (p := ⟨g, k * 6 + 1, none⟩) hg] at p1
        have hj1 := HJ.out k hle
        have hj2 := HTX.out _ (List.getElem_mem hkl)
        have hs2 : (joinK r.toks (k + 1)).length = (joinK r.toks k).length + r.toks[k].text.length + 1 := by rw [joinK_succ hkl]; simp; omega
        obtain ⟨tx, htx⟩ : ∃ x : ByteArray, (⟨r.toks[k].text.toArray⟩ : ByteArray) = x := ⟨_, rfl⟩
        have htz : tx.size = r.toks[k].text.length := by rw [← htx]; rfl
        rw [htx] at p1
        rw [← htz] at hs2 hj2
        obtain ⟨J, hJ⟩ : ∃ J, (joinK r.toks k).length = J := ⟨_, rfl⟩
        rw [hJ] at hj1 hs2
        have HS2 := Lib.hid hs2
        have HJJ := Lib.hid hJ
        have hj3 : J ≤ 2048 * 8193 := by omega
        rw [hJ]
        clear htx htz hs2 hJ hj1
        go_wp2
        go_roundg (N - (k + 1))
        case measure => have := HK.out; omega
        case rel => exact ⟨k + 1, by have := HK.out; omega, by go_num, by rw [HS2.out]; go_num, HBW.out⟩
      · have hke : k = N := by omega
        subst hke
        have zr := HBW.out.size
        by_cases hbig : 8192 < (joinK r.toks k).length
        · have d1 : decide ((8192 : Int) < ((joinK r.toks k).length : Nat)) = true := decide_eq_true (by omega)
          clear hbig
          go_wp2_with fail
          refine (known_any _).mono ?_
          rintro e w2 ⟨rfl, hb2⟩
          have HB2 := Lib.hid (show Below w.heap.size w w2 from (HB1.out.trans (HBW.out.mono z1)).trans (hb2.mono (by omega)))
          clear hb2
          go_wp2
          go_returns
          exact ⟨rfl, HB2.out⟩
        · have d1 : decide ((8192 : Int) < ((joinK r.toks k).length : Nat)) = false := decide_eq_false (by omega)
          have hmono : ∀ i, i ≤ k → (joinK r.toks i).length ≤ 8192 := fun i hi => by
            have h1 := joinK_mono (l := r.toks) (k := i) (by rw [HN.out]; exact hi)
            rw [HN.out] at h1
            omega
          have HM := Lib.hid hmono
          clear hmono hbig
          obtain ⟨wo, rfl⟩ : ∃ wo : World, wo = wr := ⟨_, rfl⟩
          go_wp2_with fail
          go_loopg [7, 8] k (fun d v7 v8 wr => ∃ (i : Nat) (S : ByteArray), d + i = k ∧ v8 = .int .i64 i ∧ v7 = .string S ∧ S.data.toList = joinK r.toks i ∧ Below w1.heap.size w1 wr)
          case atStart => exact ⟨0, _, by omega, rfl, rfl, rfl, HBW.out⟩
          case round =>
            obtain ⟨i, S, hi, rfl, rfl, hS, hbi⟩ := hrel
            have HI := Lib.hid hi
            have HSS := Lib.hid hS
            have HBI := Lib.hid hbi
            have hik : i ≤ k := by omega
            have hS1 : S.size ≤ 8192 := by rw [Lib.size_eq, hS]; exact HM.out i hik
            clear hi hS hbi
            by_cases hlt : i < k
            · have hlt' : (i : Int) < k := by omega
              have hil : i < r.toks.length := by rw [HN.out]; exact hlt
              obtain ⟨g, rfl, hg, _, p1, _, _, _, _⟩ := HC.out i hil
              rw [← HBI.out.cell (p := ⟨g, i * 6 + 1, none⟩) hg] at p1
              have hj2 := HTX.out _ (List.getElem_mem hil)
              obtain ⟨tx, htx⟩ : ∃ x : ByteArray, (⟨r.toks[i].text.toArray⟩ : ByteArray) = x := ⟨_, rfl⟩
              have htz : tx.size = r.toks[i].text.length := by rw [← htx]; rfl
              rw [htx] at p1
              rw [← htz] at hj2
              have HS2 := Lib.hid (show (S ++ tx ++ ⟨#[32]⟩).data.toList = joinK r.toks (i + 1) by
                rw [joinK_succ hil, ← HSS.out, ← htx]
                simp [ByteArray.data_append])
              have hA : ¬ (9223372036854775807 < S.size + tx.size) := by omega
              have hA2 : ¬ (9223372036854775807 < S.size + tx.size + 1) := by omega
              clear htx htz
              go_wp2
              go_roundg (k - (i + 1))
              case measure => have := HI.out; omega
              case rel => exact ⟨i + 1, _, by have := HI.out; omega, by go_num, rfl, HS2.out, HBI.out⟩
            · have hie : i = k := by omega
              subst hie
              have hJT : S.data.toList = joinT ((lexed s.data.toList).toks.map strip) := by
                rw [HSS.out, HL.out, ← joinK_all, HN.out]
              have hback := lexed_join (src := s.data.toList) (by rw [HL.out]; exact HE.out) (by rw [← hJT, ← Lib.size_eq]; omega)
              rw [← hJT] at hback
              obtain ⟨r2, hr2⟩ : ∃ r2, lexed S.data.toList = r2 := ⟨_, rfl⟩
              have hzero := lexed_zero hback.1
              rw [hr2] at hback hzero
              obtain ⟨tk2, er2, ln2, cl2⟩ := r2
              obtain ⟨hk1, hk2⟩ := hback
              obtain ⟨hk3, hk4⟩ := hzero
              simp only at hk1 hk2 hk3 hk4
              subst hk1 hk3 hk4
              have HR2 := Lib.hid hr2
              have HA := Lib.hid (show r.toks.map strip = tk2.map strip by rw [hk2, HL.out])
              have zi := HBI.out.size
              clear hJT hr2 hk2
              go_wp2_with fail
              refine (tokens_is (by omega) HR2.out _).mono ?_
              rintro e w2 ⟨v2, rfl, o2, hb2⟩
              have HB2 := Lib.hid (show Below w1.heap.size w1 w2 from HBI.out.trans (hb2.mono zi))
              have z2 := HB2.out.size
              have HS2 := Lib.hid (showsT_of o2)
              clear o2 hb2
              go_wp2_with fail
              refine (alike_yes HA.out (by rw [HN.out]; omega) _ ((HSN.out.below HB2.out).below ((Below.refl _ w2).alloc (Nat.le_refl _) _)) (HS2.out.below ((Below.refl _ w2).alloc (Nat.le_refl _) _))).mono ?_
              rintro e w3 ⟨rfl, hb3⟩
              have HB3 := Lib.hid (show Below w1.heap.size w1 w3 from (HB2.out.alloc z2 _).trans (hb3.mono (by simp; omega)))
              have z3 := HB3.out.size
              clear hb3
              go_wp2_with fail
              refine (known_any _).mono ?_
              rintro e w4 ⟨rfl, hb4⟩
              have HB4 := Lib.hid (show Below w.heap.size w w4 from (HB1.out.trans (HB3.out.mono z1)).trans (hb4.mono (by omega)))
              clear hb4
              go_wp2
              go_returns
              exact ⟨rfl, HB4.out⟩
  · have d0 : (r.err != 0) = true := by simp [he]
    have ht := hnone he
    clear hr hnone he
    go_enter Try.func4, Try.ntmps4
    go_wp2_with fail
    refine (tokens_is hs HL.out _).mono ?_
    rintro e w1 ⟨v1, rfl, o1, hb1⟩
    rw [ht] at o1
    have HB1 := Lib.hid hb1
    obtain ⟨b, c, rfl, _⟩ := showsT_of o1
    clear o1 hb1
    go_wp2_with fail
    refine (known_any _).mono ?_
    rintro e w2 ⟨rfl, hb2⟩
    have HB2 := Lib.hid (((HB1.out.alloc HB1.out.size _).trans (hb2.mono (by have := HB1.out.size; simp; omega))) : Below w.heap.size w w2)
    clear hb2
    go_wp2
    go_returns
    exact ⟨rfl, HB2.out⟩
end Go.Proofs.Ytigidagcpjmjnaa.Lx
namespace Go.Proofs.Ytigidagcpjmjnaa.LexBack
open Go.RowKit Lx
theorem law (s : ByteArray) (hs : s.size ≤ 9223372036854775807) (w : World) :
    Calls Try.prog 4 #[.string s] w fun e w' => e = .returned (.bool true) ∧ Below w.heap.size w w' := back_law s hs w
end Go.Proofs.Ytigidagcpjmjnaa.LexBack
