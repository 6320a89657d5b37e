/-
  CONTRACTS: the document's mark, word, Braced; what Lay does where all is braced.
-/
import Derived.Test.YtidmclaaggoahaaLayPairs
namespace Go.Proofs.Ytidmclaaggoahaa.Ly
open Go.RowKit Pl Ar Mm Lx
set_option linter.unusedVariables false
set_option linter.unusedSimpArgs false
def markB (t : TokM) (s : ByteArray) : Bool := decide (t.kind = 5 ∧ t.text = s)
def wordB (t : TokM) (s : ByteArray) : Bool := decide (t.kind = 6 ∧ t.text = s)
set_option maxHeartbeats 2000000 in
theorem mark_is (t : TokM) (s : ByteArray) (w : World) : Calls Try.prog 29 #[tokVal t, .string s] w fun e w' => e = .returned (.bool (markB t s)) ∧ Below w.heap.size w w' := by
  obtain ⟨r, hr⟩ : ∃ r, markB t s = r := ⟨_, rfl⟩
  rw [hr]
  unfold markB at hr
  obtain ⟨k, tx, tn, tl, tc, tm⟩ := t
  simp only at hr
  by_cases h1 : k = 5
  · subst h1
    by_cases h2 : tx = s
    · subst h2
      have hr2 : r = true := by rw [← hr]; simp
      clear hr
      subst hr2
      go_enter Try.func29, Try.ntmps29
      go_wp2
      go_ret
      exact ⟨by first | rfl | (simp; done) | (simp [h3]; done), by go_grown⟩
    · have h3 : ¬ tx.toList = s.toList := by
        rw [Lib.toList_data, Lib.toList_data]
        intro e
        exact h2 (ByteArray.ext (Array.toList_inj.1 e))
      have hr2 : r = false := by rw [← hr]; simp [h2]
      clear hr h2
      subst hr2
      go_enter Try.func29, Try.ntmps29
      go_wp2
      go_ret
      exact ⟨by first | rfl | (simp; done) | (simp [h3]; done), by go_grown⟩
  · have e1 : (k == 5) = false := by simp [h1]
    have hr2 : r = false := by rw [← hr]; simp [h1]
    clear hr h1
    subst hr2
    go_enter Try.func29, Try.ntmps29
    go_wp2
    go_ret
    exact ⟨by first | rfl | simp, by go_grown⟩
set_option maxHeartbeats 2000000 in
theorem word_is (t : TokM) (s : ByteArray) (w : World) : Calls Try.prog 30 #[tokVal t, .string s] w fun e w' => e = .returned (.bool (wordB t s)) ∧ Below w.heap.size w w' := by
  obtain ⟨r, hr⟩ : ∃ r, wordB t s = r := ⟨_, rfl⟩
  rw [hr]
  unfold wordB at hr
  obtain ⟨k, tx, tn, tl, tc, tm⟩ := t
  simp only at hr
  by_cases h1 : k = 6
  · subst h1
    by_cases h2 : tx = s
    · subst h2
      have hr2 : r = true := by rw [← hr]; simp
      clear hr
      subst hr2
      go_enter Try.func30, Try.ntmps30
      go_wp2
      go_ret
      exact ⟨by first | rfl | (simp; done) | (simp [h3]; done), by go_grown⟩
    · have h3 : ¬ tx.toList = s.toList := by
        rw [Lib.toList_data, Lib.toList_data]
        intro e
        exact h2 (ByteArray.ext (Array.toList_inj.1 e))
      have hr2 : r = false := by rw [← hr]; simp [h2]
      clear hr h2
      subst hr2
      go_enter Try.func30, Try.ntmps30
      go_wp2
      go_ret
      exact ⟨by first | rfl | (simp; done) | (simp [h3]; done), by go_grown⟩
  · have e1 : (k == 6) = false := by simp [h1]
    have hr2 : r = false := by rw [← hr]; simp [h1]
    clear hr h1
    subst hr2
    go_enter Try.func30, Try.ntmps30
    go_wp2
    go_ret
    exact ⟨by first | rfl | simp, by go_grown⟩
theorem bytes_eq (a : ByteArray) (l : List UInt8) : a.data.toList = l ↔ a = ⟨l.toArray⟩ := by
  constructor
  · intro h; subst h; cases a; simp
  · intro h; subst h; simp
/-- is a block due ahead of token k? -/
def dueAt (L : List TokM) : Nat → Bool
  | 0 => true
  | k + 1 => wordB (tk L k) ⟨#[108, 101, 116]⟩ || wordB (tk L k) ⟨#[111, 102]⟩
theorem due_word (t : TokM) : (wordB t ⟨#[108, 101, 116]⟩ || wordB t ⟨#[111, 102]⟩) = dueK t.kind t.text.data.toList := by
  unfold wordB dueK
  rw [← Bool.decide_or]
  simp only [bytes_eq]
  congr 1
  simp only [eq_iff_iff]
  constructor
  · rintro (⟨h1, h2⟩ | ⟨h1, h2⟩)
    · exact ⟨h1, .inl h2⟩
    · exact ⟨h1, .inr h2⟩
  · rintro ⟨h1, h2 | h2⟩
    · exact .inl ⟨h1, h2⟩
    · exact .inr ⟨h1, h2⟩
theorem open_mark {t : TokM} (h : markB t ⟨#[123]⟩ = true) : openedK t.kind t.text.data.toList = 7 := by
  unfold markB at h
  simp only [decide_eq_true_eq] at h
  rw [h.1, h.2]
  rfl
def BracedL (L : List TokM) (n : Nat) : Prop := ∀ k, k < n → dueAt L k = true → markB (tk L k) ⟨#[123]⟩ = true
set_option maxRecDepth 100000 in
set_option maxHeartbeats 4000000 in
theorem braced_any {v : Value} {L : List TokM} (w : World) (h : ShowsM w w.heap.size v L) (hl : L.length ≤ 1000000000) :
    Calls Try.prog 18 #[v] w fun e w' => ∃ r, e = .returned (.bool r) ∧ (r = true → BracedL L L.length ∧ dueAt L L.length = false) ∧ Below w.heap.size w w' := by
  obtain ⟨b, c, rfl, hc⟩ := h
  obtain ⟨N, hN⟩ : ∃ N, L.length = N := ⟨_, rfl⟩
  have HC := Lib.hid hc
  have HN := Lib.hid hN
  rw [hN] at hl ⊢
  clear hc hN
  go_enter Try.func18, Try.ntmps18
  go_wp2_with fail
  go_loopg [3, 4] N (fun d v3 v4 wr => ∃ k : Nat, d + k = N ∧ v4 = .int .i64 k ∧ v3 = .bool (dueAt L k) ∧ BracedL L k ∧ Below w.heap.size w wr)
  case atStart => exact ⟨0, by omega, rfl, rfl, fun k hk => absurd hk (by omega), Below.refl _ _⟩
  case round =>
    obtain ⟨k, hk, rfl, rfl, hbr, hbw⟩ := hrel
    have HK := Lib.hid hk
    have HBW := Lib.hid hbw
    have HBR := Lib.hid hbr
    have hle : k ≤ N := by omega
    clear hk hbw hbr
    by_cases hlt : k < N
    · have hlt' : (k : Int) < N := by omega
      obtain ⟨ad, e, hg, y⟩ := HC.out k (by rw [HN.out]; exact hlt)
      subst e
      have hd2 : dueAt L (k + 1) = (wordB (tk L k) ⟨#[108, 101, 116]⟩ || wordB (tk L k) ⟨#[111, 102]⟩) := rfl
      have hstep : ∀ (hh : dueAt L k = true → markB (tk L k) ⟨#[123]⟩ = true), BracedL L (k + 1) := fun hh j hj hd => by
        rcases Nat.lt_or_ge j k with h | h
        · exact HBR.out j h hd
        · obtain rfl : j = k := by omega
          exact hh hd
      obtain ⟨t, ht⟩ : ∃ t, tk L k = t := ⟨_, rfl⟩
      rw [ht] at y hd2 hstep
      obtain ⟨D, hD⟩ : ∃ D, dueAt L k = D := ⟨_, rfl⟩
      rw [hD] at hstep ⊢
      have HY := Lib.hid (fun w' (hb : Below w.heap.size w w') => y.below hb hg)
      have HD2 := Lib.hid hd2
      have HST := Lib.hid hstep
      have sz := HBW.out.size
      clear y ht hd2 hD hstep
      have tail : ∀ (w1 : World) (a : Act) , True := fun _ _ => trivial
      cases D with
      | true =>
        obtain ⟨z0, z1, z2, z3, z4, z5⟩ := HY.out _ HBW.out
        go_wp2_with fail
        refine (mark_is t _ _).mono ?_
        rintro e w1 ⟨rfl, hb1⟩
        have HB1 := Lib.hid (HBW.out.trans (hb1.mono sz))
        have sz1 := HB1.out.size
        obtain ⟨m, hm⟩ : ∃ m, markB t ⟨#[123]⟩ = m := ⟨_, rfl⟩
        rw [hm]
        clear hb1 z0 z1 z2 z3 z4 z5
        cases m with
        | false =>
          go_wp2
          go_returns
          exact ⟨_, rfl, (fun e => by cases e), HB1.out⟩
        | true =>
          have HM := Lib.hid hm
          clear hm
          obtain ⟨z0, z1, z2, z3, z4, z5⟩ := HY.out _ HB1.out
          go_wp2_with fail
          refine (word_is t _ _).mono ?_
          rintro e w2 ⟨rfl, hb2⟩
          have HB2 := Lib.hid (HB1.out.trans (hb2.mono sz1))
          have sz2 := HB2.out.size
          obtain ⟨m2, hm2⟩ : ∃ m, wordB t ⟨#[108, 101, 116]⟩ = m := ⟨_, rfl⟩
          rw [hm2]
          have HM2 := Lib.hid hm2
          clear hb2 hm2 z0 z1 z2 z3 z4 z5
          cases m2 with
          | true =>
            go_wp2
            go_roundg (N - (k + 1))
            case measure => have := HK.out; omega
            case rel => exact ⟨k + 1, by have := HK.out; omega, by go_num, by rw [HD2.out, HM2.out]; rfl, HST.out (fun _ => HM.out), HB2.out⟩
          | false =>
            obtain ⟨z0, z1, z2, z3, z4, z5⟩ := HY.out _ HB2.out
            go_wp2_with fail
            refine (word_is t _ _).mono ?_
            rintro e w3 ⟨rfl, hb3⟩
            have HB3 := Lib.hid (HB2.out.trans (hb3.mono sz2))
            clear hb3
            go_wp2
            go_roundg (N - (k + 1))
            case measure => have := HK.out; omega
            case rel => exact ⟨k + 1, by have := HK.out; omega, by go_num, by rw [HD2.out, HM2.out]; rfl, HST.out (fun _ => HM.out), HB3.out⟩
      | false =>
        obtain ⟨z0, z1, z2, z3, z4, z5⟩ := HY.out _ HBW.out
        go_wp2_with fail
        refine (word_is t _ _).mono ?_
        rintro e w2 ⟨rfl, hb2⟩
        have HB2 := Lib.hid (HBW.out.trans (hb2.mono sz))
        have sz2 := HB2.out.size
        obtain ⟨m2, hm2⟩ : ∃ m, wordB t ⟨#[108, 101, 116]⟩ = m := ⟨_, rfl⟩
        rw [hm2]
        have HM2 := Lib.hid hm2
        clear hb2 hm2 z0 z1 z2 z3 z4 z5
        cases m2 with
        | true =>
          go_wp2
          go_roundg (N - (k + 1))
          case measure => have := HK.out; omega
          case rel => exact ⟨k + 1, by have := HK.out; omega, by go_num, by rw [HD2.out, HM2.out]; rfl, HST.out (fun e => by cases e), HB2.out⟩
        | false =>
          obtain ⟨z0, z1, z2, z3, z4, z5⟩ := HY.out _ HB2.out
          go_wp2_with fail
          refine (word_is t _ _).mono ?_
          rintro e w3 ⟨rfl, hb3⟩
          have HB3 := Lib.hid (HB2.out.trans (hb3.mono sz2))
          clear hb3
          go_wp2
          go_roundg (N - (k + 1))
          case measure => have := HK.out; omega
          case rel => exact ⟨k + 1, by have := HK.out; omega, by go_num, by rw [HD2.out, HM2.out]; rfl, HST.out (fun e => by cases e), HB3.out⟩
    · obtain rfl : k = N := by omega
      obtain ⟨D, hD⟩ : ∃ D, dueAt L k = D := ⟨_, rfl⟩
      rw [hD]
      have HD := Lib.hid hD
      clear hD
      go_wp2
      go_returns
      exact ⟨_, rfl, fun e => ⟨HBR.out, by rw [HD.out]; cases D <;> simp_all⟩, HBW.out⟩
end Go.Proofs.Ytidmclaaggoahaa.Ly
