/-
  The walk of 'changelinglaw02.LexPlaces'.
-/
import Derived.Test.YtigidagcpjmjnaaOffset
import Derived.Test.YtigidagcpjmjnaaLexNumW
import Derived.Deep.QuietTactic
import Derived.BigQuiet
import Derived.StillTailTactics
namespace Go.Proofs.Ytigidagcpjmjnaa.Lx
open Go.RowKit Pl Ar Dg Pa
set_option linter.unusedVariables false

theorem plF_ge (l : List UInt8) (p : Int × Int) (h : 1 ≤ p.1 ∧ 1 ≤ p.2) : 1 ≤ (plF p l).1 ∧ 1 ≤ (plF p l).2 := by
  induction l generalizing p with
  | nil => exact h
  | cons c r ih =>
    refine ih (plStep p c) ?_
    unfold plStep
    split <;> simp <;> omega
theorem lexG_none (f : Nat) (l : List UInt8) (ln col : Int) (acc : List Tok) : (lexG f l ln col acc).err ≠ 0 → (lexG f l ln col acc).toks = [] := by
  induction f generalizing l ln col acc with
  | zero => intro h; exact absurd rfl h
  | succ f ih =>
    unfold lexG
    split
    · intro h; exact absurd rfl h
    split
    · exact ih _ _ _ _
    split
    · intro _; rfl
    split
    · intro _; rfl
    · exact ih _ _ _ _
theorem lexed_none (l : List UInt8) : (lexed l).err ≠ 0 → (lexed l).toks = [] := by
  unfold lexed
  split
  · intro _; rfl
  · exact lexG_none _ _ _ _ _
theorem lexG_len (f : Nat) (l : List UInt8) (ln col : Int) (acc : List Tok) (h : acc.length ≤ 2048) : (lexG f l ln col acc).toks.length ≤ 2048 := by
  induction f generalizing l ln col acc with
  | zero => exact h
  | succ f ih =>
    unfold lexG
    split
    · exact h
    split
    · exact ih _ _ _ _ h
    split
    · exact Nat.zero_le _
    split
    · exact Nat.zero_le _
    · rename_i hne
      exact ih _ _ _ _ (by simp only [List.length_append, List.length_singleton]; omega)
theorem lexed_len (l : List UInt8) : (lexed l).toks.length ≤ 2048 := by
  unfold lexed
  split
  · exact Nat.zero_le _
  · exact lexG_len _ _ _ _ _ (Nat.zero_le _)
theorem tok_at {src : List UInt8} {t : Tok} (h : Stands src t) : ∃ n : Nat, offF (t.line, t.col) (1, 1) src = n ∧ n < src.length ∧ n + t.text.length ≤ src.length ∧ (src.drop n).take t.text.length = t.text ∧ 0 < t.text.length ∧ 1 ≤ t.line ∧ 1 ≤ t.col := by
  obtain ⟨a, b, rfl, hn, hp⟩ := h
  have hl := List.length_pos_iff.2 hn
  have hg := plF_ge a (1, 1) ⟨by decide, by decide⟩
  rw [hp] at hg
  refine ⟨a.length, ?_, ?_, ?_, ?_, hl, hg.1, hg.2⟩
  · rw [← hp]
    exact offF_is a _ (by simp [hn]) _
  · simp only [List.length_append]; omega
  · simp only [List.length_append]; omega
  · rw [List.drop_left, List.take_left]
theorem tok_after {l : List Tok} (h : l.Pairwise (fun a b => plLt (a.line, a.col) (b.line, b.col))) {k : Nat} (h0 : k + 1 < l.length) : plLt (l[k].line, l[k].col) (l[k + 1].line, l[k + 1].col) := by
  rw [List.pairwise_iff_getElem] at h
  exact h k (k + 1) (by omega) h0 (by omega)
instance (p q : Int × Int) : Decidable (plLt p q) := by unfold plLt; infer_instance
theorem after_any (a b c d : Int) (w : World) : Calls Try.prog 15 #[posV a b, posV c d] w fun e w' => e = .returned (.bool (decide (plLt (c, d) (a, b)))) ∧ Below w.heap.size w w' := by
  obtain ⟨r, hr⟩ : ∃ r, decide (plLt (c, d) (a, b)) = r := ⟨_, rfl⟩
  rw [hr]
  by_cases h1 : c < a
  · have : r = true := by rw [← hr]; exact decide_eq_true (Or.inl h1)
    subst this
    clear hr
    have d1 : decide (c < a) = true := decide_eq_true h1
    go_enter Try.func15, Try.ntmps15
    go_wp2
    go_returns
    exact ⟨rfl, by go_grown⟩
  · have d1 : decide (c < a) = false := decide_eq_false h1
    by_cases h2 : a = c
    · have d2 : (a == c) = true := beq_iff_eq.2 h2
      by_cases h3 : d < b
      · have : r = true := by rw [← hr]; exact decide_eq_true (Or.inr ⟨h2.symm, h3⟩)
        subst this
        clear hr
        have d3 : decide (d < b) = true := decide_eq_true h3
        go_enter Try.func15, Try.ntmps15
        go_wp2
        go_returns
        exact ⟨rfl, by go_grown⟩
      · have : r = false := by rw [← hr]; exact decide_eq_false (by unfold plLt; omega)
        subst this
        clear hr
        have d3 : decide (d < b) = false := decide_eq_false h3
        go_enter Try.func15, Try.ntmps15
        go_wp2
        go_returns
        exact ⟨rfl, by go_grown⟩
    · have d2 : (a == c) = false := beq_eq_false_iff_ne.2 h2
      have : r = false := by rw [← hr]; exact decide_eq_false (by unfold plLt; omega)
      subst this
      clear hr
      go_enter Try.func15, Try.ntmps15
      go_wp2
      go_returns
      exact ⟨rfl, by go_grown⟩
theorem toks_cell (l : List Tok) (k j : Nat) (hk : k < l.length) (hj : j < 6) : (toksCells l)[k * 6 + j]? = (tokCells l[k])[j]? := by
  induction l generalizing k with
  | nil => cases hk
  | cons t r ih =>
    have e : toksCells (t :: r) = tokCells t ++ toksCells r := rfl
    have e6 : (tokCells t).length = 6 := rfl
    rw [e]
    cases k with
    | zero =>
      rw [List.getElem?_append_left (by rw [e6]; omega), Nat.zero_mul, Nat.zero_add]
      rfl
    | succ k =>
      rw [List.getElem?_append_right (by rw [e6]; omega), e6, show (k + 1) * 6 + j - 6 = k * 6 + j by omega, ih k (by simpa using hk)]
      rfl
theorem owns_at {w : World} {B N : Nat} {b : Option Addr} {c : Nat} {l : List Tok} (hN : l.length = N) {k : Nat} (hk : k < l.length) (h : OwnsT w B (.slice b N c) l) : ∃ g, b = some ⟨g, 0, none⟩ ∧ g < w.heap.size ∧
    ∀ (k : Nat) (hk : k < l.length), w.cell? ⟨g, k * 6, none⟩ = some (.int .i64 l[k].kind) ∧ w.cell? ⟨g, k * 6 + 1, none⟩ = some (.string ⟨l[k].text.toArray⟩) ∧ w.cell? ⟨g, k * 6 + 2, none⟩ = some (.int .i64 l[k].num) ∧ w.cell? ⟨g, k * 6 + 3, none⟩ = some (.int .i64 l[k].line) ∧ w.cell? ⟨g, k * 6 + 4, none⟩ = some (.int .i64 l[k].col) ∧ w.cell? ⟨g, k * 6 + 5, none⟩ = some (.bool false) := by
  obtain ⟨g, c', hv, _, hl, hc⟩ := owns_cells (by omega) h
  simp only [Value.slice.injEq] at hv
  refine ⟨g, hv.1, hl, fun k hk => ?_⟩
  have q : ∀ j, j < 6 → w.cell? ⟨g, k * 6 + j, none⟩ = (tokCells l[k])[j]? := fun j hj => by rw [hc (k * 6 + j) (by omega), toks_cell l k j hk hj]
  exact ⟨q 0 (by decide), q 1 (by decide), q 2 (by decide), q 3 (by decide), q 4 (by decide), q 5 (by decide)⟩
set_option maxRecDepth 20000 in
set_option maxHeartbeats 2000000 in
theorem places_law (s : ByteArray) (hs : s.size ≤ 9223372036854775807) (w : World) :
    Calls Try.prog 5 #[.string s] w fun e w' => e = .returned (.bool true) ∧ Below w.heap.size w w' := by
  obtain ⟨r, hr⟩ : ∃ r, lexed s.data.toList = r := ⟨_, rfl⟩
  have HL := Lib.hid hr
  have hnone := lexed_none s.data.toList
  rw [hr] at hnone
  have hz : r.err = 0 → s.size ≤ 8192 := by
    intro he
    by_cases h : 8192 < s.data.toList.length
    · rw [← hr] at he
      unfold lexed at he
      rw [if_pos h] at he
      exact absurd he (by decide)
    · rw [Lib.size_eq]; omega
  by_cases he : r.err = 0
  · have d0 : (r.err == 0) = true := beq_iff_eq.2 he
    have hst := lexed_stands s.data.toList
    rw [hr] at hst
    obtain ⟨hst, hri⟩ := hst
    have HST := Lib.hid hst
    have HRI := Lib.hid hri
    have HZ := Lib.hid (hz he)
    clear hst hri hr hnone hz
    go_enter Try.func5, Try.ntmps5
    go_wp2_with fail
    refine (tokens_is hs HL.out _).mono ?_
    rintro e w1 ⟨v1, rfl, o1, hb1⟩
    have HB1 := Lib.hid hb1
    clear hb1
    obtain ⟨N, hN⟩ : ∃ N, r.toks.length = N := ⟨_, rfl⟩
    have hN8 : N ≤ 2048 := by rw [← hN, ← HL.out]; exact lexed_len _
    have hv : ∃ b c, v1 = .slice b N c := by
      rw [← hN]
      rcases o1.2 with ⟨rfl, hn⟩ | ⟨g, cap, cur, rfl, _⟩
      · exact ⟨none, 0, by rw [hn]⟩
      · exact ⟨_, _, rfl⟩
    obtain ⟨b, c, rfl⟩ := hv
    have HO := Lib.hid o1
    clear o1
    go_wp2_with fail
    go_loopg [5] N (fun j i wr => ∃ k : Nat, j + k = N ∧ i = .int .i64 k ∧ Below w1.heap.size w1 wr)
    case atStart => exact ⟨0, rfl, rfl, (Below.refl _ _).alloc (Nat.le_refl _) _⟩
    case round =>
      obtain ⟨k, hk, rfl, hbw⟩ := hrel
      have HBW := Lib.hid hbw
      have HK := Lib.hid hk
      have hle : k ≤ N := by omega
      clear hbw hk
      by_cases hlt : k < N
      · have hlt' : (k : Int) < N := by omega
        have hkl : k < r.toks.length := by omega
        obtain ⟨g, rfl, hg, hcell⟩ := owns_at hN hkl HO.out
        obtain ⟨K0, K1, K2, K3, K4, K5⟩ := hcell k hkl
        have hC : ∀ j, wr.cell? ⟨g, j, none⟩ = w1.cell? ⟨g, j, none⟩ := fun j => HBW.out.cell (p := ⟨g, j, none⟩) hg
        rw [← hC] at K0 K1 K2 K3 K4 K5
        obtain ⟨n, hn1, hn2, hn3, hn4, hn5, hn6, hn7⟩ := tok_at (HST.out _ (List.getElem_mem hkl))
        obtain ⟨t, ht⟩ : ∃ t, r.toks[k] = t := ⟨_, rfl⟩
        rw [ht] at K0 K1 K2 K3 K4 hn1 hn3 hn4 hn5 hn6 hn7
        have HT := Lib.hid ht
        clear ht
        obtain ⟨kd, tx, nu, ln, col⟩ := t
        obtain ⟨s2, rfl⟩ : ∃ s2 : ByteArray, tx = s2.data.toList := ⟨⟨tx.toArray⟩, rfl⟩
        have e2 : (⟨s2.data.toList.toArray⟩ : ByteArray) = s2 := rfl
        simp only [e2, ← Lib.size_eq] at K0 K1 K2 K3 K4 hn1 hn2 hn3 hn4 hn5 hn6 hn7
        have HN1 := Lib.hid hn1
        have HN4 := Lib.hid hn4
        have Hcell := Lib.hid hcell
        have HC := Lib.hid hC
        have HKL := Lib.hid hkl
        have HNN := Lib.hid hN
        have d1 : decide (ln < 1) = false := decide_eq_false (by omega)
        have d2 : decide (col < 1) = false := decide_eq_false (by omega)
        have d3 : ((s2.size : Int) == 0) = false := beq_eq_false_iff_ne.2 (by omega)
        have d4 : decide ((s.size : Int) ≤ n) = false := decide_eq_false (by omega)
        have hgr : g < wr.heap.size := by have := HBW.out.size; omega
        clear hn1 hn4 hcell hC hN e2
        go_wp2_with fail
        refine (offset_any ln col s (by have := HZ.out; omega) _).mono ?_
        rw [HN1.out]
        rintro e w2 ⟨rfl, hb2⟩
        have HB2 := Lib.hid hb2
        have p0 := keepL hb2 0
        have p1 := keepL hb2 1
        have p2 := keepL hb2 2
        have p3 := keepL hb2 3
        have p4 := keepL hb2 4
        have p5 := keepL hb2 5
        simp only [List.getElem?_toArray, List.getElem?_cons_zero, List.getElem?_cons_succ] at p0 p1 p2 p3 p4 p5
        have q0 := (keep1 hgr hb2).trans K0
        have HBW2 := Lib.hid (show Below w1.heap.size w1 w2 from (HBW.out.alloc HBW.out.size _).trans (hb2.mono (by have := HBW.out.size; simp; omega)))
        have hz2 : wr.heap.size < w2.heap.size := by have := hb2.size; simp at this; omega
        clear hb2 K0 K1 K2 K3 K4 K5
        have hx : s.extract n (n + s2.size) = s2 := by
          apply ByteArray.ext
          apply Array.toList_inj.1
          rw [← HN4.out]
          simp [ByteArray.data_extract]
        have d5 : ((s.extract n (n + s2.size)).toList == s2.toList) = true := by rw [hx]; exact beq_self_eq_true _
        have d8 : decide (s.size ≤ n) = false := decide_eq_false (by omega)
        have d6 : decide ((s.size : Int) - (n : Int) < (s2.size : Int)) = false := decide_eq_false (by omega)
        have wa : IntKind.i64.wrap ((s.size : Int) - (n : Int)) = (s.size : Int) - (n : Int) := IntWalk.i64_in _ (by have := HZ.out; omega)
        have wb : IntKind.i64.wrap ((n : Int) + (s2.size : Int)) = (n : Int) + (s2.size : Int) := IntWalk.i64_in _ (by have := HZ.out; omega)
        have wqb : (0 : Int) ≤ (n : Int) + (s2.size : Int) := by omega
        have wqc : ((n : Int) + (s2.size : Int)).toNat = n + s2.size := by omega
        have wqd : (n : Int) ≤ (n : Int) + (s2.size : Int) := by omega
        have wqe : (n : Int) + (s2.size : Int) ≤ (s.size : Int) := by omega
        have wqf : n ≤ n + s2.size := by omega
        have HX := Lib.hid hx
        clear hx
        cases k with
        | zero =>
          go_wp2_with fail
          go_quiet (fail)
          go_wp2_with fail
          go_roundg (N - 1)
          case measure => have := HK.out; omega
          case rel => exact ⟨1, by have := HK.out; omega, rfl, below_drewN HBW2.out _⟩
        | succ m =>
          have hm : m < r.toks.length := by omega
          obtain ⟨_, _, _, M3, M4, _⟩ := Hcell.out m hm
          have hC2 : ∀ j, w2.cell? ⟨g, j, none⟩ = w1.cell? ⟨g, j, none⟩ := fun j => HBW2.out.cell (p := ⟨g, j, none⟩) hg
          rw [← hC2] at M3 M4
          have hA := tok_after HRI.out hkl
          rw [HT.out] at hA
          obtain ⟨pl, hpl⟩ : ∃ pl, r.toks[m].line = pl := ⟨_, rfl⟩
          obtain ⟨pc, hpc⟩ : ∃ pc, r.toks[m].col = pc := ⟨_, rfl⟩
          rw [hpl] at M3 hA
          rw [hpc] at M4 hA
          have HA := Lib.hid (decide_eq_true hA : decide (plLt (pl, pc) (ln, col)) = true)
          clear hpl hpc hA hC2
          have d7 : decide (0 < ((m + 1 : Nat) : Int)) = true := decide_eq_true (by omega)
          have hm1 : (m : Int) < (N : Int) := by omega
          have hm2 : m < N := by omega
          have wd : IntKind.i64.wrap (m : Int) = m := IntWalk.i64_in _ (by omega)
          have wc : IntKind.i64.wrap (((m + 1 : Nat) : Int) - 1) = m := by rw [show ((m + 1 : Nat) : Int) - 1 = m by omega]; exact IntWalk.i64_in _ (by omega)
          go_wp2_with fail
          go_still_tail 39, (by kernel_rfl)
          go_wp2_with fail
          refine (after_any ln col pl pc _).mono ?_
          rw [HA.out]
          rintro e w3 ⟨rfl, hb3⟩
          have HBW3 := Lib.hid (show Below w1.heap.size w1 w3 from (HBW2.out.drew).trans (hb3.mono (by have := HBW2.out.size; exact this)))
          clear hb3
          go_wp2_with fail
          go_roundg (N - (m + 2))
          case measure => have := HK.out; omega
          case rel => exact ⟨m + 2, by have := HK.out; omega, by go_num, HBW3.out⟩
      · have hke : k = N := by omega
        go_wp2_with fail
        refine (known_any _).mono ?_
        rintro e w2 ⟨rfl, hb2⟩
        have HB2 := Lib.hid ((HB1.out.trans (HBW.out.mono HB1.out.size)).trans (hb2.mono (by have := HB1.out.size; have := HBW.out.size; omega)) : Below w.heap.size w w2)
        clear hb2
        go_wp2
        go_ret
        exact ⟨rfl, HB2.out⟩
  · have ht := hnone he
    have d0 : (r.err == 0) = false := beq_eq_false_iff_ne.2 he
    clear hr hnone hz
    go_enter Try.func5, Try.ntmps5
    go_wp2_with fail
    refine (tokens_is hs HL.out _).mono ?_
    rintro e w1 ⟨v1, rfl, o1, hb1⟩
    rw [ht] at o1
    have HB1 := Lib.hid hb1
    clear hb1
    have hv : ∃ b c, v1 = .slice b 0 c := by
      rcases o1.2 with ⟨rfl, _⟩ | ⟨g, cap, cur, rfl, _⟩
      · exact ⟨_, _, rfl⟩
      · exact ⟨_, _, rfl⟩
    obtain ⟨b, c, rfl⟩ := hv
    clear o1
    go_wp2_with fail
    refine (known_any _).mono ?_
    rintro e w2 ⟨rfl, hb2⟩
    have HB2 := Lib.hid (((HB1.out.alloc HB1.out.size _).trans (hb2.mono (by have := HB1.out.size; simp; omega))) : Below w.heap.size w w2)
    clear hb2
    go_wp2
    go_returns
    exact ⟨rfl, HB2.out⟩
end Go.Proofs.Ytigidagcpjmjnaa.Lx

namespace Go.Proofs.Ytigidagcpjmjnaa.LexPlaces
open Go.RowKit Lx
theorem law (s : ByteArray) (hs : s.size ≤ 9223372036854775807) (w : World) :
    Calls Try.prog 5 #[.string s] w fun e w' => e = .returned (.bool true) ∧ Below w.heap.size w w' := places_law s hs w
end Go.Proofs.Ytigidagcpjmjnaa.LexPlaces
