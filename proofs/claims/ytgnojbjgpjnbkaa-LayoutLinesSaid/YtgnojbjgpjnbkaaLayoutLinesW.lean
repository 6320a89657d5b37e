/-
  The walk of 'changelinglaw04.LayoutLines'.
-/
import Derived.Test.YtgnojbjgpjnbkaaLayoutBracesW
namespace Go.Proofs.Ytgnojbjgpjnbkaa.Ly
open Go.RowKit Pl Ar Mm Lx
set_option linter.unusedVariables false
set_option linter.unusedSimpArgs false
def lineTok (col : Int) (i : Nat) : TokM := ⟨1, ⟨#[120]⟩, 0, (i : Int) + 1, col, false⟩
def linesL (col : Int) : Nat → List TokM
  | 0 => []
  | k + 1 => linesL col k ++ [lineTok col k]
theorem linesL_len (col : Int) : ∀ n, (linesL col n).length = n
  | 0 => rfl
  | n + 1 => by show (linesL col n ++ [_]).length = _; rw [List.length_append, linesL_len col n]; rfl
theorem linesL_tk (col : Int) : ∀ n k, k < n → tk (linesL col n) k = lineTok col k
  | n + 1, k, h => by
    show tk (linesL col n ++ [lineTok col n]) k = _
    rcases Nat.lt_or_ge k n with hl | hl
    · rw [tk_app (by rw [linesL_len]; exact hl), linesL_tk col n k hl]
    · obtain rfl : k = n := by omega
      have := tk_end (linesL col k) (lineTok col k)
      rwa [linesL_len] at this
def headM (col : Int) (k : Nat) : TokM := if k = 0 then mkM [123] 1 col else mkM [59] ((k : Int) + 1) col
/-- what is told behind k lines -/
def linesT (col : Int) : Nat → List TokM
  | 0 => []
  | k + 1 => linesT col k ++ [headM col k] ++ [lineTok col k]
theorem linesT_len (col : Int) : ∀ n, (linesT col n).length = 2 * n
  | 0 => rfl
  | n + 1 => by show (linesT col n ++ [_] ++ [_]).length = _; rw [List.length_append, List.length_append, linesT_len col n]; simp; omega
theorem linesT_tk (col : Int) : ∀ n k, k < n → tk (linesT col n) (2 * k) = headM col k ∧ tk (linesT col n) (2 * k + 1) = lineTok col k
  | n + 1, k, h => by
    show tk (linesT col n ++ [headM col n] ++ [lineTok col n]) (2 * k) = _ ∧ tk (linesT col n ++ [headM col n] ++ [lineTok col n]) (2 * k + 1) = _
    have hl := linesT_len col n
    rcases Nat.lt_or_ge k n with hk | hk
    · obtain ⟨h1, h2⟩ := linesT_tk col n k hk
      rw [tk_app (by rw [List.length_append]; omega), tk_app (by omega), tk_app (by rw [List.length_append]; omega), tk_app (by omega)]
      exact ⟨h1, h2⟩
    · obtain rfl : k = n := by omega
      refine ⟨?_, ?_⟩
      · rw [tk_app (by rw [List.length_append]; simp; omega)]
        have := tk_end (linesT col k) (headM col k)
        rwa [hl] at this
      · have := tk_end (linesT col k ++ [headM col k]) (lineTok col k)
        rwa [List.length_append, hl] at this
theorem lines_first (col : Int) (hc : 1 ≤ col) : layS (lineTok col 0) true ⟨[], [], true⟩ = ⟨linesT col 1, [⟨1, col⟩], false⟩ := by
  have e0 : openedK 1 [120] = 0 := by decide
  have e1 : closedK 1 [120] = 0 := by decide
  have e2 : dueK 1 [120] = false := by decide
  have h0 : (0 : Int) < col := by omega
  simp [layS, lineTok, ph1, ph2, ph3, ph4, innerF, e0, e1, e2, h0, linesT, headM]
theorem lines_next (col : Int) (hc : 1 ≤ col) (k : Nat) (hk : 0 < k) (T : List TokM) : layS (lineTok col k) true ⟨T, [⟨1, col⟩], false⟩ = ⟨T ++ [headM col k] ++ [lineTok col k], [⟨1, col⟩], false⟩ := by
  have e0 : openedK 1 [120] = 0 := by decide
  have e1 : closedK 1 [120] = 0 := by decide
  have e2 : dueK 1 [120] = false := by decide
  have h0 : (0 : Int) < col := by omega
  have h1 : ¬ max col 0 < col := by omega
  have h2 : ¬ k = 0 := by omega
  simp [layS, lineTok, ph1, ph2, ph3, ph4, innerF, e0, e1, e2, h0, h1, h2, lineQ, lineT, frK, frC, closedT, laidN, headM]
theorem lines_layF (col : Int) (hc : 1 ≤ col) (N : Nat) : ∀ n, n ≤ N → layF (linesL col N) n = ⟨linesT col n, if n = 0 then [] else [⟨1, col⟩], decide (n = 0)⟩
  | 0, _ => rfl
  | n + 1, h => by
    show layS (tk (linesL col N) n) (fstAt (linesL col N) n) (layF (linesL col N) n) = _
    rw [linesL_tk col N n (by omega), lines_layF col hc N n (by omega)]
    cases n with
    | zero => exact lines_first col hc
    | succ n =>
      have e : fstAt (linesL col N) (n + 1) = true := by
        show decide (¬ (tk (linesL col N) n).line = (tk (linesL col N) (n + 1)).line) = true
        rw [linesL_tk col N n (by omega), linesL_tk col N (n + 1) (by omega)]
        simp [lineTok]
        omega
      rw [e]
      exact lines_next col hc (n + 1) (by omega) _
theorem lines_lay (col : Int) (hc : 1 ≤ col) (N : Nat) (hN : 1 ≤ N) : ∃ l c, layAll (linesL col N) = linesT col N ++ [endM l c] := by
  unfold layAll
  rw [linesL_len, lines_layF col hc N N (Nat.le_refl _)]
  refine ⟨lnAt (linesL col N) N, colAt (linesL col N) N, ?_⟩
  have h : ¬ N = 0 := by omega
  simp [endT, closedT, laidN, h]
theorem lines_text (col : Int) (hc : 1 ≤ col) (N : Nat) (hN : 1 ≤ N) {M : List TokM} (hM : layAll (linesL col N) = M) :
    M.length = 2 * N + 1 ∧ (tk M 0).text = ⟨#[123]⟩ ∧ (tk M (2 * N)).text = ⟨#[125]⟩ ∧ ∀ i, i < N → (tk M (2 * i + 1)).text = ⟨#[120]⟩ ∧ (0 < i → (tk M (2 * i)).text = ⟨#[59]⟩) := by
  obtain ⟨l, c, e⟩ := lines_lay col hc N hN
  have hl := linesT_len col N
  rw [hM] at e
  subst e
  refine ⟨by rw [List.length_append, hl]; rfl, ?_, ?_, fun i hi => ⟨?_, fun h0 => ?_⟩⟩
  · have h1 := (linesT_tk col N 0 (by omega)).1
    have h1 : tk (linesT col N) 0 = headM col 0 := h1
    rw [tk_app (by omega), h1]; rfl
  · have := tk_end (linesT col N) (endM l c)
    rw [hl] at this
    rw [this]; rfl
  · rw [tk_app (by omega), (linesT_tk col N i hi).2]; rfl
  · rw [tk_app (by omega), (linesT_tk col N i hi).1]
    unfold headM
    rw [if_neg (by omega)]; rfl
set_option maxRecDepth 100000 in
set_option maxHeartbeats 4000000 in
theorem lines_law (n : Int) (h1 : -9223372036854775808 ≤ n) (h2 : n ≤ 9223372036854775807) (col : Int) (h3 : -9223372036854775808 ≤ col) (h4 : col ≤ 9223372036854775807) (w : World) :
    Calls Try.prog 10 #[.int .i64 n, .int .i64 col] w fun e w' => e = .returned (.bool true) ∧ Below w.heap.size w w' := by
  obtain ⟨i0, hi, hz0, hz1, hz2'⟩ := info_parts Ttok
  by_cases hout : n < 1 ∨ 500 < n ∨ col < 1 ∨ 100 < col
  · go_enter Try.func10, Try.ntmps10
    by_cases q1 : n < 1
    · go_wp2_with fail
      refine (known_any _).mono ?_
      rintro e w1 ⟨rfl, hb1⟩
      go_wp2
      go_returns
      exact ⟨rfl, hb1⟩
    · by_cases q2 : 500 < n
      · go_wp2_with fail
        refine (known_any _).mono ?_
        rintro e w1 ⟨rfl, hb1⟩
        go_wp2
        go_returns
        exact ⟨rfl, hb1⟩
      · by_cases q3 : col < 1
        · go_wp2_with fail
          refine (known_any _).mono ?_
          rintro e w1 ⟨rfl, hb1⟩
          go_wp2
          go_returns
          exact ⟨rfl, hb1⟩
        · have q4 : 100 < col := by omega
          go_wp2_with fail
          refine (known_any _).mono ?_
          rintro e w1 ⟨rfl, hb1⟩
          go_wp2
          go_returns
          exact ⟨rfl, hb1⟩
  · obtain ⟨N, rfl⟩ : ∃ N : Nat, n = N := ⟨n.toNat, by omega⟩
    have q1 : ¬ (N : Int) < 1 := by omega
    have q2 : ¬ 500 < (N : Int) := by omega
    have q3 : ¬ col < 1 := by omega
    have q4 : ¬ 100 < col := by omega
    have p1 : 1 ≤ N := by omega
    have p2 : N ≤ 500 := by omega
    clear hout h1 h2
    go_enter Try.func10, Try.ntmps10
    go_wp2_with fail
    go_loopg [5, 6] N (fun d v5 v6 wr => ∃ k : Nat, d + k = N ∧ v6 = .int .i64 k ∧ OwnsM wr w.heap.size v5 (linesL col k) ∧ Below w.heap.size w wr)
    case atStart => exact ⟨0, by omega, rfl, World.ownsRow_nil _ _ _ _, Below.refl _ _⟩
    case round =>
      obtain ⟨k, hk, rfl, ho, hbw⟩ := hrel
      have HK := Lib.hid hk
      have HBW := Lib.hid hbw
      have HO := Lib.hid ho
      have hle : k ≤ N := by omega
      have hln := linesL_len col k
      clear hk hbw ho
      by_cases hlt : k < N
      · have hlt' : (k : Int) < N := by omega
        obtain ⟨a3, n3, hv3⟩ := own_slice HO.out
        subst hv3
        go_wp2_with (at_builtin; refine wpList_append_own _ rfl _ _ 22 rfl w.heap.size 35 i0 _ 6 56 Try.underlying22 hi hz0 hz1 hz2' rfl (by decide) _ _ _ rfl (HO.out.alloc _) ⟨wr.heap.size, 0, none⟩ 1 1 [.int .i64 1, .string ⟨#[120]⟩, .int .i64 0, .int .i64 ((k : Int) + 1), .int .i64 col, .bool false] rfl rfl ?c1 ?c2 ?c3 ?c4 ?c5 ?_)
        case c1 => exact news6 wr _ _ _ _ _ _ _
        case c2 =>
          intro u hu
          simp only [List.mem_cons, List.not_mem_nil, or_false] at hu
          rcases hu with rfl | rfl | rfl | rfl | rfl | rfl <;> rfl
        case c3 => unfold maxLen; omega
        case c4 => omega
        case c5 => have := HBW.out.size; simp; omega
        intro v' w5 hown hgrow _
        have HO5 := Lib.hid hown
        have HB5 := Lib.hid (show Below w.heap.size w w5 from (HBW.out.alloc HBW.out.size _).grown hgrow (by have := HBW.out.size; simp; omega) (fun g hg => (World.ownsRow.lt HO.out g (by rw [hln]; exact hg)).1))
        clear hown hgrow
        go_wp2
        go_roundg (N - (k + 1))
        case measure => have := HK.out; omega
        case rel => exact ⟨k + 1, by have := HK.out; omega, by go_num, by show (w5.ownsRow _ _ _ _ (linesL col k ++ [lineTok col k]).length _); rw [List.length_append, hln]; show w5.ownsRow _ _ _ _ _ (tmsCells (linesL col k ++ [lineTok col k])); rw [tms_push]; exact HO5.out, HB5.out⟩
      · obtain rfl : k = N := by omega
        have S0 := Lib.hid (shows_own HO.out)
        obtain ⟨M, hM⟩ : ∃ M, layAll (linesL col k) = M := ⟨_, rfl⟩
        obtain ⟨t1, t2, t3, t4⟩ := lines_text col (by omega) k p1 hM
        have T4 := Lib.hid t4
        have HM := Lib.hid hM
        have s0 := HBW.out.size
        clear t4 hM
        go_wp2_with fail
        refine (Lay_is (by rw [hln]; omega) HM.out _ S0.out).mono ?_
        rintro e w2 ⟨v2, rfl, o2, hb2⟩
        obtain ⟨b2, c2, rfl, hc2⟩ := shows_own o2
        have HC := Lib.hid hc2
        have B2 := Lib.hid (HBW.out.trans (hb2.mono s0))
        have s2 := B2.out.size
        have HT1 := Lib.hid t1
        rw [t1]
        obtain ⟨ad, e, hg, y⟩ := HC.out 0 (by rw [HT1.out]; omega)
        subst e
        have z0 := y.c1
        have e0 : ad.add (0 * 6) = ad := by simp [Addr.add]
        rw [t2, e0] at z0
        obtain ⟨ad', e, hg', y'⟩ := HC.out (2 * k) (by rw [HT1.out]; omega)
        obtain rfl : ad = ad' := by simpa using e
        have z1 := y'.c1
        rw [t3] at z1
        have HG := Lib.hid hg
        clear o2 hb2 hc2 t1 t2 t3 y y' hg hg' e
        go_wp2_with fail
        clear z0 z1 e0
        go_loopg [8] k (fun d v8 wr2 => ∃ j : Nat, d + j = k ∧ v8 = .int .i64 j ∧ wr2 = w2)
        case atStart => exact ⟨0, by omega, rfl, rfl⟩
        case round =>
          obtain ⟨j, hj, rfl, rfl⟩ := hrel
          have HJ := Lib.hid hj
          have hle : j ≤ k := by omega
          clear hj
          by_cases hlt2 : j < k
          · have hlt2' : (j : Int) < k := by omega
            obtain ⟨t5, t6⟩ := T4.out j hlt2
            obtain ⟨ad5, e5, hg5, y5⟩ := HC.out (2 * j + 1) (by rw [HT1.out]; omega)
            obtain rfl : ad = ad5 := by simpa using e5
            have z5 := y5.c1
            rw [t5] at z5
            obtain ⟨ad6, e6, hg6, y6⟩ := HC.out (2 * j) (by rw [HT1.out]; omega)
            obtain rfl : ad = ad6 := by simpa using e6
            have z6 := y6.c1
            have T6 := Lib.hid t6
            clear t5 t6 e5 e6 hg5 hg6 y5 y6
            by_cases hj0 : 0 < j
            · have hj0' : (0 : Int) < j := by omega
              rw [T6.out hj0] at z6
              go_wp2
              go_roundg (k - (j + 1))
              case measure => have := HJ.out; omega
              case rel => exact ⟨j + 1, by have := HJ.out; omega, by go_num, rfl⟩
            · have hj0' : ¬ (0 : Int) < j := by omega
              clear z6 hj0
              go_wp2
              go_roundg (k - (j + 1))
              case measure => have := HJ.out; omega
              case rel => exact ⟨j + 1, by have := HJ.out; omega, by go_num, rfl⟩
          · obtain rfl : j = k := by omega
            go_wp2_with fail
            refine (known_any _).mono ?_
            rintro e w5 ⟨rfl, hb5⟩
            have B5 := Lib.hid (B2.out.trans (hb5.mono s2))
            clear hb5
            go_wp2
            go_returns
            exact ⟨rfl, B5.out⟩
end Go.Proofs.Ytgnojbjgpjnbkaa.Ly
namespace Go.Proofs.Ytgnojbjgpjnbkaa.LayoutLines
open Go.RowKit Ly
theorem law (n : Int) (h1 : -9223372036854775808 ≤ n) (h2 : n ≤ 9223372036854775807) (col : Int) (h3 : -9223372036854775808 ≤ col) (h4 : col ≤ 9223372036854775807) (w : World) :
    Calls Try.prog 10 #[.int .i64 n, .int .i64 col] w fun e w' => e = .returned (.bool true) ∧ Below w.heap.size w w' := lines_law n h1 h2 col h3 h4 w
end Go.Proofs.Ytgnojbjgpjnbkaa.LayoutLines
