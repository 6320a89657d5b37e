/-
  The walk of 'changelinglaw04.LayoutShift'.
-/
import Derived.Test.YtgnojbjgpjnbkaaLayAlike
namespace Go.Proofs.Ytgnojbjgpjnbkaa.Ly
open Go.RowKit Pl Ar Mm Lx
set_option linter.unusedVariables false
set_option linter.unusedSimpArgs false
def shK (d : Int) (L : List TokM) (k : Nat) : List TokM := (L.take k).map (shT d)
theorem shK_len (d : Int) (L : List TokM) (k : Nat) (hk : k ≤ L.length) : (shK d L k).length = k := by unfold shK; simp; omega
theorem shK_next (d : Int) (L : List TokM) (k : Nat) (hk : k < L.length) : shK d L (k + 1) = shK d L k ++ [shT d (tk L k)] := by
  unfold shK
  rw [take_tk hk, List.map_append]; rfl
theorem shK_all (d : Int) (L : List TokM) : shK d L L.length = L.map (shT d) := by unfold shK; rw [List.take_length]
/-- all columns are in reach -/
def CB (T : List TokM) : Prop := ∀ t ∈ T, 1 ≤ t.col ∧ t.col ≤ 8193
theorem CB.app {A B : List TokM} (h : CB A) (k : CB B) : CB (A ++ B) := by
  intro t ht
  rcases List.mem_append.1 ht with ht | ht
  · exact h t ht
  · exact k t ht
theorem CB.one {t : TokM} (h : 1 ≤ t.col ∧ t.col ≤ 8193) : CB [t] := by
  intro x hx
  obtain rfl := List.mem_singleton.1 hx
  exact h
theorem CB.closed {T : List TokM} (h : CB T) {col : Int} (hc : 1 ≤ col ∧ col ≤ 8193) (F : List Fr) (q : Nat) (ln : Int) : CB (closedT T F q ln col) := by
  refine h.app ?_
  intro x hx
  rw [List.eq_of_mem_replicate hx]
  exact hc
theorem CB_layS {t : TokM} (hc : 1 ≤ t.col ∧ t.col ≤ 8193) (first : Bool) {s : St} (h : CB s.T) : CB (layS t first s).T := by
  have hm : ∀ x, CB [mkM x t.line t.col] := fun x => CB.one hc
  unfold layS
  split
  · exact h.app (CB.one hc)
  · have h1 : CB (ph1 s.due first t s.T s.F).T := by
      unfold ph1
      split
      · split
        · exact h.app (hm _)
        · exact (h.app (hm _)).app (hm _)
      · exact h
    generalize ph1 s.due first t s.T s.F = r at h1 ⊢
    have h2 : CB (ph2 t r).1 := by
      unfold ph2
      split
      · unfold lineT
        refine (h1.closed hc _ _ _).app ?_
        split
        · exact hm _
        · intro x hx; cases hx
      · exact h1
    generalize ph2 t r = r2 at h2 ⊢
    have h3 : CB (ph3 t r2).1 := by
      unfold ph3
      split
      · exact h2
      · exact h2.closed hc _ _ _
    exact h3.app (CB.one hc)
theorem CB_layF {L : List TokM} (hL : ∀ k, k < L.length → 1 ≤ (tk L k).col ∧ (tk L k).col ≤ 8193) : ∀ n, n ≤ L.length → CB (layF L n).T
  | 0, _ => fun t ht => by cases ht
  | n + 1, h => CB_layS (hL n (by omega)) _ (CB_layF hL n (by omega))
theorem CB_layAll {L : List TokM} (hL : ∀ k, k < L.length → 1 ≤ (tk L k).col ∧ (tk L k).col ≤ 8193) : CB (layAll L) := by
  have hc : 1 ≤ colAt L L.length ∧ colAt L L.length ≤ 8193 := by
    cases h : L.length with
    | zero => exact ⟨Int.le_refl 1, by show (1 : Int) ≤ 8193; omega⟩
    | succ n => exact hL n (by omega)
  have h := CB_layF hL L.length (Nat.le_refl _)
  unfold layAll endT
  refine CB.closed ?_ hc _ _ _
  split
  · exact (h.app (CB.one hc)).app (CB.one hc)
  · exact h
theorem CB.tk {T : List TokM} (h : CB T) {k : Nat} (hk : k < T.length) : 1 ≤ (tk T k).col ∧ (tk T k).col ≤ 8193 := by
  have e : Ly.tk T k = T[k] := by unfold Ly.tk; rw [List.getD_eq_getElem?_getD, List.getElem?_eq_getElem hk]; rfl
  rw [e]
  exact h _ (List.getElem_mem _)
set_option maxRecDepth 100000 in
set_option maxHeartbeats 4000000 in
theorem shift_law (s : ByteArray) (hs : s.size ≤ 9223372036854775807) (d : Int) (h1 : -9223372036854775808 ≤ d) (h2 : d ≤ 9223372036854775807) (w : World) :
    Calls Try.prog 9 #[.string s, .int .i64 d] w fun e w' => e = .returned (.bool true) ∧ Below w.heap.size w w' := by
  obtain ⟨i0, hi, hz0, hz1, hz2'⟩ := info_parts Ttok
  obtain ⟨r, hr⟩ : ∃ r, lexed s.data.toList = r := ⟨_, rfl⟩
  have HL := Lib.hid hr
  have hcols := lexed_cols s.data.toList
  rw [hr] at hcols
  have HCOL := Lib.hid hcols
  clear hr hcols
  go_enter Try.func9, Try.ntmps9
  go_wp2_with fail
  refine (ltokens_is hs HL.out _).mono ?_
  rintro e w1 ⟨v1, rfl, o1, hb1⟩
  have S1 := Lib.hid (shows_own o1)
  have B1 := Lib.hid hb1
  have s1 := hb1.size
  clear o1 hb1
  obtain ⟨er, hre⟩ : ∃ er, r.err = er := ⟨_, rfl⟩
  obtain ⟨rl, hrl⟩ : ∃ rl, r.line = rl := ⟨_, rfl⟩
  obtain ⟨rc, hrc⟩ : ∃ rc, r.col = rc := ⟨_, rfl⟩
  rw [hre, hrl, hrc]
  clear hre hrl hrc
  have hbk : ∀ w5 : World, Below (w1.heap.size + 1) (w1.alloc (.cells #[.int .i64 er, .int .i64 rl, .int .i64 rc] 27)) w5 → Below w.heap.size w w5 := fun w5 hb => (B1.out.alloc s1 _).trans (hb.mono (by omega))
  have HBK := Lib.hid hbk
  clear hbk
  by_cases hout : (¬ er = 0) ∨ d < 0 ∨ 1000 < d
  · by_cases q1 : er = 0
    · subst q1
      by_cases q2 : d < 0
      · go_wp2_with fail
        refine (known_any _).mono ?_
        rintro e w5 ⟨rfl, hb5⟩
        have B5 := Lib.hid (HBK.out _ (by simpa using hb5))
        clear hb5
        go_wp2
        go_returns
        exact ⟨rfl, B5.out⟩
      · have q3 : 1000 < d := by omega
        go_wp2_with fail
        refine (known_any _).mono ?_
        rintro e w5 ⟨rfl, hb5⟩
        have B5 := Lib.hid (HBK.out _ (by simpa using hb5))
        clear hb5
        go_wp2
        go_returns
        exact ⟨rfl, B5.out⟩
    · have q1' : (er != 0) = true := by simp [q1]
      go_wp2_with fail
      refine (known_any _).mono ?_
      rintro e w5 ⟨rfl, hb5⟩
      have B5 := Lib.hid (HBK.out _ (by simpa using hb5))
      clear hb5
      go_wp2
      go_returns
      exact ⟨rfl, B5.out⟩
  · have q1 : er = 0 := by omega
    have q2 : ¬ d < 0 := by omega
    have q3 : ¬ 1000 < d := by omega
    have q4 : 0 ≤ d := by omega
    subst q1
    obtain ⟨L, hLt⟩ : ∃ L, r.toks.map toM = L := ⟨_, rfl⟩
    have hlen := lexed_count s.data.toList
    rw [HL.out] at hlen
    have hcl : ∀ k, k < L.length → 1 ≤ (tk L k).col ∧ (tk L k).col ≤ 8193 := fun k hk => by
      rw [← hLt] at hk ⊢
      have e : tk (r.toks.map toM) k = toM (r.toks[k]'(by simpa using hk)) := by
        unfold tk
        rw [List.getD_eq_getElem?_getD, List.getElem?_eq_getElem hk]
        simp
      rw [e]
      exact HCOL.out _ (List.getElem_mem _)
    have hlen2 : L.length ≤ 100000 := by rw [← hLt, List.length_map]; omega
    have HC1 := Lib.hid hcl
    obtain ⟨b1, c1, rfl, hc1⟩ := S1.out
    rw [hLt] at S1 hc1
    have hv : (r.toks.map toM).length = L.length := by rw [hLt]
    rw [hv]
    obtain ⟨N, hN⟩ : ∃ N, L.length = N := ⟨_, rfl⟩
    have HN := Lib.hid hN
    have HC := Lib.hid hc1
    rw [hN] at hlen2 ⊢
    have S1b := Lib.hid S1.out
    clear hLt hlen hcl hout HL HCOL hc1 hv hN S1
    go_wp2_with fail
    go_loopg [7, 8] N (fun dd v7 v8 wr => ∃ k : Nat, dd + k = N ∧ v8 = .int .i64 k ∧ OwnsM wr (w1.heap.size + 1) v7 (shK d L k) ∧ Below (w1.heap.size + 1) (w1.alloc (.cells #[.int .i64 0, .int .i64 rl, .int .i64 rc] 27)) wr)
    case atStart => exact ⟨0, by omega, rfl, World.ownsRow_nil _ _ _ _, Below.refl _ _⟩
    case round =>
      obtain ⟨k, hk, rfl, ho, hbw⟩ := hrel
      have HK := Lib.hid hk
      have HBW := Lib.hid hbw
      have HO := Lib.hid ho
      have hle : k ≤ N := by omega
      have szr := hbw.size
      simp only [World.size_alloc] at szr
      have hkl := shK_len d L k (by rw [HN.out]; exact hle)
      clear hk hbw ho
      by_cases hlt : k < N
      · have hlt' : (k : Int) < N := by omega
        obtain ⟨ad, e, hg, y⟩ := HC.out k (by rw [HN.out]; exact hlt)
        subst e
        have hnx := shK_next d L k (by rw [HN.out]; exact hlt)
        have hcb := HC1.out k (by rw [HN.out]; exact hlt)
        obtain ⟨t, ht⟩ : ∃ t, tk L k = t := ⟨_, rfl⟩
        rw [ht] at y hnx hcb
        have y2 : TokAt wr (ad.add (k * 6)) t := (y.below ((Below.refl w1.heap.size w1).alloc (Nat.le_refl _) _) hg).below HBW.out (by omega)
        obtain ⟨z0, z1, z2, z3, z4, z5⟩ := y2
        have HNX := Lib.hid hnx
        have hg2 : (ad.add (k * 6)).block < wr.heap.size := by omega
        clear y ht hnx
        obtain ⟨tk0, tx, tn, tl, tc, tm⟩ := t
        simp only at z0 z1 z2 z3 z4 z5 hcb
        have hwc : IntKind.i64.wrap (tc + d) = tc + d := IntWalk.i64_in _ (by omega)
        obtain ⟨a3, n3, hv3⟩ := own_slice HO.out
        subst hv3
        go_wp2_with (at_builtin; refine wpList_append_own _ rfl _ _ 22 rfl (w1.heap.size + 1) 35 i0 _ 6 56 Try.underlying22 hi hz0 hz1 hz2' rfl (by decide) _ _ _ rfl ((HO.out.alloc _).alloc _) ⟨wr.heap.size + 1, 0, none⟩ 1 1 [.int .i64 tk0, .string tx, .int .i64 tn, .int .i64 tl, .int .i64 (tc + d), .bool tm] rfl rfl ?c1 ?c2 ?c3 ?c4 ?c5 ?_)
        case c1 =>
          have h := news6 (wr.alloc (.cells #[.int .i64 tk0, .string tx, .int .i64 tn, .int .i64 tl, .int .i64 (tc + d), .bool tm] TT)) (.int .i64 tk0) (.string tx) (.int .i64 tn) (.int .i64 tl) (.int .i64 (tc + d)) (.bool tm) TT
          rw [World.size_alloc] at h
          exact h
        case c2 =>
          intro u hu
          simp only [List.mem_cons, List.not_mem_nil, or_false] at hu
          rcases hu with rfl | rfl | rfl | rfl | rfl | rfl <;> rfl
        case c3 => unfold maxLen; omega
        case c4 => omega
        case c5 => simp; omega
        intro v' w5 hown hgrow _
        have HO5 := Lib.hid hown
        have HB5 := Lib.hid (((HBW.out.alloc (by simpa using szr) _).alloc (by simp; omega) _).grown hgrow (by simp; omega) (fun g hg => (World.ownsRow.lt HO.out g (by rw [hkl]; exact hg)).1))
        clear hown hgrow
        go_wp2
        go_roundg (N - (k + 1))
        case measure => have := HK.out; omega
        case rel => exact ⟨k + 1, by have := HK.out; omega, by go_num, by rw [HNX.out]; unfold OwnsM; rw [tms_push, List.length_append, hkl]; exact HO5.out, HB5.out⟩
      · obtain rfl : k = N := by omega
        have S1c := Lib.hid ((S1b.out.below ((Below.refl w1.heap.size w1).alloc (Nat.le_refl _) _) (Nat.le_refl _)).below HBW.out (by omega))
        have hfull : shK d L k = L.map (shT d) := by rw [← HN.out, shK_all]
        have S2 := Lib.hid (show ShowsM wr wr.heap.size _ (L.map (shT d)) by have := shows_own HO.out; rw [hfull] at this; exact this)
        obtain ⟨A, hA⟩ : ∃ A, layAll L = A := ⟨_, rfl⟩
        obtain ⟨M, hM⟩ : ∃ M, layAll (L.map (shT d)) = M := ⟨_, rfl⟩
        have hAl := layAll_len L
        rw [hA, HN.out] at hAl
        have hAM : AlikeM A M ∧ (0 < k → ∀ j, j < A.length → tk M j = shT d (tk A j)) := by
          by_cases h0 : 0 < L.length
          · have e := layAll_sh q4 (fun j hj => (HC1.out j hj).1) h0
            rw [hA, hM] at e
            subst e
            refine ⟨⟨by simp, fun j hj => ?_⟩, fun _ j hj => tk_sh hj⟩
            rw [tk_sh hj]
            exact ⟨rfl, rfl, rfl, rfl⟩
          · have e : L = [] := List.length_eq_zero_iff.1 (by omega)
            subst e
            have e : M = A := by rw [← hA, ← hM]; rfl
            subst e
            refine ⟨⟨rfl, fun j hj => ⟨rfl, rfl, rfl, rfl⟩⟩, fun h => ?_⟩
            have := HN.out
            simp at this
            omega
        have hcb := CB_layAll (fun j hj => HC1.out j hj)
        rw [hA] at hcb
        have HCB := Lib.hid hcb
        have HAL := Lib.hid hAM.1
        have HSH := Lib.hid hAM.2
        have HA := Lib.hid hA
        have HM := Lib.hid hM
        clear hA hM hAM hfull hcb
        go_wp2_with fail
        refine (Lay_is (by rw [HN.out]; omega) HA.out _ (by have := S1c.out.mono (show _ ≤ wr.heap.size by omega); rw [HN.out] at this; exact this)).mono ?_
        rintro e w2 ⟨v2, rfl, o2, hb2⟩
        have A1 := Lib.hid (shows_own o2)
        have s2 := hb2.size
        have S2b := Lib.hid ((S2.out.below hb2 (Nat.le_refl _)).mono s2)
        have B2 := Lib.hid (HBW.out.trans (hb2.mono (by omega)))
        clear o2 hb2
        go_wp2_with fail
        refine (Lay_is (by rw [List.length_map, HN.out]; omega) HM.out _ S2b.out).mono ?_
        rintro e w3 ⟨v3, rfl, o3, hb3⟩
        have A2 := Lib.hid (shows_own o3)
        have s3 := hb3.size
        have A1b := Lib.hid ((A1.out.below hb3 (Nat.le_refl _)).mono s3)
        have B3 := Lib.hid (B2.out.trans (hb3.mono (by omega)))
        clear o3 hb3
        go_wp2_with fail
        refine (alike_yes (by omega) HAL.out _ A1b.out A2.out).mono ?_
        rintro e w4 ⟨rfl, hb4⟩
        have s4 := hb4.size
        have A1c := Lib.hid ((A1b.out.below hb4 (Nat.le_refl _)))
        have A2c := Lib.hid ((A2.out.below hb4 (Nat.le_refl _)))
        have B4 := Lib.hid (B3.out.trans (hb4.mono (by omega)))
        have hlenM := HAL.out.1
        obtain ⟨NA, hNA⟩ : ∃ NA, A.length = NA := ⟨_, rfl⟩
        have HNA := Lib.hid hNA
        obtain ⟨ba, ca, rfl, hca⟩ := A1c.out
        obtain ⟨bm, cm, rfl, hcm⟩ := A2c.out
        rw [hNA] at hlenM hAl ⊢
        rw [hlenM]
        have HCA := Lib.hid hca
        have HCM := Lib.hid hcm
        have HLM := Lib.hid hlenM
        clear hb4 hca hcm hNA hlenM A1 A2 A1b A1c A2c S1c S2 S2b
        go_wp2_with fail
        go_loopg [12] NA (fun dd v12 wr2 => ∃ j : Nat, dd + j = NA ∧ v12 = .int .i64 j ∧ Below w4.heap.size w4 wr2)
        case atStart => exact ⟨0, by omega, rfl, Below.refl _ _⟩
        case round =>
          obtain ⟨j, hj, rfl, hbj⟩ := hrel
          have HJ := Lib.hid hj
          have HBJ := Lib.hid hbj
          have hle2 : j ≤ NA := by omega
          clear hj hbj
          by_cases hlt2 : j < NA
          · have hlt2' : (j : Int) < NA := by omega
            by_cases hk0 : 0 < k
            · have hk0' : (0 : Int) < k := by omega
              obtain ⟨ad1, e1, hg1, y1⟩ := HCA.out j (by rw [HNA.out]; exact hlt2)
              obtain ⟨ad2, e2, hg2, y2⟩ := HCM.out j (by rw [HLM.out]; exact hlt2)
              subst e1 e2
              rw [HSH.out hk0 j (by rw [HNA.out]; exact hlt2)] at y2
              obtain ⟨t, ht⟩ : ∃ t, tk A j = t := ⟨_, rfl⟩
              rw [ht] at y1 y2
              have p3 := (y1.below HBJ.out (by omega)).c3
              have p4 := (y1.below HBJ.out (by omega)).c4
              have q3 : wr.cell? ⟨(ad2.add (j * 6)).block, (ad2.add (j * 6)).off + 3, none⟩ = some (.int .i64 t.line) := (y2.below HBJ.out (by omega)).c3
              have q4 : wr.cell? ⟨(ad2.add (j * 6)).block, (ad2.add (j * 6)).off + 4, none⟩ = some (.int .i64 (t.col + d)) := (y2.below HBJ.out (by omega)).c4
              have hcb := HCB.out.tk (k := j) (by rw [HNA.out]; exact hlt2)
              rw [ht] at hcb
              have hwc : IntKind.i64.wrap (t.col + d - d) = t.col := by rw [show t.col + d - d = t.col by omega]; exact IntWalk.i64_in _ (by omega)
              clear y1 y2 ht hg1 hg2
              go_wp2_with fail
              go_quiet (fail)
              go_wp2
              go_roundg (NA - (j + 1))
              case measure => have := HJ.out; omega
              case rel => exact ⟨j + 1, by have := HJ.out; omega, by go_num, below_drewN HBJ.out _⟩
            · have hk0' : ¬ (0 : Int) < k := by omega
              have s5 := HBJ.out.size
              have hb4s := B4.out.size
              simp only [World.size_alloc] at hb4s
              go_wp2_with fail
              refine (known_any _).mono ?_
              rintro e w6 ⟨rfl, hb6⟩
              have B6 := Lib.hid (HBK.out _ ((B4.out.trans (HBJ.out.mono (by omega))).trans (hb6.mono (by omega))))
              clear hb6
              go_wp2
              go_returns
              exact ⟨rfl, B6.out⟩
          · obtain rfl : j = NA := by omega
            have s5 := HBJ.out.size
            have hb4s := B4.out.size
            simp only [World.size_alloc] at hb4s
            go_wp2_with fail
            refine (known_any _).mono ?_
            rintro e w6 ⟨rfl, hb6⟩
            have B6 := Lib.hid (HBK.out _ ((B4.out.trans (HBJ.out.mono (by omega))).trans (hb6.mono (by omega))))
            clear hb6
            go_wp2
            go_returns
            exact ⟨rfl, B6.out⟩
end Go.Proofs.Ytgnojbjgpjnbkaa.Ly
namespace Go.Proofs.Ytgnojbjgpjnbkaa.LayoutShift
open Go.RowKit Ly
theorem law (s : ByteArray) (hs : s.size ≤ 9223372036854775807) (d : Int) (h1 : -9223372036854775808 ≤ d) (h2 : d ≤ 9223372036854775807) (w : World) :
    Calls Try.prog 9 #[.string s, .int .i64 d] w fun e w' => e = .returned (.bool true) ∧ Below w.heap.size w w' := shift_law s hs d h1 h2 w
end Go.Proofs.Ytgnojbjgpjnbkaa.LayoutShift
