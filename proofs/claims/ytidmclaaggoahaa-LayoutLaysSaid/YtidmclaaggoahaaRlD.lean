/-
  CONTRACT of the document's layout: a state that is closed up to a frame.
-/
import Derived.Test.YtidmclaaggoahaaRlC
namespace Go.Proofs.Ytidmclaaggoahaa.Ly
open Go.RowKit Pl Ar Mm Lx
set_option linter.unusedVariables false
set_option linter.unusedSimpArgs false
def lastF (F : List Fr) (K : Int) : Nat → Int
  | 0 => -1
  | k + 1 => if frK F k = K then (k : Int) else lastF F K k
theorem lastF_spec (F : List Fr) (K : Int) : ∀ n, (lastF F K n = -1 ∧ ∀ j, j < n → frK F j ≠ K) ∨ (∃ q : Nat, lastF F K n = q ∧ q < n ∧ frK F q = K ∧ ∀ j, q < j → j < n → frK F j ≠ K)
  | 0 => .inl ⟨rfl, fun j hj => absurd hj (by omega)⟩
  | n + 1 => by
    unfold lastF
    by_cases h : frK F n = K
    · rw [if_pos h]
      exact .inr ⟨n, rfl, by omega, h, fun j h1 h2 => absurd h1 (by omega)⟩
    · rw [if_neg h]
      rcases lastF_spec F K n with ⟨e, h2⟩ | ⟨q, e, h1, h2, h3⟩
      · refine .inl ⟨e, fun j hj => ?_⟩
        rcases Nat.lt_or_ge j n with hl | hl
        · exact h2 j hl
        · obtain rfl : j = n := by omega
          exact h
      · refine .inr ⟨q, e, by omega, h2, fun j hj hjn => ?_⟩
        rcases Nat.lt_or_ge j n with hl | hl
        · exact h3 j hj hl
        · obtain rfl : j = n := by omega
          exact h
theorem find_none {F : List Fr} {K : Int} : ∀ n, (∀ j, j < n → frK F j ≠ K) → findF F K n = F.length
  | 0, _ => rfl
  | n + 1, h => by
    unfold findF
    rw [if_neg (h n (by omega))]
    split
    · rfl
    · exact find_none n (fun j hj => h j (by omega))
theorem find_at {F : List Fr} {K : Int} {q : Nat} (hq : frK F q = K) : ∀ n, q < n → (∀ j, q < j → j < n → frK F j ≠ K ∧ ¬ (6 ≤ frK F j ∧ K < frK F j)) → findF F K n = q
  | n + 1, hn, h => by
    unfold findF
    rcases Nat.lt_or_ge q n with hl | hl
    · have := h n hl (by omega)
      rw [if_neg this.1, if_neg this.2]
      exact find_at hq n hl (fun j h1 h2 => h j h1 (by omega))
    · obtain rfl : q = n := by omega
      rw [if_pos hq]
theorem find_bar {F : List Fr} {K : Int} {i : Nat} (hi : 6 ≤ frK F i ∧ K < frK F i) : ∀ n, i < n → (∀ j, i ≤ j → j < n → frK F j ≠ K) → findF F K n = F.length
  | n + 1, hn, h => by
    unfold findF
    rw [if_neg (h n (by omega) (by omega))]
    split
    · rfl
    · rename_i hb
      rcases Nat.lt_or_ge i n with hl | hl
      · exact find_bar hi n hl (fun j h1 h2 => h j h1 (by omega))
      · obtain rfl : i = n := by omega
        exact absurd hi hb
def barsOf (K : Int) : List Int := if K = 6 then [7] else if K = 7 then [] else [7, 6]
theorem bars_iff {K k : Int} (hK : 2 ≤ K ∧ K ≤ 7) (hk : 1 ≤ k ∧ k ≤ 7) : k ∈ barsOf K ↔ 6 ≤ k ∧ K < k := by
  unfold barsOf
  split
  · simp; omega
  · split
    · simp; omega
    · simp; omega
theorem bars_rng (K : Int) : ∀ b ∈ barsOf K, 6 ≤ b ∧ b ≤ 7 := by
  intro b hb
  unfold barsOf at hb
  split at hb
  · simp at hb; omega
  · split at hb
    · simp at hb
    · simp at hb; omega
theorem bars_len (K : Int) : (barsOf K).length ≤ 2 := by
  unfold barsOf
  repeat' split
  all_goals simp
def BarsAt (w : World) (v : Value) (L : List Int) : Prop := ∃ b c, v = .slice b L.length c ∧ ∀ j, j < L.length → ∃ g, b = some ⟨g, 0, none⟩ ∧ g < w.heap.size ∧ w.cell? ⟨g, j, none⟩ = some (.string (nm (L.getD j 0)))
theorem closedT_skip {T : List TokM} {F : List Fr} {q : Nat} {ln col : Int} (hq : q < F.length) (h : ¬ frK F q = 1) : closedT T F q ln col = closedT T F (q + 1) ln col := closedT_none hq h
theorem getD_mem {L : List Int} {j : Nat} (h : j < L.length) : L.getD j 0 ∈ L := by
  rw [List.getD_eq_getElem?_getD, List.getElem?_eq_getElem h]
  exact List.getElem_mem h
theorem mem_getD {L : List Int} {x : Int} (h : x ∈ L) : ∃ j, j < L.length ∧ L.getD j 0 = x := by
  obtain ⟨j, hj, e⟩ := List.mem_iff_getElem.1 h
  exact ⟨j, hj, by rw [List.getD_eq_getElem?_getD, List.getElem?_eq_getElem hj]; exact e⟩
theorem rfs_take (F : List Fr) (k : Nat) : (rfsCells F).take (k * 2) = rfsCells (F.take k) := by
  induction F generalizing k with
  | nil => simp [rfsCells]
  | cons f F ih =>
    cases k with
    | zero => simp [rfsCells]
    | succ k =>
      have e : rfsCells (f :: F) = rfCells f ++ rfsCells F := by simp [rfsCells]
      have e2 : rfsCells (f :: F.take k) = rfCells f ++ rfsCells (F.take k) := by simp [rfsCells]
      have hl : (rfCells f).length = 2 := rfl
      rw [e, List.take_succ_cons, e2, List.take_append, hl, show (k + 1) * 2 - 2 = k * 2 by omega, ih k, List.take_of_length_le (by rw [hl]; omega)]
theorem RSt.cut {Z : Nat → Prop} {w : World} {T : List TokM} {F : List Fr} {vt : Value} {g c q : Nat} (h : RSt Z w T F vt (.slice (some ⟨g, 0, none⟩) F.length c)) (hq : q ≤ F.length) : RSt Z w T (F.take q) vt (.slice (some ⟨g, 0, none⟩) q c) :=
  ⟨h.toks, by
    have := own_cut h.frames hq
    rw [rfs_take] at this
    unfold OwnsR
    rw [List.length_take, Nat.min_eq_left hq]
    exact this, h.zt, fun k hk => h.zf k hk, h.zl⟩
/-- a state, stored to the block that it lies in -/
theorem st_put {Z : Nat → Prop} {w2 : World} {T : List TokM} {F : List Fr} {vt vf : Value} {q : Nat} {v0 v1 v2 : Value} (h : RSt Z w2 T F vt vf) (bx : Box w2 q RS #[v0, v1, v2]) (due : Bool) :
    Box (((w2.setCell ⟨q, 0, none⟩ vt).setCell ⟨q, 1, none⟩ vf).setCell ⟨q, 2, none⟩ (.bool due)) q RS #[vt, vf, .bool due] ∧ RSt Z (((w2.setCell ⟨q, 0, none⟩ vt).setCell ⟨q, 1, none⟩ vf).setCell ⟨q, 2, none⟩ (.bool due)) T F vt vf ∧
      (∀ g t cs, Box w2 g t cs → q ≠ g → Box (((w2.setCell ⟨q, 0, none⟩ vt).setCell ⟨q, 1, none⟩ vf).setCell ⟨q, 2, none⟩ (.bool due)) g t cs) ∧
      ∀ Y w, Holds Y w w2 → ¬ Y q → Holds Y w (((w2.setCell ⟨q, 0, none⟩ vt).setCell ⟨q, 1, none⟩ vf).setCell ⟨q, 2, none⟩ (.bool due)) := by
  have b1 := bx.put 0 vt
  have b2 := b1.put 1 vf
  have b3 := b2.put 2 (.bool due)
  exact ⟨b3, ((h.put bx (by decide) (by decide) 0 vt).put b1 (by decide) (by decide) 1 vf).put b2 (by decide) (by decide) 2 (.bool due), fun g t cs hb hne => ((hb.far hne _).far hne _).far hne _, fun Y w hh hq => ((hh.setCell hq _).setCell hq _).setCell hq _⟩
theorem closedT_full (T : List TokM) (F : List Fr) (ln col : Int) : closedT T F F.length ln col = T := by
  unfold closedT
  rw [List.drop_length]
  simp [laidN]
/-- Z, and the three blocks from p on -/
def Z3 (Z : Nat → Prop) (p : Nat) : Nat → Prop := Zq (Zq (Zq Z p) (p + 1)) (p + 1 + 1)
theorem Holds.three {Z : Nat → Prop} {p : Nat} {w w' : World} (h : Holds (Z3 Z p) w w') : Holds Z w w' := h.less.less.less
theorem RSt.three {Z : Nat → Prop} {p : Nat} {w : World} {T : List TokM} {F : List Fr} {vt vf : Value} (h : RSt (Z3 Z p) w T F vt vf) : RSt Z w T F vt vf := h.less.less.less
set_option maxRecDepth 100000 in
set_option maxHeartbeats 8000000 in
theorem rclosed_any {Z : Nat → Prop} {T : List TokM} {F : List Fr} {due : Bool} {ln col : Int} {vt vf vb : Value} {K : Int} (hK : 2 ≤ K ∧ K ≤ 7) (hF : KF F) (w : World) (h : RSt Z w T F vt vf) (hb : BarsAt w vb (barsOf K)) (hn : T.length + F.length ≤ 999999999) {q : Nat} (hq : findF F K F.length = q) :
    Calls Try.prog 57 #[stV vt vf due, .string (nm K), vb, .agg #[.int .i64 ln, .int .i64 col]] w (StPost Z (closedT T F q ln col) (F.take q) due w) := by
  obtain ⟨bb, cb, rfl, hbc⟩ := hb
  have hbl := bars_len K
  have HBC := Lib.hid hbc
  have HS := Lib.hid h
  have HF := Lib.hid hF
  have HQ := Lib.hid hq
  have SH := Lib.hid (showsR_own h.frames)
  obtain ⟨a, c, rfl⟩ := own_slice h.toks
  obtain ⟨af, cf, rfl⟩ := own_slice h.frames
  obtain ⟨N, hN⟩ : ∃ N, F.length = N := ⟨_, rfl⟩
  have HN := Lib.hid hN
  obtain ⟨NB, hNB⟩ : ∃ NB, (barsOf K).length = NB := ⟨_, rfl⟩
  have HNB := Lib.hid hNB
  rw [hN] at hn ⊢
  rw [hNB] at hbl ⊢
  obtain ⟨name, hname⟩ : ∃ name, nm K = name := ⟨_, rfl⟩
  have HNAME := Lib.hid hname
  rw [hname]
  clear h hbc hF hq hN hNB hname
  go_enter Try.func57, Try.ntmps57
  obtain ⟨p, hp⟩ : ∃ p, w.heap.size = p := ⟨_, rfl⟩
  have HP := Lib.hid hp
  obtain ⟨W0, hW0⟩ : ∃ W0, (((w.alloc (.cells #[.slice a T.length c, .slice af N cf, .bool due] RS)).alloc (.cells #[.int .i64 ln, .int .i64 col] PS)).alloc (.cells #[.slice none 0 0, .slice none 0 0, .bool false] RS)) = W0 := ⟨_, rfl⟩
  have hR : RSt Z W0 T F (.slice a T.length c) (.slice af N cf) := by
    rw [← hW0, ← HN.out]
    exact ((HS.out.alloc _).alloc _).alloc _
  have hH : Holds Z w W0 := by
    rw [← hW0]
    exact (((Holds.refl Z w).alloc HS.out.zl _).alloc (HS.out.alloc _).zl _).alloc ((HS.out.alloc _).alloc _).zl _
  have hx : Box W0 p RS #[.slice a T.length c, .slice af N cf, .bool due] := by rw [← hW0, ← hp]; exact ((Box.new _ _ _).alloc _).alloc _
  have hy : Box W0 (p + 1) PS #[.int .i64 ln, .int .i64 col] := by
    rw [← hW0, ← hp]
    have := Box.new (w.alloc (.cells #[.slice a T.length c, .slice af N cf, .bool due] RS)) #[.int .i64 ln, .int .i64 col] PS
    rw [World.size_alloc] at this
    exact this.alloc _
  have hz : Box W0 (p + 1 + 1) RS #[.slice none 0 0, .slice none 0 0, .bool false] := by
    rw [← hW0, ← hp]
    have := Box.new ((w.alloc (.cells #[.slice a T.length c, .slice af N cf, .bool due] RS)).alloc (.cells #[.int .i64 ln, .int .i64 col] PS)) #[.slice none 0 0, .slice none 0 0, .bool false] RS
    rw [World.size_alloc, World.size_alloc] at this
    exact this
  have hsz : W0.heap.size = p + 1 + 1 + 1 := by rw [← hW0, ← hp]; simp
  have hbelow : Below w.heap.size w W0 := by rw [← hW0]; exact (((Below.refl _ _).alloc (Nat.le_refl _) _).alloc (by simp) _).alloc (by simp; omega) _
  obtain ⟨bf, cf', hvf, hcf⟩ := SH.out
  rw [HN.out] at hvf
  injection hvf with hvf _ hvf2
  subst hvf hvf2
  have HCF := Lib.hid (show ∀ k, k < N → ∃ g, af = some ⟨g, 0, none⟩ ∧ W0.cell? ⟨g, k * 2, none⟩ = some (.string (nm (frK F k))) ∧ W0.cell? ⟨g, k * 2 + 1, none⟩ = some (.int .i64 (frC F k)) from fun k hk => by
    obtain ⟨g, e, hg, h0, h1⟩ := hcf k (by rw [HN.out]; exact hk)
    exact ⟨g, e, (hbelow.cell (p := ⟨g, k * 2, none⟩) hg).trans h0, (hbelow.cell (p := ⟨g, k * 2 + 1, none⟩) hg).trans h1⟩)
  have HCB := Lib.hid (show ∀ j, j < NB → ∃ g, bb = some ⟨g, 0, none⟩ ∧ W0.cell? ⟨g, j, none⟩ = some (.string (nm ((barsOf K).getD j 0))) from fun j hj => by
    obtain ⟨g, e, hg, h0⟩ := HBC.out j (by rw [HNB.out]; exact hj)
    exact ⟨g, e, (hbelow.cell (p := ⟨g, j, none⟩) hg).trans h0⟩)
  have x0 := hx.cell 0
  have x1 := hx.cell 1
  have x2 := hx.cell 2
  have y0 := hy.cell 0
  have y1 := hy.cell 1
  have z0 := hz.cell 0
  have z1 := hz.cell 1
  have z2 := hz.cell 2
  have e0 := hz.free 0
  have e1 := hz.free 1
  have e2 := hz.free 2
  have HR := Lib.hid hR
  have HH := Lib.hid hH
  have HX := Lib.hid hx
  have HY := Lib.hid hy
  have HZ := Lib.hid hz
  have HSZ := Lib.hid hsz
  clear hR hH hx hy hz hsz hbelow hcf HBC SH
  go_wp2_with fail
  clear hW0 hp
  go_loopg [10, 11] N (fun d v10 v11 wr => ∃ k : Nat, d + k = N ∧ v11 = .int .i64 k ∧ v10 = .int .i64 (lastF F K k) ∧ wr = W0)
  case atStart => exact ⟨0, by omega, rfl, rfl, rfl⟩
  case round =>
    obtain ⟨k, hk, rfl, rfl, rfl⟩ := hrel
    have HK := Lib.hid hk
    have hle : k ≤ N := by omega
    have hsp := lastF_spec F K k
    clear hk
    by_cases hlt : k < N
    · have hlt' : (k : Int) < N := by omega
      obtain ⟨g, rfl, p0, p1⟩ := HCF.out k hlt
      have hr := HF.out.at (i := k) (by rw [HN.out]; exact hlt)
      have hu : lastF F K (k + 1) = if frK F k = K then (k : Int) else lastF F K k := rfl
      have t := nm_eq (a := frK F k) (by omega) K (by omega)
      rw [HNAME.out] at t
      obtain ⟨KK, hKK⟩ : ∃ KK, frK F k = KK := ⟨_, rfl⟩
      rw [hKK] at p0 hu t
      obtain ⟨TT2, hT2⟩ : ∃ x, nm KK = x := ⟨_, rfl⟩
      rw [hT2] at p0 t
      have HU := Lib.hid hu
      clear hu hKK hT2 hr hsp
      by_cases hkk : KK = K
      · have HU2 := Lib.hid (show lastF F K (k + 1) = k by rw [HU.out, if_pos hkk])
        simp only [hkk, decide_true] at t
        clear hkk
        go_wp2
        go_roundg (N - (k + 1))
        case measure => have := HK.out; omega
        case rel => exact ⟨k + 1, by have := HK.out; omega, by go_num, by rw [HU2.out], rfl⟩
      · have HU2 := Lib.hid (show lastF F K (k + 1) = lastF F K k by rw [HU.out, if_neg hkk])
        simp only [hkk, decide_false] at t
        clear hkk
        go_wp2
        go_roundg (N - (k + 1))
        case measure => have := HK.out; omega
        case rel => exact ⟨k + 1, by have := HK.out; omega, by go_num, by rw [HU2.out], rfl⟩
    · obtain rfl : k = N := by omega
      rcases hsp with ⟨hl, hnone⟩ | ⟨u, hl, hul, huK, huN⟩
      · have hqe : q = k := by have := HQ.out; rw [HN.out, find_none k hnone, HN.out] at this; omega
        rw [hl]
        clear hl hnone
        go_wp2
        have nz : ∀ j, p ≤ j → ¬ Z j := fun j hj hz => by have := HS.out.zl _ hz; have := HP.out; omega
        obtain ⟨W, hW, q0, q1, q2, r4, h4⟩ := st_out HR.out HH.out HZ.out (nz _ (by omega)) due
        rw [hW]
        refine bodyPost_ret (v := stV (.slice a T.length c) (.slice af k cf) due) (by simp [results, Try.results57, go_sem, q0, q1, q2]) rfl ?_
        refine ⟨_, _, rfl, ?_, h4⟩
        rw [hqe, ← HN.out, closedT_full, List.take_length, HN.out]
        exact r4
      · rw [hl]
        clear hl
        go_wp2_with fail
        go_loopg [12] (k - (u + 1)) (fun d v12 wr2 => ∃ i : Nat, d + i = k ∧ u < i ∧ v12 = .int .i64 i ∧ (∀ j, u < j → j < i → frK F j ∉ barsOf K) ∧ ∃ m, wr2 = wr.drewN m)
        case atStart => exact ⟨u + 1, by omega, by omega, by go_num, fun j h1 h2 => absurd h1 (by omega), 0, rfl⟩
        case round =>
          obtain ⟨i, hi, hui, rfl, hnb, m, rfl⟩ := hrel
          have HI := Lib.hid hi
          have HNBB := Lib.hid hnb
          have hle2 : i ≤ k := by omega
          clear hi hnb
          by_cases hlt2 : i < k
          · have hlt2' : (i : Int) < k := by omega
            obtain ⟨g, rfl, p0, p1⟩ := HCF.out i hlt2
            have hr := HF.out.at (i := i) (by rw [HN.out]; exact hlt2)
            have HRG := Lib.hid hr
            go_wp2_with fail
            go_loopg [13] NB (fun d v13 wr2 => ∃ b : Nat, d + b = NB ∧ v13 = .int .i64 b ∧ (∀ j, j < b → frK F i ≠ (barsOf K).getD j 0) ∧ ∃ m, wr2 = wr.drewN m)
            case atStart => exact ⟨0, by omega, rfl, fun j hj => absurd hj (by omega), m, rfl⟩
            case round =>
              obtain ⟨b, hb, rfl, hnb, m2, rfl⟩ := hrel
              have HB := Lib.hid hb
              have HNB2 := Lib.hid hnb
              have hle3 : b ≤ NB := by omega
              clear hb hnb
              by_cases hlt3 : b < NB
              · have hlt3' : (b : Int) < NB := by omega
                obtain ⟨g2, e2, b0⟩ := HCB.out b hlt3
                subst e2
                have hbr := bars_rng K _ (getD_mem (L := barsOf K) (j := b) (by rw [HNB.out]; exact hlt3))
                obtain ⟨BB, hBB⟩ : ∃ x, (barsOf K).getD b 0 = x := ⟨_, rfl⟩
                obtain ⟨KK, hKK⟩ : ∃ KK, frK F i = KK := ⟨_, rfl⟩
                rw [hBB] at b0 hbr
                rw [hKK] at p0 hr
                have t := nm_eq (a := KK) (by omega) BB (by omega)
                obtain ⟨T1, hT1⟩ : ∃ x, nm KK = x := ⟨_, rfl⟩
                obtain ⟨T2, hT2⟩ : ∃ x, nm BB = x := ⟨_, rfl⟩
                rw [hT1] at p0 t
                rw [hT2] at b0 t
                have HBB := Lib.hid hBB
                have HKK := Lib.hid hKK
                clear hBB hKK hT1 hT2
                by_cases hkb : KK = BB
                · have hqe : q = k := by
                    have hmem : frK F i ∈ barsOf K := by rw [HKK.out, hkb, ← HBB.out]; exact getD_mem (by rw [HNB.out]; exact hlt3)
                    have := HQ.out
                    rw [HN.out, find_bar ((bars_iff hK HRG.out).1 hmem) k hlt2 (fun j h1 h2 => huN j (by omega) h2), HN.out] at this
                    omega
                  simp only [hkb, decide_true] at t
                  clear hkb
                  go_wp2_with fail
                  go_quiet (fail)
                  go_wp2
                  have nz : ∀ j, p ≤ j → ¬ Z j := fun j hj hz => by have := HS.out.zl _ hz; have := HP.out; omega
                  obtain ⟨W, hW, q0, q1, q2, r4, h4⟩ := st_out (HR.out.drewN (m2 + nq)) (HH.out.drewN (m2 + nq)) (HZ.out.drewN (m2 + nq)) (nz _ (by omega)) due
                  rw [hW]
                  refine bodyPost_ret (v := stV (.slice a T.length c) (.slice (some ⟨g, 0, none⟩) k cf) due) (by simp [results, Try.results57, go_sem, q0, q1, q2]) rfl ?_
                  refine ⟨_, _, rfl, ?_, h4⟩
                  rw [hqe, ← HN.out, closedT_full, List.take_length, HN.out]
                  exact r4
                · simp only [hkb, decide_false] at t
                  have HKB := Lib.hid hkb
                  clear hkb
                  go_wp2_with fail
                  go_quiet (fail)
                  go_wp2
                  go_roundg (NB - (b + 1))
                  case measure => have := HB.out; omega
                  case rel => exact ⟨b + 1, by have := HB.out; omega, by go_num, fun j hj => by
                      rcases Nat.lt_or_ge j b with h | h
                      · exact HNB2.out j h
                      · obtain rfl : j = b := by omega
                        rw [HKK.out, HBB.out]; exact HKB.out, m2 + nq, by simp⟩
              · obtain rfl : b = NB := by omega
                go_wp2
                go_roundg (k - (i + 1))
                case measure => have := HI.out; omega
                case rel => exact ⟨i + 1, by have := HI.out; omega, by omega, by go_num, fun j h1 h2 => by
                      rcases Nat.lt_or_ge j i with h | h
                      · exact HNBB.out j h1 h
                      · obtain rfl : j = i := by omega
                        intro hm
                        obtain ⟨y, hy, hye⟩ := mem_getD hm
                        exact HNB2.out y (by rw [← HNB.out]; exact hy) hye.symm, m2, rfl⟩
          · obtain rfl : i = k := by omega
            have hqu : q = u := by
              have := HQ.out
              rw [HN.out, find_at huK i hul (fun j h1 h2 => ⟨huN j h1 h2, fun hh => HNBB.out j h1 h2 ((bars_iff hK (HF.out.at (by rw [HN.out]; exact h2))).2 hh)⟩)] at this
              omega
            subst hqu
            have nz : ∀ j, p ≤ j → ¬ Z j := fun j hj hz => by have := HS.out.zl _ hz; have := HP.out; omega
            have NZ := Lib.hid nz
            have hRZ : RSt (Z3 Z p) (wr.drewN m) T F (.slice a T.length c) (.slice af i cf) := (((HR.out.more HX.out (by decide) (by decide)).more HY.out (by decide) (by decide)).more HZ.out (by decide) (by decide)).drewN m
            have HRZ := Lib.hid hRZ
            have hxd := HX.out.drewN m
            have hyd := HY.out.drewN m
            have hzd := HZ.out.drewN m
            have hhd := HH.out.drewN m
            have HXD := Lib.hid hxd
            have HYD := Lib.hid hyd
            have HZD := Lib.hid hzd
            have HHD := Lib.hid hhd
            obtain ⟨W1, hW1⟩ : ∃ W1, wr.drewN m = W1 := ⟨_, rfl⟩
            rw [hW1] at HRZ HXD HYD HZD HHD ⊢
            clear hRZ hxd hyd hzd hhd hW1 nz HX HY HZ HH HR HCF HCB x0 x1 x2 y0 y1 z0 z1 z2 e0 e1 e2
            have y0 := HYD.out.cell 0
            go_wp2_with fail
            clear y0
            go_loopg [14] (i - (q + 1)) (fun d v14 wr2 => ∃ e : Nat, d + (q + 1) = e ∧ e ≤ i ∧ v14 = .int .i64 ((e : Int) - 1) ∧ ∃ vt vf, Box wr2 p RS #[vt, vf, .bool due] ∧ Box wr2 (p + 1) PS #[.int .i64 ln, .int .i64 col] ∧ Box wr2 (p + 1 + 1) RS #[.slice none 0 0, .slice none 0 0, .bool false] ∧ RSt (Z3 Z p) wr2 (closedT T F e ln col) F vt vf ∧ Holds Z w wr2)
            case atStart => exact ⟨i, by omega, Nat.le_refl _, rfl, _, _, HXD.out, HYD.out, HZD.out, by rw [← HN.out, closedT_full]; rw [HN.out]; exact HRZ.out, HHD.out⟩
            case round =>
              obtain ⟨e, he, hei, rfl, vt, vf, hx, hy, hz, hr, hh⟩ := hrel
              have HE := Lib.hid he
              have HX := Lib.hid hx
              have HY := Lib.hid hy
              have HZ := Lib.hid hz
              have HR := Lib.hid hr
              have HH := Lib.hid hh
              have x0 := hx.cell 0
              have x1 := hx.cell 1
              have x2 := hx.cell 2
              have f0 := hx.free 0
              have f1 := hx.free 1
              have f2 := hx.free 2
              have y0 := hy.cell 0
              have y1 := hy.cell 1
              have z0 := hz.cell 0
              have z1 := hz.cell 1
              have z2 := hz.cell 2
              have e0 := hz.free 0
              have e1 := hz.free 1
              have e2 := hz.free 2
              obtain ⟨b1, c1, rfl⟩ := own_slice hr.toks
              obtain ⟨b2, c2, rfl⟩ := own_slice hr.frames
              rw [HN.out] at x1 HX HR
              clear he hx hy hz hr hh
              by_cases hlt3 : q + 1 < e
              · obtain ⟨e', rfl⟩ : ∃ e', e = e' + 1 := ⟨e - 1, by omega⟩
                have hcast : ((e' + 1 : Nat) : Int) - 1 = e' := by omega
                rw [hcast]
                have hlt3' : (q : Int) < (e' : Int) := by omega
                have hei' : (e' : Int) < i := by omega
                obtain ⟨bq, cq, hvq, hcq⟩ := showsR_own HR.out.frames
                rw [HN.out] at hvq
                injection hvq with hvq1 _ hvq2
                subst hvq1 hvq2
                obtain ⟨g, rfl, hg, p0, p1⟩ := hcq e' (by rw [HN.out]; omega)
                have hr' := HF.out.at (i := e') (by rw [HN.out]; omega)
                have hone := closedT_one (T := T) (F := F) (k := e') (ln := ln) (col := col) (by rw [HN.out]; omega)
                have hnot := closedT_none (T := T) (F := F) (k := e') (ln := ln) (col := col) (by rw [HN.out]; omega)
                have hcl := closedT_len T F (e' + 1) ln col
                rw [HN.out] at hcl
                obtain ⟨KK, hKK⟩ : ∃ KK, frK F e' = KK := ⟨_, rfl⟩
                rw [hKK] at p0 hr' hone hnot
                have t1 := nm_eq (a := KK) (by omega) 1 (by omega)
                rw [show (nm 1).toList = [98, 108, 111, 99, 107] by rw [Lib.toList_data]; rfl] at t1
                obtain ⟨T1, hT1⟩ : ∃ x, nm KK = x := ⟨_, rfl⟩
                rw [hT1] at p0 t1
                have HONE := Lib.hid hone
                have HNOT := Lib.hid hnot
                clear hT1 hone hnot hKK hcq hcast hg p1
                by_cases hk1 : KK = 1
                · have HC1 := Lib.hid (HONE.out hk1)
                  simp only [hk1, decide_true] at t1
                  clear hk1
                  go_wp2_with fail
                  refine (made_any (Z := Z3 Z p) (ln := ln) (col := col) (due := due) ⟨#[125]⟩ _ HR.out (by omega)).mono ?_
                  rintro e w3 ⟨vt3, vf3, rfl, hr3, hh3⟩
                  obtain ⟨T3, hT3⟩ : ∃ T3, closedT T F (e' + 1) ln col ++ [⟨5, ⟨#[125]⟩, 0, ln, col, true⟩] = T3 := ⟨_, rfl⟩
                  rw [hT3] at hr3
                  have HC2 := Lib.hid (show closedT T F e' ln col = T3 from HC1.out.trans hT3)
                  clear hT3
                  have hx3 : Box w3 p RS _ := (hh3.block p (.inl (.inl (.inr rfl)))).trans HX.out
                  have hy3 : Box w3 (p + 1) PS _ := (hh3.block (p + 1) (.inl (.inr rfl))).trans HY.out
                  have hz3 : Box w3 (p + 1 + 1) RS _ := (hh3.block (p + 1 + 1) (.inr rfl)).trans HZ.out
                  obtain ⟨b3, c3, rfl⟩ := own_slice hr3.toks
                  obtain ⟨b4, c4, rfl⟩ := own_slice hr3.frames
                  have HX3 := Lib.hid hx3
                  have HY3 := Lib.hid hy3
                  have HZ3 := Lib.hid hz3
                  have HR3 := Lib.hid hr3
                  have HH3 := Lib.hid (HH.out.trans hh3.three)
                  have u0 := hx3.cell 0
                  have u1 := hx3.cell 1
                  have u2 := hx3.cell 2
                  have w0 := hx3.free 0
                  have w1' := hx3.free 1
                  have w2' := hx3.free 2
                  clear hx3 hy3 hz3 hr3 hh3 x0 x1 x2 f0 f1 f2 y0 y1 z0 z1 z2 e0 e1 e2
                  go_wp2
                  obtain ⟨k1, k2, k3, k4⟩ := st_put HR3.out HX3.out due
                  go_roundg (e' - (q + 1))
                  case measure => have := HE.out; omega
                  case rel => exact ⟨e', by omega, by omega, by go_num, _, _, k1, k3 _ _ _ HY3.out (by omega), k3 _ _ _ HZ3.out (by omega), by rw [HC2.out]; exact k2, k4 _ _ HH3.out (NZ.out _ (Nat.le_refl _))⟩
                · have HC1 := Lib.hid (HNOT.out hk1)
                  simp only [hk1, decide_false] at t1
                  clear hk1
                  go_wp2
                  go_roundg (e' - (q + 1))
                  case measure => have := HE.out; omega
                  case rel => exact ⟨e', by omega, by omega, by go_num, _, _, HX.out, HY.out, HZ.out, by rw [HC1.out]; exact HR.out, HH.out⟩
              · have hlt3' : ¬ (q : Int) < (e : Int) - 1 := by have := HE.out; omega
                obtain rfl : e = q + 1 := by have := HE.out; omega
                have hRF := HR.out
                rw [← HN.out] at hRF
                obtain ⟨g, hgb, _, _, hcap, _⟩ := own_at hRF.frames (by rw [HN.out]; omega)
                subst hgb
                rw [HN.out] at hcap
                have hcut := hRF.cut (q := q) (by rw [HN.out]; omega)
                have hqq : closedT T F q ln col = closedT T F (q + 1) ln col := closedT_skip (by rw [HN.out]; omega) (by rw [huK]; omega)
                have HCUT := Lib.hid hcut
                have HQQ := Lib.hid hqq
                have hq2 : (q : Int) ≤ c2 := by omega
                clear hRF hcut hqq
                go_wp2
                have r3 := HCUT.out.put HX.out (by decide) (by decide) 1 (.slice (some ⟨g, 0, none⟩) q c2)
                have b3 := HZ.out.far (a := ⟨p, 1, none⟩) (by simp; omega) (.slice (some ⟨g, 0, none⟩) q c2)
                have h3 := HH.out.setCell (a := ⟨p, 1, none⟩) (NZ.out _ (Nat.le_refl _)) (.slice (some ⟨g, 0, none⟩) q c2)
                obtain ⟨W, hW, q0, q1, q2, r4, h4⟩ := st_out r3.three h3 b3 (NZ.out _ (by omega)) due
                rw [hW]
                refine bodyPost_ret (v := stV (.slice b1 (closedT T F (q + 1) ln col).length c1) (.slice (some ⟨g, 0, none⟩) q c2) due) (by simp [results, Try.results57, go_sem, q0, q1, q2]) rfl ?_
                refine ⟨_, _, rfl, ?_, h4⟩
                rw [HQQ.out]
                exact r4
end Go.Proofs.Ytidmclaaggoahaa.Ly
