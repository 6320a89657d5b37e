/-
  THE LAW HeapFills: as many nodes as there are cells can stand in a heap, and no more; what is collected can be used again.
-/
import Derived.Test.YtbkklnihgejeoaaHpN
namespace Go.Proofs.Ytbkklnihgejeoaa.HeapFills
open Go.RowKit Mm Tm Hp
set_option linter.unusedVariables false
set_option linter.unusedSimpArgs false
structure Full (S : Hs) (c i : Nat) : Prop where
  good : Hp.Good S
  cap : S.cap = c
  live : S.live = i
  allocs : S.allocs = i
  used : S.used = i
  all : ∀ a, a < i → S.is a ≠ 0
  nd : ∀ a, a < i → S.nd a = ⟨2, a, []⟩
theorem Full.vac {S : Hs} {c i : Nat} (h : Full S c i) : IsVac S i := ⟨by rw [h.used]; exact Nat.le_refl _, h.all, h.good.above _ (by rw [h.used]; exact Nat.le_refl _)⟩
theorem Full.next {S : Hs} {c i : Nat} (h : Full S c i) (hi : i < c) : Full (S.put i ⟨2, i, []⟩) c (i + 1) := by
  refine ⟨put_good h.good h.vac (by rw [h.live, h.cap]; exact hi) (fun y hy => by simp at hy), h.cap, ?_, ?_, ?_, fun a ha => ?_, fun a ha => ?_⟩
  · show S.live + 1 = _; rw [h.live]
  · show S.allocs + 1 = _; rw [h.allocs]
  · show max S.used (i + 1) = _; rw [h.used]; omega
  · show upd S.is i 1 a ≠ 0
    unfold upd
    split
    · decide
    · exact h.all a (by omega)
  · show upd S.nd i ⟨2, i, []⟩ a = _
    unfold upd
    split
    · rename_i e; rw [e]
    · exact h.nd a (by omega)
theorem Full.lim {S : Hs} {c i : Nat} (h : Full S c i) : rest S S.is S.used ≤ i := by
  have := rest_le (S := S) (m := S.is) (k := 0) S.used (fun a ha _ => by rw [h.nd a (by rw [← h.used]; exact ha)]; exact Nat.le_refl _)
  rw [h.used] at this ⊢
  omega
def want (keep j : Nat) : Nat := if j < keep then j else j + 1
theorem want_lt {a keep j : Nat} (e : a ≠ want keep j) : (a = keep ∨ a < want keep j) ↔ (a = keep ∨ a < want keep (j + 1)) := by
  rcases Nat.lt_trichotomy (j + 1) keep with h | h | h
  · have e1 : want keep j = j := if_pos (by omega)
    have e2 : want keep (j + 1) = j + 1 := if_pos h
    rw [e1] at e
    rw [e1, e2]
    omega
  · have e1 : want keep j = j := if_pos (by omega)
    have e2 : want keep (j + 1) = j + 1 + 1 := if_neg (by omega)
    rw [e1] at e
    rw [e1, e2]
    omega
  · have e1 : want keep j = j + 1 := if_neg (by omega)
    have e2 : want keep (j + 1) = j + 1 + 1 := if_neg (by omega)
    rw [e1] at e
    rw [e1, e2]
    omega
structure Again (S : Hs) (c keep j : Nat) : Prop where
  good : Hp.Good S
  cap : S.cap = c
  live : S.live = j + 1
  allocs : S.allocs = c + j
  is : ∀ a, S.is a ≠ 0 ↔ (a = keep ∨ a < want keep j)
  nd : S.nd keep = ⟨2, keep, []⟩
theorem Again.start {S S' : Hs} {c keep : Nat} (h : Full S c c) (hk : keep < c) (hc : Coll S [(keep : Int)] S') : Again S' c keep 0 := by
  have hr : ∀ x, Rch S [(keep : Int)] x → x = keep := fun x hx => by
    induction hx with
    | root h => simpa using h
    | step _ hx ih =>
      subst ih
      rw [show (keep : Int).toNat = keep from rfl, h.nd keep hk] at hx
      simp at hx
  have h1 : S'.is keep = 1 := hc.yes keep (.root (by simp))
  have h0 : ∀ a : Nat, a ≠ keep → S'.is a = 0 := fun a ha => hc.no a fun q => ha (by have := hr _ q; omega)
  have hu : keep + 1 ≤ S'.used := by
    apply Classical.byContradiction
    intro q
    have := hc.good.above keep (by omega)
    omega
  refine ⟨hc.good, hc.cap.trans h.cap, ?_, hc.allocs.trans h.allocs, fun a => ?_, by rw [hc.nd]; exact h.nd keep hk⟩
  · rw [hc.good.live, cnt_zero S'.used hu fun a ha => h0 a (by omega)]
    unfold cnt
    rw [h1, cnt_congr (g := fun _ => 0) keep fun a ha => by rw [h0 a (by omega)]]
    have : cnt (fun _ => 0) keep = 0 := by
      clear hu h0 h1 hr hc hk h
      induction keep with
      | zero => rfl
      | succ n ih => unfold cnt; rw [ih]; rfl
    rw [this]
    rfl
  · constructor
    · intro q
      refine .inl ?_
      apply Classical.byContradiction
      intro e
      exact q (h0 a e)
    · rintro (e | e)
      · rw [e, h1]; decide
      · unfold want at e
        split at e
        · omega
        · have : a = keep := by omega
          rw [this, h1]; decide
theorem Again.vac {S : Hs} {c keep j : Nat} (h : Again S c keep j) : IsVac S (want keep j) := by
  refine ⟨?_, fun a ha => (h.is a).2 (.inr ha), ?_⟩
  · apply Classical.byContradiction
    intro q
    exact (h.is S.used).2 (.inr (by omega)) (h.good.above _ (Nat.le_refl _))
  · apply Classical.byContradiction
    intro q
    rcases (h.is _).1 q with e | e
    · unfold want at e
      split at e <;> omega
    · omega
theorem Again.holds {S : Hs} {c keep j : Nat} (h : Again S c keep j) : S.held keep = true := by
  have h1 : S.is keep ≠ 0 := (h.is keep).2 (.inl rfl)
  refine Hs.held_iff.2 ⟨by omega, ?_, h1⟩
  apply Classical.byContradiction
  intro q
  exact h1 (h.good.above keep (by omega))
theorem Again.next {S : Hs} {c keep j : Nat} (h : Again S c keep j) (hj : j + 1 < c) : Again (S.put (want keep j) ⟨5, 0, [(keep : Int)]⟩) c keep (j + 1) := by
  have hv := h.vac
  refine ⟨put_good h.good hv (by rw [h.live, h.cap]; exact hj) (fun y hy => by rw [List.mem_singleton.1 hy]; exact h.holds), h.cap, ?_, ?_, fun a => ?_, ?_⟩
  · show S.live + 1 = _; rw [h.live]
  · show S.allocs + 1 = _; rw [h.allocs]; omega
  · show upd S.is (want keep j) 1 a ≠ 0 ↔ _
    by_cases e : a = want keep j
    · rw [e, upd_same]
      refine ⟨fun _ => ?_, fun _ => by decide⟩
      unfold want
      split <;> split <;> omega
    · rw [upd_other _ _ e, h.is a]
      exact want_lt e
  · show upd S.nd (want keep j) _ keep = _
    rw [upd_other]
    · exact h.nd
    · unfold want
      split <;> omega
structure L1 (w : World) (c : Nat) (d : Nat) (i : Value) (wr : World) : Prop where
  mem : ∃ (k : Nat) (S : Hs), k + d = c ∧ i = .int .i64 k ∧ HpI w.heap.size (fun _ => False) wr w.heap.size S ∧ Full S c k
  kept : KH w.heap.size w wr
structure L2 (w : World) (c keep : Nat) (d : Nat) (i : Value) (wr : World) : Prop where
  mem : ∃ (k : Nat) (S : Hs), k + d + 1 = c ∧ i = .int .i64 k ∧ HpI w.heap.size (fun _ => False) wr w.heap.size S ∧ Again S c keep k
  kept : KH w.heap.size w wr
set_option maxRecDepth 100000 in
set_option maxHeartbeats 8000000 in
theorem law (c : Int) (hc1 : -9223372036854775808 ≤ c) (hc2 : c ≤ 9223372036854775807) (keep : Int) (hk1 : -9223372036854775808 ≤ keep) (hk2 : keep ≤ 9223372036854775807) (w : World) :
    Calls Try.prog 5 #[.int .i64 c, .int .i64 keep] w fun e w' => e = .returned (.bool true) ∧ Below w.heap.size w w' := by
  have HKN := Lib.hid (fun w => known_any w)
  by_cases hbad : c < 1 ∨ 1000 < c ∨ keep < 0 ∨ c ≤ keep
  · go_enter Try.func5, Try.ntmps5
    by_cases h1 : c < 1
    · go_wp2_with fail
      refine (HKN.out _).mono ?_
      rintro e w' ⟨rfl, hb⟩
      go_wp2_with fail
      go_ret
      exact ⟨rfl, hb⟩
    by_cases h2 : 1000 < c
    · go_wp2_with fail
      refine (HKN.out _).mono ?_
      rintro e w' ⟨rfl, hb⟩
      go_wp2_with fail
      go_ret
      exact ⟨rfl, hb⟩
    by_cases h3 : keep < 0
    · go_wp2_with fail
      refine (HKN.out _).mono ?_
      rintro e w' ⟨rfl, hb⟩
      go_wp2_with fail
      go_ret
      exact ⟨rfl, hb⟩
    have h4 : c ≤ keep := by omega
    go_wp2_with fail
    refine (HKN.out _).mono ?_
    rintro e w' ⟨rfl, hb⟩
    go_wp2_with fail
    go_ret
    exact ⟨rfl, hb⟩
  · obtain ⟨c, rfl⟩ : ∃ n : Nat, c = n := ⟨c.toNat, by omega⟩
    obtain ⟨keep, rfl⟩ : ∃ n : Nat, keep = n := ⟨keep.toNat, by omega⟩
    have h1 : 1 ≤ c := by omega
    have h2 : c ≤ 1000 := by omega
    have h3 : keep < c := by omega
    have q1 : decide ((c : Int) < 1) = false := decide_eq_false (by omega)
    have q2 : decide ((1000 : Int) < c) = false := decide_eq_false (by omega)
    have q3 : decide ((keep : Int) < 0) = false := decide_eq_false (by omega)
    have q4 : decide ((c : Int) ≤ keep) = false := decide_eq_false (by omega)
    have q5 : decide (c ≤ keep) = false := decide_eq_false (by omega)
    have HN := Lib.hid (new_any (fun _ => False) c w h1 (by omega))
    clear hbad hc1 hc2 hk1 hk2
    go_enter Try.func5, Try.ntmps5
    go_wp2_with fail
    refine HN.out.mono ?_
    rintro e w1 ⟨rfl, hp1, hb1⟩
    have HL1 := Lib.hid (show L1 w c c (.int .i64 0) w1 from ⟨⟨0, Hp.start c, by omega, rfl, hp1, ⟨Hp.start_good (by omega), rfl, rfl, rfl, rfl, fun a h => by omega, fun a h => by omega⟩⟩, KG.of_below hb1 (Nat.le_refl _)⟩)
    clear hp1 hb1 q1 q2 q3 q4 q5
    go_wp2_with fail
    go_loopg [7] c (fun d i wr => L1 w c d i wr)
    case atStart => exact HL1.out
    case round =>
      obtain ⟨⟨k, S, hd, rfl, hp, hf⟩, hkh⟩ := hrel
      have HP := Lib.hid hp
      have HF := Lib.hid hf
      have HK := Lib.hid hkh
      have HD := Lib.hid hd
      have hkc : k ≤ c := by omega
      clear hp hf hkh hd
      by_cases hlt : k < c
      · have HA := Lib.hid (alloc_ok (x := ⟨2, k, []⟩) (a := none) (c := 0) wr HP.out HF.out.good (NdA.zero _ _ _ _) rfl (by rw [HF.out.live, HF.out.cap]; exact hlt) (by rw [HF.out.allocs]; omega) (fun b q => q.elim))
        simp only [List.length_nil] at HA
        go_wp2_with fail
        with_reducible refine HA.out.mono ?_
        rintro e w2 ⟨k', hv, rfl, hp2, hk2⟩
        obtain rfl := hv.unique HF.out.vac
        have HE := Lib.hid (show L1 w c (c - (k' + 1)) (.int .i64 ((k' : Int) + 1)) w2 from ⟨⟨k' + 1, _, by omega, rfl, hp2, HF.out.next hlt⟩, HK.out.trans hk2⟩)
        clear hv hp2 hk2
        go_wp2_with fail
        go_roundg (c - (k' + 1))
        case measure => have := HD.out; omega
        case rel => exact HE.out
      · obtain rfl : k = c := by omega
        have HA := Lib.hid (alloc_full (x := ⟨0, 0, []⟩) (a := none) (c := 0) wr HP.out (NdA.zero _ _ _ _) rfl (by rw [HF.out.live, HF.out.cap]))
        simp only [List.length_nil] at HA
        go_wp2_with fail
        with_reducible refine HA.out.mono ?_
        rintro e w2 ⟨rfl, hb2⟩
        obtain ⟨W3, hW3⟩ : ∃ W3, w2.alloc (.cells #[.int .i64 keep] TI) = W3 := ⟨_, rfl⟩
        have hbW3 : Below w2.heap.size w2 W3 := by rw [← hW3]; exact (Below.refl w2.heap.size w2).alloc (Nat.le_refl _) _
        have hp3 := (HP.out.below hb2).below hbW3
        have hrd : RdI (ZA w.heap.size W3) W3 (some ⟨w2.heap.size, 0, none⟩) [(keep : Int)] := by
          rw [← hW3]
          intro i x hx
          match i, hx with
          | 0, hx =>
            injection hx with hx
            subst hx
            exact ⟨_, rfl, ⟨by simp, .inr ⟨_, Box.new w2 _ _⟩⟩, (Box.new w2 #[.int .i64 keep] TI).cell 0⟩
        have hhold : S.holds [(keep : Int)] = true := by
          rw [holds_one]
          exact Hs.held_iff.2 ⟨by omega, by rw [HF.out.used]; omega, HF.out.all keep h3⟩
        have HC := Lib.hid (collect_ok (roots := [(keep : Int)]) (c := 1) W3 hp3 HF.out.good hrd hhold (by have := HF.out.lim; simp; omega))
        simp only [List.length_singleton] at HC
        have HK3 := Lib.hid ((HK.out.trans (KG.of_below hb2 (Nat.le_refl _))).trans (KG.of_below hbW3 (Nat.le_refl _)) : KH w.heap.size w W3)
        clear hb2 hbW3 hp3 hrd hhold
        go_wp2_with fail
        with_reducible refine HC.out.mono ?_
        rintro e w5 ⟨S5, hcl, rfl, hp5, hk5⟩
        have hag := Again.start HF.out h3 hcl
        have hn5 : (S.live : Int) - S5.live = (k : Int) - 1 := by rw [hag.live, HF.out.live]; omega
        rw [hn5]
        have HL2 := Lib.hid (show L2 w k keep (k - 1) (.int .i64 0) w5 from ⟨⟨0, S5, by omega, rfl, hp5, hag⟩, HK3.out.trans hk5⟩)
        clear hcl hp5 hk5 hag hn5 hW3
        go_wp2_with fail
        go_loopg [14] (k - 1) (fun d i wr => L2 w k keep d i wr)
        case atStart => exact HL2.out
        case round =>
          obtain ⟨⟨j, T, hd, rfl, hp, hf⟩, hkh⟩ := hrel
          have HPT := Lib.hid hp
          have HFT := Lib.hid hf
          have HKT := Lib.hid hkh
          have HDT := Lib.hid hd
          have hjc : j + 1 ≤ k := by omega
          clear hp hf hkh hd
          by_cases hlt : j + 1 < k
          · have g1 : decide ((j : Int) < (k : Int) - 1) = true := decide_eq_true (by omega)
            obtain ⟨W3, hW3⟩ : ∃ W3, wr.alloc (.cells #[.int .i64 keep] TI) = W3 := ⟨_, rfl⟩
            have hbW3 : Below wr.heap.size wr W3 := by rw [← hW3]; exact (Below.refl wr.heap.size wr).alloc (Nat.le_refl _) _
            have hp3 := HPT.out.below hbW3
            have hrd : RdI (ZA w.heap.size W3) W3 (some ⟨wr.heap.size, 0, none⟩) [(keep : Int)] := by
              rw [← hW3]
              intro i x hx
              match i, hx with
              | 0, hx =>
                injection hx with hx
                subst hx
                exact ⟨_, rfl, ⟨by simp, .inr ⟨_, Box.new wr _ _⟩⟩, (Box.new wr #[.int .i64 keep] TI).cell 0⟩
            have HA := Lib.hid (alloc_ok (x := ⟨5, 0, [(keep : Int)]⟩) (c := 1) W3 hp3 HFT.out.good ⟨hrd, by simp⟩ (by show T.holds [(keep : Int)] = true; rw [holds_one]; exact HFT.out.holds) (by rw [HFT.out.live, HFT.out.cap]; exact hlt) (by rw [HFT.out.allocs]; omega) (fun b q => q.elim))
            simp only [List.length_singleton] at HA
            have HK3 := Lib.hid (HKT.out.trans (KG.of_below hbW3 (Nat.le_refl _)) : KH w.heap.size w W3)
            clear hbW3 hp3 hrd
            by_cases hjk : keep ≤ j
            · have g2 : decide (keep ≤ j) = true := decide_eq_true hjk
              have HWN := Lib.hid (show want keep j = j + 1 from if_neg (by omega))
              go_wp2_with fail
              with_reducible refine HA.out.mono ?_
              rintro e w6 ⟨k', hv, rfl, hp6, hk6⟩
              obtain rfl := hv.unique HFT.out.vac
              have HE := Lib.hid (show L2 w k keep (k - 1 - (j + 1)) (.int .i64 ((j : Int) + 1)) w6 from ⟨⟨j + 1, _, by omega, rfl, hp6, HFT.out.next hlt⟩, HK3.out.trans hk6⟩)
              rw [HWN.out]
              have hcs : (((j + 1 : Nat) : Int)) = (j : Int) + 1 := rfl
              rw [hcs]
              clear hv hp6 hk6 hcs hW3
              go_wp2_with fail
              go_roundg (k - 1 - (j + 1))
              case measure => have := HDT.out; omega
              case rel => exact HE.out
            · have g2 : decide (keep ≤ j) = false := decide_eq_false hjk
              have HWN := Lib.hid (show want keep j = j from if_pos (by omega))
              go_wp2_with fail
              with_reducible refine HA.out.mono ?_
              rintro e w6 ⟨k', hv, rfl, hp6, hk6⟩
              obtain rfl := hv.unique HFT.out.vac
              have HE := Lib.hid (show L2 w k keep (k - 1 - (j + 1)) (.int .i64 ((j : Int) + 1)) w6 from ⟨⟨j + 1, _, by omega, rfl, hp6, HFT.out.next hlt⟩, HK3.out.trans hk6⟩)
              rw [HWN.out]
              clear hv hp6 hk6 hW3
              go_wp2_with fail
              go_roundg (k - 1 - (j + 1))
              case measure => have := HDT.out; omega
              case rel => exact HE.out
          · obtain rfl : k = j + 1 := by omega
            have g1 : decide ((j : Int) < ((j + 1 : Nat) : Int) - 1) = false := decide_eq_false (by omega)
            have HG := Lib.hid (by have := get_ok (k := keep) wr HPT.out HFT.out.holds; rw [HFT.out.nd] at this; exact this)
            go_wp2_with fail
            with_reducible refine HG.out.mono ?_
            rintro e w6 ⟨va, vc, rfl, ho6, hb6⟩
            have hp6 := HPT.out.below hb6
            obtain ⟨W7, hW7⟩ : ∃ W7, w6.alloc (.cells #[.int .i64 2, .int .i64 keep, .slice va 0 vc] TN) = W7 := ⟨_, rfl⟩
            have hb7 : Below w6.heap.size w6 W7 := by rw [← hW7]; exact (Below.refl w6.heap.size w6).alloc (Nat.le_refl _) _
            have hx7 : Box W7 w6.heap.size TN #[.int .i64 2, .int .i64 keep, .slice va 0 vc] := by rw [← hW7]; exact Box.new _ _ _
            have hp7 := hp6.below hb7
            have HA := Lib.hid (alloc_full (x := ⟨0, 0, []⟩) (a := none) (c := 0) W7 hp7 (NdA.zero _ _ _ _) rfl (by rw [HFT.out.live, HFT.out.cap]))
            simp only [List.length_nil] at HA
            have HK7 := Lib.hid ((HKT.out.trans (KG.of_below hb6 (Nat.le_refl _))).trans (KG.of_below hb7 (Nat.le_refl _)) : KH w.heap.size w W7)
            have HX7 := Lib.hid hx7
            clear ho6 hb6 hp6 hb7 hx7 hp7
            simp only [List.length_nil]
            go_wp2_with fail
            with_reducible refine HA.out.mono ?_
            rintro e w8 ⟨rfl, hb8⟩
            have x1 := (HX7.out.below hb8 HX7.out.lt).cell 1
            have HK8 := Lib.hid (HK7.out.trans (KG.of_below hb8 (Nat.le_refl _)))
            clear hb8 hW7
            go_wp2_with fail
            refine (HKN.out _).mono ?_
            rintro e w9 ⟨rfl, hb9⟩
            have HK9 := Lib.hid (HK8.out.trans (KG.of_below hb9 (Nat.le_refl _)))
            clear hb9
            go_wp2_with fail
            go_ret
            exact ⟨rfl, HK9.out.below (Nat.le_refl _)⟩
end Go.Proofs.Ytbkklnihgejeoaa.HeapFills
