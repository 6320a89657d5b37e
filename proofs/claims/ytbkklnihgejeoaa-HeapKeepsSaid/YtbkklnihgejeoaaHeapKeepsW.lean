/-
  THE LAW HeapKeeps: to what a root leads stays as it is through a collection, and all else is free.
-/
import Derived.Test.YtbkklnihgejeoaaHpS
import Derived.Test.YtbkklnihgejeoaaHpT
namespace Go.Proofs.Ytbkklnihgejeoaa.HeapKeeps
open Go.RowKit Mm Tm Hp Ha
set_option linter.unusedVariables false
set_option linter.unusedSimpArgs false
theorem infoN : (Try.prog.info? TN).map (fun i => (i.zero, i.size, i.bytes)) = some (some (.agg #[.int .i64 0, .int .i64 0, .slice none 0 0]), 3, 40) := by kernel_rfl
theorem rdT_keep {w w' : World} {a : Option Addr} {l : List Int} {P : Nat → Prop} (hr : RdI (TyB TI w) w a l) (hk : Kept P w w') (hP : ∀ b, P b → ¬ TyB TI w b) : RdI (TyB TI w') w' a l := by
  intro i x hx
  obtain ⟨ad, h1, h2, h3⟩ := hr i x hx
  have hb := hk.block ad.block h2.lt (fun q => hP _ q h2)
  exact ⟨ad, h1, h2.same hb, (World.cell?_of_block (w := w) (w' := w') (by rw [Tm.add_block]; exact hb)).trans h3⟩
/-- the cells of nodes in a row, whose numbers lie in blocks of numbers -/
def RowNd (w : World) (vs : List Value) (l : List Nd) : Prop := vs.length = l.length * 3 ∧ ∀ (i : Nat) x, l[i]? = some x → ∃ a c, vs[i * 3]? = some (.int .i64 x.tag) ∧ vs[i * 3 + 1]? = some (.int .i64 x.n) ∧ vs[i * 3 + 2]? = some (.slice a x.l.length c) ∧ RdI (TyB TI w) w a x.l
theorem RowNd.keep {w w' : World} {vs : List Value} {l : List Nd} {P : Nat → Prop} (h : RowNd w vs l) (hk : Kept P w w') (hP : ∀ b, P b → ¬ TyB TI w b) : RowNd w' vs l :=
  ⟨h.1, fun i x hx => by
    obtain ⟨a, c, h1, h2, h3, h4⟩ := h.2 i x hx
    exact ⟨a, c, h1, h2, h3, rdT_keep h4 hk hP⟩⟩
theorem RowNd.snoc {w : World} {vs : List Value} {l : List Nd} {x : Nd} {a : Option Addr} {c : Nat} (h : RowNd w vs l) (hr : RdI (TyB TI w) w a x.l) : RowNd w (vs ++ [.int .i64 x.tag, .int .i64 x.n, .slice a x.l.length c]) (l ++ [x]) := by
  refine ⟨by rw [List.length_append, h.1, List.length_append]; simp; omega, fun i y hy => ?_⟩
  by_cases hi : i < l.length
  · rw [List.getElem?_append_left hi] at hy
    obtain ⟨b, d, h1, h2, h3, h4⟩ := h.2 i y hy
    have hl := h.1
    exact ⟨b, d, by rw [List.getElem?_append_left (by omega)]; exact h1, by rw [List.getElem?_append_left (by omega)]; exact h2, by rw [List.getElem?_append_left (by omega)]; exact h3, h4⟩
  · rw [List.getElem?_append_right (by omega)] at hy
    have h0 : i = l.length := by
      have := (List.getElem?_eq_some_iff.1 hy).1
      simp at this
      omega
    subst h0
    rw [Nat.sub_self] at hy
    injection hy with hy
    subst hy
    have hl := h.1
    exact ⟨a, c, by rw [List.getElem?_append_right (by omega), hl, Nat.sub_self]; rfl, by rw [List.getElem?_append_right (by omega), hl, show l.length * 3 + 1 - l.length * 3 = 1 by omega]; rfl, by rw [List.getElem?_append_right (by omega), hl, show l.length * 3 + 2 - l.length * 3 = 2 by omega]; rfl, hr⟩
/-- a row of nodes of the call's own -/
def OwnNd (B : Nat) (w : World) (v : Value) (l : List Nd) : Prop := ∃ vs, w.ownsRow B TN 3 v l.length vs ∧ RowNd w vs l
theorem own_notI {B : Nat} {w : World} {v : Value} {n : Nat} {xs : List Value} (h : w.ownsRow B TN 3 v n xs) : ∀ k, v.ownBlock = some k → ¬ TyB TI w k := fun k hk q => by
  rcases h.2 with ⟨rfl, _⟩ | ⟨g, cap, cur, rfl, _, hh, _⟩
  · simp [Value.ownBlock] at hk
  · have : g = k := by simpa [Value.ownBlock] using hk
    subst this
    exact absurd (tyB_ne q (show Box w g TN cur from hh)) (by decide)
structure K1 (w : World) (S : Hs) (keep : List Int) (d : Nat) (v i : Value) (wr : World) : Prop where
  mem : ∃ k : Nat, k + d = keep.length ∧ i = .int .i64 k ∧ OwnNd w.heap.size wr v ((keep.take k).map fun x => S.nd x.toNat)
  below : Below w.heap.size w wr
theorem own_rdT {B : Nat} {w : World} {a : Option Addr} {n c : Nat} {l : List Int} (h : OwnI B TI w (.slice a n c) l) : RdI (TyB TI w) w a l := (OwnI.readsT h).mono fun b q => q.2.1
set_option maxRecDepth 100000 in
set_option maxHeartbeats 16000000 in
theorem law (c : Int) (hc1 : -9223372036854775808 ≤ c) (hc2 : c ≤ 9223372036854775807) (a : Option Addr) (n lc : Nat) (hn : n ≤ 9223372036854775807) (l : List HOp) (root : Int) (hr1 : -9223372036854775808 ≤ root) (hr2 : root ≤ 9223372036854775807) (w : World) (hr : l.length = n ∧ RdO (· < w.heap.size) w a l) :
    Calls Try.prog 4 #[.int .i64 c, .slice a n lc, .int .i64 root] w fun e w' => e = .returned (.bool true) ∧ Below w.heap.size w w' := by
  obtain ⟨rfl, hr⟩ := hr
  have HKN := Lib.hid (fun w => known_any w)
  have HFW := Lib.hid (few_any (c := lc) w hr hn)
  have HR := Lib.hid hr
  have HRT := Lib.hid (right_any c w)
  clear hr
  go_enter Try.func4, Try.ntmps4
  by_cases hf : fewB l = true
  case neg =>
    have hf : fewB l = false := by simpa using hf
    rw [hf] at HFW
    clear hf
    go_wp2_with fail
    with_reducible refine HFW.out.mono ?_
    rintro e w' ⟨rfl, rfl⟩
    go_wp2_with fail
    refine (HKN.out _).mono ?_
    rintro e w' ⟨rfl, hb⟩
    go_wp2_with fail
    go_ret
    exact ⟨rfl, hb⟩
  rw [hf] at HFW
  have HF := Lib.hid hf
  clear hf
  by_cases h1 : 1 ≤ c ∧ c ≤ 16777216
  case neg =>
    have hz : (decide (1 ≤ c) && decide (c ≤ 16777216)) = false := by
      apply Bool.eq_false_iff.2
      intro q
      simp only [Bool.and_eq_true, decide_eq_true_eq] at q
      exact h1 q
    rw [hz] at HRT
    clear hz h1
    go_wp2_with fail
    with_reducible refine HFW.out.mono ?_
    rintro e w' ⟨rfl, rfl⟩
    go_wp2_with fail
    with_reducible refine HRT.out.mono ?_
    rintro e w' ⟨rfl, rfl⟩
    go_wp2_with fail
    refine (HKN.out _).mono ?_
    rintro e w' ⟨rfl, hb⟩
    go_wp2_with fail
    go_ret
    exact ⟨rfl, hb⟩
  rw [decide_eq_true h1.1, decide_eq_true h1.2] at HRT
  obtain ⟨c, rfl⟩ : ∃ n : Nat, c = n := ⟨c.toNat, by omega⟩
  have h3 : 1 ≤ c := by omega
  have h4 : c ≤ 16777216 := by omega
  have HPD := Lib.hid (played_any (lc := lc) w HR.out HF.out h3 h4)
  clear h1 hc1 hc2
  rw [Bool.and_true] at HRT
  go_wp2_with fail
  with_reducible refine HFW.out.mono ?_
  rintro e w' ⟨rfl, rfl⟩
  go_wp2_with fail
  with_reducible refine HRT.out.mono ?_
  rintro e w' ⟨rfl, rfl⟩
  go_wp2_with fail
  with_reducible refine HPD.out.mono ?_
  rintro e w1 ⟨S, rfl, hp1, hpl, hb1⟩
  have HPL := Lib.hid hpl
  by_cases hh : S.held root = true
  case neg =>
    have hh : S.held root = false := by simpa using hh
    have HGT := Lib.hid (get_no w1 hp1 hh)
    have HP1 := Lib.hid hp1
    have HB1 := Lib.hid hb1
    have HHH := Lib.hid hh
    clear hp1 hpl hb1 hh
    go_wp2_with fail
    with_reducible refine HGT.out.mono ?_
    rintro e w2 ⟨rfl, hb2⟩
    have hb3 := hb2.trans ((Below.refl w2.heap.size w2).alloc (Nat.le_refl _) (.cells #[.int .i64 0, .int .i64 0, .slice none 0 0] TN) |>.mono hb2.size)
    have hb4 := hb3.trans ((Below.refl _ (w2.alloc (.cells #[.int .i64 0, .int .i64 0, .slice none 0 0] TN))).alloc (Nat.le_refl _) (.cells #[.int .i64 root] TI) |>.mono hb3.size)
    have hsz : (w2.alloc (.cells #[.int .i64 0, .int .i64 0, .slice none 0 0] TN)).heap.size = w2.heap.size + 1 := by simp
    have HC := Lib.hid (by
      have := collect_no (roots := [root]) (c := 1) ((w2.alloc (.cells #[.int .i64 0, .int .i64 0, .slice none 0 0] TN)).alloc (.cells #[.int .i64 root] TI)) (HP1.out.below hb4) (one_rd (w2.alloc (.cells #[.int .i64 0, .int .i64 0, .slice none 0 0] TN)) root) (by simp) (by rw [holds_one]; exact HHH.out)
      rw [hsz] at this
      simp only [List.length_singleton] at this
      exact this)
    have HB4 := Lib.hid (HB1.out.trans (hb4.mono HB1.out.size))
    clear hb2 hb3 hb4 hsz
    go_wp2_with fail
    with_reducible refine HC.out.mono ?_
    rintro e w' ⟨rfl, rfl⟩
    go_wp2_with fail
    refine (HKN.out _).mono ?_
    rintro e w' ⟨rfl, hb⟩
    have HBE := Lib.hid (HB4.out.trans (hb.mono HB4.out.size))
    clear hb
    go_wp2_with fail
    go_ret
    exact ⟨rfl, HBE.out⟩
  obtain ⟨root, rfl⟩ : ∃ r : Nat, root = r := ⟨root.toNat, by have := (Hs.held_iff.1 hh).1; omega⟩
  have HGT := Lib.hid (get_ok (k := root) w1 hp1 hh)
  have HP1 := Lib.hid hp1
  have HB1 := Lib.hid hb1
  have HHH := Lib.hid hh
  clear hp1 hpl hb1 hh
  go_wp2_with fail
  with_reducible refine HGT.out.mono ?_
  rintro e w2 ⟨va, vc, rfl, _, hb2⟩
  obtain ⟨W3, hW3⟩ : ∃ W3, w2.alloc (.cells #[.int .i64 (S.nd root).tag, .int .i64 (S.nd root).n, .slice va (S.nd root).l.length vc] TN) = W3 := ⟨_, rfl⟩
  have hb3 : Below w2.heap.size w2 W3 := by rw [← hW3]; exact (Below.refl w2.heap.size w2).alloc (Nat.le_refl _) _
  have hb23 := hb2.trans (hb3.mono hb2.size)
  have HP3 := Lib.hid (HP1.out.below hb23)
  have HB3 := Lib.hid (HB1.out.trans (hb23.mono HB1.out.size))
  have HRC := Lib.hid (reached_any (c := c) W3 HP3.out HPL.out HHH.out)
  clear hb2 hb3 hb23
  go_wp2_with fail
  with_reducible refine HRC.out.mono ?_
  rintro e w4 ⟨kv, keep, rfl, hko, hnd, hreach, hb4⟩
  obtain ⟨ka, kc, rfl⟩ := hko.slice
  have HKO := Lib.hid hko
  have HND := Lib.hid hnd
  have HRE := Lib.hid hreach
  have HP4 := Lib.hid (HP3.out.below hb4)
  have HB4 := Lib.hid (HB3.out.trans (hb4.mono HB3.out.size))
  have hRR : ∀ x ∈ [(root : Int)], S.held x = true := fun x hx => by rw [List.mem_singleton.1 hx]; exact HHH.out
  have HHELD := Lib.hid (show ∀ x ∈ keep, S.held x = true from fun x hx => ((hreach x).1 hx).held HPL.out.good hRR)
  have hklen : keep.length ≤ 400 := by
    have h1 := length_le_cells hnd (f := S.is) (n := S.used) fun x hx => Hs.held_iff.1 (HHELD.out x hx)
    have h2 := HPL.out.good.live
    have h3 := HPL.out.liv
    have h4 := HPL.out.allocs
    omega
  obtain ⟨j0, hinf, hz0, hz1, hz2⟩ := info_parts infoN
  clear hko hnd hreach hb4 hW3
  go_wp2_with fail
  go_loopg [13, 14] keep.length (fun d v i wr => K1 w4 S keep d v i wr)
  case atStart => exact ⟨⟨0, by omega, rfl, [], World.ownsRow_nil _ _ _ _, by simp, fun i x hx => by simp at hx⟩, Below.refl _ _⟩
  case round =>
    obtain ⟨⟨k, hd, rfl, vs, ho, hrow⟩, hb⟩ := hrel
    have HD := Lib.hid hd
    have HO := Lib.hid ho
    have HROW := Lib.hid hrow
    have HB := Lib.hid hb
    have hkl : k ≤ keep.length := by omega
    have hl0 : ((keep.take k).map fun x => S.nd x.toNat).length = k := by rw [List.length_map, List.length_take]; omega
    rw [hl0] at ho
    have HOK := Lib.hid ho
    have HL0 := Lib.hid hl0
    obtain ⟨na, nc, rfl⟩ := own_slice ho
    by_cases hlt : k < keep.length
    · have hx := List.getElem?_eq_getElem hlt
      obtain ⟨kg, rfl, _, hkg2, _, hkc⟩ := own_at HKO.out (by omega)
      have hcx := hkc k (by omega)
      rw [List.getElem?_map, hx] at hcx
      have hcw := (hb.cell (p := ⟨kg, k, none⟩) hkg2).trans hcx
      have hheld := HHELD.out _ (List.getElem_mem hlt)
      have htk : keep.take (k + 1) = keep.take k ++ [keep[k]] := by rw [List.take_add_one, hx]; rfl
      have HTK := Lib.hid htk
      generalize hxx : keep[k] = x at *
      obtain ⟨m, rfl⟩ : ∃ m : Nat, x = m := ⟨x.toNat, by have := (Hs.held_iff.1 hheld).1; omega⟩
      have hcw : wr.cell? ⟨kg, k, none⟩ = some (.int .i64 m) := hcw
      have HG := Lib.hid (get_ok (k := m) wr (HP4.out.below hb) hheld)
      clear hd ho hrow hb hx hkc hcx hheld htk hxx hkg2 hl0
      go_wp2_with fail
      with_reducible refine HG.out.mono ?_
      rintro e w5 ⟨va5, vc5, rfl, ho5, hb5⟩
      obtain ⟨W6, hW6⟩ : ∃ W6, w5.alloc (.cells #[.int .i64 (S.nd m).tag, .int .i64 (S.nd m).n, .slice va5 (S.nd m).l.length vc5] TN) = W6 := ⟨_, rfl⟩
      have hb6 : Below w5.heap.size w5 W6 := by rw [← hW6]; exact (Below.refl w5.heap.size w5).alloc (Nat.le_refl _) _
      have hx6 : Box W6 w5.heap.size TN #[.int .i64 (S.nd m).tag, .int .i64 (S.nd m).n, .slice va5 (S.nd m).l.length vc5] := by rw [← hW6]; exact Box.new _ _ _
      obtain ⟨W7, hW7⟩ : ∃ W7, W6.alloc (.cells #[.int .i64 (S.nd m).tag, .int .i64 (S.nd m).n, .slice va5 (S.nd m).l.length vc5] TN) = W7 := ⟨_, rfl⟩
      have hb7 : Below W6.heap.size W6 W7 := by rw [← hW7]; exact (Below.refl W6.heap.size W6).alloc (Nat.le_refl _) _
      have hb57 := hb5.trans ((hb6.trans (hb7.mono hb6.size)).mono hb5.size)
      have hk57 := Kept.of_below hb57 (Nat.le_refl _) (fun _ => False)
      have HO7 := Lib.hid (own_here HOK.out hb57)
      have HROW7 := Lib.hid (HROW.out.keep hk57 fun b q => q.elim)
      have HRD7 := Lib.hid (rdT_keep (own_rdT ho5) (Kept.of_below (hb6.trans (hb7.mono hb6.size)) (Nat.le_refl _) (fun _ => False)) fun b q => q.elim)
      have HB7 := Lib.hid (HB.out.trans (hb57.mono HB.out.size))
      have HNW := Lib.hid (show ∀ j u, [Value.int .i64 (S.nd m).tag, .int .i64 (S.nd m).n, .slice va5 (S.nd m).l.length vc5][j]? = some u → W7.cell? ((⟨W6.heap.size, 0, none⟩ : Addr).add j) = some u from by
        have := news_new W6 #[.int .i64 (S.nd m).tag, .int .i64 (S.nd m).n, .slice va5 (S.nd m).l.length vc5] TN
        rw [hW7] at this
        exact this)
      have hs7 : w4.heap.size ≤ W7.heap.size := HB7.out.size
      have u0 : W6.cell? ⟨w5.heap.size, 0, none⟩ = some (.int .i64 (S.nd m).tag) := hx6.cell 0
      have u1 : W6.cell? ⟨w5.heap.size, 1, none⟩ = some (.int .i64 (S.nd m).n) := hx6.cell 1
      have u2 : W6.cell? ⟨w5.heap.size, 2, none⟩ = some (.slice va5 (S.nd m).l.length vc5) := hx6.cell 2
      clear ho5 hb5 hb6 hx6 hb7 hb57 hk57
      go_wp2_with (at_builtin; refine wpList_append_own _ rfl _ _ 51 rfl w4.heap.size TN j0 _ 3 40 Try.underlying51 hinf hz0 hz1 hz2 rfl (by decide) (.slice na k nc) k vs rfl HO7.out ⟨W6.heap.size, 0, none⟩ 1 1 [.int .i64 (S.nd m).tag, .int .i64 (S.nd m).n, .slice va5 (S.nd m).l.length vc5] rfl rfl HNW.out (by intro u hu; simp only [List.mem_cons, List.not_mem_nil, or_false] at hu; rcases hu with rfl | rfl | rfl <;> rfl) (by unfold maxLen; omega) (by omega) hs7 ?_)
      intro v' w8 hown' hgrow _
      have hk8 := Kept.grown (X := fun b => (.slice na k nc : Value).ownBlock = some b) (Kept.refl _ W7) hgrow (fun q hq _ => hq)
      have HE := Lib.hid (show K1 w4 S keep (keep.length - (k + 1)) v' (.int .i64 ((k : Int) + 1)) w8 from
        ⟨⟨k + 1, by omega, rfl, vs ++ [.int .i64 (S.nd m).tag, .int .i64 (S.nd m).n, .slice va5 (S.nd m).l.length vc5], by
          rw [HTK.out, List.map_append, List.length_append, HL0.out]
          exact hown', by
          rw [HTK.out, List.map_append]
          exact (HROW7.out.keep hk8 (own_notI HO7.out)).snoc (rdT_keep HRD7.out hk8 (own_notI HO7.out))⟩, HB7.out.grown hgrow hs7 (fun q hq => (HO7.out.lt q hq).1)⟩)
      clear hown' hgrow hk8
      go_wp2_with fail
      go_roundg (keep.length - (k + 1))
      case measure => have := HD.out; omega
      case rel => exact HE.out
    · obtain rfl : k = keep.length := by omega
      have HTK := Lib.hid (show keep.take keep.length = keep from List.take_length)
      rw [HTK.out] at hrow
      have HLV := Lib.hid (live_any wr (HP4.out.below hb))
      obtain ⟨W9, hW9⟩ : ∃ W9, wr.alloc (.cells #[.int .i64 root] TI) = W9 := ⟨_, rfl⟩
      have hb9 : Below wr.heap.size wr W9 := by rw [← hW9]; exact (Below.refl wr.heap.size wr).alloc (Nat.le_refl _) _
      have hp9 := (HP4.out.below hb).below hb9
      have hrd : RdI (ZA w.heap.size W9) W9 (some ⟨wr.heap.size, 0, none⟩) [(root : Int)] := by
        rw [← hW9]
        intro i x hx
        match i, hx with
        | 0, hx =>
          injection hx with hx
          subst hx
          exact ⟨_, rfl, ⟨by simp, .inr ⟨_, Box.new wr _ _⟩⟩, (Box.new wr #[.int .i64 root] TI).cell 0⟩
      have HC := Lib.hid (collect_ok (roots := [(root : Int)]) (c := 1) W9 hp9 HPL.out.good hrd (by rw [holds_one]; exact HHH.out) (by simp) (by have := HPL.out.rest; simp; omega))
      simp only [List.length_singleton] at HC
      have HKO9 := Lib.hid ((HKO.out.here hb).here hb9)
      have HOK9 := Lib.hid (own_here HOK.out hb9)
      have HROW9 := Lib.hid (hrow.keep (Kept.of_below hb9 (Nat.le_refl _) (fun _ => False)) fun b q => q.elim)
      have HB9 := Lib.hid ((HB4.out.trans (hb.mono HB4.out.size)).trans (hb9.mono (Nat.le_trans HB4.out.size hb.size)))
      clear hd ho hrow hb hl0 hb9 hp9 hrd
      go_wp2_with fail
      with_reducible refine HLV.out.mono ?_
      rintro e w' ⟨rfl, rfl⟩
      go_wp2_with fail
      with_reducible refine HC.out.mono ?_
      rintro e w10 ⟨S', hcl, rfl, hp10, hk10⟩
      have his : ∀ q : Nat, (q : Int) ∈ keep ↔ S'.is q ≠ 0 := fun q => by
        rw [HRE.out]
        constructor
        · intro h
          rw [hcl.yes q h]
          decide
        · intro h
          exact Classical.byContradiction fun e => h (hcl.no q e)
      have hpos : ∀ x ∈ keep, 0 ≤ x := fun x hx => (Hs.held_iff.1 (HHELD.out x hx)).1
      have hheld : ∀ x ∈ keep, S'.held x = true := fun x hx => by
        have h0 := hpos x hx
        have h2 : S'.is x.toNat ≠ 0 := (his x.toNat).1 (by rw [show ((x.toNat : Nat) : Int) = x by omega]; exact hx)
        refine Hs.held_iff.2 ⟨h0, ?_, h2⟩
        apply Classical.byContradiction
        intro q
        exact h2 (hcl.good.above x.toNat (by omega))
      have hlen : S'.live = keep.length := by
        rw [hcl.good.live]
        exact (length_cells HND.out hpos (fun x hx => (Hs.held_iff.1 (hheld x hx)).2.1) his).symm
      rw [hlen]
      have HHELD' := Lib.hid hheld
      have HNDS := Lib.hid hcl.nd
      have HLV' := Lib.hid (by have := live_any w10 hp10; rw [hlen] at this; exact this)
      have HP10 := Lib.hid hp10
      have HB10 := Lib.hid (HB9.out.trans (hk10.below (by exact HB9.out.size)))
      have HKO10 := Lib.hid (show OwnI W3.heap.size TI w10 (.slice ka keep.length kc) keep from KG.own hk10 HKO9.out (fun g _ => id) not_TP_I)
      have HOK10 := Lib.hid (KG.own hk10 HOK9.out (fun g _ => id) not_TP_N)
      have HROW10 := Lib.hid (HROW9.out.keep hk10 fun b q => (xg_not not_TP_I b q).2)
      have hlv : S.live ≤ 400 := Nat.le_trans HPL.out.liv HPL.out.allocs
      have q1 : ((S.live : Int) - keep.length != (S.live : Int) - keep.length) = false := by simp
      have q2 : ((keep.length : Int) != (keep.length : Int)) = false := by simp
      clear hcl hp10 hk10 his hpos hheld hlen hW9
      go_wp2_with fail
      with_reducible refine HLV'.out.mono ?_
      rintro e w' ⟨rfl, rfl⟩
      clear q1
      go_wp2_with fail
      clear q2
      go_loopg [20] keep.length (fun d i wz => (∃ k : Nat, k + d = keep.length ∧ i = .int .i64 k) ∧ Below w10.heap.size w10 wz)
      case atStart => exact ⟨⟨0, by omega, rfl⟩, Below.refl _ _⟩
      case round =>
        obtain ⟨⟨k, hd, rfl⟩, hbz⟩ := hrel
        have HDK := Lib.hid hd
        have HBZ := Lib.hid hbz
        have hkl : k ≤ keep.length := by omega
        clear hd
        by_cases hlt : k < keep.length
        · obtain ⟨x, hx⟩ : ∃ x, keep[k]? = some x := ⟨_, List.getElem?_eq_getElem hlt⟩
          obtain ⟨kg, rfl, _, hkg2, _, hkc⟩ := own_at HKO10.out (by omega)
          have hcx := hkc k (by omega)
          rw [List.getElem?_map, hx] at hcx
          have hcw := (hbz.cell (p := ⟨kg, k, none⟩) hkg2).trans hcx
          have hheld := HHELD'.out _ (List.mem_of_getElem? hx)
          obtain ⟨m, rfl⟩ : ∃ m : Nat, x = m := ⟨x.toNat, by have := (Hs.held_iff.1 hheld).1; omega⟩
          have hcw : wr.cell? ⟨kg, k, none⟩ = some (.int .i64 m) := hcw
          have HG := Lib.hid (by have := get_ok (k := m) wr (HP10.out.below hbz) hheld; rw [HNDS.out] at this; exact this)
          obtain ⟨ng, rfl, _, hng2, _, hnc⟩ := own_at HOK10.out (by omega)
          obtain ⟨na2, nc2, e0, e1, e2, hrd2⟩ := HROW10.out.2 k (S.nd m) (by rw [List.getElem?_map, hx]; rfl)
          have d0 := (hbz.cell (p := ⟨ng, k * 3, none⟩) hng2).trans ((hnc _ (by omega)).trans e0)
          have d1 := (hbz.cell (p := ⟨ng, k * 3 + 1, none⟩) hng2).trans ((hnc _ (by omega)).trans e1)
          have d2 := (hbz.cell (p := ⟨ng, k * 3 + 2, none⟩) hng2).trans ((hnc _ (by omega)).trans e2)
          have HRD2 := Lib.hid (rdT_keep hrd2 (Kept.of_below hbz (Nat.le_refl _) (fun _ => False)) fun b q => q.elim)
          have hngr : ng < wr.heap.size := Nat.lt_of_lt_of_le hng2 hbz.size
          clear hkc hcx hheld hx hbz hnc e0 e1 e2 hrd2 hkg2 hng2
          go_wp2_with fail
          with_reducible refine HG.out.mono ?_
          rintro e w11 ⟨va1, vc1, rfl, ho1, hb1⟩
          obtain ⟨W12, hW12⟩ : ∃ W12, w11.alloc (.cells #[.int .i64 (S.nd m).tag, .int .i64 (S.nd m).n, .slice va1 (S.nd m).l.length vc1] TN) = W12 := ⟨_, rfl⟩
          have hb12 : Below w11.heap.size w11 W12 := by rw [← hW12]; exact (Below.refl w11.heap.size w11).alloc (Nat.le_refl _) _
          have hx12 : Box W12 w11.heap.size TN #[.int .i64 (S.nd m).tag, .int .i64 (S.nd m).n, .slice va1 (S.nd m).l.length vc1] := by rw [← hW12]; exact Box.new _ _ _
          have hb112 := hb1.trans (hb12.mono hb1.size)
          have hnl : (S.nd m).l.length ≤ 9223372036854775807 := by
            rcases ho1.2 with ⟨q1, q2⟩ | ⟨g, cap, cur, q1, _, _, q2, q3, _⟩
            · omega
            · unfold maxLen at q3; omega
          have r1 := rdT_keep (own_rdT ho1) (Kept.drew (Kept.of_below hb12 (Nat.le_refl _) (fun _ => False))) fun b q => q.elim
          have r2 := rdT_keep HRD2.out (Kept.drew (Kept.of_below hb112 (Nat.le_refl _) (fun _ => False))) fun b q => q.elim
          have HSM := Lib.hid (same_node (c := vc1) (d := nc2) W12.drew r1 r2 (fun q h => h.lt) (fun q h => h.lt) hnl)
          have c0 : W12.cell? ⟨w11.heap.size, 0, none⟩ = some (.int .i64 (S.nd m).tag) := hx12.cell 0
          have c1 : W12.cell? ⟨w11.heap.size, 1, none⟩ = some (.int .i64 (S.nd m).n) := hx12.cell 1
          have c2 : W12.cell? ⟨w11.heap.size, 2, none⟩ = some (.slice va1 (S.nd m).l.length vc1) := hx12.cell 2
          have g0 := (hb112.cell (p := ⟨ng, k * 3, none⟩) hngr).trans d0
          have g1 := (hb112.cell (p := ⟨ng, k * 3 + 1, none⟩) hngr).trans d1
          have g2 := (hb112.cell (p := ⟨ng, k * 3 + 2, none⟩) hngr).trans d2
          have HX12 := Lib.hid hx12
          have HB12 := Lib.hid (HBZ.out.trans (hb112.mono HBZ.out.size))
          have hng12 : ng < W12.heap.size := Nat.lt_of_lt_of_le hngr hb112.size
          clear ho1 hb1 hb12 hx12 hb112 r1 r2 d0 d1 d2 hcw
          go_wp2_with fail
          go_region_held3 (fun w' => (w'.cell? ⟨w11.heap.size, 0, none⟩ = some (.int .i64 (S.nd m).tag) ∧ w'.cell? ⟨w11.heap.size, 1, none⟩ = some (.int .i64 (S.nd m).n) ∧ w'.cell? ⟨w11.heap.size, 2, none⟩ = some (.slice va1 (S.nd m).l.length vc1)) ∧ (w'.cell? ⟨ng, k * 3, none⟩ = some (.int .i64 (S.nd m).tag) ∧ w'.cell? ⟨ng, k * 3 + 1, none⟩ = some (.int .i64 (S.nd m).n) ∧ w'.cell? ⟨ng, k * 3 + 2, none⟩ = some (.slice na2 (S.nd m).l.length nc2)))
            (first
              | exact ⟨⟨c0, c1, c2⟩, ⟨g0, g1, g2⟩⟩
              | exact ⟨⟨m0, m1, m2⟩, ⟨n0, n1, n2⟩⟩
              | go_keep)
            (first
              | (go_at_call 22; refine HSM.out.mono ?_; rintro e w13 ⟨rfl, hb13⟩; replace hb13 : Below W12.heap.size W12 w13 := ⟨hb13.os, hb13.tape, hb13.output, hb13.size, hb13.block⟩; have hX13 := HX12.out.below hb13 HX12.out.lt; have m0 : w13.cell? ⟨w11.heap.size, 0, none⟩ = some (.int .i64 (S.nd m).tag) := hX13.cell 0; have m1 : w13.cell? ⟨w11.heap.size, 1, none⟩ = some (.int .i64 (S.nd m).n) := hX13.cell 1; have m2 : w13.cell? ⟨w11.heap.size, 2, none⟩ = some (.slice va1 (S.nd m).l.length vc1) := hX13.cell 2; have n0 := (hb13.cell (p := ⟨ng, k * 3, none⟩) hng12).trans g0; have n1 := (hb13.cell (p := ⟨ng, k * 3 + 1, none⟩) hng12).trans g1; have n2 := (hb13.cell (p := ⟨ng, k * 3 + 2, none⟩) hng12).trans g2; have HB13 := Lib.hid (HB12.out.trans (hb13.mono HB12.out.size)); clear hX13 hb13))
          clear m0 m1 m2 n0 n1 n2 c0 c1 c2 g0 g1 g2 hW12
          go_wp2_with fail
          go_roundg (keep.length - (k + 1))
          case measure => have := HDK.out; omega
          case rel => exact ⟨⟨k + 1, by omega, by go_num⟩, HB13.out⟩
        · have HBE := Lib.hid (HB10.out.trans (hbz.mono HB10.out.size))
          clear hbz
          go_wp2_with fail
          refine (HKN.out _).mono ?_
          rintro e w' ⟨rfl, hb⟩
          have HBF := Lib.hid (HBE.out.trans (hb.mono HBE.out.size))
          clear hb
          go_wp2_with fail
          go_ret
          exact ⟨rfl, HBF.out⟩
end Go.Proofs.Ytbkklnihgejeoaa.HeapKeeps
