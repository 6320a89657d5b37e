/-
  The walk of the law changelinglaw11.GroupsRings: a ring is one group; a row in which each uses the next one is as many, the last one first.
-/
import Derived.Test.YtephmagficbdeaaGrO
import Derived.Test.YtephmagficbdeaaGrRing
namespace Go.Proofs.Ytephmagficbdeaa.GroupsRings
open Go.RowKit Go.Shelf Go.Sort Mm Sp Gr
set_option linter.unusedVariables false
set_option linter.unusedSimpArgs false
/-- two rows of rows that are being built, each of the call's own -/
structure Two (w wr : World) (gv ov : Value) (gs hs : List (List Nat)) (vs us : List Value) : Prop where
  o1 : wr.ownsRow w.heap.size TR 1 gv gs.length vs
  r1 : RowsAt w.heap.size wr (.slice none 0 0) (.slice none 0 0) vs gs
  o2 : wr.ownsRow w.heap.size TR 1 ov hs.length us
  r2 : RowsAt w.heap.size wr (.slice none 0 0) (.slice none 0 0) us hs
  ap : ∀ k, gv.ownBlock = some k → ov.ownBlock ≠ some k
  bel : Below w.heap.size w wr
theorem Two.swap {w wr : World} {gv ov : Value} {gs hs : List (List Nat)} {vs us : List Value} (h : Two w wr gv ov gs hs vs us) : Two w wr ov gv hs gs us vs :=
  ⟨h.o2, h.r2, h.o1, h.r1, fun k hk e => h.ap k e hk, h.bel⟩
theorem Two.start (w : World) : Two w w (.slice none 0 0) (.slice none 0 0) [] [] [] [] :=
  ⟨World.ownsRow_nil _ _ _ _, fun i C hC => by simp at hC, World.ownsRow_nil _ _ _ _, fun i C hC => by simp at hC, fun k hk => by simp [Value.ownBlock] at hk, Below.refl _ _⟩
theorem RowsAt.alloc {B : Nat} {w : World} {vs : List Value} {gs : List (List Nat)} (h : RowsAt B w (.slice none 0 0) (.slice none 0 0) vs gs) (o : Obj) : RowsAt B (w.alloc o) (.slice none 0 0) (.slice none 0 0) vs gs := fun i C hC => by
  obtain ⟨b, c, k1, k2, k3, k4⟩ := h i C hC
  exact ⟨b, c, k1, k2, k3, k4.alloc o⟩
theorem RowsAt.grownT {B B2 : Nat} {w w' : World} {vs : List Value} {gs : List (List Nat)} (h : RowsAt B w (.slice none 0 0) (.slice none 0 0) vs gs) {gv : Value} {n : Nat} {xs : List Value} (ho : w.ownsRow B2 TR 1 gv n xs) (hg : w.grownBy w' gv.ownBlock) : RowsAt B w' (.slice none 0 0) (.slice none 0 0) vs gs := fun i C hC => by
  obtain ⟨b, c, k1, k2, k3, k4⟩ := h i C hC
  exact ⟨b, c, k1, k2, k3, k4.kept hg (own_two k4 ho (by decide))⟩
theorem own_new (w : World) (B : Nat) (hB : B ≤ w.heap.size) (C : List Nat) (hC : C.length ≤ 1000) : (w.alloc (.cells (nv C).toArray TI)).ownsRow B TI 1 (.slice (some ⟨w.heap.size, 0, none⟩) C.length C.length) C.length (nv C) := by
  refine ⟨by simp [nv], .inr ⟨w.heap.size, C.length, (nv C).toArray, rfl, hB, heap_alloc_new w _, Nat.le_refl _, by unfold maxLen; omega, by simp [nv], by
    show List.take (C.length * 1) (nv C) = nv C
    rw [List.take_of_length_le (by simp [nv])]⟩⟩
theorem Two.push {w wr w7 : World} {gv ov gv' : Value} {gs hs : List (List Nat)} {vs us : List Value} (h : Two w wr gv ov gs hs vs us) {C : List Nat} (hC : C.length ≤ 1000)
    (hown : w7.ownsRow w.heap.size TR 1 gv' (gs.length + 1) (vs ++ [.slice (some ⟨wr.heap.size, 0, none⟩) C.length C.length]))
    (hgrow : ((wr.alloc (.cells (nv C).toArray TI)).alloc (.cells #[.slice (some ⟨wr.heap.size, 0, none⟩) C.length C.length] TR)).grownBy w7 gv.ownBlock)
    (hat : gv'.ownBlock = gv.ownBlock ∨ gv'.ownBlock = some (wr.heap.size + 1 + 1)) :
    Two w w7 gv' ov (gs ++ [C]) hs (vs ++ [.slice (some ⟨wr.heap.size, 0, none⟩) C.length C.length]) us := by
  have hB := h.bel.size
  have ho := (h.o1.alloc (.cells (nv C).toArray TI)).alloc (.cells #[.slice (some ⟨wr.heap.size, 0, none⟩) C.length C.length] TR)
  have hn := ((own_new wr w.heap.size hB C hC).alloc (.cells #[.slice (some ⟨wr.heap.size, 0, none⟩) C.length C.length] TR)).kept hgrow (own_two ((own_new wr w.heap.size hB C hC).alloc _) ho (by decide))
  have hr1 := RowsAt.grownT (RowsAt.alloc (RowsAt.alloc h.r1 (.cells (nv C).toArray TI)) (.cells #[.slice (some ⟨wr.heap.size, 0, none⟩) C.length C.length] TR)) ho hgrow
  have hl : vs.length = gs.length := by have := h.o1.1; simpa using this
  refine ⟨by simpa using hown, fun i D hD => ?_, ?_, RowsAt.grownT (RowsAt.alloc (RowsAt.alloc h.r2 _) _) ho hgrow, fun k hk e => ?_, ?_⟩
  · by_cases hi : i < gs.length
    · rw [List.getElem?_append_left hi] at hD
      obtain ⟨b, c, k1, k2, k3, k4⟩ := hr1 i D hD
      exact ⟨b, c, by rw [List.getElem?_append_left (by omega)]; exact k1, k2, k3, k4⟩
    · rw [List.getElem?_append_right (by omega)] at hD
      have hi0 : i - gs.length = 0 := by
        rcases Nat.eq_zero_or_pos (i - gs.length) with e | e
        · exact e
        · rw [List.getElem?_eq_none (by simp; omega)] at hD; cases hD
      rw [hi0] at hD
      simp at hD
      subst hD
      exact ⟨wr.heap.size, C.length, by rw [List.getElem?_append_right (by omega), hl, hi0]; rfl, by simp [Value.ownBlock], by simp [Value.ownBlock], hn⟩
  · refine World.ownsRow.kept ((h.o2.alloc _).alloc _) hgrow ?_
    cases e : ov.ownBlock with
    | none => exact .inl rfl
    | some k => exact .inr fun e2 => h.ap k e2.symm e
  · rcases hat with e2 | e2
    · exact h.ap k (e2.symm.trans hk) e
    · rw [e2] at hk
      have := (h.o2.lt k e).2
      simp at hk; omega
  · exact ((h.bel.alloc hB _).alloc (by simp; omega) _).grown hgrow (by simp; omega) (fun k hk => (h.o1.lt k hk).1)
theorem ni_at {q : List Nat} {j : Nat} (hj : j < q.length) : (ni q).getD j 0 = ((q[j] : Nat) : Int) := by
  rw [ni_getD, List.getD_eq_getElem?_getD, List.getElem?_eq_getElem hj]
  rfl
theorem RRN.rr {B : Nat} {w : World} {ua : Option Addr} {uc : Nat} {g : List (List Nat)} (h : RRN B w ua g) (hl : g.length ≤ 100000) : RR B w (.slice ua g.length uc) (gi g) := by
  refine ⟨ua, uc, by rw [gi_length], by rw [gi_length]; omega, fun i hi => ?_⟩
  rw [gi_length] at hi
  obtain ⟨ad, a2, c2, h1, h2, h3, h4, h5⟩ := h i hi
  refine ⟨ad, _, h1, h2, h3, ?_⟩
  rw [gi_getD]
  refine ⟨a2, c2, by rw [ni_length]; rfl, by rw [ni_length]; exact h4, fun j hj => ?_⟩
  rw [ni_length] at hj
  obtain ⟨ad2, k1, k2, k3⟩ := h5 j hj
  refine ⟨ad2, k1, k2, k3.trans ?_⟩
  exact congrArg (fun z => some (Value.int .i64 z)) (ni_at hj).symm
theorem ring_read {w : World} {a : Option Addr} {n : Nat} (h : RRN w.heap.size w a [List.range n]) : ∃ ad a2 c2, a = some ad ∧ w.cell? ad = some (.slice a2 n c2) := by
  obtain ⟨ad, a2, c2, h1, _, h3, _⟩ := h 0 (by simp)
  refine ⟨ad, a2, c2, h1, ?_⟩
  rw [Addr.add_zero'] at h3
  have e : (U [List.range n] 0).length = n := by simp [U]
  rw [e] at h3
  exact h3
theorem back_read {w : World} {a : Option Addr} {n k : Nat} (h : RRN w.heap.size w a (backL n)) (hk : k < n) : ∃ ad ad2 c2 y, a = some ad ∧ w.cell? (ad.add k) = some (.slice (some ad2) 1 c2) ∧ w.cell? ad2 = some (.int .i64 y) ∧ (y != (n : Int) - 1 - k) = false := by
  obtain ⟨ad, a2, c2, h1, _, h3, _, h5⟩ := h k (by rw [backL_length]; exact hk)
  have e : U (backL n) k = [n - 1 - k] := backL_U hk
  have hlen : (U (backL n) k).length = 1 := by rw [e]; rfl
  obtain ⟨ad2, rfl, _, k3⟩ := h5 0 (by omega)
  rw [Addr.add_zero'] at k3
  rw [hlen] at h3
  refine ⟨ad, ad2, c2, _, h1, h3, k3, ?_⟩
  have e2 : (U (backL n) k)[0]'(by omega) = n - 1 - k := by simp [e]
  rw [e2]
  simp only [bne_eq_false_iff_eq]
  omega
set_option maxRecDepth 100000 in
set_option maxHeartbeats 8000000 in
theorem rings_ok (n : Nat) (h1 : 1 ≤ n) (h2 : n ≤ 400) (w : World) : Calls Try.prog 7 #[.int .i64 n] w fun e w' => e = .returned (.bool true) ∧ Below w.heap.size w w' := by
  obtain ⟨j0, hj0, hj1, hj2, hj3⟩ := info_parts Trow
  have hn1 : ¬ (n : Int) < 1 := by omega
  have hn4 : ¬ (400 : Int) < n := by omega
  have hn0 : ¬ (n : Int) = 0 := by omega
  go_enter Try.func7, Try.ntmps7
  go_wp2_with fail
  go_loopg [3, 4, 5] n (fun d v3 v4 v5 wr => ∃ (i : Nat) (vs us : List Value), i + d = n ∧ v5 = .int .i64 i ∧ Two w wr v3 v4 (ringG n i) (rowG n i) vs us)
  case atStart => exact ⟨0, [], [], by omega, rfl, Two.start w⟩
  case round =>
    obtain ⟨i, vs, us, hi, rfl, hT⟩ := hrel
    have HI := Lib.hid hi
    have hile : i ≤ n := by omega
    obtain ⟨a3, c3, e3⟩ := own_slice hT.o1
    obtain ⟨a4, c4, e4⟩ := own_slice hT.o2
    rw [ringG_length] at e3
    rw [rowG_length] at e4
    subst e3 e4
    have HT := Lib.hid hT
    have HO1 := Lib.hid (show wr.ownsRow w.heap.size TR 1 (.slice a3 i c3) i vs by have := hT.o1; rwa [ringG_length] at this)
    have hzB := hT.bel.size
    clear hi hT
    by_cases hlt : i < n
    · have hlt' : (i : Int) < n := by omega
      obtain ⟨m, hm⟩ : ∃ m, (i + 1) % n = m := ⟨_, rfl⟩
      have hmn : m < n := by rw [← hm]; exact Nat.mod_lt _ (by omega)
      have ht : ((i : Int) + 1).tmod (n : Int) = (m : Int) := by
        rw [← hm]
        exact (Int.ofNat_tmod (i + 1) n).symm
      have HM := Lib.hid hm
      clear hm
      go_wp2_with (at_builtin; refine wpList_append_own_at _ rfl _ _ 22 rfl w.heap.size 28 j0 _ 1 24 Try.underlying22 hj0 hj1 hj2 hj3 rfl (by decide) _ _ _ rfl ((HO1.out.alloc (.cells #[.int .i64 m] TI)).alloc (.cells #[.slice (some ⟨wr.heap.size, 0, none⟩) 1 1] TR)) ⟨wr.heap.size + 1, 0, none⟩ 1 1 [.slice (some ⟨wr.heap.size, 0, none⟩) 1 1] rfl rfl (by have := Go.cell_one_new (wr.alloc (.cells #[.int .i64 m] TI)) (.slice (some ⟨wr.heap.size, 0, none⟩) 1 1) TR; rwa [World.size_alloc] at this) (fun u hu => by simp only [List.mem_singleton] at hu; rw [hu]; rfl) (by unfold maxLen; omega) (by omega) (by simp; omega) ?_)
      intro v7 w7 hown hgrow _ hat7
      obtain ⟨a7, c7, rfl⟩ := own_slice hown
      have HT7 := Lib.hid ((HT.out.push (C := [m]) (by simp) (by rw [ringG_length]; exact hown) hgrow hat7).swap)
      have HO7 := Lib.hid (show w7.ownsRow w.heap.size TR 1 (.slice a4 i c4) i us by have := HT7.out.o1; rwa [rowG_length] at this)
      have hz7 : w.heap.size ≤ w7.heap.size := HT7.out.bel.size
      clear hown hgrow hat7 ht
      by_cases hl2 : i + 1 < n
      · have hl2' : (i : Int) < n - 1 := by omega
        go_wp2_with (at_builtin; refine wpList_append_own_at _ rfl _ _ 22 rfl w.heap.size 28 j0 _ 1 24 Try.underlying22 hj0 hj1 hj2 hj3 rfl (by decide) _ _ _ rfl ((HO7.out.alloc (.cells #[.int .i64 ((i : Int) + 1)] TI)).alloc (.cells #[.slice (some ⟨w7.heap.size, 0, none⟩) 1 1] TR)) ⟨w7.heap.size + 1, 0, none⟩ 1 1 [.slice (some ⟨w7.heap.size, 0, none⟩) 1 1] rfl rfl (by have := Go.cell_one_new (w7.alloc (.cells #[.int .i64 ((i : Int) + 1)] TI)) (.slice (some ⟨w7.heap.size, 0, none⟩) 1 1) TR; rwa [World.size_alloc] at this) (fun u hu => by simp only [List.mem_singleton] at hu; rw [hu]; rfl) (by unfold maxLen; omega) (by omega) (by simp; omega) ?_)
        intro v8 w8 hown hgrow _ hat8
        obtain ⟨a8, c8, rfl⟩ := own_slice hown
        have HT8 := Lib.hid ((HT7.out.push (C := [i + 1]) (by simp) (by rw [rowG_length]; exact hown) hgrow hat8).swap)
        clear hown hgrow hat8
        go_wp2_with fail
        go_roundg (n - (i + 1))
        case measure => have := HI.out; omega
        case rel =>
          have HR8 := HT8.out
          rw [← HM.out, ← ringG_succ] at HR8
          rw [show rowG n i ++ [[i + 1]] = rowG n (i + 1) by rw [rowG_succ, if_pos hl2]] at HR8
          exact ⟨i + 1, _, _, by have := HI.out; omega, by go_num, HR8⟩
      · have hl2' : ¬ (i : Int) < n - 1 := by omega
        go_wp2_with (at_builtin; refine wpList_append_own_at _ rfl _ _ 22 rfl w.heap.size 28 j0 _ 1 24 Try.underlying22 hj0 hj1 hj2 hj3 rfl (by decide) _ _ _ rfl ((HO7.out.alloc (.cells #[] TI)).alloc (.cells #[.slice (some ⟨w7.heap.size, 0, none⟩) 0 0] TR)) ⟨w7.heap.size + 1, 0, none⟩ 1 1 [.slice (some ⟨w7.heap.size, 0, none⟩) 0 0] rfl rfl (by have := Go.cell_one_new (w7.alloc (.cells #[] TI)) (.slice (some ⟨w7.heap.size, 0, none⟩) 0 0) TR; rwa [World.size_alloc] at this) (fun u hu => by simp only [List.mem_singleton] at hu; rw [hu]; rfl) (by unfold maxLen; omega) (by omega) (by simp; omega) ?_)
        intro v8 w8 hown hgrow _ hat8
        obtain ⟨a8, c8, rfl⟩ := own_slice hown
        have HT8 := Lib.hid ((HT7.out.push (C := []) (by simp) (by rw [rowG_length]; exact hown) hgrow hat8).swap)
        clear hown hgrow hat8
        go_wp2_with fail
        go_roundg (n - (i + 1))
        case measure => have := HI.out; omega
        case rel =>
          have HR8 := HT8.out
          rw [← HM.out, ← ringG_succ] at HR8
          rw [show rowG n i ++ [[]] = rowG n (i + 1) by rw [rowG_succ, if_neg hl2]] at HR8
          exact ⟨i + 1, _, _, by have := HI.out; omega, by go_num, HR8⟩
    · have hge : ¬ (i : Int) < n := by omega
      obtain rfl : i = n := by omega
      have hR1 := RRN.rr (uc := c3) (OwnGs.reads (a := a3) (n := i) (c := c3) ⟨vs, by have := HT.out.o1; simpa [ringG_length] using this, HT.out.r1⟩ (by rw [ringG_length])) (by rw [ringG_length]; omega)
      have hR2 := RRN.rr (uc := c4) (OwnGs.reads (a := a4) (n := i) (c := c4) ⟨us, by have := HT.out.o2; simpa [rowG_length] using this, HT.out.r2⟩ (by rw [rowG_length])) (by rw [rowG_length]; omega)
      rw [ringG_length] at hR1
      rw [rowG_length] at hR2
      have HG1 := Lib.hid (groups_any sortOK sortFOK wr hR1)
      have HR2 := Lib.hid hR2
      have HBW := Lib.hid HT.out.bel
      clear hR1 hR2 HO1
      go_wp2_with fail
      refine HG1.out.mono ?_
      rintro e w1 ⟨v, l, he, hrd, hb1, _, hz⟩
      rw [ring_ok h1 (by omega)] at he hz
      subst he
      obtain ⟨g, hg, _, _, hc⟩ := hz rfl
      obtain rfl := gi_inj hg
      obtain rfl := ring_part h1 hc.part
      obtain ⟨a1, c1, rfl, _, hl1⟩ := hrd
      have HL1 := Lib.hid hl1
      have HB1 := Lib.hid (HBW.out.trans (hb1.mono HBW.out.size))
      have HG2 := Lib.hid (groups_any sortOK sortFOK w1 ((HR2.out.below hb1 (Nat.le_refl _)).mono hb1.size))
      clear hz hg hc hl1 hb1 HG1 HR2
      go_wp2_with fail
      refine HG2.out.mono ?_
      rintro e w2 ⟨v, l, he, hrd, hb2, _, hz⟩
      rw [row_ok (by omega)] at he hz
      subst he
      obtain ⟨g, hg, _, _, hc⟩ := hz rfl
      obtain rfl := gi_inj hg
      obtain rfl := hc.unique (row_canon i)
      obtain ⟨b1, d1, rfl, _, hl2⟩ := hrd
      rw [backL_length]
      have HL2 := Lib.hid hl2
      have HB2 := Lib.hid (HB1.out.trans (hb2.mono HB1.out.size))
      obtain ⟨ad, ax, cx, rfl, c0⟩ := ring_read ((HL1.out.below hb2 (Nat.le_refl _)).mono2 hb2.size)
      have hl1 : [List.range i].length = 1 := rfl
      clear hz hg hc hl2 hb2 HG2
      go_wp2_with fail
      go_loopg [10] i (fun d v wx => ∃ k : Nat, k + d = i ∧ v = .int .i64 k ∧ w2 = wx)
      case atStart => exact ⟨0, by omega, rfl, rfl⟩
      case round =>
        obtain ⟨k, hk, rfl, rfl⟩ := hrel
        have HK := Lib.hid hk
        have hkle : k ≤ i := by omega
        clear hk
        by_cases hkt : k < i
        · have hkt' : (k : Int) < i := by omega
          obtain ⟨bd, bd2, e2, y, rfl, y0, y1, hy⟩ := back_read HL2.out hkt
          go_wp2_with fail
          go_roundg (i - (k + 1))
          case measure => have := HK.out; omega
          case rel => exact ⟨k + 1, by have := HK.out; omega, by go_num, rfl⟩
        · have hkge : ¬ (k : Int) < i := by omega
          have HKN := known_any w2
          go_wp2_with fail
          refine HKN.mono ?_
          rintro e w9 ⟨rfl, hb9⟩
          go_wp2_with fail
          go_ret
          exact ⟨rfl, HB2.out.trans (hb9.mono HB2.out.size)⟩
set_option maxRecDepth 100000 in
set_option maxHeartbeats 8000000 in
theorem law (x : Int) (hx1 : -9223372036854775808 ≤ x) (hx2 : x ≤ 9223372036854775807) (w : World) :
    Calls Try.prog 7 #[.int .i64 x] w fun e w' => e = .returned (.bool true) ∧ Below w.heap.size w w' := by
  by_cases hin : 1 ≤ x ∧ x ≤ 400
  · obtain ⟨n, rfl⟩ : ∃ n : Nat, x = n := ⟨x.toNat, by omega⟩
    exact rings_ok n (by omega) (by omega) w
  · have HK := known_any w
    have hor : x < 1 ∨ (¬ x < 1 ∧ 400 < x) := by omega
    clear hin
    rcases hor with q1 | ⟨q1, q2⟩
    all_goals
      go_enter Try.func7, Try.ntmps7
      go_wp2_with fail
      refine HK.mono ?_
      rintro e w9 ⟨rfl, hb9⟩
      go_wp2_with fail
      go_ret
      exact ⟨rfl, hb9⟩
end Go.Proofs.Ytephmagficbdeaa.GroupsRings
