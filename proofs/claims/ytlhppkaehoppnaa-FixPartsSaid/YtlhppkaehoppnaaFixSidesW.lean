/-
  The walk of 'changelinglaw05.FixSides'.
-/
import Derived.Test.YtlhppkaehoppnaaFixShapeW
namespace Go.Proofs.Ytlhppkaehoppnaa.Fx
open Go.RowKit Fm Mm Nm
set_option linter.unusedVariables false

/-- a row of ways of binding that the call made -/
def fixCells (n : Nat) (r : Row) : List Value := (List.range n).flatMap fun j => [.string (r.O j), .int .i64 (r.A j), .int .i64 (r.L j), .int .i64 (r.P j), .int .i64 (r.Q j)]
abbrev OwnsF (w : World) (B : Nat) (v : Value) (n : Nat) (r : Row) : Prop := w.ownsRow B 33 5 v n (fixCells n r)
theorem fix_snoc (n : Nat) (r : Row) : fixCells (n + 1) r = fixCells n r ++ [.string (r.O n), .int .i64 (r.A n), .int .i64 (r.L n), .int .i64 (r.P n), .int .i64 (r.Q n)] := by
  unfold fixCells; rw [List.range_succ, List.flatMap_append]; rfl
theorem fix_len (n : Nat) (r : Row) : (fixCells n r).length = n * 5 := by
  induction n with
  | zero => rfl
  | succ n ih => rw [fix_snoc, List.length_append, ih]; simp; omega
theorem fix_at (n : Nat) (r : Row) (i j : Nat) (hi : i < n) (hj : j < 5) : (fixCells n r)[i * 5 + j]? = [Value.string (r.O i), .int .i64 (r.A i), .int .i64 (r.L i), .int .i64 (r.P i), .int .i64 (r.Q i)][j]? := by
  induction n with
  | zero => omega
  | succ n ih =>
    rw [fix_snoc]
    by_cases h : i < n
    · rw [List.getElem?_append_left (by rw [fix_len]; omega)]; exact ih h
    · obtain rfl : i = n := by omega
      rw [List.getElem?_append_right (by rw [fix_len]; omega), fix_len, show i * 5 + j - i * 5 = j by omega]
theorem add_zero_at (g k : Nat) : ((⟨g, 0, none⟩ : Addr).add k) = ⟨g, k, none⟩ := by
  unfold Addr.add
  split
  · rename_i h; rw [h]
  · simp
theorem reads_of {w : World} {B n c : Nat} {b : Option Addr} {r : Row} (h : OwnsF w B (.slice b n c) n r) : Reads w w.heap.size b n r := by
  intro i hi
  obtain ⟨g, rfl, _, hg, _, hc⟩ := own_at h (by omega)
  refine ⟨_, rfl, hg, ?_⟩
  rw [add_zero_at]
  have q : ∀ j, j < 5 → w.cell? ⟨g, i * 5 + j, none⟩ = [Value.string (r.O i), .int .i64 (r.A i), .int .i64 (r.L i), .int .i64 (r.P i), .int .i64 (r.Q i)][j]? := fun j hj => (hc (i * 5 + j) (by omega)).trans (fix_at n r i j hi hj)
  exact ⟨q 0 (by decide), q 1 (by decide), q 2 (by decide), q 3 (by decide), q 4 (by decide)⟩
theorem news5 (w : World) (v0 v1 v2 v3 v4 : Value) (t : TypeId) : ∀ (j : Nat) u, [v0, v1, v2, v3, v4][j]? = some u → (w.alloc (.cells #[v0, v1, v2, v3, v4] t)).cell? ((⟨w.heap.size, 0, none⟩ : Addr).add j) = some u := by
  intro j u hj
  rw [add_zero_at, World.cell?_alloc_at _ _ _ _ rfl]
  simpa using hj
theorem Tfix : (Try.prog.info? 33).map (fun i => (i.zero, i.size, i.bytes)) = some (some (.agg #[.string ByteArray.empty, .int .i64 0, .int .i64 0, .int .i64 0, .int .i64 0]), 5, 48) := by kernel_rfl
theorem push_fix {w wx w3 : World} {B n : Nat} {v v' : Value} {r : Row} {o : Obj} (how : OwnsF wx B v n r) (hb : Below B w wx) (hB : B ≤ wx.heap.size)
    (hown : w3.ownsRow B 33 5 v' (n + 1) (fixCells n r ++ [.string (r.O n), .int .i64 (r.A n), .int .i64 (r.L n), .int .i64 (r.P n), .int .i64 (r.Q n)])) (hgrow : (wx.alloc o).grownBy w3 v.ownBlock) :
    OwnsF w3 B v' (n + 1) r ∧ Below B w w3 := by
  refine ⟨?_, (hb.alloc hB o).grown hgrow (by simp; omega) (fun q hq => (how.lt q hq).1)⟩
  show w3.ownsRow B 33 5 v' (n + 1) (fixCells (n + 1) r)
  rw [fix_snoc]
  exact hown
theorem constRow_res {a v : Int} {n : Nat} (h0 : a = 1 ∨ a = 2) (hf : n = 0 ∨ (0 ≤ v ∧ v ≤ 9)) (hn : n ≤ 1024) : Res (fun _ => a) (fun _ => v) n (fun i => if a = 1 then 0 else i) (fun i => if a = 1 then i + 1 else n) 0 0 := by
  have hs := sides (A := fun _ => a) (L := fun _ => v) (n := n) (a := a) (v := v) (fun _ _ => rfl) (fun _ _ => rfl) h0
  refine ⟨.inr (.inr (.inr ⟨rfl, rfl, hn, ⟨fun j hj => ?_, hs.1⟩, fun k hk => ?_⟩))⟩
  · show 0 ≤ a ∧ a ≤ 2 ∧ 0 ≤ v ∧ v ≤ 9
    omega
  · rcases h0 with rfl | rfl
    · exact (hs.2 k hk).1 rfl
    · exact (hs.2 k hk).2 rfl
theorem constRow_bad {a v : Int} {n : Nat} (h0 : a = 1 ∨ a = 2) (hf : ¬ (0 ≤ v ∧ v ≤ 9)) (h1 : 0 < n) (hn : n ≤ 1024) : Res (fun _ => a) (fun _ => v) n (fun _ => 0) (fun _ => 0) 0 1 :=
  ⟨.inr (.inl ⟨rfl, hn, h1, (show ¬ (0 ≤ a ∧ a ≤ 2 ∧ 0 ≤ v ∧ v ≤ 9) by omega), fun j hj => absurd hj (by omega)⟩)⟩
set_option maxRecDepth 100000 in
set_option maxHeartbeats 4000000 in
theorem sides_true (N : Nat) (hN : N ≤ 400) (lv : Int) (w : World) :
    Calls Try.prog 7 #[.int .i64 (N : Nat), .int .i64 lv, .bool true] w fun e w' => e = .returned (.bool true) ∧ Below w.heap.size w w' := by
  have e1 : decide ((N : Int) < 0) = false := decide_eq_false (by omega)
  have e2 : decide ((400 : Int) < N) = false := decide_eq_false (by omega)
  obtain ⟨i0, hi, hz0, hz1, hz2⟩ := info_parts Tfix
  go_enter Try.func7, Try.ntmps7
  go_wp2_with fail
  go_loopg [8, 9] N (fun d v8 i9 wr => ∃ k : Nat, d + k = N ∧ i9 = .int .i64 k ∧ OwnsF wr (w.heap.size + 1) v8 k ⟨fun _ => ByteArray.empty, fun _ => 1, fun _ => lv, fun _ => 0, fun _ => 0⟩ ∧ Box wr w.heap.size 33 #[.string ByteArray.empty, .int .i64 1, .int .i64 lv, .int .i64 0, .int .i64 0] ∧ Below w.heap.size w wr)
  case atStart => exact ⟨0, by omega, rfl, World.ownsRow_nil _ _ _ _, Box.new _ _ _, (Below.refl _ _).alloc (Nat.le_refl _) _⟩
  case round =>
    obtain ⟨k, hk, rfl, how, hx, hbw⟩ := hrel
    have HK := Lib.hid hk
    have HOW := Lib.hid how
    have HX := Lib.hid hx
    have HBW := Lib.hid hbw
    have hle : k ≤ N := by omega
    have zr := hx.lt
    have zr2 : w.heap.size ≤ wr.heap.size := by omega
    have x0 := hx.cell 0
    have x1 := hx.cell 1
    have x2 := hx.cell 2
    have x3 := hx.cell 3
    have x4 := hx.cell 4
    simp only [List.getElem?_toArray, List.getElem?_cons_zero, List.getElem?_cons_succ] at x0 x1 x2 x3 x4
    clear hk how hx hbw
    by_cases hlt : k < N
    · have hlt' : (k : Int) < N := by omega
      go_wp2_with (first | (at_builtin; refine wpList_append_own _ rfl _ _ 22 rfl (w.heap.size + 1) 33 i0 _ 5 48 Try.underlying22 hi hz0 hz1 hz2 rfl (by decide) _ _ _ rfl (HOW.out.alloc _) ⟨wr.heap.size, 0, none⟩ 1 1 [.string ByteArray.empty, .int .i64 1, .int .i64 lv, .int .i64 0, .int .i64 0] rfl rfl ?c1 ?c2 ?c3 ?c4 ?c5 ?_))
      case c2 => exact ⟨rfl, rfl, rfl, rfl⟩
      case c3 => unfold maxLen; omega
      case c4 => omega
      intro v' w3 hown' hgrow _
      have hP := push_fix HOW.out (Below.refl _ wr) zr hown' hgrow
      have HX3 := Lib.hid ((HX.out.alloc (.cells #[.string ByteArray.empty, .int .i64 1, .int .i64 lv, .int .i64 0, .int .i64 0] 33)).grown hgrow (by
        intro h
        have := (HOW.out.lt _ h.symm).1
        omega))
      have HP1 := Lib.hid hP.1
      have HP2 := Lib.hid ((HBW.out.alloc zr2 (.cells #[.string ByteArray.empty, .int .i64 1, .int .i64 lv, .int .i64 0, .int .i64 0] 33)).grown hgrow (by simp; omega) (fun q hq => by have := (HOW.out.lt q hq).1; omega))
      clear hown' hgrow hP x0 x1 x2 x3 x4
      go_wp2
      go_roundg (N - (k + 1))
      case measure => have := HK.out; omega
      case rel => exact ⟨k + 1, by have := HK.out; omega, by go_num, HP1.out, HX3.out, HP2.out⟩
    · have hke : k = N := by omega
      subst hke
      have how := HOW.out
      obtain ⟨b8, c8, rfl⟩ := own_slice how
      clear how
      obtain ⟨wo, rfl⟩ : ∃ wo : World, wo = wr := ⟨_, rfl⟩
      by_cases hbad : 0 < k ∧ ¬ (0 ≤ lv ∧ lv ≤ 9)
      · have HRes := Lib.hid (constRow_bad (a := 1) (v := lv) (n := k) (by decide) hbad.2 hbad.1 (by omega))
        have HFB := Lib.hid (show fineB 1 lv = false from fineB_no (by omega))
        have hk0 : (0 : Int) < k := by omega
        clear hbad
        go_wp2_with fail
        refine (resolve_is (r := ⟨fun _ => ByteArray.empty, fun _ => 1, fun _ => lv, fun _ => 0, fun _ => 0⟩) HRes.out (by omega) _ (reads_of HOW.out)).mono ?_
        rintro e w2 ⟨v2, rfl, _, hv2, hb2⟩
        obtain rfl := hv2 (by decide)
        have HB2 := Lib.hid (HBW.out.trans (hb2.mono zr2))
        have z2 := HB2.out.size
        have HX2 := HX.out.below hb2 zr
        have y0 := HX2.cell 0
        have y1 := HX2.cell 1
        have y2 := HX2.cell 2
        have y3 := HX2.cell 3
        have y4 := HX2.cell 4
        simp only [List.getElem?_toArray, List.getElem?_cons_zero, List.getElem?_cons_succ] at y0 y1 y2 y3 y4
        clear hv2 hb2 HX2 x0 x1 x2 x3 x4
        go_wp2_with fail
        refine (right_any HFB.out _ _ _ _).mono ?_
        rintro e w3 ⟨rfl, hb3⟩
        have HB3 := Lib.hid (HB2.out.trans (hb3.mono z2))
        have z3 := HB3.out.size
        clear hb3
        go_wp2_with fail
        refine (known_any _).mono ?_
        rintro e w4 ⟨rfl, hb4⟩
        have HB4 := Lib.hid (HB3.out.trans (hb4.mono z3))
        clear hb4
        go_wp2
        go_returns
        exact ⟨rfl, HB4.out⟩
      · have HRes := Lib.hid (constRow_res (a := 1) (v := lv) (n := k) (by decide) (by omega) (by omega))
        have hkk : k = 0 ∨ fineB 1 lv = true := by
          by_cases h : k = 0
          · exact .inl h
          · exact .inr (fineB_yes (by omega))
        clear hbad
        go_wp2_with fail
        refine (resolve_is (r := ⟨fun _ => ByteArray.empty, fun _ => 1, fun _ => lv, fun _ => 0, fun _ => 0⟩) HRes.out (by omega) _ (reads_of HOW.out)).mono ?_
        rintro e w2 ⟨v2, rfl, hs2, _, hb2⟩
        obtain ⟨b2, c2, rfl, hc2⟩ := hs2 rfl
        have HC := Lib.hid hc2
        have HB2 := Lib.hid (HBW.out.trans (hb2.mono zr2))
        have z2 := HB2.out.size
        have HX2 := HX.out.below hb2 zr
        have y0 := HX2.cell 0
        have y1 := HX2.cell 1
        have y2 := HX2.cell 2
        have y3 := HX2.cell 3
        have y4 := HX2.cell 4
        simp only [List.getElem?_toArray, List.getElem?_cons_zero, List.getElem?_cons_succ] at y0 y1 y2 y3 y4
        clear hs2 hc2 hb2 HX2 x0 x1 x2 x3 x4
        by_cases hk0 : k = 0
        · subst hk0
          go_wp2_with fail
          refine wp_loop_rounds 1 ?_
          rw [rounds_succ]
          go_wp2_with fail
          refine (known_any _).mono ?_
          rintro e w4 ⟨rfl, hb4⟩
          have HB4 := Lib.hid (HB2.out.trans (hb4.mono z2))
          clear hb4
          go_wp2
          go_returns
          exact ⟨rfl, HB4.out⟩
        · have hk1 : (0 : Int) < k := by omega
          have HFB := Lib.hid (hkk.resolve_left hk0)
          clear hkk
          go_wp2_with fail
          refine (right_any HFB.out _ _ _ _).mono ?_
          rintro e w3 ⟨rfl, hb3⟩
          have HB3 := Lib.hid (HB2.out.trans (hb3.mono z2))
          have HW3 := Lib.hid hb3
          clear hb3 y0 y1 y2 y3 y4
          go_wp2_with fail
          go_loopg [13] k (fun d i13 wr => ∃ j : Nat, d + j = k ∧ i13 = .int .i64 j ∧ Below w2.heap.size w2 wr)
          case atStart => exact ⟨0, by omega, rfl, HW3.out⟩
          case round =>
            obtain ⟨j, hj, rfl, hbw⟩ := hrel
            have HJ := Lib.hid hj
            have HBJ := Lib.hid hbw
            have hjk : j ≤ k := by omega
            clear hj hbw
            by_cases hlt2 : j < k
            · have hlt3 : (j : Int) < k := by omega
              obtain ⟨g, rfl, hg, p1, p2⟩ := HC.out j hlt2
              rw [← HBJ.out.cell (p := ⟨g, j * 2, none⟩) hg] at p1
              rw [← HBJ.out.cell (p := ⟨g, j * 2 + 1, none⟩) hg] at p2
              simp only [↓reduceIte] at p1 p2
              go_wp2
              go_roundg (k - (j + 1))
              case measure => have := HJ.out; omega
              case rel => exact ⟨j + 1, by have := HJ.out; omega, by go_num, HBJ.out⟩
            · have hje : j = k := by omega
              subst hje
              go_wp2_with fail
              refine (known_any _).mono ?_
              rintro e w4 ⟨rfl, hb4⟩
              have HB4 := Lib.hid ((HB2.out.trans (HBJ.out.mono z2)).trans (hb4.mono (by have := HBJ.out.size; omega)))
              clear hb4
              go_wp2
              go_returns
              exact ⟨rfl, HB4.out⟩
set_option maxRecDepth 100000 in
set_option maxHeartbeats 4000000 in
theorem sides_false (N : Nat) (hN : N ≤ 400) (lv : Int) (w : World) :
    Calls Try.prog 7 #[.int .i64 (N : Nat), .int .i64 lv, .bool false] w fun e w' => e = .returned (.bool true) ∧ Below w.heap.size w w' := by
  have e1 : decide ((N : Int) < 0) = false := decide_eq_false (by omega)
  have e2 : decide ((400 : Int) < N) = false := decide_eq_false (by omega)
  obtain ⟨i0, hi, hz0, hz1, hz2⟩ := info_parts Tfix
  go_enter Try.func7, Try.ntmps7
  go_wp2_with fail
  go_loopg [8, 9] N (fun d v8 i9 wr => ∃ k : Nat, d + k = N ∧ i9 = .int .i64 k ∧ OwnsF wr (w.heap.size + 1) v8 k ⟨fun _ => ByteArray.empty, fun _ => 2, fun _ => lv, fun _ => 0, fun _ => 0⟩ ∧ Box wr w.heap.size 33 #[.string ByteArray.empty, .int .i64 2, .int .i64 lv, .int .i64 0, .int .i64 0] ∧ Below w.heap.size w wr)
  case atStart => exact ⟨0, by omega, rfl, World.ownsRow_nil _ _ _ _, Box.new _ _ _, (Below.refl _ _).alloc (Nat.le_refl _) _⟩
  case round =>
    obtain ⟨k, hk, rfl, how, hx, hbw⟩ := hrel
    have HK := Lib.hid hk
    have HOW := Lib.hid how
    have HX := Lib.hid hx
    have HBW := Lib.hid hbw
    have hle : k ≤ N := by omega
    have zr := hx.lt
    have zr2 : w.heap.size ≤ wr.heap.size := by omega
    have x0 := hx.cell 0
    have x1 := hx.cell 1
    have x2 := hx.cell 2
    have x3 := hx.cell 3
    have x4 := hx.cell 4
    simp only [List.getElem?_toArray, List.getElem?_cons_zero, List.getElem?_cons_succ] at x0 x1 x2 x3 x4
    clear hk how hx hbw
    by_cases hlt : k < N
    · have hlt' : (k : Int) < N := by omega
      go_wp2_with (first | (at_builtin; refine wpList_append_own _ rfl _ _ 22 rfl (w.heap.size + 1) 33 i0 _ 5 48 Try.underlying22 hi hz0 hz1 hz2 rfl (by decide) _ _ _ rfl (HOW.out.alloc _) ⟨wr.heap.size, 0, none⟩ 1 1 [.string ByteArray.empty, .int .i64 2, .int .i64 lv, .int .i64 0, .int .i64 0] rfl rfl ?c1 ?c2 ?c3 ?c4 ?c5 ?_))
      case c2 => exact ⟨rfl, rfl, rfl, rfl⟩
      case c3 => unfold maxLen; omega
      case c4 => omega
      intro v' w3 hown' hgrow _
      have hP := push_fix HOW.out (Below.refl _ wr) zr hown' hgrow
      have HX3 := Lib.hid ((HX.out.alloc (.cells #[.string ByteArray.empty, .int .i64 2, .int .i64 lv, .int .i64 0, .int .i64 0] 33)).grown hgrow (by
        intro h
        have := (HOW.out.lt _ h.symm).1
        omega))
      have HP1 := Lib.hid hP.1
      have HP2 := Lib.hid ((HBW.out.alloc zr2 (.cells #[.string ByteArray.empty, .int .i64 2, .int .i64 lv, .int .i64 0, .int .i64 0] 33)).grown hgrow (by simp; omega) (fun q hq => by have := (HOW.out.lt q hq).1; omega))
      clear hown' hgrow hP x0 x1 x2 x3 x4
      go_wp2
      go_roundg (N - (k + 1))
      case measure => have := HK.out; omega
      case rel => exact ⟨k + 1, by have := HK.out; omega, by go_num, HP1.out, HX3.out, HP2.out⟩
    · have hke : k = N := by omega
      subst hke
      have how := HOW.out
      obtain ⟨b8, c8, rfl⟩ := own_slice how
      clear how
      obtain ⟨wo, rfl⟩ : ∃ wo : World, wo = wr := ⟨_, rfl⟩
      by_cases hbad : 0 < k ∧ ¬ (0 ≤ lv ∧ lv ≤ 9)
      · have HRes := Lib.hid (constRow_bad (a := 2) (v := lv) (n := k) (by decide) hbad.2 hbad.1 (by omega))
        have HFB := Lib.hid (show fineB 2 lv = false from fineB_no (by omega))
        have hk0 : (0 : Int) < k := by omega
        clear hbad
        go_wp2_with fail
        refine (resolve_is (r := ⟨fun _ => ByteArray.empty, fun _ => 2, fun _ => lv, fun _ => 0, fun _ => 0⟩) HRes.out (by omega) _ (reads_of HOW.out)).mono ?_
        rintro e w2 ⟨v2, rfl, _, hv2, hb2⟩
        obtain rfl := hv2 (by decide)
        have HB2 := Lib.hid (HBW.out.trans (hb2.mono zr2))
        have z2 := HB2.out.size
        have HX2 := HX.out.below hb2 zr
        have y0 := HX2.cell 0
        have y1 := HX2.cell 1
        have y2 := HX2.cell 2
        have y3 := HX2.cell 3
        have y4 := HX2.cell 4
        simp only [List.getElem?_toArray, List.getElem?_cons_zero, List.getElem?_cons_succ] at y0 y1 y2 y3 y4
        clear hv2 hb2 HX2 x0 x1 x2 x3 x4
        go_wp2_with fail
        refine (right_any HFB.out _ _ _ _).mono ?_
        rintro e w3 ⟨rfl, hb3⟩
        have HB3 := Lib.hid (HB2.out.trans (hb3.mono z2))
        have z3 := HB3.out.size
        clear hb3
        go_wp2_with fail
        refine (known_any _).mono ?_
        rintro e w4 ⟨rfl, hb4⟩
        have HB4 := Lib.hid (HB3.out.trans (hb4.mono z3))
        clear hb4
        go_wp2
        go_returns
        exact ⟨rfl, HB4.out⟩
      · have HRes := Lib.hid (constRow_res (a := 2) (v := lv) (n := k) (by decide) (by omega) (by omega))
        have hkk : k = 0 ∨ fineB 2 lv = true := by
          by_cases h : k = 0
          · exact .inl h
          · exact .inr (fineB_yes (by omega))
        clear hbad
        go_wp2_with fail
        refine (resolve_is (r := ⟨fun _ => ByteArray.empty, fun _ => 2, fun _ => lv, fun _ => 0, fun _ => 0⟩) HRes.out (by omega) _ (reads_of HOW.out)).mono ?_
        rintro e w2 ⟨v2, rfl, hs2, _, hb2⟩
        obtain ⟨b2, c2, rfl, hc2⟩ := hs2 rfl
        have HC := Lib.hid hc2
        have HB2 := Lib.hid (HBW.out.trans (hb2.mono zr2))
        have z2 := HB2.out.size
        have HX2 := HX.out.below hb2 zr
        have y0 := HX2.cell 0
        have y1 := HX2.cell 1
        have y2 := HX2.cell 2
        have y3 := HX2.cell 3
        have y4 := HX2.cell 4
        simp only [List.getElem?_toArray, List.getElem?_cons_zero, List.getElem?_cons_succ] at y0 y1 y2 y3 y4
        clear hs2 hc2 hb2 HX2 x0 x1 x2 x3 x4
        by_cases hk0 : k = 0
        · subst hk0
          go_wp2_with fail
          refine wp_loop_rounds 1 ?_
          rw [rounds_succ]
          go_wp2_with fail
          refine (known_any _).mono ?_
          rintro e w4 ⟨rfl, hb4⟩
          have HB4 := Lib.hid (HB2.out.trans (hb4.mono z2))
          clear hb4
          go_wp2
          go_returns
          exact ⟨rfl, HB4.out⟩
        · have hk1 : (0 : Int) < k := by omega
          have HFB := Lib.hid (hkk.resolve_left hk0)
          clear hkk
          go_wp2_with fail
          refine (right_any HFB.out _ _ _ _).mono ?_
          rintro e w3 ⟨rfl, hb3⟩
          have HB3 := Lib.hid (HB2.out.trans (hb3.mono z2))
          have HW3 := Lib.hid hb3
          clear hb3 y0 y1 y2 y3 y4
          go_wp2_with fail
          go_loopg [13] k (fun d i13 wr => ∃ j : Nat, d + j = k ∧ i13 = .int .i64 j ∧ Below w2.heap.size w2 wr)
          case atStart => exact ⟨0, by omega, rfl, HW3.out⟩
          case round =>
            obtain ⟨j, hj, rfl, hbw⟩ := hrel
            have HJ := Lib.hid hj
            have HBJ := Lib.hid hbw
            have hjk : j ≤ k := by omega
            clear hj hbw
            by_cases hlt2 : j < k
            · have hlt3 : (j : Int) < k := by omega
              obtain ⟨g, rfl, hg, p1, p2⟩ := HC.out j hlt2
              rw [← HBJ.out.cell (p := ⟨g, j * 2, none⟩) hg] at p1
              rw [← HBJ.out.cell (p := ⟨g, j * 2 + 1, none⟩) hg] at p2
              simp only [Int.reduceEq, ↓reduceIte] at p1 p2
              go_wp2
              go_roundg (k - (j + 1))
              case measure => have := HJ.out; omega
              case rel => exact ⟨j + 1, by have := HJ.out; omega, by go_num, HBJ.out⟩
            · have hje : j = k := by omega
              subst hje
              go_wp2_with fail
              refine (known_any _).mono ?_
              rintro e w4 ⟨rfl, hb4⟩
              have HB4 := Lib.hid ((HB2.out.trans (HBJ.out.mono z2)).trans (hb4.mono (by have := HBJ.out.size; omega)))
              clear hb4
              go_wp2
              go_returns
              exact ⟨rfl, HB4.out⟩
theorem sides_out (n lv : Int) (hn : n < 0 ∨ 400 < n) (b : Bool) (w : World) :
    Calls Try.prog 7 #[.int .i64 n, .int .i64 lv, .bool b] w fun e w' => e = .returned (.bool true) ∧ Below w.heap.size w w' := by
  rcases hn with hn | hn
  · have e1 : decide (n < 0) = true := decide_eq_true hn
    clear hn
    go_enter Try.func7, Try.ntmps7
    go_wp2_with fail
    refine (known_any _).mono ?_
    rintro e w4 ⟨rfl, hb4⟩
    have HB4 := Lib.hid hb4
    clear hb4
    go_wp2
    go_returns
    exact ⟨rfl, HB4.out⟩
  · have e1 : decide (n < 0) = false := decide_eq_false (by omega)
    have e2 : decide (400 < n) = true := decide_eq_true hn
    clear hn
    go_enter Try.func7, Try.ntmps7
    go_wp2_with fail
    refine (known_any _).mono ?_
    rintro e w4 ⟨rfl, hb4⟩
    have HB4 := Lib.hid hb4
    clear hb4
    go_wp2
    go_returns
    exact ⟨rfl, HB4.out⟩
end Go.Proofs.Ytlhppkaehoppnaa.Fx
namespace Go.Proofs.Ytlhppkaehoppnaa.FixSides
open Go.RowKit Fx
set_option linter.unusedVariables false
theorem law (n : Int) (h1 : -9223372036854775808 ≤ n) (h2 : n ≤ 9223372036854775807) (lv : Int) (h3 : -9223372036854775808 ≤ lv) (h4 : lv ≤ 9223372036854775807) (b : Bool) (w : World) :
    Calls Try.prog 7 #[.int .i64 n, .int .i64 lv, .bool b] w fun e w' => e = .returned (.bool true) ∧ Below w.heap.size w w' := by
  by_cases h : n < 0 ∨ 400 < n
  · exact sides_out n lv h b w
  · obtain ⟨N, rfl⟩ := Int.eq_ofNat_of_zero_le (show 0 ≤ n by omega)
    cases b
    · exact sides_false N (by omega) lv w
    · exact sides_true N (by omega) lv w
end Go.Proofs.Ytlhppkaehoppnaa.FixSides
