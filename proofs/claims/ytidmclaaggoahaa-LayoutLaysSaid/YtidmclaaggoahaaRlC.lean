/-
  CONTRACTS of the document's layout: a state with a frame more; the frames below the topmost block.
-/
import Derived.Test.YtidmclaaggoahaaRlB
namespace Go.Proofs.Ytidmclaaggoahaa.Ly
open Go.RowKit Pl Ar Mm Lx
set_option linter.unusedVariables false
set_option linter.unusedSimpArgs false
set_option maxRecDepth 100000 in
set_option maxHeartbeats 4000000 in
theorem pushed_any {Z : Nat → Prop} {T : List TokM} {F : List Fr} {due : Bool} {vt vf : Value} (k col : Int) (w : World) (h : RSt Z w T F vt vf) (hn : F.length ≤ 1000000000) :
    Calls Try.prog 49 #[stV vt vf due, .string (nm k), .int .i64 col] w (StPost Z T (F ++ [⟨k, col⟩]) due w) := by
  obtain ⟨i0, hi, hz0, hz1, hz2'⟩ := info_parts Trf
  have HS := Lib.hid h
  obtain ⟨a, c, rfl⟩ := own_slice h.toks
  obtain ⟨af, cf, rfl⟩ := own_slice h.frames
  clear h
  go_enter Try.func49, Try.ntmps49
  obtain ⟨text, htx⟩ : ∃ text, nm k = text := ⟨_, rfl⟩
  rw [htx]
  have HTX := Lib.hid htx
  clear htx
  obtain ⟨Y, hY⟩ : ∃ Y, (((w.alloc (.cells #[.slice a T.length c, .slice af F.length cf, .bool due] RS)).alloc (.cells #[.slice none 0 0, .slice none 0 0, .bool false] RS)).alloc (.cells #[.string text, .int .i64 col] RF)) = Y := ⟨_, rfl⟩
  have hRY : RSt Z Y T F (.slice a T.length c) (.slice af F.length cf) := by rw [← hY]; exact ((HS.out.alloc _).alloc _).alloc _
  have hHY : Holds Z w Y := by rw [← hY]; exact (((Holds.refl Z w).alloc HS.out.zl _).alloc (HS.out.alloc _).zl _).alloc ((HS.out.alloc _).alloc _).zl _
  have hb0 : Box Y w.heap.size RS #[.slice a T.length c, .slice af F.length cf, .bool due] := by rw [← hY]; exact ((Box.new _ _ _).alloc _).alloc _
  have hb2 : Box Y (w.heap.size + 1) RS #[.slice none 0 0, .slice none 0 0, .bool false] := by
    rw [← hY]
    have := Box.new (w.alloc (.cells #[.slice a T.length c, .slice af F.length cf, .bool due] RS)) #[.slice none 0 0, .slice none 0 0, .bool false] RS
    rw [World.size_alloc] at this
    exact this.alloc _
  have hsY : Y.heap.size = w.heap.size + 1 + 1 + 1 := by rw [← hY]; simp
  have hnew : ∀ (j : Nat) u, [Value.string text, .int .i64 col][j]? = some u → Y.cell? ((⟨w.heap.size + 1 + 1, 0, none⟩ : Addr).add j) = some u := by
    rw [← hY]
    have := news2 ((w.alloc (.cells #[.slice a T.length c, .slice af F.length cf, .bool due] RS)).alloc (.cells #[.slice none 0 0, .slice none 0 0, .bool false] RS)) (.string text) (.int .i64 col) RF
    rw [World.size_alloc, World.size_alloc] at this
    exact this
  have HY := Lib.hid hY
  have HRY := Lib.hid hRY
  have HHY := Lib.hid hHY
  have HB0 := Lib.hid hb0
  have HB2 := Lib.hid hb2
  have HNEW := Lib.hid hnew
  clear hY hRY hHY hb0 hb2 hnew
  go_wp2_with (at_builtin; rw [HY.out]; refine wpList_append_lies _ rfl _ _ 48 rfl 0 54 i0 _ 2 24 Try.underlying48 hi hz0 hz1 hz2' rfl (by decide) _ _ _ rfl HRY.out.frames ⟨w.heap.size + 1 + 1, 0, none⟩ 1 1 [.string text, .int .i64 col] rfl rfl ?c1 ?c2 (by decide) ?c3 ?c4 ?c5 _ rfl ?_)
  case c1 => exact HNEW.out
  case c2 =>
    intro u hu
    simp only [List.mem_cons, List.not_mem_nil, or_false] at hu
    rcases hu with rfl | rfl <;> rfl
  case c3 => unfold maxLen; omega
  case c4 => omega
  all_goals try exact Nat.zero_le _
  intro g cap w2 hown hgrow hg hlt
  have bx0 := HB0.out.grown hgrow (own_ne HRY.out.frames HB0.out (by decide))
  have bx2 := HB2.out.grown hgrow (own_ne HRY.out.frames HB2.out (by decide))
  obtain ⟨r2, h2⟩ := HRY.out.framed (f := ⟨k, col⟩) (by show w2.ownsRow _ _ _ _ _ (rfsCells F ++ [.string (nm k), .int .i64 col]); rw [HTX.out]; exact hown) hgrow (hg.imp id fun e => by omega)
  have x0 := bx0.cell 0
  have x1 := bx0.cell 1
  have x2 := bx0.cell 2
  have f1 := bx0.free 1
  have y0 := bx2.cell 0
  have y1 := bx2.cell 1
  have y2 := bx2.cell 2
  have g0 := bx2.free 0
  have g1 := bx2.free 1
  have g2 := bx2.free 2
  have HX0 := Lib.hid bx0
  have HX2 := Lib.hid bx2
  have HR2 := Lib.hid r2
  have HH2 := Lib.hid (HHY.out.trans h2)
  clear bx0 bx2 r2 h2 hown hgrow hg
  go_wp2
  have nz : ∀ k, w.heap.size ≤ k → ¬ Z k := fun k hk hz => by have := HS.out.zl _ hz; omega
  have r3 := HR2.out.put HX0.out (by decide) (by decide) 1 (.slice (some ⟨g, 0, none⟩) (F.length + 1) cap)
  have b3 := HX2.out.far (a := ⟨w.heap.size, 1, none⟩) (by simp) (.slice (some ⟨g, 0, none⟩) (F.length + 1) cap)
  have h3 := HH2.out.setCell (a := ⟨w.heap.size, 1, none⟩) (nz _ (Nat.le_refl _)) (.slice (some ⟨g, 0, none⟩) (F.length + 1) cap)
  obtain ⟨W, hW, q0, q1, q2, r4, h4⟩ := st_out r3 h3 b3 (nz _ (by omega)) due
  rw [hW]
  refine bodyPost_ret (v := stV (.slice a T.length c) (.slice (some ⟨g, 0, none⟩) (F.length + 1) cap) due) (by simp [results, Try.results49, go_sem, q0, q1, q2]) rfl ?_
  exact ⟨_, _, rfl, r4, h4⟩
/-- the place of the topmost block -/
def dropN (F : List Fr) : Nat → Nat
  | 0 => 0
  | k + 1 => if frK F k = 1 ∨ frK F k = 7 then k else dropN F k
theorem dropN_le (F : List Fr) : ∀ k, dropN F k ≤ k
  | 0 => Nat.le_refl _
  | k + 1 => by
    have := dropN_le F k
    unfold dropN
    split <;> omega
set_option maxRecDepth 100000 in
set_option maxHeartbeats 4000000 in
theorem dropped_any {g c : Nat} {F : List Fr} (hF : KF F) (w : World) (h : ShowsR w (.slice (some ⟨g, 0, none⟩) F.length c) F) (hc : F.length ≤ c) (hl : F.length ≤ 1000000000) :
    Calls Try.prog 51 #[.slice (some ⟨g, 0, none⟩) F.length c] w fun e w' => e = .returned (.slice (some ⟨g, 0, none⟩) (dropN F F.length) c) ∧ Below w.heap.size w w' := by
  obtain ⟨b, c', hv, hcc⟩ := h
  injection hv with hb _ hc'
  subst hb hc'
  obtain ⟨N, hN⟩ : ∃ N, F.length = N := ⟨_, rfl⟩
  have HC := Lib.hid hcc
  have HN := Lib.hid hN
  have HF := Lib.hid hF
  rw [hN] at hl hc ⊢
  clear hcc hN hF
  go_enter Try.func51, Try.ntmps51
  go_wp2_with fail
  go_loopg [3, 4] N (fun d v3 v4 wr => ∃ k : Nat, d + k = N ∧ v4 = .int .i64 k ∧ v3 = .int .i64 (dropN F k) ∧ Below w.heap.size w wr)
  case atStart => exact ⟨0, by omega, rfl, rfl, Below.refl _ _⟩
  case round =>
    obtain ⟨k, hk, rfl, rfl, hbw⟩ := hrel
    have HK := Lib.hid hk
    have HBW := Lib.hid hbw
    have hle : k ≤ N := by omega
    have hdl := dropN_le F k
    clear hk hbw
    by_cases hlt : k < N
    · have hlt' : (k : Int) < N := by omega
      obtain ⟨g', e, hg, p0, p1⟩ := HC.out k (by rw [HN.out]; exact hlt)
      obtain rfl : g = g' := by simpa using e
      rw [← HBW.out.cell (p := ⟨g, k * 2, none⟩) hg] at p0
      rw [← HBW.out.cell (p := ⟨g, k * 2 + 1, none⟩) hg] at p1
      have hr := HF.out.at (i := k) (by rw [HN.out]; exact hlt)
      obtain ⟨K, hK⟩ : ∃ K, frK F k = K := ⟨_, rfl⟩
      have hu : dropN F (k + 1) = if K = 1 ∨ K = 7 then k else dropN F k := by show (if frK F k = 1 ∨ frK F k = 7 then _ else _) = _; rw [hK]
      rw [hK] at p0 hr
      have HU := Lib.hid hu
      clear hK hu e
      have t1 := nm_eq (a := K) (by omega) 1 (by omega)
      have t7 := nm_eq (a := K) (by omega) 7 (by omega)
      rw [show (nm 1).toList = [98, 108, 111, 99, 107] by rw [Lib.toList_data]; rfl] at t1
      rw [show (nm 7).toList = [123] by rw [Lib.toList_data]; rfl] at t7
      obtain ⟨T, hT⟩ : ∃ T, nm K = T := ⟨_, rfl⟩
      rw [hT] at p0 t1 t7
      clear hT
      obtain ⟨D, hD⟩ : ∃ D, dropN F k = D := ⟨_, rfl⟩
      rw [hD] at HU hdl ⊢
      clear hD
      by_cases hk1 : K = 1
      · have HU2 := Lib.hid (show dropN F (k + 1) = k by rw [HU.out, if_pos (.inl hk1)])
        simp only [hk1, decide_true] at t1
        rw [hk1] at t7
        simp only [show decide ((1 : Int) = 7) = false from rfl] at t7
        clear hk1
        go_wp2
        go_roundg (N - (k + 1))
        case measure => have := HK.out; omega
        case rel => exact ⟨k + 1, by have := HK.out; omega, by go_num, by rw [HU2.out], HBW.out⟩
      · by_cases hk7 : K = 7
        · have HU2 := Lib.hid (show dropN F (k + 1) = k by rw [HU.out, if_pos (.inr hk7)])
          simp only [hk1, decide_false] at t1
          simp only [hk7, decide_true] at t7
          clear hk1 hk7
          go_wp2
          go_roundg (N - (k + 1))
          case measure => have := HK.out; omega
          case rel => exact ⟨k + 1, by have := HK.out; omega, by go_num, by rw [HU2.out], HBW.out⟩
        · have HU2 := Lib.hid (show dropN F (k + 1) = D by rw [HU.out, if_neg (by omega)])
          simp only [hk1, decide_false] at t1
          simp only [hk7, decide_false] at t7
          clear hk1 hk7
          go_wp2
          go_roundg (N - (k + 1))
          case measure => have := HK.out; omega
          case rel => exact ⟨k + 1, by have := HK.out; omega, by go_num, by rw [HU2.out], HBW.out⟩
    · obtain rfl : k = N := by omega
      obtain ⟨D, hD⟩ : ∃ D, dropN F k = D := ⟨_, rfl⟩
      rw [hD] at hdl ⊢
      have HD := Lib.hid hD
      clear hD
      go_wp2
      go_returns
      exact ⟨by rw [HD.out]; rfl, HBW.out⟩
end Go.Proofs.Ytidmclaaggoahaa.Ly
