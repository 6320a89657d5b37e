/-
  CONTRACT: the document's Needs: a matrix that tells of each two things whether the one needs the other one.
-/
import Derived.Test.YtephmagficbdeaaGrO
import Derived.Test.YtephmagficbdeaaGrRef
namespace Go.Proofs.Ytephmagficbdeaa.Gr
open Go.RowKit Go.Shelf Go.Sort Mm Sp
set_option linter.unusedVariables false
set_option linter.unusedSimpArgs false
abbrev TBR : TypeId := 35
theorem Tbrow : (Try.prog.info? 35).map (fun i => (i.zero, i.size, i.bytes)) = some (some (.slice none 0 0), 1, 24) := by kernel_rfl
def upd2 (M : Nat → Nat → Bool) (a b : Nat) (v : Bool) : Nat → Nat → Bool := fun x y => if x = a ∧ y = b then v else M x y
/-- a matrix of the call's own: its first i rows are made -/
structure Mat (B : Nat) (w wr : World) (mb n i : Nat) (R : Nat → Nat) (M : Nat → Nat → Bool) : Prop where
  top : wr.ownsRow B TBR 1 (.slice (some ⟨mb, 0, none⟩) n n) n (fv n fun a => if a < i then .slice (some ⟨R a, 0, none⟩) n n else .slice none 0 0)
  row : ∀ a, a < i → wr.ownsRow B TB 1 (.slice (some ⟨R a, 0, none⟩) n n) n (fv n fun b => .bool (M a b))
  inj : ∀ a b, a < i → b < i → R a = R b → a = b
  bel : Below B w wr
section
variable {B : Nat} {w wr w2 : World} {mb n i : Nat} {R : Nat → Nat} {M M' : Nat → Nat → Bool}
theorem Mat.congr (h : Mat B w wr mb n i R M) (e : ∀ a b, a < i → b < n → M a b = M' a b) : Mat B w wr mb n i R M' :=
  ⟨h.top, fun a ha => by
    have := h.row a ha
    rwa [fv_congr (G := fun b => .bool (M' a b)) (fun b hb => by rw [e a b ha hb])] at this, h.inj, h.bel⟩
theorem Mat.drew (h : Mat B w wr mb n i R M) : Mat B w wr.drew mb n i R M := ⟨own_drew h.top, fun a ha => own_drew (h.row a ha), h.inj, h.bel.drew⟩
theorem Mat.hmb (h : Mat B w wr mb n i R M) : B ≤ mb := (World.ownsRow.lt h.top mb rfl).1
theorem Mat.hR (h : Mat B w wr mb n i R M) {a : Nat} (ha : a < i) : B ≤ R a ∧ R a < wr.heap.size := World.ownsRow.lt (h.row a ha) (R a) rfl
theorem Mat.topCell (h : Mat B w wr mb n i R M) {a : Nat} (ha : a < i) (hn : a < n) : wr.cell? ⟨mb, a, none⟩ = some (.slice (some ⟨R a, 0, none⟩) n n) := by
  have := (World.ownsRow.cellAt h.top a (by omega)).trans (fv_get hn)
  rwa [if_pos ha] at this
theorem Mat.cell (h : Mat B w wr mb n i R M) {a b : Nat} (ha : a < i) (hb : b < n) : wr.cell? ⟨R a, b, none⟩ = some (.bool (M a b)) :=
  (World.ownsRow.cellAt (h.row a ha) b (by omega)).trans (fv_get hb)
theorem Mat.new (h : Mat B w wr mb n i R M) (hin : i < n) (hB : B ≤ wr.heap.size) (hown : w2.ownsRow B TB 1 (.slice (some ⟨wr.heap.size, 0, none⟩) n n) n (fv n fun _ => .bool false)) (hg : wr.grownBy w2 none) :
    Mat B w (w2.setCell ⟨mb, i, none⟩ (.slice (some ⟨wr.heap.size, 0, none⟩) n n)) mb n (i + 1) (upd R i wr.heap.size) (upd M i fun _ => false) := by
  have ht : w2.ownsRow B TBR 1 (.slice (some ⟨mb, 0, none⟩) n n) n (fv n fun a => if a < i then .slice (some ⟨R a, 0, none⟩) n n else .slice none 0 0) := World.ownsRow.kept h.top hg (.inr (by simp [Value.ownBlock]))
  obtain ⟨cs, hb⟩ := own_block ht
  refine ⟨?_, fun a ha => ?_, fun a b ha hb e => ?_, ?_⟩
  · have := (World.ownsRow.stored ht i (.slice (some ⟨wr.heap.size, 0, none⟩) n n)).1
    rw [fv_set _ hin] at this
    rwa [fv_congr (G := fun a => if a < i + 1 then .slice (some ⟨upd R i wr.heap.size a, 0, none⟩) n n else .slice none 0 0) (fun a ha => by
      unfold upd
      by_cases e : a = i
      · rw [if_pos e, if_pos (by omega), if_pos e]
      · rw [if_neg e, if_neg e]
        show (if a < i then Value.slice (some ⟨R a, 0, none⟩) n n else .slice none 0 0) = _
        by_cases e2 : a < i
        · rw [if_pos e2, if_pos (by omega)]
        · rw [if_neg e2, if_neg (by omega)])] at this
  · by_cases e : a = i
    · subst e
      rw [upd_same, upd_same]
      exact own_far hown hb (by decide) a _
    · rw [upd_ne _ _ e, upd_ne _ _ e]
      exact own_far (World.ownsRow.kept (h.row a (by omega)) hg (.inr (by simp [Value.ownBlock]))) hb (by decide) i _
  · by_cases ea : a = i <;> by_cases eb : b = i
    · omega
    · rw [ea, upd_same, upd_ne _ _ eb] at e
      have := (h.hR (a := b) (by omega)).2
      omega
    · rw [eb, upd_same, upd_ne _ _ ea] at e
      have := (h.hR (a := a) (by omega)).2
      omega
    · rw [upd_ne _ _ ea, upd_ne _ _ eb] at e
      exact h.inj a b (by omega) (by omega) e
  · exact (h.bel.grown hg hB (fun k hk => by cases hk)).setCell (p := ⟨mb, i, none⟩) h.hmb _
theorem Mat.set (h : Mat B w wr mb n i R M) {a b : Nat} (ha : a < i) (hb : b < n) (v : Bool) : Mat B w (wr.setCell ⟨R a, b, none⟩ (.bool v)) mb n i R (upd2 M a b v) := by
  obtain ⟨cs, hx⟩ := own_block (h.row a ha)
  refine ⟨own_far h.top hx (by decide) b _, fun x hxi => ?_, h.inj, h.bel.setCell (p := ⟨R a, b, none⟩) (h.hR ha).1 _⟩
  by_cases e : x = a
  · subst e
    have := (World.ownsRow.stored (h.row x hxi) b (.bool v)).1
    rw [fv_set _ hb] at this
    rwa [fv_congr (G := fun y => .bool (upd2 M x b v x y)) (fun y hy => by
      unfold upd upd2
      by_cases e2 : y = b
      · rw [if_pos e2, if_pos ⟨rfl, e2⟩]
      · rw [if_neg e2, if_neg (fun q => e2 q.2)])] at this
  · have := ownsRow_setCell_other (h.row x hxi) (a := ⟨R a, b, none⟩) (fun q => e (h.inj x a hxi ha (by simpa [Value.ownBlock] using q))) (.bool v)
    rwa [fv_congr (G := fun y => .bool (upd2 M a b v x y)) (fun y hy => by unfold upd2; rw [if_neg (fun q => e q.1)])] at this
end
/-- what the document's Needs answers -/
def RNeedsPost (g : List (List Nat)) (w : World) (e : Ending) (w' : World) : Prop := ∃ mb R, e = .returned (.slice (some ⟨mb, 0, none⟩) g.length g.length) ∧ Mat w.heap.size w w' mb g.length g.length R (Wk g g.length)
set_option maxRecDepth 100000 in
set_option maxHeartbeats 8000000 in
theorem rneeds_any {ua : Option Addr} {uc : Nat} {g : List (List Nat)} (w : World) (hu : RRN w.heap.size w ua g) (hg : ∀ x < g.length, ∀ y ∈ U g x, y < g.length) (hN : g.length ≤ 2048) :
    Calls Try.prog 20 #[.slice ua g.length uc] w (RNeedsPost g w) := by
  obtain ⟨i0, hi0, hi1, hi2, hi3⟩ := info_parts Tbool
  obtain ⟨j0, hj0, hj1, hj2, hj3⟩ := info_parts Tbrow
  have HU := Lib.hid hu
  have HG := Lib.hid hg
  clear hu hg
  go_enter Try.func20, Try.ntmps20
  go_wp2_with (at_make; refine wpList_make_full _ rfl _ _ 40 rfl w.heap.size 35 j0 _ 1 Try.underlying40 hj0 hj1 hj2 _ _ _ _ g.length rfl rfl rfl rfl (by rw [hj3]; omega) (by unfold maxLen; omega) (Nat.le_refl _) ?_)
  intro w1 hown hgrow
  have hm1 : Mat w.heap.size w w1 w.heap.size g.length 0 (fun _ => 0) (fun _ _ => false) := by
    refine ⟨?_, fun a ha => absurd ha (Nat.not_lt_zero a), fun a b ha => absurd ha (Nat.not_lt_zero a), (Below.refl _ w).grown hgrow (Nat.le_refl _) (fun k h => by cases h)⟩
    rw [fv_congr (G := fun _ => .slice none 0 0) (fun a ha => if_neg (Nat.not_lt_zero a)), ← fv_made]
    simpa using hown
  have M1 := Lib.hid hm1
  clear hown hgrow hm1
  go_wp2_with fail
  go_loopg [5] g.length (fun d v wr => ∃ (i : Nat) (R : Nat → Nat) (M : Nat → Nat → Bool), i + d = g.length ∧ v = .int .i64 i ∧ Mat w.heap.size w wr w.heap.size g.length i R M ∧ ∀ a b, a < i → b < g.length → M a b = decide (b ∈ U g a))
  case atStart => exact ⟨0, _, _, by omega, rfl, M1.out, fun a b ha => absurd ha (Nat.not_lt_zero a)⟩
  case round =>
    obtain ⟨i, R, M, hi, rfl, hm, hM⟩ := hrel
    have HI := Lib.hid hi
    have HM := Lib.hid hm
    have HMM := Lib.hid hM
    have hile : i ≤ g.length := by omega
    have hzB := hm.bel.size
    clear hi hM hm
    by_cases hlt : i < g.length
    · have hlt' : (i : Int) < g.length := by omega
      have hmk : ∀ W : World, (Instr.makeSlice 35 (.int .i64 g.length) (.int .i64 g.length)).run Try.prog W = .ok (.slice (some ⟨W.heap.size, 0, none⟩) g.length g.length) (W.alloc (.cells (madeCells (Value.cells (.bool false)) (g.length * 1)) 4)) := fun W => by
        have := run_make (P := Try.prog) W 35 4 i0 (.bool false) Try.underlying35 hi0 hi1 .i64 .i64 g.length g.length (by omega) (Int.le_refl _) (by rw [hi3]; omega)
        have h64 : (g.length : Int) ≤ 9223372036854775807 := by omega
        simpa [hi2, h64] using this
      have hf := World.ownsRow.frozenAt (World.ownsRow.alloc HM.out.top (.cells (madeCells #[.bool false] g.length) TB)) i
      have hc : (wr.alloc (.cells (madeCells #[.bool false] g.length) TB)).cell? ⟨w.heap.size, i, none⟩ = some (.slice none 0 0) := by
        have := (World.ownsRow.cellAt (World.ownsRow.alloc HM.out.top (.cells (madeCells #[.bool false] g.length) TB)) i (by omega)).trans (fv_get hlt)
        rwa [if_neg (Nat.lt_irrefl i)] at this
      have M2 := Lib.hid (HM.out.new hlt hzB (made_own TB (.bool false) g.length hzB (by omega)) ⟨rfl, rfl, rfl, by simp, fun k hk _ => heap_alloc_old _ _ hk⟩)
      go_wp2_with fail
      all_goals (try go_region)
      all_goals (try go_wp2_with fail)
      all_goals (clear hmk hf hc)
      all_goals
        go_loopg [6] (U g i).length (fun d v wr => ∃ (q : Nat) (R : Nat → Nat) (M : Nat → Nat → Bool), q + d = (U g i).length ∧ v = .int .i64 q ∧ Mat w.heap.size w wr w.heap.size g.length (i + 1) R M ∧ (∀ a b, a < i → b < g.length → M a b = decide (b ∈ U g a)) ∧ ∀ b, M i b = decide (b ∈ (U g i).take q))
        case atStart =>
          have k1 : ∀ a b, a < i → b < g.length → upd M i (fun _ => false) a b = decide (b ∈ U g a) := fun a b ha hb => by rw [upd_ne _ _ (by omega)]; exact HMM.out a b ha hb
          have k2 : ∀ b, upd M i (fun _ => false) i b = decide (b ∈ (U g i).take 0) := fun b => by rw [upd_same]; simp
          first
            | exact ⟨0, _, _, by omega, rfl, M2.out, k1, k2⟩
            | exact ⟨0, _, _, by omega, rfl, M2.out.drew, k1, k2⟩
        case round =>
          obtain ⟨q, R3, M3, hq, rfl, hm3, hA3, hB3⟩ := hrel
          have HQ := Lib.hid hq
          have HM3 := Lib.hid hm3
          have HA3 := Lib.hid hA3
          have HB3 := Lib.hid hB3
          obtain ⟨ad, a2, c2, rfl, had, y0, hUl, hUj⟩ := (HU.out.below hm3.bel (Nat.le_refl _)) i hlt
          have HUJ := Lib.hid hUj
          have hqle : q ≤ (U g i).length := by omega
          clear hq hA3 hB3 hm3 hUj
          by_cases hqt : q < (U g i).length
          · have hqt' : (q : Int) < (U g i).length := by omega
            obtain ⟨ad2, rfl, had2, c0⟩ := HUJ.out q hqt
            have huN := HG.out i hlt _ (List.getElem_mem hqt)
            have HT := Lib.hid (show (U g i).take (q + 1) = (U g i).take q ++ [(U g i)[q]] by rw [List.take_add_one, List.getElem?_eq_getElem hqt]; rfl)
            generalize (U g i)[q] = u at c0 huN HT
            have huN' : (u : Int) < g.length := by omega
            have t0 := HM3.out.topCell (a := i) (by omega) hlt
            have t1 := HM3.out.cell (a := i) (by omega) huN
            have f0 := World.ownsRow.frozenAt (HM3.out.row i (by omega)) u
            go_wp2_with fail
            go_region
            all_goals
             go_wp2_with fail
            all_goals
             go_roundg ((U g i).length - (q + 1))
             case measure => have := HQ.out; omega
             case rel =>
               refine ⟨q + 1, R3, upd2 M3 i u true, by have := HQ.out; omega, by go_num, (HM3.out.set (by omega) huN true).drew, fun a b ha hb => ?_, fun b => ?_⟩
               · unfold upd2
                 rw [if_neg (by omega)]
                 exact HA3.out a b ha hb
               · unfold upd2
                 rw [HT.out]
                 by_cases e : b = u
                 · rw [if_pos ⟨rfl, e⟩]; simp [e]
                 · rw [if_neg (fun k => e k.2), HB3.out b]; simp [e]
          · have hge : ¬ (q : Int) < (U g i).length := by omega
            have hqn : q = (U g i).length := by omega
            have HB4 := Lib.hid (show ∀ b, M3 i b = decide (b ∈ U g i) by
              have := HB3.out
              rw [hqn, List.take_length] at this
              exact this)
            clear hqn
            go_wp2_with fail
            go_roundg (g.length - (i + 1))
            case measure => have := HI.out; omega
            case rel =>
              refine ⟨i + 1, R3, M3, by have := HI.out; omega, by go_num, HM3.out, fun a b ha hb => ?_⟩
              by_cases e : a = i
              · rw [e]; exact HB4.out b
              · exact HA3.out a b (by omega) hb
    · have hge : ¬ (i : Int) < g.length := by omega
      have hin : i = g.length := by omega
      have HM5 := Lib.hid (show Mat w.heap.size w wr w.heap.size g.length g.length R (Wk g 0) by
        have := HM.out.congr (M' := Wk g 0) (fun a b ha hb => by rw [HMM.out a b ha hb]; rfl)
        rwa [hin] at this)
      clear HM HMM HI hlt hile hin HU
      go_wp2_with fail
      go_loopg [7] g.length (fun d v wr => ∃ (k : Nat), k + d = g.length ∧ v = .int .i64 k ∧ Mat w.heap.size w wr w.heap.size g.length g.length R (Wk g k))
      case atStart => exact ⟨0, by omega, rfl, HM5.out⟩
      case round =>
        obtain ⟨k, hk, rfl, hm6⟩ := hrel
        have HK := Lib.hid hk
        have HM6 := Lib.hid hm6
        have hkle : k ≤ g.length := by omega
        clear hk hm6
        by_cases hkt : k < g.length
        · have hkt' : (k : Int) < g.length := by omega
          go_wp2_with fail
          go_loopg [8] g.length (fun d v wr => ∃ (x : Nat), x + d = g.length ∧ v = .int .i64 x ∧ Mat w.heap.size w wr w.heap.size g.length g.length R (Wm g k x 0))
          case atStart => exact ⟨0, by omega, rfl, by rw [Wm.start]; exact HM6.out⟩
          case round =>
            obtain ⟨x, hx, rfl, hm7⟩ := hrel
            have HX := Lib.hid hx
            have HM7 := Lib.hid hm7
            have hxle : x ≤ g.length := by omega
            clear hx hm7
            by_cases hxt : x < g.length
            · have hxt' : (x : Int) < g.length := by omega
              cases hwk : Wk g k x k with
              | false =>
                have HSK := Lib.hid (Wm.skip hwk)
                have t0 := HM7.out.topCell hxt hxt
                have t1 := HM7.out.cell hxt hkt
                rw [Wm.col, hwk] at t1
                clear hwk
                have h0n : (0 : Int) < g.length := by omega
                go_wp2_with fail
                go_loopg [9] 1 (fun d v wr2 => d = 1 ∧ v = .int .i64 0 ∧ wr2 = wr)
                case atStart => exact ⟨rfl, rfl, rfl⟩
                case round =>
                  obtain ⟨_, rfl, rfl⟩ := hrel
                  go_wp2_with fail
                  go_roundg (g.length - (x + 1))
                  case measure => have := HX.out; omega
                  case rel => exact ⟨x + 1, by have := HX.out; omega, by go_num, by rw [HSK.out]; exact HM7.out⟩
              | true =>
                have HWK := Lib.hid hwk
                clear hwk
                go_wp2_with fail
                go_loopg [9] g.length (fun d v wr => ∃ (y : Nat), y + d = g.length ∧ v = .int .i64 y ∧ Mat w.heap.size w wr w.heap.size g.length g.length R (Wm g k x y))
                case atStart => exact ⟨0, by omega, rfl, HM7.out⟩
                case round =>
                  obtain ⟨y, hy, rfl, hm8⟩ := hrel
                  have HY := Lib.hid hy
                  have HM8 := Lib.hid hm8
                  have hyle : y ≤ g.length := by omega
                  clear hy hm8
                  by_cases hyt : y < g.length
                  · have hyt' : (y : Int) < g.length := by omega
                    have t0 := HM8.out.topCell hxt hxt
                    have t1 := HM8.out.cell hxt hkt
                    rw [Wm.col, HWK.out] at t1
                    have t2 := HM8.out.topCell hkt hkt
                    have t3 := HM8.out.cell hxt hyt
                    have t4 := HM8.out.cell hkt hyt
                    have HST := Lib.hid (Wm.step (j := y) HWK.out)
                    have f0 := World.ownsRow.frozenAt (HM8.out.row x hxt) y
                    have hnew := fun v => HM8.out.set hxt hyt v
                    have HN := Lib.hid hnew
                    clear hnew
                    generalize hp : Wm g k x y x y = p at t3 HST
                    generalize hr : Wm g k x y k y = r at t4 HST
                    clear hp hr
                    cases p <;> cases r
                    all_goals
                      go_wp2_with fail
                      go_region
                      all_goals
                       go_wp2_with fail
                      all_goals
                       go_roundg (g.length - (y + 1))
                       case measure => have := HY.out; omega
                       case rel => exact ⟨y + 1, by have := HY.out; omega, by go_num, by rw [HST.out]; exact (HN.out _).drew⟩
                  · have hyge : ¬ (y : Int) < g.length := by omega
                    have hyn : y = g.length := by omega
                    have HM9 := Lib.hid (show Mat w.heap.size w wr w.heap.size g.length g.length R (Wm g k (x + 1) 0) from by
                      rw [hyn] at HM8
                      exact HM8.out.congr (fun a b ha hb => (Wm.rowEnd hb).symm))
                    clear hyn
                    go_wp2_with fail
                    go_roundg (g.length - (x + 1))
                    case measure => have := HX.out; omega
                    case rel => exact ⟨x + 1, by have := HX.out; omega, by go_num, HM9.out⟩
            · have hxge : ¬ (x : Int) < g.length := by omega
              have hxn : x = g.length := by omega
              have HM9 := Lib.hid (show Mat w.heap.size w wr w.heap.size g.length g.length R (Wk g (k + 1)) from by
                rw [hxn] at HM7
                exact HM7.out.congr (fun a b ha hb => Wm.done ha))
              clear hxn
              go_wp2_with fail
              go_roundg (g.length - (k + 1))
              case measure => have := HK.out; omega
              case rel => exact ⟨k + 1, by have := HK.out; omega, by go_num, HM9.out⟩
        · have hkge : ¬ (k : Int) < g.length := by omega
          have hkn : k = g.length := by omega
          have HM9 := Lib.hid (show Mat w.heap.size w wr w.heap.size g.length g.length R (Wk g g.length) by have := HM6.out; rwa [hkn] at this)
          clear hkn
          go_wp2_with fail
          go_ret
          exact ⟨w.heap.size, R, rfl, HM9.out⟩
end Go.Proofs.Ytephmagficbdeaa.Gr
