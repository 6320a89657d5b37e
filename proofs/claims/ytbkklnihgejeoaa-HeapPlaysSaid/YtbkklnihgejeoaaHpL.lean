/-
  CONTRACTS of layer heap: sweep.
-/
import Derived.Test.YtbkklnihgejeoaaHpK
namespace Go.Proofs.Ytbkklnihgejeoaa.Hp
open Go.RowKit Mm Tm
set_option linter.unusedVariables false
set_option linter.unusedSimpArgs false
/-- what the cells are when they are swept up to k -/
def upTo (m : Nat → Nat) (k : Nat) (a : Nat) : Nat := if a < k then swept m a else m a
theorem upTo_zero (m : Nat → Nat) : upTo m 0 = m := by
  funext a
  exact if_neg (by omega)
theorem upTo_at (m : Nat → Nat) (k : Nat) : upTo m k k = m k := if_neg (by omega)
theorem upTo_succ (m : Nat → Nat) (k : Nat) : upTo m (k + 1) = upd (upTo m k) k (swept m k) := by
  funext a
  unfold upd upTo
  by_cases e : a = k
  · rw [if_pos e, if_pos (by omega), e]
  · rw [if_neg e]
    by_cases h : a < k
    · rw [if_pos h, if_pos (by omega)]
    · rw [if_neg h, if_neg (by omega)]
theorem upTo_keep {m : Nat → Nat} {k : Nat} (h : swept m k = m k) : upTo m (k + 1) = upTo m k := by
  rw [upTo_succ, h]
  funext a
  unfold upd
  split
  · rename_i e; rw [e, upTo_at]
  · rfl
theorem freed_mono (m : Nat → Nat) {j : Nat} : ∀ n, j ≤ n → freed m j ≤ freed m n
  | 0, h => by rw [show j = 0 by omega]; exact Nat.le_refl _
  | n + 1, h => by
    by_cases e : j = n + 1
    · rw [e]; exact Nat.le_refl _
    · have := freed_mono m n (by omega : j ≤ n)
      show _ ≤ freed m n + _
      omega
theorem endM_succ (m : Nat → Nat) (k : Nat) : endM m (k + 1) = if m k = 2 then k + 1 else endM m k := rfl
theorem leastM_succ (l : Nat) (m : Nat → Nat) (k : Nat) : leastM l m (k + 1) = if m k = 1 then min (leastM l m k) k else leastM l m k := rfl
theorem freed_succ (m : Nat → Nat) (k : Nat) : freed m (k + 1) = freed m k + if m k = 1 then 1 else 0 := rfl
theorem upTo_all {m : Nat → Nat} {k : Nat} (h : ∀ a, k ≤ a → m a = 0) : upTo m k = swept m := by
  funext a
  unfold upTo
  split
  · rfl
  · unfold swept
    rw [h a (by omega)]
    rfl
def Hs.sw (S : Hs) (m : Nat → Nat) (k : Nat) : Hs := { S with is := upTo m k, least := leastM S.least m k, live := S.live - freed m k }
/-- while it is swept -/
structure SwL (B : Nat) (X : Nat → Prop) (w : World) (h : Nat) (S : Hs) (m : Nat → Nat) (v : Value) (n : Nat) (pb : Nat → Nat) (d : Nat) (e : Value) (i : Value) (wr : World) : Prop where
  mem : ∃ k, k + d = S.used ∧ i = .int .i64 k ∧ e = .int .i64 (endM m k) ∧ HpM B X wr h (S.sw m k) v n pb
  kept : KH B w wr
section
variable {B : Nat} {X : Nat → Prop} {w : World} {h : Nat} {S : Hs} {v : Value} {n : Nat} {pb : Nat → Nat} {m : Nat → Nat}
/-- a cell is freed -/
theorem HpM.zap (hm : HpM B X w h S v n pb) {a : Nat} (ha : a < n * 256) :
    HpM B X ((((w.setCell ⟨pb (a / 256), a % 256 * 4, none⟩ (.int .i64 0)).setCell ⟨pb (a / 256), a % 256 * 4 + 1, none⟩ (.int .i64 0)).setCell ⟨pb (a / 256), a % 256 * 4 + 2, none⟩ (.slice none 0 0)).setCell ⟨pb (a / 256), a % 256 * 4 + 3, none⟩ (.int .u8 0)) h { S with is := upd S.is a 0 } v n pb ∧
    Kept (fun b => b = pb (a / 256)) w ((((w.setCell ⟨pb (a / 256), a % 256 * 4, none⟩ (.int .i64 0)).setCell ⟨pb (a / 256), a % 256 * 4 + 1, none⟩ (.int .i64 0)).setCell ⟨pb (a / 256), a % 256 * 4 + 2, none⟩ (.slice none 0 0)).setCell ⟨pb (a / 256), a % 256 * 4 + 3, none⟩ (.int .u8 0)) := by
  obtain ⟨hp1, cs, hb, hs⟩ := hm.page ha
  have hlt : a % 256 < 256 := Nat.mod_lt _ (by omega)
  have hk := kept_set (kept_set (kept_set (kept_set (Kept.refl (fun b => b = pb (a / 256)) w) (a % 256 * 4) (.int .i64 0)) (a % 256 * 4 + 1) (.int .i64 0)) (a % 256 * 4 + 2) (.slice none 0 0)) (a % 256 * 4 + 3) (.int .u8 0)
  have hbw := (((hb.put (a % 256 * 4) (.int .i64 0)).put (a % 256 * 4 + 1) (.int .i64 0)).put (a % 256 * 4 + 2) (.slice none 0 0)).put (a % 256 * 4 + 3) (.int .u8 0)
  generalize hW : (((w.setCell ⟨pb (a / 256), a % 256 * 4, none⟩ (.int .i64 0)).setCell ⟨pb (a / 256), a % 256 * 4 + 1, none⟩ (.int .i64 0)).setCell ⟨pb (a / 256), a % 256 * 4 + 2, none⟩ (.slice none 0 0)).setCell ⟨pb (a / 256), a % 256 * 4 + 3, none⟩ (.int .u8 0) = W at hk hbw
  have hnd : S.nd = upd S.nd a (S.nd a) := by
    funext b
    unfold upd
    split
    · rename_i e; rw [e]
    · rfl
  have ht := hm.turn (x := S.nd a) (is := 0) ha hk hbw (by simp [hs]) (fun i hi => by rw [hbw.cell, hb.cell, get_set (by omega), get_set (by omega), get_set (by omega), get_set (by omega)]) ⟨by rw [hbw.cell, get_self (by simp; omega)]; rfl, fun hne => absurd rfl hne⟩
  rw [← hnd] at ht
  exact ⟨ht, hk⟩
end
def SwP (B : Nat) (X : Nat → Prop) (w : World) (h : Nat) (S S' : Hs) (e : Ending) (w' : World) : Prop := e = .returned (.int .i64 ((S.live : Int) - S'.live)) ∧ HpI B X w' h S' ∧ KH B w w'
set_option maxRecDepth 100000 in
set_option maxHeartbeats 8000000 in
theorem sweep_any {B : Nat} {X : Nat → Prop} {h : Nat} {S : Hs} {v : Value} {n : Nat} {pb : Nat → Nat} {roots : List Int} {m : Nat → Nat} (w : World) (hm : HpM B X w h { S with is := m } v n pb) (g : Good S) (hI : MkInv S roots m []) :
    Calls Try.prog 34 #[.pointer (some ⟨h, 0, none⟩)] w (SwP B X w h S (S.swept m)) := by
  have HM := Lib.hid hm
  have HG := Lib.hid g
  have HI := Lib.hid hI
  have HFR := Lib.hid (swept_good g hI).2
  have hfit := g.fits
  have hlim := g.lim
  have hcap := g.cap
  have HLE := Lib.hid (show ∀ a, m a ≤ 2 from fun a => by
    rcases hI.cells a with q | q
    · have := g.one a; omega
    · omega)
  obtain ⟨x0, x1, x2, x3, x4, x5, x6⟩ := hm.box.cells7
  simp only at x2 x4
  clear x0 x1 x3 x5 x6 hm g hI
  go_enter Try.func34, Try.ntmps34
  go_wp2_with fail
  go_loopg [4, 16] S.used (fun d e i wr => SwL B X w h S m v n pb d e i wr)
  case atStart => exact ⟨⟨0, by omega, rfl, rfl, by have := HM.out; unfold Hs.sw; rw [upTo_zero]; exact this⟩, KG.refl _ _ _ _⟩
  case round =>
    obtain ⟨⟨k, hk, rfl, rfl, hm⟩, hkh⟩ := hrel
    have HMr := Lib.hid hm
    have HKH := Lib.hid hkh
    have HD := Lib.hid hk
    have hkle : k ≤ S.used := by omega
    by_cases hlt : k < S.used
    case neg =>
      obtain rfl : k = S.used := by omega
      have hE := endM_le m S.used
      have hrm : S.used ≤ n * 256 := hm.room
      have hfw := hm.few
      have habove : ∀ a, S.used ≤ a → m a = 0 := fun a ha => by
        rcases HI.out.cells a with q | q
        · rw [q, HG.out.above a ha]
        · have := HG.out.above a ha; omega
      obtain ⟨W1, hW1⟩ : ∃ W1, wr.setCell ⟨h, 2, none⟩ (.int .i64 (endM m S.used)) = W1 := ⟨_, rfl⟩
      have hk1 : Kept (fun b => b = h) wr W1 := by rw [← hW1]; exact kept_put (Kept.refl _ _) 2 _
      have hb1 : Box W1 h TH #[v, .int .i64 S.cap, .int .i64 (endM m S.used), .int .i64 (leastM S.least m S.used), .int .i64 ((S.live - freed m S.used : Nat) : Int), .int .i64 S.allocs, .pointer (some ⟨h, 0, none⟩)] := by rw [← hW1]; exact hm.box.put 2 _
      have hm1 : HpM B X W1 h (S.swept m) v n pb := hm.field hk1 hb1 (by show endM m S.used ≤ n * 256; omega) (upTo_all habove).symm rfl
      have HKH1 := Lib.hid (hkh.trans (kh_field hm hk1))
      have HM1 := Lib.hid hm1
      have f2 := hm.box.free 2
      have y2 : wr.cell? ⟨h, 2, none⟩ = some (.int .i64 S.used) := hm.box.cell 2
      obtain ⟨z0, z1, z2, z3, z4, _⟩ := hb1.cells7
      have f0 := hb1.free 0
      have hlf := HFR.out
      have hfin : ∀ w2 v2 n2, HpM B X w2 h (S.swept m) v2 n2 pb → KH B W1 w2 → SwP B X w h S (S.swept m) (.returned (.int .i64 ((S.live : Int) - ((S.live - freed m S.used : Nat) : Int)))) w2 := fun w2 v2 n2 q1 q2 => ⟨rfl, ⟨v2, n2, pb, q1⟩, HKH1.out.trans q2⟩
      have HFIN := Lib.hid hfin
      generalize hEq : endM m S.used = E at *
      have HEQ := Lib.hid hEq
      have hLle : S.live - freed m S.used ≤ S.live := Nat.sub_le _ _
      generalize hLq : S.live - freed m S.used = L at *
      have hlive : (S.swept m).live = L := hLq
      obtain ⟨va, vc, rfl⟩ := own_slice hm1.pages.own
      have hq : (E + 255) / 256 ≤ n := by omega
      have hq2 : E ≤ (E + 255) / 256 * 256 := by omega
      have hown1 := hm1.pages.own
      have husd : (S.swept m).used = E := hEq
      clear hLq hfin hk1 hb1 hm1 hk hkh hEq habove hm
      generalize hqq : (E + 255) / 256 = q at *
      cases va with
      | none =>
        have hv0 : n = 0 ∧ vc = 0 := by
          rcases hown1.2 with ⟨h2, h3⟩ | ⟨g', cap, cur, h2, _⟩
          · injection h2 with e1 e2 e3
            exact ⟨h3, e3⟩
          · simp at h2
        obtain ⟨rfl, rfl⟩ := hv0
        obtain rfl : q = 0 := by omega
        have hcl : ∀ ty a c, (Builtin.clear_ #[59] ty #[.slice a 0 c]).run Try.prog W1 = .ok (.tuple #[]) W1 := fun ty a c => by
          cases a <;> simp [Builtin.clear_, run_underlying Try.underlying59]
        have hk2 := kept_put (Kept.refl (fun b => b = h) W1) 0 (.slice none 0 0)
        have hb2 := HM1.out.box.put 0 (.slice none 0 0)
        have HT := Lib.hid (And.intro (HM1.out.field (S' := S.swept m) hk2 hb2 HM1.out.room rfl rfl) (kh_field HM1.out hk2))
        have p4 : (W1.setCell ⟨h, 0, none⟩ (.slice none 0 0)).cell? ⟨h, 4, none⟩ = some (.int .i64 L) := by rw [← hlive]; exact hb2.cell 4
        clear hlive husd
        clear hown1 hk2 hb2
        go_wp2_with (simp only [hcl])
        go_ret
        exact HFIN.out _ _ _ HT.out.1 HT.out.2
      | some ad =>
        obtain ⟨g, hg, hgc, cur, hcur, hsz⟩ : ∃ g, ad = ⟨g, 0, none⟩ ∧ n ≤ vc ∧ ∃ cur, Box W1 g TR cur ∧ cur.size = vc := by
          rcases hown1.2 with ⟨h2, h3⟩ | ⟨g', cap, cur, h2, _, hh, hc, _, hs, _⟩
          · simp at h2
          · injection h2 with e1 e2 e3
            injection e1 with e1
            subst e3
            exact ⟨g', e1, hc, cur, hh, by omega⟩
        subst hg
        have hvm : vc ≤ 9223372036854775807 := by
          rcases hown1.2 with ⟨h2, h3⟩ | ⟨g', cap, cur, h2, _, hh, hc, hl, hs, _⟩
          · simp at h2
          · injection h2 with e1 e2 e3
            subst e3
            unfold maxLen at hl
            exact hl
        by_cases hqn : q = n
        · subst hqn
          have hcl : ∀ ty a c, (Builtin.clear_ #[59] ty #[.slice a 0 c]).run Try.prog W1 = .ok (.tuple #[]) W1 := fun ty a c => by
            cases a <;> simp [Builtin.clear_, run_underlying Try.underlying59]
          have HT := Lib.hid (HM1.out.trim hq (by rw [husd]; exact hq2) [])
          have p4 : (W1.setCell ⟨h, 0, none⟩ (.slice (some ⟨g, 0, none⟩) q vc)).cell? ⟨h, 4, none⟩ = some (.int .i64 L) := by rw [← hlive]; exact (HM1.out.box.put 0 _).cell 4
          clear hlive husd
          by_cases hvn : vc = q
          · subst hvn
            clear hcur hown1
            go_wp2_with (simp only [hcl])
            go_ret
            exact HFIN.out _ _ _ HT.out.1 HT.out.2
          · clear hcur hown1
            go_wp2_with (simp only [hcl])
            go_ret
            exact HFIN.out _ _ _ HT.out.1 HT.out.2
        · have hcl : ∀ ty, (Builtin.clear_ #[59] ty #[.slice (some ⟨g, q, none⟩) (n - q) (vc - q)]).run Try.prog W1 = .ok (.tuple #[]) (W1.setCells g q (List.replicate (n - q) (.slice none 0 0))) :=
            fun ty => Lib.run_clear_slice W1 _ TR ty (.slice none 0 0) Try.underlying59 (fun w => by kernel_rfl) rfl rfl g q _ _ (by omega) (fun j hj => by rw [hcur.cell, Array.getElem?_eq_getElem (by omega)]; rfl) (fun j hj => hcur.free _)
          have HT := Lib.hid (HM1.out.trim hq (by rw [husd]; exact hq2) (List.replicate (n - q) (.slice none 0 0)))
          obtain ⟨W2, hW2⟩ : ∃ W2, W1.setCells g q (List.replicate (n - q) (.slice none 0 0)) = W2 := ⟨_, rfl⟩
          rw [hW2] at HT hcl
          have hgh : g ≠ h := by
            rintro rfl
            exact absurd (Box.same hcur HM1.out.box) (by decide)
          have hb2 : Box W2 h TH _ := ((by rw [← hW2]; exact kept_setCells _ _ _ : Kept (fun b => b = g) W1 W2).block h HM1.out.box.lt (fun e => hgh e.symm)).trans HM1.out.box
          have p0 := hb2.cell 0
          have pf := hb2.free 0
          have p4 : (W2.setCell ⟨h, 0, none⟩ (.slice (some ⟨g, 0, none⟩) q vc)).cell? ⟨h, 4, none⟩ = some (.int .i64 L) := by rw [← hlive]; exact (hb2.put 0 _).cell 4
          clear hlive husd
          clear hcur hown1 hb2 hgh hW2
          go_wp2_with (simp only [hcl])
          go_ret
          exact HFIN.out _ _ _ HT.out.1 HT.out.2
    have q1 : decide (k < S.used) = true := decide_eq_true hlt
    have hkk : k < n * 256 := by have := hm.room; have : S.used ≤ n * 256 := this; omega
    have HAT := Lib.hid (at_any wr hm k hkk)
    have hmark := (hm.cells k hkk).mark
    have hup : (S.sw m k).is k = m k := upTo_at m k
    rw [hup] at hmark
    have hfr : ∀ j, wr.frozen? ⟨pb (k / 256), j, none⟩ = false := by
      obtain ⟨_, _, _, _, _, _, q⟩ := hm.there hkk
      exact q
    rcases (show m k = 0 ∨ m k = 1 ∨ m k = 2 by have := HLE.out k; omega) with h0 | h0 | h0
    · rw [h0] at hmark
      have HE := Lib.hid (show SwL B X w h S m v n pb (S.used - (k + 1)) (.int .i64 (endM m k)) (.int .i64 ((k : Int) + 1)) wr from ⟨⟨k + 1, by omega, rfl, by rw [endM_succ, if_neg (by omega)], by
        have e : S.sw m (k + 1) = S.sw m k := by
          unfold Hs.sw
          rw [leastM_succ, freed_succ, upTo_keep (by unfold swept; rw [if_neg (by omega), h0]), if_neg (by omega), if_neg (by omega), Nat.add_zero]
        rw [e]; exact HMr.out⟩, HKH.out⟩)
      clear hm hkh hk h0 hup hfr
      go_wp2_with fail
      with_reducible refine HAT.out.mono ?_
      rintro e w' ⟨rfl, rfl⟩
      go_wp2_with fail
      go_roundg (S.used - (k + 1))
      case measure => have := HD.out; omega
      case rel => exact HE.out
    · rw [h0] at hmark
      have hne : (S.sw m k).is k ≠ 0 := by rw [hup]; omega
      obtain ⟨c0, c1, c2, c3', c4, c5, _⟩ := hm.there hkk
      have hzp := hm.zap hkk
      obtain ⟨W1, hW1⟩ : ∃ W1, (((wr.setCell ⟨pb (k / 256), k % 256 * 4, none⟩ (.int .i64 0)).setCell ⟨pb (k / 256), k % 256 * 4 + 1, none⟩ (.int .i64 0)).setCell ⟨pb (k / 256), k % 256 * 4 + 2, none⟩ (.slice none 0 0)).setCell ⟨pb (k / 256), k % 256 * 4 + 3, none⟩ (.int .u8 0) = W1 := ⟨_, rfl⟩
      rw [hW1] at hzp
      obtain ⟨hm1, hk1⟩ := hzp
      have hmono := freed_mono m (k + 1) (j := k + 1) (Nat.le_refl _)
      have hmono2 := freed_mono m S.used (j := k + 1) hlt
      have hfs := freed_succ m k
      rw [if_pos h0] at hfs
      have hlf := HFR.out
      have hls := leastM_succ S.least m k
      rw [if_pos h0] at hls
      have hle3 := leastM_le S.least m k
      have hL : ((S.live - freed m k : Nat) : Int) - 1 = ((S.live - freed m (k + 1) : Nat) : Int) := by omega
      have e3 : ((if (k : Int) < ((leastM S.least m k : Nat) : Int) then (k : Int) else ((leastM S.least m k : Nat) : Int))) = ((leastM S.least m (k + 1) : Nat) : Int) := by
        rw [hls]
        split <;> omega
      have hb2 := (hm1.box.put 3 (.int .i64 ((leastM S.least m (k + 1) : Nat) : Int))).put 4 (.int .i64 ((S.live - freed m (k + 1) : Nat) : Int))
      have hk2 := kept_put (kept_put (Kept.refl (fun b => b = h) W1) 3 (.int .i64 ((leastM S.least m (k + 1) : Nat) : Int))) 4 (.int .i64 ((S.live - freed m (k + 1) : Nat) : Int))
      have hm2 := hm1.field (S' := S.sw m (k + 1)) hk2 hb2 hm1.room (by show upTo m (k + 1) = upd (upTo m k) k 0; rw [upTo_succ]; unfold swept; rw [if_neg (by omega)]) rfl
      have HE := Lib.hid (show SwL B X w h S m v n pb (S.used - (k + 1)) (.int .i64 (endM m k)) (.int .i64 ((k : Int) + 1)) _ from ⟨⟨k + 1, by omega, rfl, by rw [endM_succ, if_neg (by omega)], hm2⟩, (hkh.trans (kh_page hm hkk hk1)).trans (kh_field hm1 hk2)⟩)
      have y3 : W1.cell? ⟨h, 3, none⟩ = some (.int .i64 (leastM S.least m k)) := hm1.box.cell 3
      have y4 : W1.cell? ⟨h, 4, none⟩ = some (.int .i64 ((S.live - freed m k : Nat) : Int)) := hm1.box.cell 4
      have g3 := hm1.box.free 3
      have g4 := hm1.box.free 4
      have HLS := Lib.hid hls
      have HL := Lib.hid hL
      clear hm hkh hk h0 hup hne hb2 hk2 hm2 hm1 hk1 hls hfs hmono hmono2 hL e3 hle3
      go_wp2_with fail
      with_reducible refine HAT.out.mono ?_
      rintro e w' ⟨rfl, rfl⟩
      go_wp2_with fail
      all_goals
        go_roundg (S.used - (k + 1))
        case measure => have := HD.out; omega
        case rel =>
          have hx := HE.out
          rw [HLS.out, ← HL.out] at hx
          rcases Nat.lt_or_ge k (leastM S.least m k) with q | q
          · rw [Nat.min_eq_right (Nat.le_of_lt q)] at hx
            first | exact hx | (exfalso; omega)
          · rw [Nat.min_eq_left q] at hx
            first | exact hx | (exfalso; omega)
    · rw [h0] at hmark
      have hne : (S.sw m k).is k ≠ 0 := by rw [hup]; omega
      obtain ⟨hm1, hk1⟩ := hm.mark hkk 1 hne
      have hm2 : HpM B X _ h (S.sw m (k + 1)) v n pb := hm1.field (S' := S.sw m (k + 1)) (Kept.refl _ _) (by
        have := hm1.box
        have e1 : (S.sw m (k + 1)).least = (S.sw m k).least := by
          show leastM S.least m (k + 1) = leastM S.least m k
          rw [leastM_succ, if_neg (by omega)]
        have e2 : (S.sw m (k + 1)).live = (S.sw m k).live := by
          show S.live - freed m (k + 1) = S.live - freed m k
          rw [freed_succ, if_neg (by omega), Nat.add_zero]
        rw [e1, e2]
        exact this) hm1.room (by show upTo m (k + 1) = upd (upTo m k) k 1; rw [upTo_succ]; unfold swept; rw [if_pos h0]) rfl
      have HE := Lib.hid (show SwL B X w h S m v n pb (S.used - (k + 1)) (.int .i64 ((k : Int) + 1)) (.int .i64 ((k : Int) + 1)) _ from ⟨⟨k + 1, by omega, rfl, by rw [endM_succ, if_pos h0]; rfl, hm2⟩, hkh.trans (kh_page hm hkk hk1)⟩)
      clear hm hkh hk h0 hup hne hm2 hm1 hk1
      go_wp2_with fail
      with_reducible refine HAT.out.mono ?_
      rintro e w' ⟨rfl, rfl⟩
      go_wp2_with fail
      go_roundg (S.used - (k + 1))
      case measure => have := HD.out; omega
      case rel => exact HE.out
end Go.Proofs.Ytbkklnihgejeoaa.Hp
