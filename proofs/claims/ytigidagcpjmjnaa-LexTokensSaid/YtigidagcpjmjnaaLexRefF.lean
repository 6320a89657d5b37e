/-
  CONTRACTS of the document's own layer lex: what is wrong with a token; places; rows of tokens compared.
-/
import Derived.Test.YtigidagcpjmjnaaLexRefE
import Derived.Test.YtigidagcpjmjnaaLexPlain2
namespace Go.Proofs.Ytigidagcpjmjnaa.Lx
open Go.RowKit Pl Ar Dg Pa
set_option linter.unusedVariables false
set_option linter.unusedSimpArgs false
/-- what is wrong with a token's text -/
def rerr (l : List UInt8) (c : Int) : Int := if c = 4 then (wholeOf l).2 else if 32 < l.length then 2 else 0
theorem rk_int {l : List UInt8} {c : Int} (h : ¬ c = 4) : ¬ rk l c = 4 := by
  unfold rk kindOf
  rw [if_neg h]
  (repeat' split) <;> decide
theorem fault_any {c n : Int} (s : ByteArray) (h0 : 0 < s.size) (hs : s.size ≤ 1000000000) (hc : c = 2 ∨ c = 3 ∨ c = 4 ∨ c = 6 ∨ c = 7) (hcl : cls s[0].toNat = c) (hn : rerr s.data.toList c = n) (w : World) : Calls Try.prog 25 #[.string s] w fun e w' => e = .returned (.int .i64 n) ∧ Below w.heap.size w w' := by
  obtain ⟨k, hk⟩ : ∃ k, rk s.data.toList c = k := ⟨_, rfl⟩
  have HK := Lib.hid hk
  have HCL := Lib.hid hcl
  have HC := Lib.hid hc
  by_cases h4 : c = 4
  · subst h4
    obtain rfl : 4 = k := by rw [← hk]; rfl
    obtain ⟨⟨r, f⟩, hr⟩ : ∃ p, wholeOf s.data.toList = p := ⟨_, rfl⟩
    obtain rfl : f = n := by rw [← hn]; unfold rerr; rw [if_pos rfl, hr]
    have HR := Lib.hid hr
    clear hk hcl hn hr hc
    go_enter Try.func25, Try.ntmps25
    go_wp2_with fail
    refine (rkind_is h0 hs (Or.inr (Or.inr (Or.inl rfl))) HCL.out HK.out _).mono ?_
    rintro e w1 ⟨rfl, hb⟩
    have HB := Lib.hid hb
    clear hb
    go_wp2_with fail
    refine (number_any s (by omega) _).mono ?_
    rw [HR.out]
    rintro e w2 ⟨rfl, m, rfl⟩
    go_wp2
    go_ret
    exact ⟨rfl, belowN HB.out _⟩
  · have hk4 : (k == 4) = false := beq_eq_false_iff_ne.2 (by rw [← hk]; exact rk_int h4)
    by_cases hl : 32 < s.size
    · obtain rfl : 2 = n := by rw [← hn]; unfold rerr; rw [if_neg h4, if_pos (by rw [← Lib.size_eq]; exact hl)]
      have hl' : (32 : Int) < s.size := by omega
      clear hk hcl hn hc h4
      go_enter Try.func25, Try.ntmps25
      go_wp2_with fail
      refine (rkind_is h0 hs HC.out HCL.out HK.out _).mono ?_
      rintro e w1 ⟨rfl, hb⟩
      have HB := Lib.hid hb
      clear hb
      go_wp2
      go_ret
      exact ⟨rfl, HB.out⟩
    · obtain rfl : 0 = n := by rw [← hn]; unfold rerr; rw [if_neg h4, if_neg (by rw [← Lib.size_eq]; exact hl)]
      have hl' : ¬ (32 : Int) < s.size := by omega
      clear hk hcl hn hc h4
      go_enter Try.func25, Try.ntmps25
      go_wp2_with fail
      refine (rkind_is h0 hs HC.out HCL.out HK.out _).mono ?_
      rintro e w1 ⟨rfl, hb⟩
      have HB := Lib.hid hb
      clear hb
      go_wp2
      go_ret
      exact ⟨rfl, HB.out⟩
/-- the memory of the walk over a source's places -/
structure PM (B : Nat) (w wr : World) (ln col : Int) : Prop where
  r0 : wr.cell? ⟨B, 0, none⟩ = some (.int .i64 0)
  r1 : wr.cell? ⟨B, 1, none⟩ = some (.int .i64 0)
  a0 : wr.cell? ⟨B + 1, 0, none⟩ = some (.int .i64 ln)
  a1 : wr.cell? ⟨B + 1, 1, none⟩ = some (.int .i64 col)
  fr : ∀ b j, b < B + 2 → B ≤ b → wr.frozen? ⟨b, j, none⟩ = false
  be : Below B w wr
  sz : B + 2 ≤ wr.heap.size
theorem pm_two {B : Nat} {w wr : World} {ln col ln2 col2 : Int} (h : PM B w wr ln col) : PM B w ((wr.setCell ⟨B + 1, 0, none⟩ (.int .i64 ln2)).setCell ⟨B + 1, 1, none⟩ (.int .i64 col2)) ln2 col2 := by
  constructor
  · rw [World.cell?_setCell_other _ _ _ _ (by simp), World.cell?_setCell_other _ _ _ _ (by simp)]; exact h.r0
  · rw [World.cell?_setCell_other _ _ _ _ (by simp), World.cell?_setCell_other _ _ _ _ (by simp)]; exact h.r1
  · rw [World.cell?_setCell_other _ _ _ _ (by simp)]
    exact set_same (u := .int .i64 ln) h.a0
  · exact set_same (u := .int .i64 col) (by rw [World.cell?_setCell_other _ _ _ _ (by simp)]; exact h.a1)
  · intro b j hlt hge
    rw [World.frozen?_setCell, World.frozen?_setCell]; exact h.fr b j hlt hge
  · exact (h.be.setCell (by show B ≤ B + 1; omega) _).setCell (by show B ≤ B + 1; omega) _
  · have := h.sz
    simp; omega
theorem pm_one {B : Nat} {w wr : World} {ln col col2 : Int} (h : PM B w wr ln col) : PM B w (wr.setCell ⟨B + 1, 1, none⟩ (.int .i64 col2)) ln col2 := by
  constructor
  · rw [World.cell?_setCell_other _ _ _ _ (by simp)]; exact h.r0
  · rw [World.cell?_setCell_other _ _ _ _ (by simp)]; exact h.r1
  · rw [World.cell?_setCell_other _ _ _ _ (by simp)]; exact h.a0
  · exact set_same (u := .int .i64 col) h.a1
  · intro b j hlt hge
    rw [World.frozen?_setCell]; exact h.fr b j hlt hge
  · exact (h.be.setCell (by show B ≤ B + 1; omega) _)
  · have := h.sz
    simp; omega
theorem pm_start (w : World) : PM w.heap.size w ((w.alloc (.cells #[.int .i64 0, .int .i64 0] 25)).alloc (.cells #[.int .i64 1, .int .i64 1] 25)) 1 1 := by
  constructor
  · simp [go_sem]
  · simp [go_sem]
  · simp [go_sem]
  · simp [go_sem]
  · intro b j h1 h2
    have e : b = w.heap.size ∨ b = w.heap.size + 1 := by omega
    rcases e with rfl | rfl <;> simp [go_sem]
  · exact ((Below.refl _ w).alloc (Nat.le_refl _) _).alloc (by simp) _
  · simp
theorem setPos {w2 : World} {b : Nat} {ln col : Int} (k0 : w2.cell? ⟨b, 0, none⟩ = some (.int .i64 0)) (k1 : w2.cell? ⟨b, 1, none⟩ = some (.int .i64 0)) :
    ((w2.setCell ⟨b, 0, none⟩ (.int .i64 ln)).setCell ⟨b, 1, none⟩ (.int .i64 col)).cell? ⟨b, 0, none⟩ = some (.int .i64 ln) ∧
    ((w2.setCell ⟨b, 0, none⟩ (.int .i64 ln)).setCell ⟨b, 1, none⟩ (.int .i64 col)).cell? ⟨b, 1, none⟩ = some (.int .i64 col) := by
  constructor
  · rw [World.cell?_setCell_other _ _ _ _ (by simp)]; exact set_same k0
  · exact set_same (u := .int .i64 0) (by rw [World.cell?_setCell_other _ _ _ _ (by simp)]; exact k1)
theorem plF_rng (l : List UInt8) : ∀ (p : Int × Int), 0 ≤ p.1 → 0 ≤ p.2 → 0 ≤ (plF p l).1 ∧ (plF p l).1 ≤ p.1 + l.length ∧ 0 ≤ (plF p l).2 ∧ (plF p l).2 ≤ p.2 + l.length + 1 := by
  induction l with
  | nil => intro p h1 h2; simp [plF]; omega
  | cons c r ih =>
    intro p h1 h2
    have e : plF p (c :: r) = plF (plStep p c) r := rfl
    rw [e]
    unfold plStep
    by_cases h : c = 10
    · rw [if_pos h]
      have := ih (p.1 + 1, 1) (by simp; omega) (by simp)
      simp at this ⊢
      omega
    · rw [if_neg h]
      have := ih (p.1, p.2 + 1) h1 (by simp; omega)
      simp at this ⊢
      omega
set_option maxHeartbeats 1000000 in
theorem place_any (s : ByteArray) (n : Nat) (hn : n ≤ s.size) (hs : s.size ≤ 1000000000) (w : World) : Calls Try.prog 24 #[.string s, .int .i64 n] w fun e w' => e = .returned (posV (plF (1, 1) (s.data.toList.take n)).1 (plF (1, 1) (s.data.toList.take n)).2) ∧ Below w.heap.size w w' := by
  obtain ⟨B, hB⟩ : ∃ B, w.heap.size = B := ⟨_, rfl⟩
  go_enter Try.func24, Try.ntmps24
  go_wp2_with fail
  have HB := Lib.hid hB
  clear hB
  go_loopw [6] (fun i wr => ∃ (k : Nat) (ln col : Int), k ≤ n ∧ i = .int .i64 k ∧ plF (1, 1) (s.data.toList.take k) = (ln, col) ∧ PM B w wr ln col) (fun i _ => n - (intOf i).toNat)
  case atStart => exact ⟨0, 1, 1, by omega, rfl, rfl, by rw [← HB.out]; exact pm_start w⟩
  case round =>
    obtain ⟨k, ln, col, hk, rfl, hp, hm⟩ := hrel
    have hr := plF_rng (s.data.toList.take k) (1, 1) (by decide) (by decide)
    rw [hp, List.length_take] at hr
    have hr1 : 0 ≤ ln ∧ ln ≤ 2000000000 ∧ 0 ≤ col ∧ col ≤ 2000000000 := by simp at hr; omega
    obtain ⟨b0, b1, b2, b3⟩ := hr1
    clear hr
    have HP := Lib.hid hp
    have HM := Lib.hid hm
    have a0 := hm.a0
    have a1 := hm.a1
    have f0 := hm.fr (B + 1) 0 (by omega) (by omega)
    have f1 := hm.fr (B + 1) 1 (by omega) (by omega)
    have hz : B + 1 < wr.heap.size := hm.sz
    clear hp hm
    by_cases hlt : k < n
    · have hlt' : (k : Int) < n := by omega
      have hltS : (k : Int) < s.size := by omega
      have hts : s.data.toList.take (k + 1) = s.data.toList.take k ++ [s[k]] := by
        rw [List.take_succ_eq_append_getElem (by rw [← Lib.size_eq]; omega)]; rfl
      by_cases h10 : s[k].toNat = 10
      · have d1 : ((s[k].toNat : Int) == 10) = true := beq_iff_eq.2 (by omega)
        have HP2 := Lib.hid (show plF (1, 1) (s.data.toList.take (k + 1)) = (ln + 1, 1) by
          rw [hts, plF_append, HP.out]
          show plStep (ln, col) s[k] = _
          unfold plStep; rw [if_pos (UInt8.toNat_inj.1 h10)])
        clear h10 hts
        go_wp2
        go_roundw
        case rel => exact ⟨k + 1, ln + 1, 1, by omega, by go_num, HP2.out, pm_two HM.out⟩
        case measure => simp [intOf]; omega
      · have d1 : ((s[k].toNat : Int) == 10) = false := beq_eq_false_iff_ne.2 (by omega)
        have HP2 := Lib.hid (show plF (1, 1) (s.data.toList.take (k + 1)) = (ln, col + 1) by
          rw [hts, plF_append, HP.out]
          show plStep (ln, col) s[k] = _
          unfold plStep; rw [if_neg (fun e => h10 (by rw [e]; rfl))])
        clear h10 hts
        go_wp2
        go_roundw
        case rel => exact ⟨k + 1, ln, col + 1, by omega, by go_num, HP2.out, pm_one HM.out⟩
        case measure => simp [intOf]; omega
    · have hlt' : ¬ (k : Int) < n := by omega
      have hke : k = n := by omega
      subst hke
      have r0 := HM.out.r0
      have r1 := HM.out.r1
      have e0 := HM.out.fr B 0 (by omega) (by omega)
      have e1 := HM.out.fr B 1 (by omega) (by omega)
      have hz2 : B < wr.heap.size := by omega
      obtain ⟨q0, q1⟩ := setPos (ln := ln) (col := col) r0 r1
      have Q0 := Lib.hid q0
      have Q1 := Lib.hid q1
      clear q0 q1
      go_wp2
      refine bodyPost_ret (by simp [results, Try.results24, go_sem, hz2, Q0.out, Q1.out]; try rfl) rfl ?_
      have hbw := HM.out.be
      refine ⟨by rw [HP.out], ?_⟩
      rw [HB.out]
      go_grown
end Go.Proofs.Ytigidagcpjmjnaa.Lx
