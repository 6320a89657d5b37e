/-
  CONTRACTS of layer heap: the laws' played.
-/
import Derived.Test.YtbkklnihgejeoaaHpP
namespace Go.Proofs.Ytbkklnihgejeoaa.Hp
open Go.RowKit Mm Tm Ha
set_option linter.unusedVariables false
set_option linter.unusedSimpArgs false
/-- while calls are made -/
structure PdL (w : World) (c : Nat) (l : List HOp) (d : Nat) (i : Value) (wr : World) : Prop where
  mem : ∃ (k : Nat) (S : Hs), k + d = l.length ∧ i = .int .i64 k ∧ HpI w.heap.size (fun _ => False) wr w.heap.size S ∧ Pl c k S
  kept : KH w.heap.size w wr
def PlayP (c : Nat) (w : World) (e : Ending) (w' : World) : Prop := ∃ S, e = .returned (.pointer (some ⟨w.heap.size, 0, none⟩)) ∧ HpI w.heap.size (fun _ => False) w' w.heap.size S ∧ Pl c 400 S ∧ Below w.heap.size w w'
theorem rd_za {B : Nat} {w : World} {a : Option Addr} {l : List Int} (h : RdI (· < B) w a l) (hB : B ≤ w.heap.size) : RdI (ZA B w) w a l := h.mono fun b hb => ⟨Nat.lt_of_lt_of_le hb hB, .inl hb⟩
set_option maxRecDepth 100000 in
set_option maxHeartbeats 8000000 in
theorem played_any {a : Option Addr} {lc c : Nat} {l : List HOp} (w : World) (hr : RdO (· < w.heap.size) w a l) (hf : fewB l = true) (h1 : 1 ≤ c) (h2 : c ≤ 16777216) :
    Calls Try.prog 18 #[.int .i64 c, .slice a l.length lc] w (PlayP c w) := by
  obtain ⟨hlen, hlens⟩ := fewB_get hf
  have HR := Lib.hid hr
  have HLS := Lib.hid hlens
  have HN := Lib.hid (new_any (fun _ => False) c w h1 h2)
  clear hr hf hlens
  go_enter Try.func18, Try.ntmps18
  go_wp2_with fail
  refine HN.out.mono ?_
  rintro e w1 ⟨rfl, hp1, hb1⟩
  have HL := Lib.hid (show PdL w c l l.length (.int .i64 0) w1 from ⟨⟨0, Hp.start c, by omega, rfl, hp1, Pl.start h2⟩, KG.of_below hb1 (Nat.le_refl _)⟩)
  clear hp1 hb1
  go_wp2_with fail
  go_loopg [7] l.length (fun d i wr => PdL w c l d i wr)
  case atStart => exact HL.out
  case round =>
    obtain ⟨⟨k, S, hd, rfl, hp, hpl⟩, hkh⟩ := hrel
    have HD := Lib.hid hd
    have HP := Lib.hid hp
    have HPL := Lib.hid hpl
    have HKH := Lib.hid hkh
    have hkl : k ≤ l.length := by omega
    by_cases hlt : k < l.length
    case neg =>
      have hge : ¬ (k : Int) < l.length := by omega
      clear hd hp hpl hkh
      go_wp2_with fail
      go_ret
      exact ⟨S, rfl, HP.out, HPL.out.more (by omega), HKH.out.below (Nat.le_refl _)⟩
    have hrw := (HR.out).below (HKH.out.below (Nat.le_refl _)) (fun b q => q)
    obtain ⟨ad, la, lc', ha, hz, c0, c1, c2, c3, c4, hrl, _⟩ := hrw k _ (List.getElem?_eq_getElem hlt)
    have hol := HLS.out _ (List.getElem_mem hlt)
    generalize hoo : l[k] = o at *
    subst ha
    have HRL := Lib.hid (rd_za hrl (HKH.out.size))
    have HOL := Lib.hid hol
    clear hrw hrl hoo hd hp hpl hkh hz
    obtain ⟨kd, oa, ⟨tag, nn, ol⟩⟩ := o
    simp only at c0 c1 c2 c3 c4 hol
    by_cases hk1 : kd = 1
    · subst hk1
      have HA := Lib.hid (alloc_step (lc := lc') wr HP.out HPL.out (x := ⟨tag, nn, ol⟩) ⟨HRL.out, by show ol.length * 8 ≤ _; omega⟩ hol (by omega))
      simp only at HA
      go_wp2_with fail
      with_reducible refine HA.out.mono ?_
      rintro e w2 ⟨v2, S2, rfl, hp2, hpl2, hk2⟩
      have HE := Lib.hid (show PdL w c l (l.length - (k + 1)) (.int .i64 ((k : Int) + 1)) w2 from ⟨⟨k + 1, S2, by omega, rfl, hp2, hpl2⟩, HKH.out.trans hk2⟩)
      clear hp2 hpl2 hk2
      go_wp2_with fail
      go_roundg (l.length - (k + 1))
      case measure => have := HD.out; omega
      case rel => exact HE.out
    have q1 : (kd == 1) = false := beq_eq_false_iff_ne.2 hk1
    by_cases hk2 : kd = 2
    · subst hk2
      have HA := Lib.hid (set_step (p := oa) (lc := lc') wr.drew (HP.out.below (Below.drew (Below.refl _ wr))) HPL.out (x := ⟨tag, nn, ol⟩) ((NdA.mk HRL.out (by show ol.length * 8 ≤ _; omega)).below (Below.drew (Below.refl _ wr))) hol)
      simp only at HA
      go_wp2_with fail
      refine Sq.region_reads 11 (by kernel_rfl) (by kernel_rfl) ?_
      simp only [List.take_succ_cons, List.take_zero, List.drop_succ_cons, List.drop_zero]
      repeat (go_big_quiet_step (fail))
      refine wpQuiet_nil ?_
      go_wp2_with fail
      with_reducible refine HA.out.mono ?_
      rintro e w2 ⟨v2, S2, rfl, hp2, hpl2, hk2⟩
      have HE := Lib.hid (show PdL w c l (l.length - (k + 1)) (.int .i64 ((k : Int) + 1)) w2 from ⟨⟨k + 1, S2, by omega, rfl, hp2, hpl2⟩, HKH.out.drew.trans hk2⟩)
      clear hp2 hpl2 hk2
      go_wp2_with fail
      go_roundg (l.length - (k + 1))
      case measure => have := HD.out; omega
      case rel => exact HE.out
    have q2 : (kd == 2) = false := beq_eq_false_iff_ne.2 hk2
    by_cases hk4 : kd = 4
    · subst hk4
      have HA := Lib.hid (collect_step (lc := lc') wr HP.out HPL.out (l := ol) HRL.out hol)
      go_wp2_with fail
      with_reducible refine HA.out.mono ?_
      rintro e w2 ⟨v2, S2, rfl, hp2, hpl2, hk2⟩
      have HE := Lib.hid (show PdL w c l (l.length - (k + 1)) (.int .i64 ((k : Int) + 1)) w2 from ⟨⟨k + 1, S2, by omega, rfl, hp2, hpl2⟩, HKH.out.trans hk2⟩)
      clear hp2 hpl2 hk2
      go_wp2_with fail
      go_roundg (l.length - (k + 1))
      case measure => have := HD.out; omega
      case rel => exact HE.out
    have q4 : (kd == 4) = false := beq_eq_false_iff_ne.2 hk4
    have HE := Lib.hid (show PdL w c l (l.length - (k + 1)) (.int .i64 ((k : Int) + 1)) wr from ⟨⟨k + 1, S, by omega, rfl, HP.out, HPL.out.more (Nat.le_succ _)⟩, HKH.out⟩)
    go_wp2_with fail
    go_roundg (l.length - (k + 1))
    case measure => have := HD.out; omega
    case rel => exact HE.out
end Go.Proofs.Ytbkklnihgejeoaa.Hp
