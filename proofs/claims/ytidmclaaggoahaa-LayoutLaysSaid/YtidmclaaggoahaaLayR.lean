/-
  CONTRACTS of layer layout: the end of all; what a line's column ends.
-/
import Derived.Test.YtidmclaaggoahaaLayQ
namespace Go.Proofs.Ytidmclaaggoahaa.Ly
open Go.RowKit Pl Ar Mm
set_option linter.unusedVariables false
set_option linter.unusedSimpArgs false
def mkM (s : List UInt8) (ln col : Int) : TokM := ⟨5, ⟨s.toArray⟩, 0, ln, col, true⟩
theorem Sheet.shows {Z : Nat → Prop} {w : World} {p : Nat} {T : List TokM} {F : List Fr} {due : Bool} {ln col : Int} {vt vf : Value} (h : Sheet Z w p T F due ln col vt vf) : ShowsF w vf F := by
  obtain ⟨b, c, rfl⟩ := own_slice h.frames
  refine ⟨b, c, rfl, fun k hk => ?_⟩
  obtain ⟨g, rfl, _, hg, _, hc⟩ := own_at h.frames (by omega)
  obtain ⟨q1, q2⟩ := frs_get F k hk
  exact ⟨g, rfl, hg, (hc _ (by omega)).trans q1, (hc _ (by omega)).trans q2⟩
theorem Sheet.drewN {Z : Nat → Prop} {w : World} {p : Nat} {T : List TokM} {F : List Fr} {due : Bool} {ln col : Int} {vt vf : Value} (h : Sheet Z w p T F due ln col vt vf) (n : Nat) : Sheet Z (w.drewN n) p T F due ln col vt vf := ⟨h.box.drewN n, own_drewN h.toks n, own_drewN h.frames n, h.zp, h.zt, h.zf, h.zl⟩
theorem closedT_closedT {T : List TokM} {F : List Fr} {a b : Nat} {ln col : Int} (h : b ≤ a) : closedT (closedT T F a ln col) (F.take a) b ln col = closedT T F b ln col := by
  have e : F.drop b = (F.take a).drop b ++ F.drop a := by
    rw [List.drop_take]
    have h2 : F.drop a = (F.drop b).drop (a - b) := by rw [List.drop_drop]; congr 1; omega
    rw [h2, List.take_append_drop]
  have e2 : laidN (F.drop b) = laidN ((F.take a).drop b) + laidN (F.drop a) := by
    unfold laidN
    rw [e, List.filter_append, List.length_append]
  unfold closedT
  rw [e2, Nat.add_comm, ← List.replicate_append_replicate, List.append_assoc]
def endT (T : List TokM) (F : List Fr) (due : Bool) (ln col : Int) : List TokM := closedT (if due = true then T ++ [mkM [123] ln col] ++ [mkM [125] ln col] else T) F 0 ln col
set_option maxHeartbeats 2000000 in
theorem end_any {Z : Nat → Prop} {p : Nat} {T : List TokM} {F : List Fr} {due : Bool} {ln col : Int} {vt vf : Value} (w : World) (h : Sheet Z w p T F due ln col vt vf) (hn : T.length + F.length ≤ 999999990) :
    Calls Try.prog 25 #[.pointer (some ⟨p, 0, none⟩)] w (SheetPost Z p (endT T F due ln col) [] due ln col w) := by
  obtain ⟨⟨x0, x1, x2, x3, x4⟩, ⟨f0, f1, f2, f3, f4⟩, zx⟩ := h.cells
  have HS := Lib.hid h
  clear h
  cases due with
  | true =>
    go_enter Try.func25, Try.ntmps25
    go_wp2_with fail
    refine (mark_any ⟨#[123]⟩ w HS.out (by omega)).mono ?_
    rintro e w1 ⟨rfl, ⟨vt1, vf1, hs1⟩, hb1⟩
    go_wp2_with fail
    refine (mark_any ⟨#[125]⟩ w1 hs1 (by simp; omega)).mono ?_
    rintro e w2 ⟨rfl, ⟨vt2, vf2, hs2⟩, hb2⟩
    go_wp2_with fail
    refine (close_any 0 w2 hs2 (by simp; omega) (by omega)).mono ?_
    rintro e w3 ⟨rfl, ⟨vt3, vf3, hs3⟩, hb3⟩
    go_wp2_with fail
    refine bodyPost_end (by simp [results, Try.results25, go_sem]; rfl) rfl ?_
    exact ⟨rfl, ⟨vt3, vf3, hs3⟩, (hb1.trans hb2).trans hb3⟩
  | false =>
    go_enter Try.func25, Try.ntmps25
    go_wp2_with fail
    refine (close_any 0 w HS.out (by omega) (by omega)).mono ?_
    rintro e w3 ⟨rfl, ⟨vt3, vf3, hs3⟩, hb3⟩
    go_wp2_with fail
    refine bodyPost_end (by simp [results, Try.results25, go_sem]; rfl) rfl ?_
    exact ⟨rfl, ⟨vt3, vf3, hs3⟩, hb3⟩
theorem frK_take (F : List Fr) (q j : Nat) (h : j < q) : frK (F.take q) j = frK F j := by simp [frK, List.getD_eq_getElem?_getD, List.getElem?_take, h]
theorem frC_take (F : List Fr) (q j : Nat) (h : j < q) : frC (F.take q) j = frC F j := by simp [frC, List.getD_eq_getElem?_getD, List.getElem?_take, h]
theorem innerF_take (F : List Fr) (q : Nat) : ∀ i, i ≤ q → innerF (F.take q) i = innerF F i
  | 0, _ => rfl
  | i + 1, h => by
    unfold innerF
    rw [frK_take F q i (by omega), frC_take F q i (by omega), innerF_take F q i (by omega)]
theorem innerF_lt (F : List Fr) : ∀ i, (innerF F i).1 < i ∧ (-1 ≤ (innerF F i).1) ∧ ((innerF F i).1 < 0 → (innerF F i).2 = 0)
  | 0 => by simp [innerF]
  | i + 1 => by
    unfold innerF
    have := innerF_lt F i
    split
    · exact ⟨by show (i : Int) < ((i + 1 : Nat) : Int); omega, by show (-1 : Int) ≤ (i : Int); omega, fun h => by have h : (i : Int) < 0 := h; omega⟩
    · exact ⟨by omega, this.2⟩
/-- where the blocks that a line's column ends begin -/
def lineQ (F : List Fr) (c : Int) : Nat → Nat → Nat
  | 0, q => q
  | n + 1, q => if max c 0 < (innerF F q).2 then lineQ F c n (innerF F q).1.toNat else q
theorem inner_is {Z : Nat → Prop} {p : Nat} {T : List TokM} {F : List Fr} {due : Bool} {ln col : Int} {vt vf : Value} (w : World) (h : Sheet Z w p T F due ln col vt vf) (hn : F.length ≤ 1000000000) {i c : Int} (hi : innerF F F.length = (i, c)) :
    Calls Try.prog 38 #[.pointer (some ⟨p, 0, none⟩)] w fun e w' => e = .returned (.tuple #[.int .i64 i, .int .i64 c]) ∧ Sheet Z w' p T F due ln col vt vf ∧ Holds Z w w' := by
  refine (inner_any p vf F hn w (h.cells.1.2.1) h.shows).mono ?_
  rintro e w' ⟨he, m, rfl⟩
  rw [hi] at he
  exact ⟨he, h.drewN m, (Holds.refl _ _).drewN m⟩
theorem closedT_len2 (T : List TokM) (F : List Fr) {q : Nat} (hq : q ≤ F.length) (ln col : Int) : (closedT T F q ln col).length + (F.take q).length ≤ T.length + F.length := by
  have h1 := laidN_le (F.drop q)
  have h2 : (F.drop q).length = F.length - q := List.length_drop
  have h3 : (F.take q).length = q := by rw [List.length_take]; omega
  simp [closedT]
  omega
/-- What holds ahead of each round of line. -/
def LineI (Z : Nat → Prop) (p : Nat) (T : List TokM) (F : List Fr) (c : Int) (due : Bool) (ln col : Int) (w : World) (R : Nat) (d : Nat) (i : Value) (cl : Value) (wr : World) : Prop :=
  ∃ (q : Nat) (n : Nat) (a b : Int), d = q ∧ q ≤ F.length ∧ q ≤ n ∧ lineQ F c n q = R ∧ innerF F q = (a, b) ∧ i = .int .i64 a ∧ cl = .int .i64 b ∧ (∃ vt vf, Sheet Z wr p (closedT T F q ln col) (F.take q) due ln col vt vf) ∧ Holds Z w wr
def lineT (T : List TokM) (F : List Fr) (c ln col : Int) (R : Nat) : List TokM := closedT T F R ln col ++ (if 0 < (innerF F R).2 ∧ (innerF F R).2 = c then [mkM [59] ln col] else [])
set_option maxHeartbeats 4000000 in
theorem line_any {Z : Nat → Prop} {p : Nat} {T : List TokM} {F : List Fr} {due : Bool} {ln col : Int} {vt vf : Value} (c : Int) (w : World) (h : Sheet Z w p T F due ln col vt vf) (hn : T.length + F.length ≤ 999999990) {R : Nat} (hR : lineQ F c F.length F.length = R) :
    Calls Try.prog 42 #[.pointer (some ⟨p, 0, none⟩), .int .i64 c] w (SheetPost Z p (lineT T F c ln col R) (F.take R) due ln col w) := by
  obtain ⟨⟨a0, b0⟩, hab⟩ : ∃ x, innerF F F.length = x := ⟨_, rfl⟩
  have HS := Lib.hid h
  have HR := Lib.hid hR
  have HAB := Lib.hid hab
  clear h hR hab
  go_enter Try.func42, Try.ntmps42
  go_wp2_with fail
  refine (inner_is w HS.out (by omega) HAB.out).mono ?_
  rintro e w1 ⟨rfl, hs1, hb1⟩
  go_wp2_with fail
  go_loopg [4, 5] F.length (fun d i cl wr => LineI Z p T F c due ln col w R d i cl wr)
  case atStart =>
    have e : closedT T F F.length ln col = T := by simp [closedT, laidN]
    refine ⟨F.length, F.length, a0, b0, rfl, Nat.le_refl _, Nat.le_refl _, HR.out, HAB.out, rfl, rfl, ⟨vt, vf, ?_⟩, hb1⟩
    rw [e, List.take_length]
    exact hs1
  case round =>
    obtain ⟨q, n, a, b, rfl, hq, hqn, hl, hin, rfl, rfl, ⟨vt', vf', hs⟩, hb⟩ := hrel
    have HL := Lib.hid hl
    have HIN := Lib.hid hin
    have HS2 := Lib.hid hs
    have HB := Lib.hid hb
    have hlt := innerF_lt F gk
    rw [hin] at hlt
    have hTn := closedT_len T F gk ln col
    clear hl hin hs hb
    by_cases hgo : max c 0 < b
    · have hb0 : 0 < b := by omega
      have ha0 : 0 ≤ a := by
        have := hlt.2.2
        by_cases h : a < 0
        · have := this h; omega
        · omega
      obtain ⟨k, rfl⟩ : ∃ k : Nat, a = k := ⟨a.toNat, by omega⟩
      have hkq : k < gk := by have := hlt.1; omega
      obtain ⟨n', rfl⟩ : ∃ n', n = n' + 1 := ⟨n - 1, by omega⟩
      have hl2 : lineQ F c n' k = R := by
        have h1 := HL.out
        unfold lineQ at h1
        rw [HIN.out] at h1
        rw [if_pos hgo] at h1
        exact h1
      have HL2 := Lib.hid hl2
      have hlen : (F.take gk).length = gk := by rw [List.length_take]; omega
      obtain ⟨⟨a2, b2⟩, hab2⟩ : ∃ x, innerF F k = x := ⟨_, rfl⟩
      have HAB2 := Lib.hid hab2
      clear hlt hl2 hab2
      go_wp2_with fail
      refine (close_any k wr HS2.out (Nat.le_trans (closedT_len2 T F hq ln col) (by omega)) (by omega)).mono ?_
      rintro e w2 ⟨rfl, ⟨vt2, vf2, hs2⟩, hb2⟩
      rw [closedT_closedT (by omega), List.take_take, Nat.min_eq_left (by omega)] at hs2
      have hlk : (F.take k).length = k := by rw [List.length_take]; omega
      have hik : innerF (F.take k) (F.take k).length = (a2, b2) := by rw [hlk, innerF_take F k k (Nat.le_refl _)]; exact HAB2.out
      have HIK := Lib.hid hik
      clear hik
      go_wp2_with fail
      refine (inner_is w2 hs2 (by omega) HIK.out).mono ?_
      rintro e w3 ⟨rfl, hs3, hb3⟩
      go_wp2_with fail
      go_roundg k
      case measure => omega
      case rel => exact ⟨k, n', a2, b2, rfl, by omega, by omega, HL2.out, HAB2.out, rfl, rfl, ⟨_, _, hs3⟩, (HB.out.trans hb2).trans hb3⟩
    · have hqR : gk = R := by
        have h1 := HL.out
        cases n with
        | zero => exact h1
        | succ n =>
          unfold lineQ at h1
          rw [HIN.out, if_neg hgo] at h1
          exact h1
      have HQ := Lib.hid hqR
      clear hqR
      by_cases hm : 0 < b ∧ b = c
      · obtain ⟨h1, rfl⟩ := hm
        have hT : lineT T F b ln col R = closedT T F gk ln col ++ [mkM [59] ln col] := by
          unfold lineT
          rw [← HQ.out, HIN.out, if_pos ⟨h1, rfl⟩]
        have HT := Lib.hid hT
        clear hT
        go_wp2_with fail
        refine (mark_any ⟨#[59]⟩ wr HS2.out (by omega)).mono ?_
        rintro e w2 ⟨rfl, ⟨vt2, vf2, hs2⟩, hb2⟩
        go_wp2_with fail
        refine bodyPost_end (by simp [results, Try.results42, go_sem]; rfl) rfl ?_
        exact ⟨rfl, ⟨vt2, vf2, by rw [HT.out, ← HQ.out]; exact hs2⟩, HB.out.trans hb2⟩
      · have hT : lineT T F c ln col R = closedT T F gk ln col := by
          unfold lineT
          rw [← HQ.out, HIN.out, if_neg hm, List.append_nil]
        have HT := Lib.hid hT
        have hm2 : ¬ 0 < b ∨ 0 < b ∧ ¬ b = c := by omega
        clear hT hm
        rcases hm2 with h1 | ⟨h1, h2⟩
        all_goals
          go_wp2_with fail
          refine bodyPost_end (by simp [results, Try.results42, go_sem]; rfl) rfl ?_
          exact ⟨rfl, ⟨vt', vf', by rw [HT.out, ← HQ.out]; exact HS2.out⟩, HB.out⟩
end Go.Proofs.Ytidmclaaggoahaa.Ly
