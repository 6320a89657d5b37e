/-
  CONTRACTS of layer layout: frames are closed up to a place; the end of all; what a line's column ends.
-/
import Derived.Test.YtidmclaaggoahaaLayP
namespace Go.Proofs.Ytidmclaaggoahaa.Ly
open Go.RowKit Pl Ar Mm
set_option linter.unusedVariables false
set_option linter.unusedSimpArgs false
theorem ownsF_cut {w : World} {B : Nat} {g c : Nat} {F : List Fr} {k : Nat} (h : OwnsF w B (.slice (some ⟨g, 0, none⟩) F.length c) F) (hk : k ≤ F.length) : OwnsF w B (.slice (some ⟨g, 0, none⟩) k c) (F.take k) := by
  have h1 := own_cut h hk
  rw [frs_take] at h1
  unfold OwnsF
  rw [List.length_take, Nat.min_eq_left hk]
  exact h1
/-- What holds ahead of each round of closeUpTo. -/
def CloseI (Z : Nat → Prop) (p : Nat) (T : List TokM) (F : List Fr) (place : Nat) (due : Bool) (ln col : Int) (w : World) (d : Nat) (i : Value) (wr : World) : Prop :=
  d ≤ F.length ∧ (place ≤ d ∨ d = F.length) ∧ i = .int .i64 ((d : Int) - 1) ∧ (∃ vt vf, Sheet Z wr p (closedT T F d ln col) (F.take d) due ln col vt vf) ∧ Holds Z w wr
theorem closeEnd {Z : Nat → Prop} {p : Nat} {T T2 : List TokM} {F : List Fr} {place k g c : Nat} {due : Bool} {ln col : Int} {vt : Value} {w wr : World} (h : Sheet Z wr p T2 (F.take (k + 1)) due ln col vt (.slice (some ⟨g, 0, none⟩) (k + 1) c)) (hb : Holds Z w wr) (hk : k < F.length) (hp : place ≤ k) (hT : T2 = closedT T F k ln col) (hlen : (F.take (k + 1)).length = k + 1) :
    CloseI Z p T F place due ln col w k (.int .i64 ((k : Int) - 1)) (wr.setCell ⟨p, 1, none⟩ (.slice (some ⟨g, 0, none⟩) k c)) := by
  have h1 := h.frames
  have e : (F.take (k + 1)).take k = F.take k := by rw [List.take_take, Nat.min_eq_left (by omega)]
  have h2 : OwnsF wr 0 (.slice (some ⟨g, 0, none⟩) k c) (F.take k) := by
    have h3 : OwnsF wr 0 (.slice (some ⟨g, 0, none⟩) (F.take (k + 1)).length c) (F.take (k + 1)) := by rw [hlen]; exact h1
    have := ownsF_cut h3 (k := k) (by rw [hlen]; omega)
    rw [e] at this
    exact this
  subst hT
  exact ⟨by omega, .inl hp, rfl, ⟨vt, _, h.box.put 1 _, own_far h.toks h.box (by decide) 1 _, own_far h2 h.box (by decide) 1 _, h.zp, h.zt, fun i hi => h.zf i (by simpa [Value.ownBlock] using hi), fun i hi => by simpa using h.zl i hi⟩, hb.setCell h.zp _⟩
set_option maxHeartbeats 4000000 in
theorem close_any {Z : Nat → Prop} {p : Nat} {T : List TokM} {F : List Fr} {due : Bool} {ln col : Int} {vt vf : Value} (place : Nat) (w : World) (h : Sheet Z w p T F due ln col vt vf) (hn : T.length + F.length ≤ 999999999) (hp : place ≤ 9223372036854775807) :
    Calls Try.prog 44 #[.pointer (some ⟨p, 0, none⟩), .int .i64 place] w (SheetPost Z p (closedT T F place ln col) (F.take place) due ln col w) := by
  obtain ⟨⟨x0, x1, x2, x3, x4⟩, ⟨f0, f1, f2, f3, f4⟩, zx⟩ := h.cells
  have HS := Lib.hid h
  obtain ⟨a, cc, rfl⟩ := own_slice h.frames
  clear h
  go_enter Try.func44, Try.ntmps44
  go_wp2_with fail
  go_loopg [4] F.length (fun d i wr => CloseI Z p T F place due ln col w d i wr)
  case atStart =>
    have e : closedT T F F.length ln col = T := by simp [closedT, laidN]
    refine ⟨Nat.le_refl _, .inr rfl, by go_num, ⟨vt, .slice a F.length cc, ?_⟩, .refl _ _⟩
    rw [e, List.take_length]
    exact HS.out
  case round =>
    obtain ⟨hd, hdp, rfl, ⟨vt', vf', hs⟩, hb⟩ := hrel
    have HD := Lib.hid hdp
    have HB := Lib.hid hb
    have HS2 := Lib.hid hs
    have hTn := closedT_len T F gk ln col
    clear x0 x1 x2 x3 x4 f0 f1 f2 f3 f4 zx
    obtain ⟨⟨x0, x1, x2, x3, x4⟩, ⟨f0, f1, f2, f3, f4⟩, zx⟩ := hs.cells
    clear hdp hb
    by_cases hge : (place : Int) ≤ (gk : Int) - 1
    · obtain ⟨k, rfl⟩ : ∃ k, gk = k + 1 := ⟨gk - 1, by omega⟩
      have hlen : (F.take (k + 1)).length = k + 1 := by rw [List.length_take]; omega
      have ho := hs.frames
      unfold OwnsF at ho
      rw [hlen] at ho
      obtain ⟨g, c, rfl, _, hg, _⟩ := own_form ho
      obtain ⟨g', e, _, _, _, hc⟩ := own_at ho (by omega)
      simp only [Option.some.injEq, Addr.mk.injEq, and_true] at e
      subst e
      obtain ⟨q1, q2⟩ := frs_get (F.take (k + 1)) k (by omega)
      have c0 := (hc (k * 2) (by omega)).trans q1
      have ek : frK (F.take (k + 1)) k = frK F k := by simp [frK, List.getD_eq_getElem?_getD, List.getElem?_take]
      rw [ek] at c0
      have HO := Lib.hid (show OwnsF wr 0 (.slice (some ⟨g, 0, none⟩) (k + 1) c) (F.take (k + 1)) by unfold OwnsF; rw [hlen]; exact ho)
      obtain ⟨kd, hkd⟩ : ∃ kd, frK F k = kd := ⟨_, rfl⟩
      rw [hkd] at c0
      have HKD := Lib.hid hkd
      clear hc q1 q2 ek ho hkd hs
      have ek1 : ((k + 1 : Nat) : Int) - 1 = (k : Int) := by omega
      rw [ek1] at hge ⊢
      have hpk : place ≤ k := by omega
      have hkF : k < F.length := by omega
      clear ek1
      by_cases h1 : kd = 1
      · subst h1
        go_wp2_with fail
        refine (mark_any ⟨#[125]⟩ wr HS2.out (by omega)).mono ?_
        rintro e w2 ⟨rfl, ⟨vt2, vf2, hs2⟩, hb2⟩
        obtain ⟨a2, c2, rfl⟩ := own_slice hs2.frames
        have ho2 := hs2.frames
        unfold OwnsF at ho2
        rw [hlen] at ho2 hs2
        obtain ⟨g2, e2, _, _, hkc, _⟩ := own_at ho2 (by omega)
        subst e2
        have HS3 := Lib.hid hs2
        have HB2 := Lib.hid (HB.out.trans hb2)
        clear x0 x1 x2 x3 x4 f0 f1 f2 f3 f4 zx c0 ho2
        obtain ⟨⟨x0, x1, x2, x3, x4⟩, ⟨f0, f1, f2, f3, f4⟩, zx⟩ := hs2.cells
        clear hs2 hb2
        go_wp2_with fail
        go_roundg k
        case measure => omega
        case rel => exact closeEnd HS3.out HB2.out hkF hpk (closedT_one hkF HKD.out).symm hlen
      · have hs2 := HS2.out
        go_wp2_with fail
        go_roundg k
        case measure => omega
        case rel => exact closeEnd HS2.out HB.out hkF hpk (closedT_none hkF (by rw [HKD.out]; exact h1)).symm hlen
    · have hend : closedT T F gk ln col = closedT T F place ln col ∧ F.take gk = F.take place := by
        rcases HD.out with h1 | h1
        · have e : gk = place := by omega
          rw [e]; exact ⟨rfl, rfl⟩
        · have h2 : F.length ≤ place := by omega
          rw [h1]
          unfold closedT
          rw [List.drop_length, List.drop_eq_nil_of_le h2, List.take_length, List.take_of_length_le h2]
          exact ⟨rfl, rfl⟩
      have HE := Lib.hid hend
      clear hend hs
      go_wp2_with fail
      refine bodyPost_end (by simp [results, Try.results44, go_sem]; rfl) rfl ?_
      exact ⟨rfl, ⟨_, _, by rw [← HE.out.1, ← HE.out.2]; exact HS2.out⟩, HB.out⟩
end Go.Proofs.Ytidmclaaggoahaa.Ly
