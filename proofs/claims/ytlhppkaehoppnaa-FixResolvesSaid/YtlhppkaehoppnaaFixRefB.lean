/-
  CONTRACTS of the document's own layer fix: spans, Resolve.
-/
import Derived.Test.YtlhppkaehoppnaaFixRefA
namespace Go.Proofs.Ytlhppkaehoppnaa.Fx
open Go.RowKit Fm Mm Nm
set_option linter.unusedVariables false

/-- the spans of the operators from a on, ahead of t, are put in; the others are as they were -/
def SpansPost (r : Row) (n a t B : Nat) (v : Value) (F T : Nat → Nat) (w : World) (e : Ending) (w' : World) : Prop :=
  e = .returned v ∧ ∃ G U : Nat → Nat, OwnsS w' B v n G U ∧ (∀ j, a ≤ j → j < t → IsFrom r.A r.L j (G j) ∧ IsTo r.A r.L n j (U j)) ∧ (∀ j, j < a ∨ t ≤ j → G j = F j ∧ U j = T j) ∧ Below B w w'
set_option maxHeartbeats 4000000 in
theorem spans_any (b : Option Addr) (n c : Nat) (hn : n ≤ 1024) (r : Row) (hg : Fm.Good r.A r.L n) (B g c2 : Nat) (d : Nat) : ∀ (a t : Nat) (F T : Nat → Nat) (w : World), t - a ≤ d → a ≤ t → t ≤ n → Cl r.A r.L n a t →
    Reads w B b n r → B ≤ w.heap.size → OwnsS w B (.slice (some ⟨g, 0, none⟩) n c2) n F T →
    Calls Try.prog 22 #[.slice b n c, .slice (some ⟨g, 0, none⟩) n c2, .int .i64 (a : Nat), .int .i64 (t : Nat)] w (SpansPost r n a t B (.slice (some ⟨g, 0, none⟩) n c2) F T w) := by
  have HG := Lib.hid hg
  clear hg
  induction d with
  | zero =>
    intro a t F T w h1 h2 h3 h4 h5 h6 h7
    have d0 : decide (t ≤ a) = true := decide_eq_true (by omega)
    have H7 := Lib.hid h7
    clear h4 h5 h7
    go_enter Try.func22, Try.ntmps22
    go_wp2_with fail
    go_ret
    exact ⟨rfl, F, T, H7.out, (fun j h1 h2 => absurd h2 (by omega)), (fun j _ => ⟨rfl, rfl⟩), Below.refl _ _⟩
  | succ d ih =>
    intro a t F T w h1 h2 h3 h4 h5 h6 h7
    by_cases hat : a < t
    · have d0 : decide (t ≤ a) = false := decide_eq_false (by omega)
      have H4 := Lib.hid h4
      have H5 := Lib.hid h5
      have H7 := Lib.hid h7
      have IH := Lib.hid ih
      have hroot := root_is r.A r.L a (t - a - 1)
      rw [show a + (t - a - 1) + 1 = t by omega, show t - a - 1 + 1 = t - a by omega] at hroot
      obtain ⟨s1, s2, s3, s4⟩ := root_spans HG.out h3 h4 hroot
      obtain ⟨q, hq⟩ : ∃ q, rootTo r.A r.L a (t - a) = q := ⟨_, rfl⟩
      rw [hq] at hroot s1 s2 s3 s4
      have hq1 := hroot.ge
      have hq2 := hroot.lt
      have HQ := Lib.hid hq
      have S1 := Lib.hid s1
      have S2 := Lib.hid s2
      have S3 := Lib.hid s3
      have S4 := Lib.hid s4
      clear h4 h5 h7 ih hroot s1 s2 s3 s4 hq
      go_enter Try.func22, Try.ntmps22
      go_wp2_with fail
      refine (root_any b n c hn r a t hat h3 _ (H5.out.mono h6)).mono ?_
      rw [HQ.out]
      rintro e w1 ⟨rfl, hb1⟩
      have HB1 := Lib.hid (hb1.mono h6)
      have HO1 := Lib.hid (own_here H7.out hb1)
      have HR1 := Lib.hid (H5.out.below hb1 h6)
      have z1 : B ≤ w1.heap.size := by have := hb1.size; omega
      clear hb1
      go_wp2_with fail
      refine (IH.out a q F T w1 (by omega) hq1 (by omega) S3.out HR1.out z1 HO1.out).mono ?_
      rintro e w2 ⟨rfl, G, U, hog, hin, hout, hb2⟩
      have HOG := Lib.hid hog
      have HIN := Lib.hid hin
      have HOUT := Lib.hid hout
      have HB2 := Lib.hid (HB1.out.trans hb2)
      have HR2 := Lib.hid (HR1.out.below hb2 (Nat.le_refl _))
      have z2 : B ≤ w2.heap.size := by have := hb2.size; omega
      clear hog hin hout hb2
      go_wp2_with fail
      refine (IH.out (q + 1) t G U w2 (by omega) (by omega) h3 S4.out HR2.out z2 HOG.out).mono ?_
      rintro e w3 ⟨rfl, G2, U2, hog, hin, hout, hb3⟩
      have HIN2 := Lib.hid hin
      have HOUT2 := Lib.hid hout
      have HB3 := Lib.hid (HB2.out.trans hb3)
      have hqn : q < n := by omega
      have hqn' : (q : Int) < n := by omega
      have f1 := (hog.cellAt (q * 2) (by omega)).trans (span_at G2 U2 n q hqn).1
      have f2 := (hog.cellAt (q * 2 + 1) (by omega)).trans (span_at G2 U2 n q hqn).2
      have f3 := hog.frozenAt (q * 2)
      have f4 := hog.frozenAt (q * 2 + 1)
      have hgB := (hog.lt g rfl).1
      have HOF := Lib.hid (owns_to (owns_from hog hqn a) hqn t)
      clear hog hin hout hb3
      go_wp2_with fail
      go_ret
      refine ⟨rfl, _, _, HOF.out, (fun j k1 k2 => ?_), (fun j hj => ?_), (HB3.out.setCell (p := ⟨g, q * 2, none⟩) hgB _).setCell (p := ⟨g, q * 2 + 1, none⟩) hgB _⟩
      · by_cases e : j = q
        · rw [e, upd_same, upd_same]
          exact ⟨S1.out, S2.out⟩
        · rw [upd_other _ _ e, upd_other _ _ e]
          by_cases hlt : j < q
          · rw [(HOUT2.out j (.inl (by omega))).1, (HOUT2.out j (.inl (by omega))).2]
            exact HIN.out j k1 hlt
          · exact HIN2.out j (by omega) k2
      · have e : j ≠ q := by omega
        rw [upd_other _ _ e, upd_other _ _ e]
        have h8 := HOUT2.out j (by omega)
        have h9 := HOUT.out j (by omega)
        exact ⟨h8.1.trans h9.1, h8.2.trans h9.2⟩
    · have d0 : decide (t ≤ a) = true := decide_eq_true (by omega)
      have H7 := Lib.hid h7
      clear h4 h5 h7 ih
      go_enter Try.func22, Try.ntmps22
      go_wp2_with fail
      go_ret
      exact ⟨rfl, F, T, H7.out, (fun j h1 h2 => absurd h2 (by omega)), (fun j _ => ⟨rfl, rfl⟩), Below.refl _ _⟩
end Go.Proofs.Ytlhppkaehoppnaa.Fx
