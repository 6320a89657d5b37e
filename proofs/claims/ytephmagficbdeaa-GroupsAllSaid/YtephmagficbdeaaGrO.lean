/-
  CONTRACT: what must come of fixed calls does.
-/
import Derived.Test.YtephmagficbdeaaGrArg
namespace Go.Proofs.Ytephmagficbdeaa.Gr
open Go.RowKit Go.Shelf Go.Sort Mm Sp
set_option linter.unusedVariables false
set_option linter.unusedSimpArgs false
/-- a literal row of rows -/
theorem rr_lit {w : World} {b1 b2 b3 b4 : Nat} (h1 : Box w b1 TI #[.int .i64 1]) (h2 : Box w b2 TI #[.int .i64 0, .int .i64 2]) (h4 : Box w b4 TR #[.slice (some ⟨b1, 0, none⟩) 1 1, .slice (some ⟨b2, 0, none⟩) 2 2, .slice (some ⟨b3, 0, none⟩) 0 0]) :
    RR w.heap.size w (.slice (some ⟨b4, 0, none⟩) 3 3) (gi g0) := by
  have a4 : ∀ i, ((⟨b4, 0, none⟩ : Addr).add i) = ⟨b4, i, none⟩ := fun i => by simp [Addr.add]; try (intro e; exact e.symm)
  have a1 : ∀ i, ((⟨b1, 0, none⟩ : Addr).add i) = ⟨b1, i, none⟩ := fun i => by simp [Addr.add]; try (intro e; exact e.symm)
  have a2 : ∀ i, ((⟨b2, 0, none⟩ : Addr).add i) = ⟨b2, i, none⟩ := fun i => by simp [Addr.add]; try (intro e; exact e.symm)
  refine ⟨some ⟨b4, 0, Option.none⟩, 3, rfl, by decide, fun i hi => ?_⟩
  have hi3 : i < 3 := hi
  rcases (by omega : i = 0 ∨ i = 1 ∨ i = 2) with rfl | rfl | rfl
  · exact ⟨⟨b4, 0, Option.none⟩, _, rfl, h4.lt, by rw [a4]; exact h4.cell 0, some ⟨b1, 0, Option.none⟩, 1, rfl, by decide, fun j hj => by
      have hj1 : j < 1 := hj
      obtain rfl : j = 0 := by omega
      exact ⟨⟨b1, 0, Option.none⟩, rfl, h1.lt, by rw [a1]; exact h1.cell 0⟩⟩
  · exact ⟨⟨b4, 0, Option.none⟩, _, rfl, h4.lt, by rw [a4]; exact h4.cell 1, some ⟨b2, 0, Option.none⟩, 2, rfl, by decide, fun j hj => by
      have hj1 : j < 2 := hj
      rcases (by omega : j = 0 ∨ j = 1) with rfl | rfl
      · exact ⟨⟨b2, 0, Option.none⟩, rfl, h2.lt, by rw [a2]; exact h2.cell 0⟩
      · exact ⟨⟨b2, 0, Option.none⟩, rfl, h2.lt, by rw [a2]; exact h2.cell 1⟩⟩
  · exact ⟨⟨b4, 0, Option.none⟩, _, rfl, h4.lt, by rw [a4]; exact h4.cell 2, some ⟨b3, 0, Option.none⟩, 0, rfl, by decide, fun j hj => absurd hj (Nat.not_lt_zero j)⟩
theorem wrong_g0 : wrongC (gi g0) = 0 := by decide
theorem readg_lit {w : World} {b1 b2 b4 : Nat} (h1 : Box w b1 TI #[.int .i64 2]) (h2 : Box w b2 TI #[.int .i64 0, .int .i64 1]) (h4 : Box w b4 TR #[.slice (some ⟨b1, 0, none⟩) 1 1, .slice (some ⟨b2, 0, none⟩) 2 2]) :
    ReadG w (.slice (some ⟨b4, 0, none⟩) 2 2) l0 := by
  have a4 : ∀ i, ((⟨b4, 0, none⟩ : Addr).add i) = ⟨b4, i, none⟩ := fun i => by simp [Addr.add]; try (intro e; exact e.symm)
  have a1 : ∀ i, ((⟨b1, 0, none⟩ : Addr).add i) = ⟨b1, i, none⟩ := fun i => by simp [Addr.add]; try (intro e; exact e.symm)
  have a2 : ∀ i, ((⟨b2, 0, none⟩ : Addr).add i) = ⟨b2, i, none⟩ := fun i => by simp [Addr.add]; try (intro e; exact e.symm)
  refine ⟨some ⟨b4, 0, Option.none⟩, 2, rfl, by decide, fun i hi => ?_⟩
  have hi3 : i < 2 := hi
  rcases (by omega : i = 0 ∨ i = 1) with rfl | rfl
  · exact ⟨⟨b4, 0, Option.none⟩, some ⟨b1, 0, Option.none⟩, 1, rfl, h4.lt, by rw [a4]; exact h4.cell 0, by decide, fun j hj => by
      have hj1 : j < 1 := hj
      obtain rfl : j = 0 := by omega
      exact ⟨⟨b1, 0, Option.none⟩, rfl, h1.lt, by rw [a1]; exact h1.cell 0⟩⟩
  · exact ⟨⟨b4, 0, Option.none⟩, some ⟨b2, 0, Option.none⟩, 2, rfl, h4.lt, by rw [a4]; exact h4.cell 1, by decide, fun j hj => by
      have hj1 : j < 2 := hj
      rcases (by omega : j = 0 ∨ j = 1) with rfl | rfl
      · exact ⟨⟨b2, 0, Option.none⟩, rfl, h2.lt, by rw [a2]; exact h2.cell 0⟩
      · exact ⟨⟨b2, 0, Option.none⟩, rfl, h2.lt, by rw [a2]; exact h2.cell 1⟩⟩
theorem rdi_lit {w : World} {b1 : Nat} (h1 : Box w b1 TI #[.int .i64 0, .int .i64 1, .int .i64 2]) : RdI w (.slice (some ⟨b1, 0, none⟩) 3 3) (ni [0, 1, 2]) := by
  have a1 : ∀ i, ((⟨b1, 0, none⟩ : Addr).add i) = ⟨b1, i, none⟩ := fun i => by simp [Addr.add]; try (intro e; exact e.symm)
  refine ⟨some ⟨b1, 0, Option.none⟩, 3, rfl, by decide, fun i hi => ?_⟩
  have hi3 : i < 3 := hi
  refine ⟨⟨b1, 0, Option.none⟩, rfl, h1.lt, ?_⟩
  rw [a1]
  rcases (by omega : i = 0 ∨ i = 1 ∨ i = 2) with rfl | rfl | rfl
  · exact h1.cell 0
  · exact h1.cell 1
  · exact h1.cell 2
theorem ReadG.below {w w' : World} {v : Value} {l : List (List Nat)} (h : ReadG w v l) (hb : Below w.heap.size w w') : ReadG w' v l := by
  obtain ⟨a, c, h1, h2, h3⟩ := h
  exact ⟨a, c, h1, h2, (h3.below hb (Nat.le_refl _)).mono2 hb.size⟩
theorem RdI.below {w w' : World} {v : Value} {l : List Int} (h : RdI w v l) (hb : Below w.heap.size w w') : RdI w' v l := by
  obtain ⟨a, c, h1, h2, h3⟩ := h
  exact ⟨a, c, h1, h2, (h3.below hb (Nat.le_refl _)).mono hb.size⟩
theorem lit4 (w : World) : RR ((((w.alloc (.cells #[.int .i64 1] TI)).alloc (.cells #[.int .i64 0, .int .i64 2] TI)).alloc (.cells #[] TI)).alloc (.cells #[.slice (some ⟨w.heap.size, 0, none⟩) 1 1, .slice (some ⟨w.heap.size + 1, 0, none⟩) 2 2, .slice (some ⟨w.heap.size + 1 + 1, 0, none⟩) 0 0] TR)).heap.size ((((w.alloc (.cells #[.int .i64 1] TI)).alloc (.cells #[.int .i64 0, .int .i64 2] TI)).alloc (.cells #[] TI)).alloc (.cells #[.slice (some ⟨w.heap.size, 0, none⟩) 1 1, .slice (some ⟨w.heap.size + 1, 0, none⟩) 2 2, .slice (some ⟨w.heap.size + 1 + 1, 0, none⟩) 0 0] TR)) (.slice (some ⟨w.heap.size + 1 + 1 + 1, 0, none⟩) 3 3) (gi g0) ∧
    Below w.heap.size w ((((w.alloc (.cells #[.int .i64 1] TI)).alloc (.cells #[.int .i64 0, .int .i64 2] TI)).alloc (.cells #[] TI)).alloc (.cells #[.slice (some ⟨w.heap.size, 0, none⟩) 1 1, .slice (some ⟨w.heap.size + 1, 0, none⟩) 2 2, .slice (some ⟨w.heap.size + 1 + 1, 0, none⟩) 0 0] TR)) := by
  refine ⟨rr_lit (b1 := w.heap.size) (b2 := w.heap.size + 1) (b3 := w.heap.size + 1 + 1) ((((Box.new w _ TI).alloc _).alloc _).alloc _) ?_ ?_, (((((Below.refl w.heap.size w).alloc (Nat.le_refl _) _).alloc (by simp) _).alloc (by simp; omega) _).alloc (by simp; omega) _)⟩
  · have := Box.new (w.alloc (.cells #[.int .i64 1] TI)) #[.int .i64 0, .int .i64 2] TI
    rw [World.size_alloc] at this
    exact (this.alloc _).alloc _
  · have := Box.new (((w.alloc (.cells #[.int .i64 1] TI)).alloc (.cells #[.int .i64 0, .int .i64 2] TI)).alloc (.cells #[] TI)) #[.slice (some ⟨w.heap.size, 0, none⟩) 1 1, .slice (some ⟨w.heap.size + 1, 0, none⟩) 2 2, .slice (some ⟨w.heap.size + 1 + 1, 0, none⟩) 0 0] TR
    rw [World.size_alloc, World.size_alloc, World.size_alloc] at this
    exact this
theorem lit3 (w : World) : ReadG (((w.alloc (.cells #[.int .i64 2] TI)).alloc (.cells #[.int .i64 0, .int .i64 1] TI)).alloc (.cells #[.slice (some ⟨w.heap.size, 0, none⟩) 1 1, .slice (some ⟨w.heap.size + 1, 0, none⟩) 2 2] TR)) (.slice (some ⟨w.heap.size + 1 + 1, 0, none⟩) 2 2) l0 ∧
    Below w.heap.size w (((w.alloc (.cells #[.int .i64 2] TI)).alloc (.cells #[.int .i64 0, .int .i64 1] TI)).alloc (.cells #[.slice (some ⟨w.heap.size, 0, none⟩) 1 1, .slice (some ⟨w.heap.size + 1, 0, none⟩) 2 2] TR)) := by
  refine ⟨readg_lit (b1 := w.heap.size) (b2 := w.heap.size + 1) (((Box.new w _ TI).alloc _).alloc _) ?_ ?_, ((((Below.refl w.heap.size w).alloc (Nat.le_refl _) _).alloc (by simp) _).alloc (by simp; omega) _)⟩
  · have := Box.new (w.alloc (.cells #[.int .i64 2] TI)) #[.int .i64 0, .int .i64 1] TI
    rw [World.size_alloc] at this
    exact this.alloc _
  · have := Box.new ((w.alloc (.cells #[.int .i64 2] TI)).alloc (.cells #[.int .i64 0, .int .i64 1] TI)) #[.slice (some ⟨w.heap.size, 0, none⟩) 1 1, .slice (some ⟨w.heap.size + 1, 0, none⟩) 2 2] TR
    rw [World.size_alloc, World.size_alloc] at this
    exact this
set_option maxRecDepth 100000 in
set_option maxHeartbeats 4000000 in
theorem known_any (w : World) : Calls Try.prog 9 #[] w fun e w' => e = .returned (.bool true) ∧ Below w.heap.size w w' := by
  have HL4 := Lib.hid (lit4 w)
  go_enter Try.func9, Try.ntmps9
  go_wp2_with fail
  refine (groups_any sortOK sortFOK _ HL4.out.1).mono ?_
  rintro e w1 ⟨v, l, he, hrd, hb1, _, hz⟩
  rw [wrong_g0] at he
  subst he
  obtain ⟨g, hg, _, _, hc⟩ := hz wrong_g0
  obtain rfl := gi_inj hg
  obtain rfl := hc.unique canon_g0
  obtain ⟨a1, c1, rfl, hl1, hr1⟩ := hrd
  have HRD := Lib.hid (show ReadG w1 (.slice a1 l0.length c1) l0 from ⟨a1, c1, rfl, hl1, hr1⟩)
  have HB1 := Lib.hid (HL4.out.2.trans (hb1.mono HL4.out.2.size))
  have HL5 := Lib.hid (lit4 w1)
  clear hz hg hc hl1 hr1 hb1
  go_wp2_with fail
  refine (reach_any sortOK 0 _ HL5.out.1).mono ?_
  rintro e w2 ⟨v2, l2, c2, he, ⟨p2, q2, hv2, hl2, hrd2⟩, hb2, hor⟩
  subst hv2
  rcases hor with ⟨_, _, _, hno⟩ | ⟨rfl, _, _, _, hall⟩
  · exact absurd ⟨wrong_g0, by omega, by decide⟩ hno
  · subst he
    obtain ⟨hris, hmem⟩ := hall g0 rfl
    obtain rfl := reach_g0 hris hmem
    have HB2 := Lib.hid (HL5.out.2.trans (hb2.mono HL5.out.2.size))
    have HRD2 := Lib.hid (show RdI w2 (.slice p2 3 q2) (ni [0, 1, 2]) from ⟨p2, q2, rfl, by decide, hrd2⟩)
    have HL6 := Lib.hid (lit3 w2)
    have HRD1 := Lib.hid (HRD.out.below HB2.out)
    clear hall hb2 hrd2 hl2 hris hmem
    go_wp2_with fail
    refine (same_any _ (HRD1.out.below HL6.out.2) HL6.out.1).mono ?_
    rintro e w3 ⟨rfl, n, hn⟩
    have HB3 := Lib.hid (show Below w2.heap.size w2 w3 by
      rw [hn]
      have h := HL6.out.2
      exact ⟨h.os, h.tape, h.output, h.size, h.block⟩)
    have HRD3 := Lib.hid (HRD2.out.below HB3.out)
    clear hn
    go_wp2_with fail
    refine (samei_any _ (HRD3.out.below ((Below.refl _ _).alloc (Nat.le_refl _) _)) (rdi_lit (Box.new w3 _ TI))).mono ?_
    rintro e w4 ⟨rfl, m, hm⟩
    have HB4 := Lib.hid (show Below w3.heap.size w3 w4 by
      rw [hm]
      have h := (Below.refl w3.heap.size w3).alloc (Nat.le_refl _) (.cells #[.int .i64 0, .int .i64 1, .int .i64 2] TI)
      exact ⟨h.os, h.tape, h.output, h.size, h.block⟩)
    clear hm
    go_wp2_with fail
    go_ret
    have z1 := HB1.out.size
    have z2 := HB2.out.size
    have z3 := HB3.out.size
    exact ⟨rfl, ((HB1.out.trans (HB2.out.mono z1)).trans (HB3.out.mono (by omega))).trans (HB4.out.mono (by omega))⟩
end Go.Proofs.Ytephmagficbdeaa.Gr
