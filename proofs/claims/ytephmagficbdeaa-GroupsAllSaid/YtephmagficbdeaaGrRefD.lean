/-
  CONTRACT: the document's Reach.
-/
import Derived.Test.YtephmagficbdeaaGrRefC
namespace Go.Proofs.Ytephmagficbdeaa.Gr
open Go.RowKit Go.Shelf Go.Sort Mm Sp GroupsOnce GroupsRings
set_option linter.unusedVariables false
set_option linter.unusedSimpArgs false
/-- the first ones that a thing needs -/
def needT (g : List (List Nat)) (k i : Nat) : List Nat := (List.range i).filter fun i => Wk g g.length k i
theorem needT_succ (g : List (List Nat)) (k i : Nat) : needT g k (i + 1) = if Wk g g.length k i = true then needT g k i ++ [i] else needT g k i := by
  unfold needT
  rw [List.range_succ, List.filter_append]
  split
  · next h => rw [List.filter_cons, if_pos h]; rfl
  · next h => rw [List.filter_cons, if_neg h]; simp
theorem needT_len (g : List (List Nat)) (k i : Nat) : (needT g k i).length ≤ i := by
  have := List.length_filter_le (fun i => Wk g g.length k i) (List.range i)
  rwa [List.length_range] at this
theorem needT_rising (g : List (List Nat)) (k i : Nat) : Rising (needT g k i) := List.pairwise_lt_range.sublist List.filter_sublist
theorem needs_lt {g : List (List Nat)} (hg : ∀ x < g.length, ∀ y ∈ U g x, y < g.length) {k y : Nat} (hk : k < g.length) (h : Needs g k y) : y < g.length := by
  obtain ⟨z, hz, hs⟩ := h
  exact hs.closed (P := fun a => a < g.length) (fun a ha b hb => hg a ha b hb) (hg k hk z hz)
theorem needT_mem {g : List (List Nat)} (hg : ∀ x < g.length, ∀ y ∈ U g x, y < g.length) {k y : Nat} (hk : k < g.length) : y ∈ needT g k g.length ↔ Needs g k y := by
  unfold needT
  rw [List.mem_filter, List.mem_range]
  exact ⟨fun h => Wk.iff.1 h.2, fun h => ⟨needs_lt hg hk h, Wk.iff.2 h⟩⟩
set_option maxRecDepth 100000 in
set_option maxHeartbeats 8000000 in
theorem rreach_ok {ua : Option Addr} {uc : Nat} {g : List (List Nat)} (a : Nat) (w : World) (hrr : RR w.heap.size w (.slice ua g.length uc) (gi g)) (hu : RRN w.heap.size w ua g) (h0 : wrongC (gi g) = 0) (hg : ∀ x < g.length, ∀ y ∈ U g x, y < g.length) (ha : a < g.length) (hN : g.length ≤ 2048) :
    Calls Try.prog 13 #[.slice ua g.length uc, .int .i64 a] w (ReachPost (gi g) a w) := by
  obtain ⟨i0, hi0, hi1, hi2, hi3⟩ := info_parts Tint
  have HW := rwrong_any w hrr
  rw [h0] at HW
  have HND := Lib.hid (rneeds_any (uc := uc) w hu hg hN)
  have HG := Lib.hid hg
  have H0 := Lib.hid h0
  have ha' : (a : Int) < g.length := by omega
  have ha0 : decide ((a : Int) < 0) = false := by simp
  clear hrr hu h0 hg
  go_enter Try.func13, Try.ntmps13
  go_wp2_with fail
  refine HW.mono ?_
  rintro e w' ⟨rfl, rfl⟩
  go_wp2_with fail
  refine HND.out.mono ?_
  rintro e w1 ⟨mb, R, rfl, hm⟩
  have HM := Lib.hid hm.reads
  have HB1 := Lib.hid hm.bel
  clear hm HND HW
  go_wp2_with fail
  go_loopg [8, 9] g.length (fun d v8 v wr => ∃ i : Nat, i + d = g.length ∧ v = .int .i64 i ∧ wr.ownsRow w1.heap.size TI 1 v8 (needT g a i).length (nv (needT g a i)) ∧ Below w1.heap.size w1 wr)
  case atStart => exact ⟨0, by omega, rfl, World.ownsRow_nil _ _ _ _, Below.refl _ _⟩
  case round =>
    obtain ⟨i, hi, rfl, ho, hb⟩ := hrel
    obtain ⟨a8, c8, rfl⟩ := own_slice ho
    have HI := Lib.hid hi
    have HO := Lib.hid ho
    have HB := Lib.hid hb
    have hile : i ≤ g.length := by omega
    have hzB := hb.size
    have hcl := needT_len g a i
    have HMB := Lib.hid (HM.out.below hb (Nat.le_refl _))
    clear hi ho hb
    by_cases hlt : i < g.length
    · have hlt' : (i : Int) < g.length := by omega
      obtain ⟨t0, _, tr⟩ := HMB.out.2 a ha
      have t1 := tr i hlt
      have HS := Lib.hid (needT_succ g a i)
      clear tr
      generalize Wk g g.length a i = p at t1 HS
      cases p with
      | false =>
        have HS1 := Lib.hid (show needT g a (i + 1) = needT g a i from by rw [HS.out]; rfl)
        go_wp2_with fail
        go_roundg (g.length - (i + 1))
        case measure => have := HI.out; omega
        case rel => exact ⟨i + 1, by have := HI.out; omega, by go_num, by rw [HS1.out]; exact HO.out, HB.out⟩
      | true =>
        have HS1 := Lib.hid (show needT g a (i + 1) = needT g a i ++ [i] from by rw [HS.out]; rfl)
        go_wp2_with (at_builtin; refine wpList_append_own_at _ rfl _ _ 28 rfl w1.heap.size 3 i0 _ 1 8 Try.underlying28 hi0 hi1 hi2 hi3 rfl (by decide) _ _ _ rfl (HO.out.alloc _) ⟨wr.heap.size, 0, none⟩ 1 1 [.int .i64 i] rfl rfl (Go.cell_one_new _ _ _) (fun u hu => by simp only [List.mem_singleton] at hu; rw [hu]; rfl) (by unfold maxLen; omega) (by omega) (by simp; omega) ?_)
        intro v7 w7 hown hgrow _ _
        obtain ⟨a7, c7, rfl⟩ := own_slice hown
        have O7 := Lib.hid (show w7.ownsRow w1.heap.size TI 1 (.slice a7 ((needT g a i).length + 1) c7) ((needT g a i ++ [i]).length) (nv (needT g a i ++ [i])) by simpa [nv] using hown)
        have B7 := Lib.hid ((HB.out.alloc hzB (.cells #[.int .i64 i] TI)).grown hgrow (by simp; omega) (fun k hk => (HO.out.lt k hk).1))
        clear hown hgrow
        go_wp2_with fail
        go_roundg (g.length - (i + 1))
        case measure => have := HI.out; omega
        case rel => exact ⟨i + 1, by have := HI.out; omega, by go_num, by rw [HS1.out]; exact O7.out, B7.out⟩
    · have hge : ¬ (i : Int) < g.length := by omega
      have HIN := Lib.hid (show i = g.length by omega)
      clear hlt
      go_wp2_with fail
      go_ret2
      have ho := HO.out
      refine ⟨_, needT g a i, 0, rfl, ⟨a8, c8, rfl, by omega, fun j hj => ?_⟩, HB1.out.trans (HB.out.mono HB1.out.size), .inr ⟨rfl, H0.out, by omega, by rw [gi_length]; exact ha', fun g' hg' => ?_⟩⟩
      · obtain ⟨b, rfl, _, hb2, _, hc⟩ := own_at ho (by omega)
        refine ⟨_, rfl, hb2, ?_⟩
        have e2 : ((⟨b, 0, none⟩ : Addr).add j) = ⟨b, j, none⟩ := by
          simp [Addr.add]
          try (intro e; exact e.symm)
        rw [e2, hc j (by omega), nv_get hj]
        show _ = some (Value.int .i64 ((ni (needT g a i)).getD j 0))
        rw [ni_getD, List.getD_eq_getElem?_getD, List.getElem?_eq_getElem hj]
        rfl
      · have : g' = g := (gi_inj hg').symm
        subst this
        rw [HIN.out]
        exact ⟨needT_rising _ _ _, fun y => by rw [needT_mem HG.out ha]; rfl⟩
/-- the document's Reach, whatever it is asked -/
theorem rreach_any {v : Value} {G : List (List Int)} (a : Int) (w : World) (h : RR w.heap.size w v G) : Calls Try.prog 13 #[v, .int .i64 a] w (ReachPost G a w) := by
  have hW := rwrong_any w h
  by_cases h0 : wrongC G = 0
  · obtain ⟨hlen, g, rfl, hg⟩ := wrongC_zero h0
    obtain ⟨ua, uc, rfl, hu⟩ := h.nat
    rw [gi_length] at hlen
    by_cases hin : 0 ≤ a ∧ a < g.length
    · obtain ⟨na, rfl⟩ : ∃ na : Nat, a = na := ⟨a.toNat, by omega⟩
      exact rreach_ok na w h hu h0 hg (by omega) hlen
    · have HIN := Lib.hid hin
      have hor : a < 0 ∨ (0 ≤ a ∧ (g.length : Int) ≤ a) := by omega
      rw [h0] at hW
      clear hin h hu hg
      rcases hor with hneg | ⟨hnn, hge⟩
      all_goals
        go_enter Try.func13, Try.ntmps13
        go_wp2_with fail
        refine hW.mono ?_
        rintro e w' ⟨rfl, rfl⟩
        go_wp2_with fail
        go_ret2
        exact ⟨_, [], 1, rfl, ⟨some ⟨w.heap.size, 0, none⟩, 0, rfl, by simp, fun i hi => by simp at hi⟩, by go_grown, .inl ⟨by decide, rfl, by rw [if_pos h0], fun hh => HIN.out ⟨hh.2.1, by have := hh.2.2; rwa [gi_length] at this⟩⟩⟩
  · have H0 := Lib.hid h0
    obtain ⟨c, hc⟩ : ∃ c, wrongC G = c := ⟨_, rfl⟩
    rw [hc] at hW
    have e0 : (c != 0) = true := by rw [← hc]; simpa using h0
    have e1 : (c == 0) = false := by rw [← hc]; simpa using h0
    have HC := Lib.hid hc
    obtain ⟨ua, uc, rfl, _, _⟩ := h
    clear hc h0
    go_enter Try.func13, Try.ntmps13
    go_wp2_with fail
    refine hW.mono ?_
    rintro e w' ⟨rfl, rfl⟩
    go_wp2_with fail
    go_ret2
    exact ⟨_, [], c, rfl, ⟨some ⟨w.heap.size, 0, none⟩, 0, rfl, by simp, fun i hi => by simp at hi⟩, by go_grown, .inl ⟨by rw [← HC.out]; exact H0.out, rfl, by rw [if_neg H0.out, HC.out], fun hh => H0.out hh.1⟩⟩
/-- the document's Groups, whatever it is asked, where a partition is known -/
theorem rgroups_any {v : Value} {G : List (List Int)} (w : World) (h : RR w.heap.size w v G) (hp : wrongC G = 0 → ∀ g, G = gi g → ∃ gs, Parted g gs) : Calls Try.prog 11 #[v] w (GroupsPost G w) := by
  have hW := rwrong_any w h
  by_cases h0 : wrongC G = 0
  · obtain ⟨hlen, g, rfl, hg⟩ := wrongC_zero h0
    obtain ⟨ua, uc, rfl, hu⟩ := h.nat
    rw [gi_length] at hlen
    obtain ⟨gs, hgs⟩ := hp h0 g rfl
    refine (rgroups_ok (uc := uc) w h hu h0 hg hgs hlen).mono ?_
    rintro e w' ⟨v, l, rfl, hr, hc, hb⟩
    exact ⟨v, l, by rw [h0], hr, hb, fun e => absurd h0 e, fun _ => ⟨g, rfl, hg, hlen, hc⟩⟩
  · have H0 := Lib.hid h0
    obtain ⟨c, hc⟩ : ∃ c, wrongC G = c := ⟨_, rfl⟩
    rw [hc] at hW
    have e0 : (c != 0) = true := by rw [← hc]; simpa using h0
    have HC := Lib.hid hc
    clear hc h0 h hp
    go_enter Try.func11, Try.ntmps11
    go_wp2_with fail
    refine hW.mono ?_
    rintro e w' ⟨rfl, rfl⟩
    go_wp2_with fail
    go_ret2
    exact ⟨_, [], by rw [HC.out]; rfl, ⟨some ⟨w.heap.size, 0, none⟩, 0, rfl, by simp, fun i hi => by simp at hi⟩, by go_grown, fun _ => rfl, fun e => absurd e H0.out⟩
end Go.Proofs.Ytephmagficbdeaa.Gr
