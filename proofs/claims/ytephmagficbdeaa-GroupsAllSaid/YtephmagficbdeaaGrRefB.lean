/-
  CONTRACTS: few; the document's group of a thing; whether a group is ready.
-/
import Derived.Test.YtephmagficbdeaaGrRefA
namespace Go.Proofs.Ytephmagficbdeaa.Gr
open Go.RowKit Go.Shelf Go.Sort Mm Sp
set_option linter.unusedVariables false
set_option linter.unusedSimpArgs false
/-- a matrix that is read, in blocks below B -/
def MatC (B : Nat) (w : World) (mb n : Nat) (R : Nat → Nat) (M : Nat → Nat → Bool) : Prop :=
  mb < B ∧ ∀ a, a < n → w.cell? ⟨mb, a, none⟩ = some (.slice (some ⟨R a, 0, none⟩) n n) ∧ R a < B ∧ ∀ b, b < n → w.cell? ⟨R a, b, none⟩ = some (.bool (M a b))
theorem MatC.below {B B' : Nat} {w w' : World} {mb n : Nat} {R : Nat → Nat} {M : Nat → Nat → Bool} (h : MatC B w mb n R M) (hb : Below B' w w') (hle : B ≤ B') : MatC B w' mb n R M := by
  refine ⟨h.1, fun a ha => ?_⟩
  obtain ⟨h1, h2, h3⟩ := h.2 a ha
  refine ⟨by rw [hb.cell (p := ⟨mb, a, none⟩) (by have := h.1; show mb < B'; omega)]; exact h1, h2, fun b hb2 => ?_⟩
  rw [hb.cell (p := ⟨R a, b, none⟩) (by show R a < B'; omega)]
  exact h3 b hb2
theorem MatC.mono {B B' : Nat} {w : World} {mb n : Nat} {R : Nat → Nat} {M : Nat → Nat → Bool} (h : MatC B w mb n R M) (hle : B ≤ B') : MatC B' w mb n R M :=
  ⟨by have := h.1; omega, fun a ha => by obtain ⟨h1, h2, h3⟩ := h.2 a ha; exact ⟨h1, by omega, h3⟩⟩
theorem Mat.reads {B : Nat} {w wr : World} {mb n : Nat} {R : Nat → Nat} {M : Nat → Nat → Bool} (h : Mat B w wr mb n n R M) : MatC wr.heap.size wr mb n R M :=
  ⟨(World.ownsRow.lt h.top mb rfl).2, fun a ha => ⟨h.topCell ha ha, (h.hR ha).2, fun b hb => h.cell ha hb⟩⟩
/-- what few answers: something, and no cell is changed -/
def FewPost (w : World) (e : Ending) (w' : World) : Prop := ∃ t : Bool, e = .returned (.bool t) ∧ w' = w
set_option maxRecDepth 100000 in
theorem few_any {v : Value} {G : List (List Int)} (w : World) (h : RR w.heap.size w v G) : Calls Try.prog 8 #[v] w (FewPost w) := by
  obtain ⟨a, c, rfl, hN, hr⟩ := h
  have HR := Lib.hid hr
  clear hr
  by_cases hbig : 100 < G.length
  · have hbig' : (100 : Int) < G.length := by omega
    go_enter Try.func8, Try.ntmps8
    go_wp2_with fail
    go_ret
    exact ⟨false, rfl, rfl⟩
  · have hbig' : ¬ (100 : Int) < G.length := by omega
    go_enter Try.func8, Try.ntmps8
    go_wp2_with fail
    go_loopg [3] G.length (fun d v wr => ∃ i : Nat, i + d = G.length ∧ v = .int .i64 i ∧ w = wr)
    case atStart => exact ⟨0, by omega, rfl, rfl⟩
    case round =>
      obtain ⟨i, hi, rfl, rfl⟩ := hrel
      have HI := Lib.hid hi
      have hile : i ≤ G.length := by omega
      clear hi
      by_cases hlt : i < G.length
      · have hlt' : (i : Int) < G.length := by omega
        obtain ⟨ad, u, rfl, _, c0, a2, c2, rfl, hl, _⟩ := HR.out i hlt
        generalize (G.getD i []).length = m at c0 hl
        by_cases hm : 200 < m
        · have hm' : (200 : Int) < m := by omega
          go_wp2_with fail
          go_ret
          exact ⟨false, rfl, rfl⟩
        · have hm' : ¬ (200 : Int) < m := by omega
          go_wp2_with fail
          go_roundg (G.length - (i + 1))
          case measure => have := HI.out; omega
          case rel => exact ⟨i + 1, by have := HI.out; omega, by go_num, rfl⟩
      · have hge : ¬ (i : Int) < G.length := by omega
        go_wp2_with fail
        go_ret
        exact ⟨true, rfl, rfl⟩
/-- the first ones of a thing's group -/
def clsT (g : List (List Nat)) (k i : Nat) : List Nat := (List.range i).filter fun i => decide (i = k) || (Wk g g.length i k && Wk g g.length k i)
theorem clsT_succ (g : List (List Nat)) (k i : Nat) : clsT g k (i + 1) = if (decide (i = k) || (Wk g g.length i k && Wk g g.length k i)) = true then clsT g k i ++ [i] else clsT g k i := by
  unfold clsT
  rw [List.range_succ, List.filter_append]
  split
  · next h => rw [List.filter_cons, if_pos h]; rfl
  · next h => rw [List.filter_cons, if_neg h]; simp
theorem clsT_len (g : List (List Nat)) (k i : Nat) : (clsT g k i).length ≤ i := by
  have := List.length_filter_le (fun i => decide (i = k) || (Wk g g.length i k && Wk g g.length k i)) (List.range i)
  rwa [List.length_range] at this
def GroupPost (g : List (List Nat)) (k : Nat) (w : World) (e : Ending) (w' : World) : Prop := ∃ v, e = .returned v ∧ w'.ownsRow w.heap.size TI 1 v (cls g k).length (nv (cls g k)) ∧ Below w.heap.size w w'
set_option maxRecDepth 100000 in
set_option maxHeartbeats 8000000 in
theorem rgroup_any {g : List (List Nat)} {mb k : Nat} {R : Nat → Nat} (w : World) (h : MatC w.heap.size w mb g.length R (Wk g g.length)) (hk : k < g.length) (hN : g.length ≤ 2048) :
    Calls Try.prog 21 #[.slice (some ⟨mb, 0, none⟩) g.length g.length, .int .i64 k] w (GroupPost g k w) := by
  obtain ⟨i0, hi0, hi1, hi2, hi3⟩ := info_parts Tint
  have HM := Lib.hid h
  clear h
  go_enter Try.func21, Try.ntmps21
  go_wp2_with fail
  go_loopg [5, 6] g.length (fun d v5 v wr => ∃ i : Nat, i + d = g.length ∧ v = .int .i64 i ∧ wr.ownsRow w.heap.size TI 1 v5 (clsT g k i).length (nv (clsT g k i)) ∧ Below w.heap.size w wr)
  case atStart => exact ⟨0, by omega, rfl, World.ownsRow_nil _ _ _ _, Below.refl _ _⟩
  case round =>
    obtain ⟨i, hi, rfl, ho, hb⟩ := hrel
    obtain ⟨a5, c5, rfl⟩ := own_slice ho
    have HI := Lib.hid hi
    have HO := Lib.hid ho
    have HB := Lib.hid hb
    have hile : i ≤ g.length := by omega
    have hzB := hb.size
    have hcl := clsT_len g k i
    have HMB := Lib.hid (HM.out.below hb (Nat.le_refl _))
    clear hi ho hb
    by_cases hlt : i < g.length
    · have hlt' : (i : Int) < g.length := by omega
      have hk' : (k : Int) < g.length := by omega
      obtain ⟨t0, _, tr⟩ := HMB.out.2 i hlt
      have t1 := tr k hk
      obtain ⟨t2, _, tr2⟩ := HMB.out.2 k hk
      have t3 := tr2 i hlt
      have HS := Lib.hid (clsT_succ g k i)
      clear tr tr2
      generalize Wk g g.length i k = p at t1 HS
      generalize Wk g g.length k i = r at t3 HS
      obtain ⟨dd, hdd⟩ : ∃ d, decide (i = k) = d := ⟨_, rfl⟩
      have e1 : ((i : Int) == (k : Int)) = dd := by rw [← hdd, Bool.eq_iff_iff]; simp; omega
      rw [hdd] at HS
      clear hdd
      cases dd <;> cases p <;> cases r
      all_goals
        first
          | (have HS1 := Lib.hid (show clsT g k (i + 1) = clsT g k i from by rw [HS.out]; rfl)
             go_wp2_with fail
             go_roundg (g.length - (i + 1))
             case measure => have := HI.out; omega
             case rel => exact ⟨i + 1, by have := HI.out; omega, by go_num, by rw [HS1.out]; exact HO.out, HB.out⟩)
          | (have HS1 := Lib.hid (show clsT g k (i + 1) = clsT g k i ++ [i] from by rw [HS.out]; rfl)
             go_wp2_with (at_builtin; refine wpList_append_own_at _ rfl _ _ 28 rfl w.heap.size 3 i0 _ 1 8 Try.underlying28 hi0 hi1 hi2 hi3 rfl (by decide) _ _ _ rfl (HO.out.alloc _) ⟨wr.heap.size, 0, none⟩ 1 1 [.int .i64 i] rfl rfl (Go.cell_one_new _ _ _) (fun u hu => by simp only [List.mem_singleton] at hu; rw [hu]; rfl) (by unfold maxLen; omega) (by omega) (by simp; omega) ?_)
             intro v7 w7 hown hgrow _ _
             obtain ⟨a7, c7, rfl⟩ := own_slice hown
             have O7 := Lib.hid (show w7.ownsRow w.heap.size TI 1 (.slice a7 ((clsT g k i).length + 1) c7) ((clsT g k i ++ [i]).length) (nv (clsT g k i ++ [i])) by simpa [nv] using hown)
             have B7 := Lib.hid ((HB.out.alloc hzB (.cells #[.int .i64 i] TI)).grown hgrow (by simp; omega) (fun k hk => (HO.out.lt k hk).1))
             clear hown hgrow
             go_wp2_with fail
             go_roundg (g.length - (i + 1))
             case measure => have := HI.out; omega
             case rel => exact ⟨i + 1, by have := HI.out; omega, by go_num, by rw [HS1.out]; exact O7.out, B7.out⟩)
    · have hge : ¬ (i : Int) < g.length := by omega
      have hin : i = g.length := by omega
      have HO2 := Lib.hid (show wr.ownsRow w.heap.size TI 1 (.slice a5 (clsT g k i).length c5) (cls g k).length (nv (cls g k)) by
        have e : clsT g k i = cls g k := by rw [hin]; rfl
        have := HO.out
        rwa [e] at this ⊢)
      clear hin
      go_wp2_with fail
      go_ret
      exact ⟨_, rfl, HO2.out, HB.out⟩
/-- whether a group is ready -/
def ReadyPost (g : List (List Nat)) (x : Nat) (D : Nat → Bool) (w : World) (e : Ending) (w' : World) : Prop :=
  ∃ t : Bool, e = .returned (.bool t) ∧ (t = true ↔ ∀ i, i < g.length → Wk g g.length x i = true → D i = true ∨ Wk g g.length i x = true) ∧ ∃ n, w' = w.drewN n
set_option maxRecDepth 100000 in
set_option maxHeartbeats 8000000 in
theorem rready_any {g : List (List Nat)} {mb db x n0 c0 : Nat} {ad : Addr} {R : Nat → Nat} {D : Nat → Bool} (w : World) (h : MatC w.heap.size w mb g.length R (Wk g g.length)) (hx : x < g.length) (hn0 : 0 < n0) (hn1 : n0 ≤ 2048)
    (hl : w.cell? ad = some (.int .i64 x)) (hd : ∀ i, i < g.length → w.cell? ⟨db, i, none⟩ = some (.bool (D i))) (hN : g.length ≤ 2048) :
    Calls Try.prog 22 #[.slice (some ⟨mb, 0, none⟩) g.length g.length, .slice (some ad) n0 c0, .slice (some ⟨db, 0, none⟩) g.length g.length] w (ReadyPost g x D w) := by
  have HM := Lib.hid h
  have HD := Lib.hid hd
  have HL := Lib.hid hl
  have hx' : (x : Int) < g.length := by omega
  have hn0' : (0 : Int) < n0 := by omega
  clear h hd hl
  go_enter Try.func22, Try.ntmps22
  go_wp2_with fail
  go_loopg [7] g.length (fun d v wr => ∃ i n : Nat, i + d = g.length ∧ v = .int .i64 i ∧ wr = w.drewN n ∧ ∀ j, j < i → Wk g g.length x j = true → D j = true ∨ Wk g g.length j x = true)
  case atStart => exact ⟨0, 0, by omega, rfl, rfl, fun j hj => absurd hj (Nat.not_lt_zero j)⟩
  case round =>
    obtain ⟨i, n, hi, rfl, rfl, hall⟩ := hrel
    have HI := Lib.hid hi
    have HA := Lib.hid hall
    have hile : i ≤ g.length := by omega
    clear hi hall
    by_cases hlt : i < g.length
    · have hlt' : (i : Int) < g.length := by omega
      obtain ⟨t0, _, tr⟩ := HM.out.2 x hx
      have t1 := tr i hlt
      obtain ⟨t2, _, tr2⟩ := HM.out.2 i hlt
      have t3 := tr2 x hx
      have t4 := HD.out i hlt
      have t5 := HL.out
      replace t0 : (w.drewN n).cell? ⟨mb, x, none⟩ = _ := t0
      replace t1 : (w.drewN n).cell? ⟨R x, i, none⟩ = _ := t1
      replace t2 : (w.drewN n).cell? ⟨mb, i, none⟩ = _ := t2
      replace t3 : (w.drewN n).cell? ⟨R i, x, none⟩ = _ := t3
      replace t4 : (w.drewN n).cell? ⟨db, i, none⟩ = _ := t4
      replace t5 : (w.drewN n).cell? ad = _ := t5
      clear tr tr2
      have HX := Lib.hid (show (Wk g g.length x i = true → D i = true ∨ Wk g g.length i x = true) ↔ (Wk g g.length x i = true → D i = true ∨ Wk g g.length i x = true) from Iff.rfl)
      obtain ⟨p, hp⟩ : ∃ p, Wk g g.length x i = p := ⟨_, rfl⟩
      obtain ⟨r, hr⟩ : ∃ r, Wk g g.length i x = r := ⟨_, rfl⟩
      obtain ⟨q, hq⟩ : ∃ q, D i = q := ⟨_, rfl⟩
      rw [hp] at t1
      rw [hr] at t3
      rw [hq] at t4
      have HP := Lib.hid hp
      have HRR := Lib.hid hr
      have HQ := Lib.hid hq
      clear hp hr hq HX
      obtain ⟨W, hW⟩ : ∃ W, w.drewN n = W := ⟨_, rfl⟩
      rw [hW] at t0 t1 t2 t3 t4 t5 ⊢
      have HW := Lib.hid hW
      clear hW
      cases p <;> cases q <;> cases r
      all_goals
        go_wp2_with fail
        go_quiet (fail)
        go_wp2_with fail
        first
          | (go_roundg (g.length - (i + 1))
             case measure => have := HI.out; omega
             case rel =>
              exact ⟨i + 1, _, by have := HI.out; omega, by go_num, by rw [← HW.out, World.drewN_drewN], fun j hj hw => by
                by_cases e : j = i
                · subst e
                  first
                    | exact .inl HQ.out
                    | exact .inr HRR.out
                    | (rw [HP.out] at hw; cases hw)
                · exact HA.out j (by omega) hw⟩)
          | (go_ret
             exact ⟨false, rfl, ⟨fun e => absurd e (by simp), fun k => absurd (k i hlt HP.out) (by rw [HQ.out, HRR.out]; simp)⟩, _, by rw [← HW.out, World.drewN_drewN]⟩)
    · have hge : ¬ (i : Int) < g.length := by omega
      have HT := Lib.hid (show ∀ j, j < g.length → Wk g g.length x j = true → D j = true ∨ Wk g g.length j x = true from fun j hj => HA.out j (by omega))
      clear hlt
      go_wp2_with fail
      go_ret
      exact ⟨true, rfl, ⟨fun _ => HT.out, fun _ => rfl⟩, n, rfl⟩
end Go.Proofs.Ytephmagficbdeaa.Gr
