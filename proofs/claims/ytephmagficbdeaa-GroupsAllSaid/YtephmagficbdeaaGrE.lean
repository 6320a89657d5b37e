/-
  CONTRACT: a look is done with the thing on the top of its path.
-/
import Derived.Test.YtephmagficbdeaaGrD
namespace Go.Proofs.Ytephmagficbdeaa.Gr
open Go.RowKit Go.Shelf Go.Sort Mm Sp
set_option linter.unusedVariables false
set_option linter.unusedSimpArgs false
/-- a group, rising -/
def sortN (l : List Nat) : List Nat := (sortI (ni l)).map Int.toNat
theorem ni_sortN (l : List Nat) : ni (sortN l) = sortI (ni l) := by
  unfold sortN
  have h : ∀ x ∈ sortI (ni l), 0 ≤ x := fun x hx => by
    have := (sortI_perm (ni l)).mem_iff.1 hx
    obtain ⟨n, _, rfl⟩ := List.mem_map.1 this
    omega
  generalize sortI (ni l) = m at h
  unfold ni
  rw [List.map_map]
  conv => rhs; rw [← List.map_id m]
  refine List.map_congr_left fun x hx => ?_
  have := h x hx
  simp only [Function.comp, id]
  omega
theorem sortN_length (l : List Nat) : (sortN l).length = l.length := by
  have := congrArg List.length (ni_sortN l)
  rwa [ni_length, sortI_length, ni_length] at this
theorem sortN_mem (l : List Nat) (x : Nat) : x ∈ sortN l ↔ x ∈ l := by
  have h : ∀ (l : List Nat) (x : Nat), x ∈ l ↔ (x : Int) ∈ ni l := fun l x => by
    unfold ni
    constructor
    · intro hx; exact List.mem_map.2 ⟨x, hx, rfl⟩
    · intro hx
      obtain ⟨a, ha, e⟩ := List.mem_map.1 hx
      obtain rfl : a = x := by omega
      exact ha
  rw [h, ni_sortN, (sortI_perm (ni l)).mem_iff, ← h]
theorem sortN_rising {l : List Nat} (hn : l.Nodup) : Rising (sortN l) := by
  have h1 : (sortI (ni l)).Nodup := (sortI_perm (ni l)).nodup_iff.2 (by
    unfold ni
    exact List.pairwise_map.2 (hn.imp fun h e => h (by omega)))
  have h2 := sortI_le (ni l)
  rw [← ni_sortN] at h1 h2
  unfold ni at h1 h2
  rw [List.Nodup, List.pairwise_map] at h1
  rw [List.pairwise_map] at h2
  exact (h1.and h2).imp fun ⟨a, b⟩ => by omega
theorem iv_ni (l : List Nat) : iv (ni l) = nv l := by simp [iv, ni, nv]
section
variable {B : Nat} {w w' : World} {p : Nat} {uv : Value} {N : Nat} {s : TS} {q : Nat} {pv ov gv : Value} {vs : List Value}
theorem LookAt.cutPath {g c m : Nat} {P R : List Nat} (h : LookAt B w p uv N s q (.slice (some ⟨g, 0, none⟩) m c) ov gv vs) (hs : s.path = P ++ R) (hm : m = s.path.length) :
    LookAt B (w.setCell ⟨p, 3, none⟩ (.slice (some ⟨g, 0, none⟩) P.length c)) p uv N { s with path := P } q (.slice (some ⟨g, 0, none⟩) P.length c) ov gv vs := by
  obtain ⟨h1, h2, h3, h4, h5, h6⟩ := h.field 3 (.slice (some ⟨g, 0, none⟩) P.length c)
  subst hm
  refine ⟨h1, h2, ?_, h4, h5, h6, h.ap, h.hp⟩
  have := own_cut h3 (m := P.length) (by rw [hs]; simp)
  rw [hs] at this
  simpa [nv_append, nv_length] using this
theorem LookAt.cutOpen {g c m : Nat} {P R : List Nat} (h : LookAt B w p uv N s q pv (.slice (some ⟨g, 0, none⟩) m c) gv vs) (hs : s.opn = P ++ R) (hm : m = s.opn.length) :
    LookAt B (w.setCell ⟨p, 4, none⟩ (.slice (some ⟨g, 0, none⟩) P.length c)) p uv N { s with opn := P } q pv (.slice (some ⟨g, 0, none⟩) P.length c) gv vs := by
  obtain ⟨h1, h2, h3, h4, h5, h6⟩ := h.field 4 (.slice (some ⟨g, 0, none⟩) P.length c)
  subst hm
  refine ⟨h1, h2, h3, ?_, h5, h6, h.ap, h.hp⟩
  have := own_cut h4 (m := P.length) (by rw [hs]; simp)
  rw [hs] at this
  simpa [nv_append, nv_length] using this
/-- nothing of a look's has turned: what was made lies in new blocks -/
theorem LookAt.here (h : LookAt B w p uv N s q pv ov gv vs) (hb : Below w.heap.size w w') : LookAt B w' p uv N s q pv ov gv vs :=
  ⟨h.box.below hb h.box.lt, own_here h.thg hb, own_here h.pth hb, own_here h.opn hb, own_here h.grp hb, fun i C hC => by
    obtain ⟨b, c, k1, k2, k3, k4⟩ := h.rows i C hC
    exact ⟨b, c, k1, k2, k3, own_here k4 hb⟩, h.ap, h.hp⟩
/-- a group is put behind the others -/
theorem LookAt.onGroups (h : LookAt B w p uv N s q pv ov gv vs) {w6 : World} {gv' : Value} {b c : Nat} {C : List Nat} (hown : w6.ownsRow B TR 1 gv' (s.groups.length + 1) (vs ++ [.slice (some ⟨b, 0, none⟩) C.length c])) (hgrow : w.grownBy w6 gv.ownBlock)
    (hC : w.ownsRow B TI 1 (.slice (some ⟨b, 0, none⟩) C.length c) C.length (nv C)) (hp : pv.ownBlock ≠ some b) (ho : ov.ownBlock ≠ some b) :
    LookAt B (w6.setCell ⟨p, 5, none⟩ gv') p uv N { s with groups := s.groups ++ [C] } q pv ov gv' (vs ++ [.slice (some ⟨b, 0, none⟩) C.length c]) := by
  have hb6 := h.box.grown hgrow (own_ne h.grp h.box (by decide))
  have hp6 := h.pth.kept hgrow (own_two h.pth h.grp (by decide))
  have ho6 := h.opn.kept hgrow (own_two h.opn h.grp (by decide))
  have ht6 := h.thg.kept hgrow (own_two h.thg h.grp (by decide))
  have hC6 := hC.kept hgrow (own_two hC h.grp (by decide))
  have hvl : vs.length = s.groups.length := by have := h.grp.1; omega
  refine ⟨hb6.put 5 gv', own_far ht6 hb6 (by decide) 5 gv', own_far hp6 hb6 (by decide) 5 gv', own_far ho6 hb6 (by decide) 5 gv', ?_, ?_, h.ap, h.hp⟩
  · have := own_far hown hb6 (by decide) 5 gv'
    simpa using this
  · intro i D hD
    replace hD : (s.groups ++ [C])[i]? = some D := hD
    by_cases hi : i < s.groups.length
    · rw [List.getElem?_append_left hi] at hD
      obtain ⟨b2, c2, k1, k2, k3, k4⟩ := h.rows i D hD
      refine ⟨b2, c2, by rw [List.getElem?_append_left (by omega)]; exact k1, k2, k3, ?_⟩
      exact own_far (k4.kept hgrow (own_two k4 h.grp (by decide))) hb6 (by decide) 5 gv'
    · have hi2 : i = s.groups.length := by
        have := (List.getElem?_eq_some_iff.1 hD).1
        simp at this; omega
      subst hi2
      rw [List.getElem?_append_right (Nat.le_refl _)] at hD
      simp only [Nat.sub_self, List.getElem?_cons_zero, Option.some.injEq] at hD
      subst hD
      exact ⟨b, c, by rw [List.getElem?_append_right (by omega), hvl]; simp, hp, ho, own_far hC6 hb6 (by decide) 5 gv'⟩
end
/-- the state behind: what was come back to is known; perhaps a group more -/
def leaveS (s : TS) (P O1 O2 : List Nat) (bk : Nat → Nat) (n : Nat) : TS :=
  if s.back n < s.at_ n then { s with path := P, back := bk }
  else { s with path := P, back := bk, opn := O1, whole := fun v => decide (v ∈ sortN (n :: O2)) || s.whole v, groups := s.groups ++ [sortN (n :: O2)] }
/-- between the two halves of a leave -/
def MidAt (B : Nat) (w : World) (p : Nat) (uv : Value) (N : Nat) (s s2 : TS) (n X : Nat) (q : Nat) (pv ov gv : Value) (vs : List Value) (wx : World) : Prop :=
  LookAt B wx p uv N s2 q pv ov gv vs ∧ Box wx X TT (cell4 s n).toArray ∧ Below B w wx
set_option maxRecDepth 100000 in
set_option maxHeartbeats 4000000 in
theorem leave_any (hS : SortOK) {B : Nat} {p : Nat} {uv : Value} {N : Nat} {s : TS} {P O1 O2 : List Nat} {bk : Nat → Nat} (n : Nat) (w : World) (h : Look B w p uv N s) (hn : n < N) (hN : N ≤ 2048) (hB : B ≤ w.heap.size) (hp : s.path = P ++ [n]) (ho : s.opn = O1 ++ n :: O2) (hno : n ∉ O1) (hol : s.opn.length ≤ N) (hpl : s.path.length ≤ N)
    (hgl : s.groups.length ≤ N) (hmn : ∀ m ∈ P, m ≠ n) (hlt : ∀ x ∈ s.opn, x < N) (hlp : ∀ x ∈ s.path, x < N) (hbk : (P = [] ∧ bk = s.back) ∨ ∃ Q m, P = Q ++ [m] ∧ bk = upd s.back m (min (s.back m) (s.back n))) :
    Calls Try.prog 31 #[.pointer (some ⟨p, 0, none⟩), .int .i64 n] w (LookPost B w p uv N (leaveS s P O1 O2 bk n)) := by
  obtain ⟨q, pv, ov, gv, vs, H⟩ := h
  obtain ⟨i0, hi, hz0, hz1, hz2'⟩ := info_parts Tint
  have hpth : w.ownsRow B TI 1 pv (P.length + 1) (nv s.path) := by have := H.pth; rw [hp] at this ⊢; simpa using this
  obtain ⟨gp, cp, rfl, hgp1, hgp2, hgp3⟩ := own_form hpth
  clear hpth
  have x1 := H.box.cell 1
  have x3 := H.box.cell 3
  have f3 := H.box.free 3
  obtain ⟨t0, t1, t2, t3⟩ := H.thing hn
  have hpq : p ≠ q := fun e => by
    subst e
    exact absurd (Box.same H.box (own_block H.thg).choose_spec) (by decide)
  have hpq' := hpq.symm
  have hqlt := (H.thg.lt q rfl).2
  have hpB := H.hp
  have hplt := H.box.lt
  simp only [List.getElem?_toArray, List.getElem?_cons_zero, List.getElem?_cons_succ] at x1 x3
  have bx := H.box.alloc (.cells #[.int .i64 (s.at_ n), .int .i64 (s.back n), .int .i64 (s.nxt n), .bool (s.whole n)] TT)
  have x3b := bx.cell 3
  have f3b := bx.free 3
  simp only [List.getElem?_toArray, List.getElem?_cons_zero, List.getElem?_cons_succ] at x3b
  clear bx
  obtain ⟨X, hX⟩ : ∃ X, w.heap.size = X := ⟨_, rfl⟩
  obtain ⟨W1, hW1⟩ : ∃ W1, ((w.alloc (.cells #[.int .i64 (s.at_ n), .int .i64 (s.back n), .int .i64 (s.nxt n), .bool (s.whole n)] TT)).setCell ⟨p, 3, none⟩ (.slice (some ⟨gp, 0, none⟩) P.length cp)).drew = W1 := ⟨_, rfl⟩
  have H1 : LookAt B W1 p uv N { s with path := P } q (.slice (some ⟨gp, 0, none⟩) P.length cp) ov gv vs := by
    rw [← hW1]
    exact ((H.alloc _).cutPath hp (by rw [hp]; simp)).drew
  have hB1 : Below B w W1 := by
    rw [← hW1]
    exact (((Below.refl B w).alloc hB _).setCell (p := ⟨p, 3, none⟩) hpB _).drew
  have hX1 : Box W1 X TT (cell4 s n).toArray := by
    rw [← hW1, ← hX]
    exact (Box.new w #[.int .i64 (s.at_ n), .int .i64 (s.back n), .int .i64 (s.nxt n), .bool (s.whole n)] TT).far (by simp; omega) _
  have HH := Lib.hid H
  have HH1 := Lib.hid H1
  have HB1 := Lib.hid hB1
  have HX1 := Lib.hid hX1
  have HP := Lib.hid hp
  have HO := Lib.hid ho
  have HBK := Lib.hid hbk
  have hpl2 : P.length + 1 ≤ 2048 := by rw [hp] at hpl; simp at hpl; omega
  clear H H1 hB1 hX1 hp ho hbk
  go_enter Try.func31, Try.ntmps31
  go_wp2_with fail
  go_region
  clear hW1 x1 x3 f3 t0 t1 t2 t3 hplt x3b f3b
  have x1 := HH1.out.box.cell 1
  have x3 := HH1.out.box.cell 3
  have u0 := HX1.out.cell 0
  have u1 := HX1.out.cell 1
  simp only [cell4, List.getElem?_toArray, List.getElem?_cons_zero, List.getElem?_cons_succ] at x1 x3 u0 u1
  go_upto_if 36 with fail
  go_cut [] (fun wx => MidAt B w p uv N s { s with path := P, back := bk } n X q (.slice (some ⟨gp, 0, none⟩) P.length cp) ov gv vs wx)
  case first =>
    rcases HBK.out with ⟨e1, e2⟩ | ⟨Q, m, e1, e2⟩
    · subst e1 e2
      go_wp2_with fail
      go_meet
      case rel => exact ⟨HH1.out, HX1.out, HB1.out⟩
    · have hl : P.length = Q.length + 1 := by rw [e1]; simp
      have h1 : 1 ≤ P.length := by omega
      have h0 : 0 < P.length := by omega
      have hmP : m ∈ P := by rw [e1]; simp
      have hm : m < N := hlp m (by rw [HP.out]; exact List.mem_append.2 (.inl hmP))
      have hmne : m ≠ n := hmn m hmP
      have c0 : W1.cell? ⟨gp, P.length - 1, none⟩ = some (.int .i64 m) := by
        have := HH1.out.pth.cellAt (P.length - 1) (by show _ < P.length * 1; omega)
        refine this.trans ?_
        show (nv P)[P.length - 1]? = _
        rw [e1]
        simp [nv]
      obtain ⟨y0, y1, y2, y3⟩ := HH1.out.thing hm
      have g1 := HH1.out.thg.frozenAt (m * 4 + 1)
      have HE2 := Lib.hid e2
      have HHL := Lib.hid hl
      have hXq : X ≠ q := by omega
      have hqX : q ≠ X := by omega
      have hmi : ((m : Int) < N) := by omega
      clear e1 e2 hl y0 y2 y3
      go_wp2_with fail
      go_region
      go_wp2_with fail
      go_region
      go_wp2_with fail
      all_goals
        go_meet
        case rel =>
          have e3 : (s.back n < s.back m ∧ min (s.back m) (s.back n) = s.back n) ∨ (s.back m ≤ s.back n ∧ min (s.back m) (s.back n) = s.back m) := by omega
          refine ⟨((HH1.out.put (n := m) (j := 1) (s' := { s with path := P, back := bk }) hm (by omega) ?_ ?_ rfl rfl rfl rfl).drew).drew, ((HX1.out.far (by simpa using hqX) _).drew).drew, ((HB1.out.setCell (p := ⟨q, m * 4 + 1, none⟩) (HH1.out.hq) _).drew).drew⟩
          · rw [HE2.out]
            rcases e3 with ⟨e4, e5⟩ | ⟨e4, e5⟩
            · first | (exfalso; omega) | simp [cell4, upd, e5]
            · first | (exfalso; omega) | simp [cell4, upd, e5]
          · intro a ha; rw [HE2.out]; simp [cell4, upd, ha]
  case rest =>
    obtain ⟨h2, hx2, hb2⟩ := hcut
    have HH2 := Lib.hid h2
    have HX2 := Lib.hid hx2
    have HB2 := Lib.hid hb2
    clear HH1 HX1 HB1 x1 x3 u0 u1
    have u0 := HX2.out.cell 0
    have u1 := HX2.out.cell 1
    simp only [cell4, List.getElem?_toArray, List.getElem?_cons_zero, List.getElem?_cons_succ] at u0 u1
    clear h2 hx2 hb2
    by_cases hba2 : s.back n < s.at_ n
    · have HLS := Lib.hid (show leaveS s P O1 O2 bk n = { s with path := P, back := bk } from if_pos hba2)
      go_wp2_with fail
      refine bodyPost_ret (v := .tuple #[]) (by simp [results, Try.results31, go_sem]) rfl ?_
      exact ⟨rfl, by rw [HLS.out]; exact ⟨_, _, _, _, _, HH2.out⟩, HB2.out⟩
    · have HLS := Lib.hid (show leaveS s P O1 O2 bk n = _ from if_neg hba2)
      have hge : ¬ (s.back n : Int) < s.at_ n := by omega
      have hL : s.opn.length = O1.length + O2.length + 1 := by rw [HO.out]; simp; omega
      have hop2 : wc.ownsRow B TI 1 ov (O1.length + O2.length + 1) (nv s.opn) := by rw [← hL]; exact HH2.out.opn
      obtain ⟨go, co, rfl, hgo1, hgo2, hgo3⟩ := own_form hop2
      have HI := index_pos (x := n) (i := O1.length) wc (L := s.opn) (by rw [hL]; exact hop2) (by omega) (by intro h; simp [HO.out]) (by
        intro j hj hj2 e
        have : s.opn[j]? = some n := by rw [← e]; exact List.getElem?_eq_getElem hj2
        rw [HO.out, List.getElem?_append_left hj] at this
        exact hno (List.mem_of_getElem? this)) (by omega)
      rw [hL] at HI
      have y4 := HH2.out.box.cell 4
      simp only [List.getElem?_toArray, List.getElem?_cons_zero, List.getElem?_cons_succ] at y4
      have HOP := Lib.hid hop2
      have HLE := Lib.hid hL
      have hll : O1.length + O2.length + 1 ≤ 2048 := by omega
      clear hop2 hba2 hL
      go_wp2_with fail
      refine HI.mono ?_
      rintro e w3 ⟨rfl, rfl⟩
      clear HI
      have hsl1 : ¬ ((O1.length : Int) = co) := by omega
      go_wp2_with fail
      have hzl : O1.length + O2.length + 1 - O1.length = (ni (n :: O2)).length := by rw [ni_length]; simp; omega
      rw [hzl]
      clear hzl
      refine (values_any _ _ _ _).mono ?_
      rintro e w3 ⟨rfl, rfl⟩
      have hzs : ∀ j, j < (ni (n :: O2)).length → (wc.alloc (.cells #[.slice (some ⟨go, O1.length, none⟩) (ni (n :: O2)).length (co - O1.length)] TR)).cell? ⟨go, O1.length + j, none⟩ = some (.int .i64 ((ni (n :: O2))[j]?.getD 0)) := by
        intro j hj
        rw [ni_length] at hj
        have hj2 : j < (n :: O2).length := hj
        have h1 := HOP.out.cellAt (O1.length + j) (by simp at hj2; omega)
        rw [HO.out] at h1
        have h2 : (nv (O1 ++ n :: O2))[O1.length + j]? = some (.int .i64 (((n :: O2)[j] : Nat) : Int)) := by
          rw [nv_append, List.getElem?_append_right (by rw [nv_length]; omega), nv_length, Nat.add_sub_cancel_left]
          exact nv_get hj2
        have h3 : (ni (n :: O2))[j]?.getD 0 = (((n :: O2)[j] : Nat) : Int) := by
          unfold ni
          rw [List.getElem?_map, List.getElem?_eq_getElem hj2]
          rfl
        rw [h3]
        exact (Below.cell (p := ⟨go, O1.length + j, none⟩) ((Below.refl wc.heap.size wc).alloc (Nat.le_refl _) _) hgo2).trans (h1.trans h2)
      have HSO := sorted_any hS wc.heap.size go O1.length (co - O1.length) (ni (n :: O2)) (by rw [ni_length]; simp; omega) _ (by simp) (by
        exact (Box.new wc #[.slice (some ⟨go, O1.length, none⟩) (ni (n :: O2)).length (co - O1.length)] TR).cell 0) (by simp; omega) hzs
      clear hzs
      go_wp2_with fail
      refine HSO.mono ?_
      rintro e w4 ⟨v, rfl, ho4, hb4⟩
      clear HSO
      obtain ⟨C, hC⟩ : ∃ C, sortN (n :: O2) = C := ⟨_, rfl⟩
      have hCl : C.length = O2.length + 1 := by rw [← hC, sortN_length]; simp
      rw [← ni_sortN, iv_ni, hC, ni_length, show (n :: O2).length = C.length by rw [hCl]; simp] at ho4
      rw [hC] at HLS
      have hCm : ∀ x, x ∈ C → x < N := fun x hx => hlt x (by rw [HO.out]; exact List.mem_append.2 (.inr ((sortN_mem _ _).1 (hC ▸ hx))))
      rw [show C.length = O2.length + 1 from hCl] at ho4
      obtain ⟨b, cb, rfl, hb1, hb2, hb3⟩ := own_form ho4
      have hb0 : wc.heap.size + 1 ≤ b := by simpa using hb1
      have H4 := Lib.hid ((HH2.out.alloc (.cells #[.slice (some ⟨go, O1.length, none⟩) (ni (n :: O2)).length (co - O1.length)] TR)).here hb4)
      have HB4 := Lib.hid ((HB2.out.alloc (Nat.le_trans hB HB2.out.size) (.cells #[.slice (some ⟨go, O1.length, none⟩) (ni (n :: O2)).length (co - O1.length)] TR)).trans (hb4.mono (by have := HB2.out.size; simp; omega)))
      have hbB : B ≤ b := by have := HB2.out.size; omega
      have HG4 := Lib.hid (own_base ho4 (B' := B) (by have := HB2.out.size; simp; omega))
      have y4 := H4.out.box.cell 4
      have f4 := H4.out.box.free 4
      simp only [List.getElem?_toArray, List.getElem?_cons_zero, List.getElem?_cons_succ] at y4
      have HCM := Lib.hid hCm
      have HCL := Lib.hid hCl
      have HHC := Lib.hid hC
      have hgpl : gp < wc.heap.size := by have := (HH2.out.pth.lt gp rfl).2; exact this
      obtain ⟨W5, hW5⟩ : ∃ W5, w4.setCell ⟨p, 4, none⟩ (.slice (some ⟨go, 0, none⟩) O1.length co) = W5 := ⟨_, rfl⟩
      have H5 := Lib.hid (show LookAt B W5 p uv N { s with path := P, back := bk, opn := O1 } q (.slice (some ⟨gp, 0, none⟩) P.length cp) (.slice (some ⟨go, 0, none⟩) O1.length co) gv vs by
        rw [← hW5]; exact H4.out.cutOpen (R := n :: O2) HO.out HLE.out.symm)
      have HB5 := Lib.hid (show Below B w W5 by rw [← hW5]; exact HB4.out.setCell (p := ⟨p, 4, none⟩) hpB _)
      have HG5 := Lib.hid (show W5.ownsRow B TI 1 (.slice (some ⟨b, 0, none⟩) (O2.length + 1) cb) (O2.length + 1) (nv C) by
        rw [← hW5]; exact own_far HG4.out H4.out.box (by decide) 4 _)
      clear ho4 hb4 hb1 hCm hC hCl H4 HG4 HB4
      go_upto_region 9 with fail
      clear hW5 y4 f4
      obtain ⟨j0, hj0, hj1, hj2, hj3⟩ := info_parts Trow
      go_wp2_with fail
      go_loopg [94] (O2.length + 1) (fun d v wr => ∃ k : Nat, k + d = O2.length + 1 ∧ v = .int .i64 k ∧ LookAt B wr p uv N { s with path := P, back := bk, opn := O1, whole := fun v => decide (v ∈ C.take k) || s.whole v } q (.slice (some ⟨gp, 0, none⟩) P.length cp) (.slice (some ⟨go, 0, none⟩) O1.length co) gv vs ∧ wr.ownsRow B TI 1 (.slice (some ⟨b, 0, none⟩) (O2.length + 1) cb) (O2.length + 1) (nv C) ∧ Below B w wr)
      case atStart =>
        refine ⟨0, by omega, rfl, ?_, HG5.out, HB5.out⟩
        have e : (fun v => decide (v ∈ C.take 0) || s.whole v) = s.whole := by funext v; simp
        rw [e]
        exact H5.out
      case round =>
        obtain ⟨k, hk, rfl, h6, hg6, hb6⟩ := hrel
        have HK := Lib.hid hk
        have H6 := Lib.hid h6
        have HG6 := Lib.hid hg6
        have HB6 := Lib.hid hb6
        have hkle : k ≤ O2.length + 1 := by omega
        clear hk h6 hg6 hb6
        by_cases hkt : k < O2.length + 1
        · have hkt' : (k : Int) < O2.length + 1 := by omega
          have hkC : k < C.length := by rw [HCL.out]; exact hkt
          have c0 := (HG6.out.cellAt k (by omega)).trans (nv_get hkC)
          have hcN : C[k] < N := HCM.out _ (List.getElem_mem hkC)
          have HCK := Lib.hid (show C.take (k + 1) = C.take k ++ [C[k]] by rw [List.take_add_one, List.getElem?_eq_getElem hkC]; rfl)
          generalize C[k] = m at c0 hcN HCK
          have hcN' : (m : Int) < N := by omega
          have x1 := H6.out.box.cell 1
          obtain ⟨_, _, _, t3⟩ := H6.out.thing hcN
          have g3 := H6.out.thg.frozenAt (m * 4 + 3)
          simp only [List.getElem?_toArray, List.getElem?_cons_zero, List.getElem?_cons_succ] at x1
          go_wp2_with fail
          go_roundg (O2.length + 1 - (k + 1))
          case measure => have := HK.out; omega
          case rel =>
            refine ⟨k + 1, by have := HK.out; omega, by go_num, ?_, ?_, HB6.out.setCell (p := ⟨q, m * 4 + 3, none⟩) H6.out.hq _⟩
            · refine H6.out.put (n := m) (j := 3) hcN (by omega) ?_ ?_ rfl rfl rfl rfl
              · rw [HCK.out]; simp [cell4]
              · intro a ha; rw [HCK.out]; simp [cell4, ha]
            · exact own_far HG6.out (own_block H6.out.thg).choose_spec (by decide) _ _
        · have hkn : k = O2.length + 1 := by omega
          have HKN := Lib.hid hkn
          have hge : ¬ (k : Int) < O2.length + 1 := by omega
          have x5 := H6.out.box.cell 5
          have f5 := H6.out.box.free 5
          have zB : B ≤ wr.heap.size := Nat.le_trans hB HB6.out.size
          simp only [List.getElem?_toArray, List.getElem?_cons_zero, List.getElem?_cons_succ] at x5
          clear hkn
          go_wp2_with (at_builtin; refine wpList_append_own_at _ rfl _ _ 22 rfl B 28 j0 _ 1 24 Try.underlying22 hj0 hj1 hj2 hj3 rfl (by decide) _ _ _ rfl (H6.out.grp.alloc _) ⟨wr.heap.size, 0, none⟩ 1 1 [.slice (some ⟨b, 0, none⟩) (O2.length + 1) cb] rfl rfl (Go.cell_one_new _ _ _) (fun u hu => by simp only [List.mem_singleton] at hu; rw [hu]; rfl) (by unfold maxLen; show s.groups.length + 1 ≤ _; omega) (by show (s.groups.length + 1) * 24 ≤ _; omega) (by simp; omega) ?_)
          intro v7 w7 hown hgrow _ hat
          obtain ⟨a7, c7, rfl⟩ := own_slice hown
          have hx7 := (H6.out.box.alloc (.cells #[.slice (some ⟨b, 0, none⟩) (O2.length + 1) cb] TR)).grown hgrow (own_ne H6.out.grp H6.out.box (by decide))
          have hown2 : w7.ownsRow B TR 1 (.slice a7 (s.groups.length + 1) c7) (s.groups.length + 1) (vs ++ [.slice (some ⟨b, 0, none⟩) C.length cb]) := by rw [HCL.out]; exact hown
          have H7 := Lib.hid ((H6.out.alloc (.cells #[.slice (some ⟨b, 0, none⟩) (O2.length + 1) cb] TR)).onGroups (C := C) hown2 hgrow (by rw [HCL.out]; exact HG6.out.alloc _) (by simp [Value.ownBlock]; omega) (by simp [Value.ownBlock]; omega))
          have HB7 := Lib.hid (((HB6.out.alloc zB (.cells #[.slice (some ⟨b, 0, none⟩) (O2.length + 1) cb] TR)).grown hgrow (by simp; omega) (fun k hk => (H6.out.grp.lt k hk).1)).setCell (p := ⟨p, 5, none⟩) hpB (.slice a7 (s.groups.length + 1) c7))
          have y5 := hx7.cell 5
          have y6 := hx7.free 5
          simp only [List.getElem?_toArray, List.getElem?_cons_zero, List.getElem?_cons_succ] at y5
          clear hown hown2 hgrow hat hx7 x5 f5
          go_wp2_with fail
          refine bodyPost_end (by simp [results, Try.results31, go_sem]; rfl) rfl ?_
          have H8 := H7.out
          rw [HKN.out, ← HCL.out, List.take_length] at H8
          refine ⟨rfl, ?_, HB7.out⟩
          rw [HLS.out]
          exact ⟨q, _, _, _, _, H8⟩
end Go.Proofs.Ytephmagficbdeaa.Gr
