/-
  CONTRACTS of layer layout: Real.
-/
import Derived.Test.YtidmclaaggoahaaLayW
import Derived.Deep.AppendLies
import Derived.Laws.Cover3
namespace Go.Proofs.Ytidmclaaggoahaa.Ly
open Go.RowKit Pl Ar Mm Lx
set_option linter.unusedVariables false
set_option linter.unusedSimpArgs false
theorem own_put {w : World} {B : Nat} {e : TypeId} {size n g c j : Nat} {xs : List Value} (h : w.ownsRow B e size (.slice (some ⟨g, 0, none⟩) n c) n xs) (u : Value) : (w.setCell ⟨g, j, none⟩ u).ownsRow B e size (.slice (some ⟨g, 0, none⟩) n c) n (xs.set j u) := by
  obtain ⟨h1, ⟨h', _⟩ | ⟨g', cap, cur, h', hb, hg, h2, h3, h4, h5⟩⟩ := h
  · simp at h'
  · simp only [Value.slice.injEq, Option.some.injEq, Addr.mk.injEq, and_true, true_and] at h'
    obtain ⟨rfl, rfl⟩ := h'
    refine ⟨by simpa using h1, .inr ⟨g, c, cur.setIfInBounds j u, rfl, hb, heap_setCell_same w g j cur e u hg, h2, h3, by simpa using h4, ?_⟩⟩
    rw [Array.toList_setIfInBounds, List.take_set, h5]
def realT (t : TokM) : TokM := ⟨t.kind, t.text, t.num, t.line, t.col, false⟩
def realK : List TokM → Nat → List TokM
  | [], _ => []
  | t :: L, 0 => t :: L
  | t :: L, k + 1 => realT t :: realK L k
theorem realK_zero (L : List TokM) : realK L 0 = L := by cases L <;> rfl
theorem realK_all : ∀ (L : List TokM), realK L L.length = L.map realT
  | [] => rfl
  | t :: L => by show realT t :: realK L L.length = _; rw [realK_all L]; rfl
theorem realK_len : ∀ (L : List TokM) (k : Nat), (realK L k).length = L.length
  | [], _ => rfl
  | t :: L, 0 => rfl
  | t :: L, k + 1 => by show (realK L k).length + 1 = _; rw [realK_len L k]; rfl
theorem realK_cells : ∀ (L : List TokM) (k : Nat), k < L.length → tmsCells (realK L (k + 1)) = (tmsCells (realK L k)).set (k * 6 + 5) (.bool false)
  | [], k, h => by simp at h
  | t :: L, 0, h => by
    show tmsCells (realT t :: realK L 0) = (tmsCells (t :: L)).set 5 (.bool false)
    rw [realK_zero]
    simp [tmsCells, tmCells, realT]
  | t :: L, k + 1, h => by
    show tmCells (realT t) ++ tmsCells (realK L (k + 1)) = (tmCells (realT t) ++ tmsCells (realK L k)).set ((k + 1) * 6 + 5) (.bool false)
    have hl : (tmCells (realT t)).length = 6 := rfl
    rw [List.set_append_right _ _ (by rw [hl]; omega), hl, show (k + 1) * 6 + 5 - 6 = k * 6 + 5 by omega, ← realK_cells L k (by simpa using h)]
theorem add_add (ad : Addr) (a r : Nat) (hr : 0 < r) : (⟨(ad.add a).block, (ad.add a).off + r, none⟩ : Addr) = ad.add (a + r) := by
  unfold Addr.add
  rw [if_neg (show ¬ a + r = 0 by omega)]
  split
  · rename_i h; subst h; simp
  · simp; omega
theorem tms_len : ∀ M : List TokM, (tmsCells M).length = M.length * 6 := by
  intro M
  induction M with
  | nil => rfl
  | cons t M ih => show (tmCells t ++ tmsCells M).length = _; rw [List.length_append, ih]; show 6 + _ = (M.length + 1) * 6; omega
theorem shows_cells {w : World} {B : Nat} {ad : Addr} {c : Nat} {L : List TokM} (h : ShowsM w B (.slice (some ad) L.length c) L) : ∀ j u, (tmsCells L)[j]? = some u → w.cell? (ad.add j) = some u := by
  obtain ⟨b, c', hv, hc⟩ := h
  injection hv with hb _ _
  subst hb
  intro j u hj
  have hlen := tms_len L
  have hjl : j < L.length * 6 := by
    rcases Nat.lt_or_ge j (tmsCells L).length with h | h
    · omega
    · rw [List.getElem?_eq_none h] at hj; cases hj
  obtain ⟨k, r, hr, rfl⟩ : ∃ k r, r < 6 ∧ j = k * 6 + r := ⟨j / 6, j % 6, Nat.mod_lt _ (by omega), by omega⟩
  rw [tms_get L k (by omega) r hr] at hj
  obtain ⟨ad', e, _, y⟩ := hc k (by omega)
  injection e with e
  subst e
  have q : ∀ r, 0 < r → w.cell? (ad.add (k * 6 + r)) = w.cell? ⟨(ad.add (k * 6)).block, (ad.add (k * 6)).off + r, none⟩ := fun r hr => by rw [add_add _ _ _ hr]
  match r, hr with
  | 0, _ => exact y.c0.trans hj
  | 1, _ => rw [q 1 (by omega)]; exact y.c1.trans hj
  | 2, _ => rw [q 2 (by omega)]; exact y.c2.trans hj
  | 3, _ => rw [q 3 (by omega)]; exact y.c3.trans hj
  | 4, _ => rw [q 4 (by omega)]; exact y.c4.trans hj
  | 5, _ => rw [q 5 (by omega)]; exact y.c5.trans hj
theorem tms_one (L : List TokM) : ∀ u ∈ tmsCells L, u.oneCell' = true := by
  intro u hu
  unfold tmsCells at hu
  rw [List.mem_flatMap] at hu
  obtain ⟨t, _, ht⟩ := hu
  simp only [tmCells, List.mem_cons, List.not_mem_nil, or_false] at ht
  rcases ht with rfl | rfl | rfl | rfl | rfl | rfl <;> rfl
theorem run_eql_slice_nil {P : Program} (w : World) (t e : TypeId) (a : Option Addr) (l c : Nat) (h : P.underlying t = some (.slice e)) : (binOp .eql t (.slice a l c) (.slice none 0 0)).run P w = .ok (.bool a.isNone) w := by
  simp only [binOp]
  simp [run_equal_slice_nil w t e a l c h]
set_option maxRecDepth 100000 in
set_option maxHeartbeats 2000000 in
theorem clone_any {v : Value} {L : List TokM} (w : World) (h : ShowsM w w.heap.size v L) (hl : L.length ≤ 1000000000) :
    Calls Try.prog 28 #[v] w fun e w' => ∃ v2, e = .returned v2 ∧ OwnsM w' w.heap.size v2 L ∧ Below w.heap.size w w' := by
  obtain ⟨i0, hi, hz0, hz1, hz2'⟩ := info_parts Ttok
  have HSH := Lib.hid h
  obtain ⟨b, c, rfl, hc⟩ := h
  have HC := Lib.hid hc
  clear hc
  cases b with
  | none =>
    have hL : L = [] := by
      cases L with
      | nil => rfl
      | cons t L => obtain ⟨_, e, _⟩ := HC.out 0 (by simp); cases e
    subst hL
    go_enter Try.func28, Try.ntmps28
    have E1 : ∀ w, (binOp .eql 22 (.slice none 0 c) (.slice none 0 0)).run Try.prog w = .ok (.bool true) w := fun w => run_eql_slice_nil w _ _ none 0 c Try.underlying22
    go_wp2
    refine bodyPost_ret (v := .slice none 0 0) (by simp [results, Try.results28, go_sem]) rfl ?_
    exact ⟨_, rfl, World.ownsRow_nil _ _ _ _, Below.refl _ _⟩
  | some ad =>
    have E1 : ∀ w, (binOp .eql 22 (.slice (some ad) L.length c) (.slice none 0 0)).run Try.prog w = .ok (.bool false) w := fun w => run_eql_slice_nil w _ _ (some ad) L.length c Try.underlying22
    go_enter Try.func28, Try.ntmps28
    have ho : (w.alloc (.cells #[] TT)).ownsRow w.heap.size TT 6 (.slice (some ⟨w.heap.size, 0, none⟩) 0 0) 0 [] :=
      ⟨rfl, .inr ⟨w.heap.size, 0, #[], rfl, Nat.le_refl _, heap_alloc_new w _, Nat.le_refl _, Nat.zero_le _, rfl, rfl⟩⟩
    have HO := Lib.hid ho
    have hsc := shows_cells (HSH.out.below ((Below.refl w.heap.size w).alloc (Nat.le_refl _) (.cells #[] TT)) (Nat.le_refl _))
    have HSC := Lib.hid hsc
    clear ho hsc
    go_wp2_with (at_builtin; refine wpList_append_own _ rfl _ _ 22 rfl w.heap.size 35 i0 _ 6 56 Try.underlying22 hi hz0 hz1 hz2' rfl (by decide) _ _ _ rfl HO.out ad L.length c (tmsCells L) rfl (tms_len L) HSC.out (tms_one L) ?c3 ?c4 ?c5 ?_)
    case c3 => unfold maxLen; omega
    case c4 => omega
    case c5 => simp
    intro v' w5 hown hgrow _
    have HO5 := Lib.hid hown
    have HB5 := Lib.hid (show Below w.heap.size w w5 from ((Below.refl w.heap.size w).alloc (Nat.le_refl _) (.cells #[] TT)).grown hgrow (by simp) (fun g hg => by
      have : w.heap.size = g := by simpa [Value.ownBlock] using hg
      omega))
    clear hown hgrow
    go_wp2
    refine bodyPost_ret (v := v') (by simp [results, Try.results28, go_sem]) rfl ?_
    have ho5 := HO5.out
    exact ⟨_, rfl, ho5, HB5.out⟩
set_option maxRecDepth 100000 in
set_option maxHeartbeats 2000000 in
theorem real_any {v : Value} {L : List TokM} (w : World) (h : ShowsM w w.heap.size v L) (hl : L.length ≤ 1000000000) :
    Calls Try.prog 16 #[v] w fun e w' => ∃ v2, e = .returned v2 ∧ OwnsM w' w.heap.size v2 (L.map realT) ∧ Below w.heap.size w w' := by
  have HSH := Lib.hid h
  clear h
  obtain ⟨N, hN⟩ : ∃ N, L.length = N := ⟨_, rfl⟩
  have HN := Lib.hid hN
  rw [hN] at hl
  clear hN
  go_enter Try.func16, Try.ntmps16
  go_wp2_with fail
  refine (clone_any _ HSH.out (by rw [HN.out]; exact hl)).mono ?_
  rintro e w1 ⟨v1, rfl, o1, hb1⟩
  obtain ⟨b, c, rfl⟩ := own_slice o1
  have HO1 := Lib.hid o1
  have HB1 := Lib.hid hb1
  rw [HN.out]
  clear o1 hb1
  go_wp2_with fail
  go_loopg [4, 9] N (fun d i4 i wr => ∃ k : Nat, d + k = N ∧ i = .int .i64 k ∧ OwnsM wr w.heap.size (.slice b N c) (realK L k) ∧ Below w.heap.size w wr)
  case atStart => exact ⟨0, by omega, rfl, by rw [realK_zero]; have := HO1.out; rw [HN.out] at this; exact this, HB1.out⟩
  case round =>
    obtain ⟨k, hk, rfl, ho, hbw⟩ := hrel
    have HK := Lib.hid hk
    have HBW := Lib.hid hbw
    have hle : k ≤ N := by omega
    have ho2 : wr.ownsRow w.heap.size TT 6 (.slice b N c) N (tmsCells (realK L k)) := by
      have := ho
      unfold OwnsM at this
      rwa [realK_len, HN.out] at this
    have HO2 := Lib.hid ho2
    clear hk hbw ho ho2
    by_cases hlt : k < N
    · have hlt' : (k : Int) < N := by omega
      obtain ⟨g, rfl, hBg, hg, hc, hcl⟩ := own_at HO2.out (by omega)
      obtain ⟨cur, hbx⟩ := own_block HO2.out
      have fz := hbx.free (k * 6 + 5)
      have hcc := hcl (k * 6 + 5) (by omega)
      rw [tms_get _ k (by rw [realK_len, HN.out]; exact hlt) 5 (by omega)] at hcc
      have hcc2 : wr.cell? ⟨g, k * 6 + 5, none⟩ = some (.bool (tk (realK L k) k).made) := hcc
      clear hcc hcl hbx
      go_wp2
      go_roundg (N - (k + 1))
      case measure => have := HK.out; omega
      case rel => exact ⟨k + 1, by have := HK.out; omega, by go_num, by unfold OwnsM; rw [realK_len, HN.out, realK_cells L k (by rw [HN.out]; exact hlt)]; exact own_put HO2.out _, HBW.out.setCell hBg _⟩
    · obtain rfl : k = N := by omega
      go_wp2
      refine bodyPost_ret (v := _) (by simp [results, Try.results16, go_sem]; rfl) rfl ?_
      refine ⟨_, rfl, ?_, HBW.out⟩
      have := HO2.out
      unfold OwnsM
      rw [List.length_map, ← realK_all, HN.out]
      exact this
end Go.Proofs.Ytidmclaaggoahaa.Ly
