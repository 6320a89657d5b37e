/-
  CONTRACTS of layer heap: rows of numbers in new memory (slices.Clone), own.
-/
import Derived.Test.YtbkklnihgejeoaaHpA
namespace Go.Proofs.Ytbkklnihgejeoaa.Hp
open Go.RowKit Mm Tm
set_option linter.unusedVariables false
set_option linter.unusedSimpArgs false
theorem OwnI.readsT {B : Nat} {e : TypeId} {w : World} {a : Option Addr} {n c : Nat} {l : List Int} (h : OwnI B e w (.slice a n c) l) : RdI (fun b => B ≤ b ∧ TyB e w b ∧ (.slice a n c : Value).ownBlock = some b) w a l := by
  intro i x hx
  have hi : i < l.length := (List.getElem?_eq_some_iff.1 hx).1
  obtain ⟨b, d, hv⟩ := own_slice h
  injection hv with e1 e2 e3
  subst e1 e2
  obtain ⟨g, rfl, hg1, hg2, _, hc⟩ := own_at h (by omega)
  obtain ⟨cur, hb⟩ := own_block h
  refine ⟨⟨g, 0, none⟩, rfl, ⟨hg1, ⟨cur, hb⟩, rfl⟩, ?_⟩
  have hadd : ((⟨g, 0, none⟩ : Addr).add i) = ⟨g, i, none⟩ := by
    simp [Addr.add]
    try (intro e; omega)
  rw [hadd, hc _ (by omega), List.getElem?_map, hx]
  rfl
theorem OwnI.nilcap {B : Nat} {e : TypeId} {w : World} {a : Option Addr} {n c : Nat} {l : List Int} (h : OwnI B e w (.slice a n c) l) : a = none → c = 0 := by
  rintro rfl
  rcases h.2 with ⟨h2, _⟩ | ⟨g, cap, cur, h2, _⟩
  · injection h2
  · simp at h2
theorem run_eql_slice_nil {P : Program} (w : World) (t e : TypeId) (a : Option Addr) (l c : Nat) (h : P.underlying t = some (.slice e)) : (binOp .eql t (.slice a l c) (.slice none 0 0)).run P w = .ok (.bool a.isNone) w := by
  simp only [binOp]
  simp [run_equal_slice_nil w t e a l c h]
/-- a row of numbers in new memory -/
def CloneP (l : List Int) (w : World) (e : Ending) (w' : World) : Prop := ∃ v, e = .returned v ∧ OwnI w.heap.size TI w' v l ∧ Below w.heap.size w w'
set_option maxRecDepth 100000 in
set_option maxHeartbeats 2000000 in
theorem clone_any {Z : Nat → Prop} {b : Option Addr} {c : Nat} {l : List Int} (w : World) (h : RdI Z w b l) (hz : ∀ x, Z x → x < w.heap.size) (hl : l.length * 8 ≤ 140737488355328) :
    Calls Try.prog 41 #[.slice b l.length c] w (CloneP l w) := by
  obtain ⟨i0, hi, hz0, hz1, hz2'⟩ := info_parts infoI
  cases b with
  | none =>
    have hL : l = [] := by
      cases l with
      | nil => rfl
      | cons x r => obtain ⟨ad, e, _⟩ := h 0 x rfl; cases e
    subst hL
    go_enter Try.func41, Try.ntmps41
    have E1 : ∀ w, (binOp .eql 35 (.slice none 0 c) (.slice none 0 0)).run Try.prog w = .ok (.bool true) w := fun w => run_eql_slice_nil w _ _ none 0 c Try.underlying35
    go_wp2
    refine bodyPost_ret (v := .slice none 0 0) (by simp [results, Try.results41, go_sem]) rfl ?_
    exact ⟨_, rfl, OwnI.nil _ _ _, Below.refl _ _⟩
  | some ad =>
    have E1 : ∀ w, (binOp .eql 35 (.slice (some ad) l.length c) (.slice none 0 0)).run Try.prog w = .ok (.bool false) w := fun w => run_eql_slice_nil w _ _ (some ad) l.length c Try.underlying35
    have hb0 := (Below.refl w.heap.size w).alloc (Nat.le_refl _) (.cells #[] TI)
    have h0 := h.below hb0 hz
    have HV2 := Lib.hid (show ∀ j u, (l.map (Value.int .i64))[j]? = some u → (w.alloc (.cells #[] TI)).cell? (ad.add j) = some u from fun j u hu => by
      rw [List.getElem?_map] at hu
      obtain ⟨x, hx, hxu⟩ := Option.map_eq_some_iff.1 hu
      obtain ⟨ad', e, _, hc⟩ := h0 j x hx
      injection e with e
      subst e
      rw [hc, hxu])
    have HV3 := Lib.hid (show ∀ u ∈ l.map (Value.int .i64), u.oneCell' = true from fun u hu => by
      obtain ⟨x, _, rfl⟩ := List.mem_map.1 hu
      rfl)
    have HLV := Lib.hid (show (l.map (Value.int .i64)).length = l.length * 1 by simp)
    clear h hz hb0 h0
    go_enter Try.func41, Try.ntmps41
    have ho : (w.alloc (.cells #[] TI)).ownsRow w.heap.size TI 1 (.slice (some ⟨w.heap.size, 0, none⟩) 0 0) 0 [] :=
      ⟨rfl, .inr ⟨w.heap.size, 0, #[], rfl, Nat.le_refl _, heap_alloc_new w _, Nat.le_refl _, Nat.zero_le _, rfl, rfl⟩⟩
    have HO := Lib.hid ho
    clear ho
    go_wp2_with (at_builtin; refine wpList_append_own _ rfl _ _ 35 rfl w.heap.size 3 i0 _ 1 8 Try.underlying35 hi hz0 hz1 hz2' rfl (by decide) _ _ _ rfl HO.out ad l.length c (l.map (Value.int .i64)) rfl HLV.out HV2.out HV3.out ?c3 ?c4 ?c5 ?_)
    case c3 => unfold maxLen; omega
    case c4 => omega
    case c5 => simp
    intro v' w5 hown hgrow _
    have HO5 := Lib.hid hown
    have HB5 := Lib.hid (show Below w.heap.size w w5 from ((Below.refl w.heap.size w).alloc (Nat.le_refl _) (.cells #[] TI)).grown hgrow (by simp) (fun g hg => by
      have : w.heap.size = g := by simpa [Value.ownBlock] using hg
      omega))
    clear hown hgrow
    go_wp2
    refine bodyPost_ret (v := v') (by simp [results, Try.results41, go_sem]) rfl ?_
    have ho5 := HO5.out
    exact ⟨_, rfl, by unfold OwnI; simpa using ho5, HB5.out⟩
/-- a node whose pointers are in new memory -/
def OwnP (x : Nd) (w : World) (e : Ending) (w' : World) : Prop := ∃ v, e = .returned (.agg #[.int .i64 x.tag, .int .i64 x.n, v]) ∧ OwnI w.heap.size TI w' v x.l ∧ Below w.heap.size w w'
theorem OwnI.base {B B' : Nat} {e : TypeId} {w : World} {v : Value} {l : List Int} (h : OwnI B e w v l) (hB : B' ≤ B) : OwnI B' e w v l := own_base h hB
set_option maxRecDepth 100000 in
set_option maxHeartbeats 2000000 in
theorem own_any {Z : Nat → Prop} {b : Option Addr} {c : Nat} {x : Nd} (w : World) (h : RdI Z w b x.l) (hz : ∀ y, Z y → y < w.heap.size) (hl : x.l.length * 8 ≤ 140737488355328) :
    Calls Try.prog 31 #[.agg #[.int .i64 x.tag, .int .i64 x.n, .slice b x.l.length c]] w (OwnP x w) := by
  obtain ⟨tag, n, l⟩ := x
  simp only at *
  obtain ⟨W0, hW0⟩ : ∃ W0, (w.alloc (.cells #[.int .i64 tag, .int .i64 n, .slice b l.length c] TN)).alloc (.cells #[.int .i64 0, .int .i64 0, .slice none 0 0] TN) = W0 := ⟨_, rfl⟩
  have hB0 : Below w.heap.size w W0 := by rw [← hW0]; exact ((Below.refl w.heap.size w).alloc (Nat.le_refl _) _).alloc (by simp) _
  have hX0 : Box W0 w.heap.size TN #[.int .i64 tag, .int .i64 n, .slice b l.length c] := by rw [← hW0]; exact (Box.new w _ _).alloc _
  have hY0 : Box W0 (w.heap.size + 1) TN #[.int .i64 0, .int .i64 0, .slice none 0 0] := by rw [← hW0]; exact Box.at_ _ _ (by simp)
  have HC := Lib.hid (clone_any (c := c) W0 (h.below hB0 hz) (fun y hy => Nat.lt_of_lt_of_le (hz y hy) hB0.size) hl)
  have HX0 := Lib.hid (And.intro hX0 (And.intro hY0 hB0))
  have x2 := hX0.cell 2
  clear hB0 hX0 hY0 h hz
  go_enter Try.func31, Try.ntmps31
  go_wp2_with fail
  refine HC.out.mono ?_
  rintro e W1 ⟨v, rfl, ho, hb1⟩
  obtain ⟨va, vc, rfl⟩ := ho.slice
  obtain ⟨hX0, hY0, hB0⟩ := HX0.out
  have hX1 := hX0.below hb1 hX0.lt
  have hY1 := hY0.below hb1 hY0.lt
  have hB1 := hB0.trans (hb1.mono hB0.size)
  obtain ⟨W2, hW2⟩ : ∃ W2, W1.setCell ⟨w.heap.size, 2, none⟩ (.slice va l.length vc) = W2 := ⟨_, rfl⟩
  have hX2 : Box W2 w.heap.size TN #[.int .i64 tag, .int .i64 n, .slice va l.length vc] := by rw [← hW2]; exact hX1.put 2 _
  have hY2 : Box W2 (w.heap.size + 1) TN #[.int .i64 0, .int .i64 0, .slice none 0 0] := by rw [← hW2]; exact hY1.far (by show w.heap.size ≠ w.heap.size + 1; omega) _
  have ho2 : OwnI W0.heap.size TI W2 (.slice va l.length vc) l := by rw [← hW2]; exact own_far ho hX1 (by decide) _ _
  have hB2 : Below w.heap.size w W2 := by rw [← hW2]; exact hB1.setCell (Nat.le_refl _) _
  have hY3 : Box (((W2.setCell ⟨w.heap.size + 1, 0, none⟩ (.int .i64 tag)).setCell ⟨w.heap.size + 1, 1, none⟩ (.int .i64 n)).setCell ⟨w.heap.size + 1, 2, none⟩ (.slice va l.length vc)) (w.heap.size + 1) TN #[.int .i64 tag, .int .i64 n, .slice va l.length vc] := ((hY2.put 0 _).put 1 _).put 2 _
  have ho3 := own_far (own_far (own_far ho2 hY2 (by decide) 0 (.int .i64 tag)) (hY2.put 0 _) (by decide) 1 (.int .i64 n)) ((hY2.put 0 _).put 1 _) (by decide) 2 (.slice va l.length vc)
  have hB3 := ((hB2.setCell (p := ⟨w.heap.size + 1, 0, none⟩) (Nat.le_succ _) (.int .i64 tag)).setCell (p := ⟨w.heap.size + 1, 1, none⟩) (Nat.le_succ _) (.int .i64 n)).setCell (p := ⟨w.heap.size + 1, 2, none⟩) (Nat.le_succ _) (.slice va l.length vc)
  have HE := Lib.hid (And.intro hY3 (And.intro ho3 hB3))
  have HS := Lib.hid hB0.size
  have f1 := hX1.free 2
  have g0 := hX1.cell 2
  have x0 := hX2.cell 0
  have x1 := hX2.cell 1
  have x2 := hX2.cell 2
  have y0 := hY2.cell 0
  have y1 := hY2.cell 1
  have y2 := hY2.cell 2
  have k0 := hY2.free 0
  have k1 := hY2.free 1
  have k2 := hY2.free 2
  have e0 := hW0
  clear hX0 hY0 hB0 hX1 hY1 hB1 hX2 hY2 ho2 hB2 hY3 ho3 hB3 ho hb1 hW0 e0
  go_wp2_with fail
  obtain ⟨hY3, ho3, hB3⟩ := HE.out
  have z0 := hY3.cell 0
  have z1 := hY3.cell 1
  have z2 := hY3.cell 2
  refine bodyPost_ret (v := .agg #[.int .i64 tag, .int .i64 n, .slice va l.length vc]) (by simp [results, Try.results31, go_sem, z0, z1, z2]) rfl ?_
  exact ⟨_, rfl, OwnI.base ho3 HS.out, hB3⟩
end Go.Proofs.Ytbkklnihgejeoaa.Hp
