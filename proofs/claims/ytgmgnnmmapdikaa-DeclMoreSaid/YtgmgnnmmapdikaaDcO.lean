/-
  CONTRACT of layer decl: a table of what is there always.
-/
import Derived.Test.YtgmgnnmmapdikaaDcN
namespace Go.Proofs.Ytgmgnnmmapdikaa.Dc
open Go.RowKit Mm Tm Mv Go.Maps Go.ChangeMaps Go.MapKept Go.WideMaps
set_option linter.unusedVariables false
set_option linter.unusedSimpArgs false
abbrev bInt : ByteArray := ⟨#[73, 110, 116]⟩
abbrev bBool : ByteArray := ⟨#[66, 111, 111, 108]⟩
abbrev bFalse : ByteArray := ⟨#[70, 97, 108, 115, 101]⟩
abbrev bTrue : ByteArray := ⟨#[84, 114, 117, 101]⟩
abbrev cFalse : ConS := ⟨bFalse, bBool, 0, 0, []⟩
abbrev cTrue : ConS := ⟨bTrue, bBool, 1, 0, []⟩
abbrev zDatV : Value := .agg #[.int .i64 0, .slice none 0 0]
theorem tab_new {w3 : World} {m1 m2 tb n : Nat} {F1 : FM} (h1 : MapIs w3 Try.prog TS m1 n F1) (h2 : MapIs w3 Try.prog TS m2 0 (fun _ => none)) (hx : Box w3 tb TTab #[.map (some m1), .map (some m2), .slice none 0 0]) (hne : m1 ≠ m2) {B : Nat} (b1 : B ≤ m1) (b2 : B ≤ m2) (b3 : B ≤ tb)
    (hF : ∀ s, F1 s = if s = bBool.data.toList ∨ s = bInt.data.toList then some zDatV else none) : TabM B w3 tb m1 m2 n [] [(bInt, 0), (bBool, 0)] where
  ex := ⟨F1, fun _ => none, .slice none 0 0, fun _ => .slice none 0 0, ⟨hx, b3, b1, b2, hne, h1, h2.mono (Nat.zero_le _), World.ownsRow_nil _ _ _ _, fun s => World.ownsRow_nil _ _ _ _, (fun s g e => by cases e), (fun s s' g _ e => by cases e)⟩,
    fun d hd => by
      simp only [List.mem_cons, List.not_mem_nil, or_false] at hd
      rcases hd with rfl | rfl
      · rw [hF, if_pos (.inr rfl)]
      · rw [hF, if_pos (.inl rfl)],
    fun s hs => by
      rw [hF, if_neg]
      rintro (e | e)
      · exact hs (bBool, 0) (by simp) e.symm
      · exact hs (bInt, 0) (by simp) e.symm, (fun x hx => by cases hx), (fun s hs => rfl), (fun s hs => rfl)⟩
  dnd := by
    simp only [List.map_cons, List.map_nil, List.nodup_cons, List.mem_singleton, List.not_mem_nil, not_false_eq_true, List.nodup_nil, and_true]
    decide
  cnd := by simp
  of := fun x hx => by cases hx
  dsz := fun d hd => by
    simp only [List.mem_cons, List.not_mem_nil, or_false] at hd
    rcases hd with rfl | rfl <;> decide
def AlwaysPost (w : World) (e : Ending) (w' : World) : Prop := ∃ tb m1 m2, e = .returned (.pointer (some ⟨tb, 0, none⟩)) ∧ TabM w.heap.size w' tb m1 m2 10 [cFalse, cTrue] [(bInt, 0), (bBool, 0)] ∧ Below w.heap.size w w'
set_option maxRecDepth 100000 in
set_option maxHeartbeats 4000000 in
theorem always_any (w : World) : Calls Try.prog 15 #[] w (AlwaysPost w) := by
  have hmm := @run_makeMap Try.prog
  have HK1 := Lib.hid (key_of (s := bInt) (by decide))
  have HK2 := Lib.hid (key_of (s := bBool) (by decide))
  have HM0 := Lib.hid (MapIs.made w Try.prog TS)
  go_enter Try.func15, Try.ntmps15
  go_wp2_with (refine wpList_ins _ rfl _ _ _ 64 rfl TS 70 keyS Try.underlying64 w.heap.size 0 _ rfl HM0.out (by unfold maxLen; omega) _ _ _ rfl rfl HK1.out ?_)
  intro w2 hm2 hg2
  have HM2 := Lib.hid hm2
  have HB2 := Lib.hid (((Below.refl w.heap.size w).alloc (Nat.le_refl _) (.map #[] 0)).grown hg2 (by simp) (fun q hq => by injection hq with hq; omega))
  clear hm2 hg2
  go_wp2_with (refine wpList_ins _ rfl _ _ _ 64 rfl TS 70 keyS Try.underlying64 w.heap.size 1 _ rfl HM2.out (by unfold maxLen; omega) _ _ _ rfl rfl HK2.out ?_)
  intro w3 hm3 hg3
  have HM3 := Lib.hid hm3
  have HB3 := Lib.hid (HB2.out.grown hg3 HB2.out.size (fun q hq => by injection hq with hq; omega))
  have hlt3 := hm3.lt
  clear hm3 hg3
  go_wp2_with fail
  have HB5 := Lib.hid ((HB3.out.alloc HB3.out.size (.map #[] 0)).alloc (by have := HB3.out.size; simp; omega) (.cells #[.map (some w.heap.size), .map (some w3.heap.size), .slice none 0 0] TTab))
  have hT := tab_new (B := w.heap.size) ((HM3.out.alloc (.map #[] 0)).alloc (.cells #[.map (some w.heap.size), .map (some w3.heap.size), .slice none 0 0] TTab)) ((MapIs.made w3 Try.prog TS).alloc (.cells #[.map (some w.heap.size), .map (some w3.heap.size), .slice none 0 0] TTab)) (Box.at_ (w := w3.alloc (.map #[] 0)) _ TTab (k := w3.heap.size + 1) (by simp)) (by omega) (Nat.le_refl _) HB3.out.size (by have := HB3.out.size; omega)
    (fun s => by
      unfold updF
      by_cases e1 : s = bBool.data.toList
      · rw [if_pos e1, if_pos (.inl e1)]
      · rw [if_neg e1]
        by_cases e2 : s = bInt.data.toList
        · rw [if_pos e2, if_pos (.inr e2)]
        · rw [if_neg e2, if_neg (by rintro (q | q); exact e1 q; exact e2 q)])
  have HA := Lib.hid (hT.addcon (of := bBool) (nm := bFalse) (p := 0) (a := none) (c := 0) (fl := []) (by simp) (by omega) (by simp) (by decide) (fun x hx => by cases hx) trivial (by simp))
  clear hT
  refine HA.out.mono ?_
  rintro e w6 ⟨rfl, ht6, hk6, hb6⟩
  have HB6 := Lib.hid (HB5.out.trans hb6)
  have HT6 := Lib.hid (show TabM w.heap.size w6 (w3.heap.size + 1) w.heap.size w3.heap.size 4 [cFalse] [(bInt, 0), (bBool, 0)] from ht6)
  have HA2 := Lib.hid (HT6.out.addcon (of := bBool) (nm := bTrue) (p := 0) (a := none) (c := 0) (fl := []) (by simp) (by omega) (by simp) (by decide) (fun x hx => by simp only [List.mem_singleton] at hx; subst hx; decide) trivial (by simp))
  clear ht6 hk6 hb6 HA
  go_wp2_with fail
  refine HA2.out.mono ?_
  rintro e w7 ⟨rfl, ht7, hk7, hb7⟩
  have HB7 := Lib.hid (HB6.out.trans hb7)
  have e7 : ((ofD [cFalse] bBool).length : Int) = 1 := by decide
  rw [e7] at ht7
  have HT7 := Lib.hid (show TabM w.heap.size w7 (w3.heap.size + 1) w.heap.size w3.heap.size 6 [cFalse, cTrue] [(bInt, 0), (bBool, 0)] from ht7)
  clear ht7 hk7 hb7 HA2 e7
  go_wp2_with fail
  go_ret
  exact ⟨_, _, _, rfl, HT7.out.mono (by omega), HB7.out⟩
end Go.Proofs.Ytgmgnnmmapdikaa.Dc
