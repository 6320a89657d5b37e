/-
  CONTRACT: what must come of fixed calls does.
-/
import Derived.Test.YtgmgnnmmapdikaaDcS
namespace Go.Proofs.Ytgmgnnmmapdikaa.Dc
open Go.RowKit Mm Tm Mv Go.Maps Go.ChangeMaps Go.MapKept Go.WideMaps
set_option linter.unusedVariables false
set_option linter.unusedSimpArgs false
abbrev TCn : TypeId := 55
abbrev bA : ByteArray := ⟨#[97]⟩
abbrev bL : ByteArray := ⟨#[76]⟩
abbrev bN : ByteArray := ⟨#[78]⟩
abbrev bC : ByteArray := ⟨#[67]⟩
abbrev tyA : Ty := ⟨1, 0, bA, .nil⟩
abbrev tyL : Ty := ⟨2, 0, bL, .cons 1 0 bA .nil .nil⟩
abbrev datL : DataS := ⟨bL, [bA], [⟨bN, []⟩, ⟨bC, [tyA, tyL]⟩]⟩
theorem add_at (b i : Nat) : (⟨b, 0, none⟩ : Addr).add i = ⟨b, i, none⟩ := by
  simp [Addr.add]
  try (intro e; omega)
theorem lit_rd {w : World} {b1 b2 b3 b4 b6 : Nat} (h1 : Box w b1 TS #[.string bA]) (h2 : Box w b2 TT #[.int .i64 1, .int .i64 0, .string bA, .slice none 0 0])
    (h3 : Box w b3 TT #[.int .i64 1, .int .i64 0, .string bA, .slice none 0 0, .int .i64 2, .int .i64 0, .string bL, .slice (some ⟨b2, 0, none⟩) 1 1])
    (h4 : Box w b4 TCn #[.string bN, .slice none 0 0, .int .i64 0, .int .i64 0, .string bC, .slice (some ⟨b3, 0, none⟩) 2 2, .int .i64 0, .int .i64 0])
    (h6 : Box w b6 TD #[.string bL, .slice (some ⟨b1, 0, none⟩) 1 1, .slice (some ⟨b4, 0, none⟩) 2 2, .int .i64 0, .int .i64 0]) : RdD (· < w.heap.size) w (some ⟨b6, 0, none⟩) [datL] := by
  have hA : RdT (· < w.heap.size) w (some ⟨b2, 0, none⟩) (.cons 1 0 bA .nil .nil) 0 :=
    ⟨⟨⟨b2, 0, none⟩, none, 0, rfl, h2.lt, by rw [add_at]; exact h2.cell 0, by rw [add_at]; exact h2.cell 1, by rw [add_at]; exact h2.cell 2, by rw [add_at]; exact h2.cell 3, by decide, by decide, trivial⟩, trivial⟩
  have hF : RdT (· < w.heap.size) w (some ⟨b3, 0, none⟩) (Tys.ofL [tyA, tyL]) 0 :=
    ⟨⟨⟨b3, 0, none⟩, none, 0, rfl, h3.lt, by rw [add_at]; exact h3.cell 0, by rw [add_at]; exact h3.cell 1, by rw [add_at]; exact h3.cell 2, by rw [add_at]; exact h3.cell 3, by decide, by decide, trivial⟩,
      ⟨⟨b3, 0, none⟩, some ⟨b2, 0, none⟩, 1, rfl, h3.lt, by rw [add_at]; exact h3.cell 4, by rw [add_at]; exact h3.cell 5, by rw [add_at]; exact h3.cell 6, by rw [add_at]; exact h3.cell 7, by decide, by decide, hA⟩, trivial⟩
  intro i x hx
  match i, hx with
  | 0, hx =>
    simp at hx
    subst hx
    refine ⟨⟨b6, 0, none⟩, some ⟨b1, 0, none⟩, 1, some ⟨b4, 0, none⟩, 2, 0, 0, rfl, h6.lt, by rw [add_at]; exact h6.cell 0, by rw [add_at]; exact h6.cell 1, by rw [add_at]; exact h6.cell 2, by rw [add_at]; exact h6.cell 3, by rw [add_at]; exact h6.cell 4, by decide, ?_, ?_⟩
    · intro j s hs
      match j, hs with
      | 0, hs =>
        simp at hs
        subst hs
        exact ⟨_, rfl, h1.lt, by rw [add_at]; exact h1.cell 0, by decide⟩
    · intro j y hy
      match j, hy with
      | 0, hy =>
        simp at hy
        subst hy
        exact ⟨⟨b4, 0, none⟩, none, 0, 0, 0, rfl, h4.lt, by rw [add_at]; exact h4.cell 0, by rw [add_at]; exact h4.cell 1, by rw [add_at]; exact h4.cell 2, by rw [add_at]; exact h4.cell 3, by decide, by decide, trivial⟩
      | 1, hy =>
        simp at hy
        subst hy
        exact ⟨⟨b4, 0, none⟩, some ⟨b3, 0, none⟩, 2, 0, 0, rfl, h4.lt, by rw [add_at]; exact h4.cell 4, by rw [add_at]; exact h4.cell 5, by rw [add_at]; exact h4.cell 6, by rw [add_at]; exact h4.cell 7, by decide, by decide, hF⟩
theorem okl_lit : OKL [datL] where
  names := by
    show [bInt, bBool, bL].Nodup
    decide
  params := fun d hd => by
    simp only [List.mem_singleton] at hd
    subst hd
    show [bA].Nodup
    decide
  cons := by
    show [bFalse, bTrue, bN, bC].Nodup
    decide
  types := fun d hd c hc => by
    simp only [List.mem_singleton] at hd
    subst hd
    simp only [List.mem_cons, List.not_mem_nil, or_false] at hc
    have ha : HeadD (dlOf [datL]) (placeF [bA]) tyA := .inl ⟨rfl, rfl⟩
    rcases hc with rfl | rfl
    · trivial
    · exact ⟨ha, trivial, .inr (.inl ⟨rfl, by show (bL, (1 : Int)) ∈ [(bInt, (0 : Int)), (bBool, 0), (bL, 1)]; simp⟩), ⟨ha, trivial, trivial⟩, trivial⟩
abbrev conC : ConS := ⟨bC, bL, 1, 1, [tyA, tyL].map (numX (placeF [bA]))⟩
theorem conC_mem : conC ∈ consOf [datL] := by
  show conC ∈ [cFalse, cTrue, ⟨bN, bL, 0, 1, []⟩, conC]
  simp
theorem cTrue_mem (l : List DataS) : cTrue ∈ consOf l := by
  show cTrue ∈ [cFalse, cTrue] ++ _
  simp
def KnownPost2 (w : World) (e : Ending) (w' : World) : Prop := e = .returned (.bool true) ∧ Below w.heap.size w w'
abbrev litW (w : World) : World := (((((((w.alloc (.cells #[.int .i64 1, .int .i64 0, .string bA, .slice none 0 0] TT)).alloc (.cells #[.string bA] TS)).alloc (.cells #[.int .i64 1, .int .i64 0, .string bA, .slice none 0 0] TT)).alloc (.cells #[.int .i64 1, .int .i64 0, .string bA, .slice none 0 0, .int .i64 2, .int .i64 0, .string bL, .slice (some ⟨w.heap.size + 1 + 1, 0, none⟩) 1 1] TT)).alloc (.cells #[.string bN, .slice none 0 0, .int .i64 0, .int .i64 0, .string bC, .slice (some ⟨w.heap.size + 1 + 1 + 1, 0, none⟩) 2 2, .int .i64 0, .int .i64 0] TCn)).alloc (.cells #[.string bL, .slice (some ⟨w.heap.size + 1, 0, none⟩) 1 1, .slice (some ⟨w.heap.size + 1 + 1 + 1 + 1, 0, none⟩) 2 2, .int .i64 0, .int .i64 0] TD)).alloc (.cells #[.string bL, .slice (some ⟨w.heap.size + 1, 0, none⟩) 1 1, .slice (some ⟨w.heap.size + 1 + 1 + 1 + 1, 0, none⟩) 2 2, .int .i64 0, .int .i64 0] TD))
theorem lit_w (w : World) : RdD (· < (litW w).heap.size) (litW w) (some ⟨w.heap.size + 1 + 1 + 1 + 1 + 1 + 1, 0, none⟩) [datL] ∧ Below w.heap.size w (litW w) :=
  ⟨lit_rd ((((((Box.at_ (w := (w.alloc (.cells #[.int .i64 1, .int .i64 0, .string bA, .slice none 0 0] TT))) _ _ (k := w.heap.size + 1) (by simp)).alloc _).alloc _).alloc _).alloc _).alloc _) (((((Box.at_ (w := ((w.alloc (.cells #[.int .i64 1, .int .i64 0, .string bA, .slice none 0 0] TT)).alloc (.cells #[.string bA] TS))) _ _ (k := w.heap.size + 1 + 1) (by simp)).alloc _).alloc _).alloc _).alloc _) ((((Box.at_ (w := (((w.alloc (.cells #[.int .i64 1, .int .i64 0, .string bA, .slice none 0 0] TT)).alloc (.cells #[.string bA] TS)).alloc (.cells #[.int .i64 1, .int .i64 0, .string bA, .slice none 0 0] TT))) _ _ (k := w.heap.size + 1 + 1 + 1) (by simp)).alloc _).alloc _).alloc _) (((Box.at_ (w := ((((w.alloc (.cells #[.int .i64 1, .int .i64 0, .string bA, .slice none 0 0] TT)).alloc (.cells #[.string bA] TS)).alloc (.cells #[.int .i64 1, .int .i64 0, .string bA, .slice none 0 0] TT)).alloc (.cells #[.int .i64 1, .int .i64 0, .string bA, .slice none 0 0, .int .i64 2, .int .i64 0, .string bL, .slice (some ⟨w.heap.size + 1 + 1, 0, none⟩) 1 1] TT))) _ _ (k := w.heap.size + 1 + 1 + 1 + 1) (by simp)).alloc _).alloc _) (Box.at_ (w := ((((((w.alloc (.cells #[.int .i64 1, .int .i64 0, .string bA, .slice none 0 0] TT)).alloc (.cells #[.string bA] TS)).alloc (.cells #[.int .i64 1, .int .i64 0, .string bA, .slice none 0 0] TT)).alloc (.cells #[.int .i64 1, .int .i64 0, .string bA, .slice none 0 0, .int .i64 2, .int .i64 0, .string bL, .slice (some ⟨w.heap.size + 1 + 1, 0, none⟩) 1 1] TT)).alloc (.cells #[.string bN, .slice none 0 0, .int .i64 0, .int .i64 0, .string bC, .slice (some ⟨w.heap.size + 1 + 1 + 1, 0, none⟩) 2 2, .int .i64 0, .int .i64 0] TCn)).alloc (.cells #[.string bL, .slice (some ⟨w.heap.size + 1, 0, none⟩) 1 1, .slice (some ⟨w.heap.size + 1 + 1 + 1 + 1, 0, none⟩) 2 2, .int .i64 0, .int .i64 0] TD))) _ _ (k := w.heap.size + 1 + 1 + 1 + 1 + 1 + 1) (by simp)),
    (((((((Below.refl w.heap.size w).alloc (Nat.le_refl _) _).alloc (by simp) _).alloc (by simp; omega) _).alloc (by simp; omega) _).alloc (by simp; omega) _).alloc (by simp; omega) _).alloc (by simp; omega) _⟩
set_option maxRecDepth 100000 in
set_option maxHeartbeats 8000000 in
theorem known_any (w : World) : Calls Try.prog 7 #[] w (KnownPost2 w) := by
  have HB0 := Lib.hid (lit_w w).2
  have HN := Lib.hid (new_any (c0 := 1) (litW w) (lit_w w).1 (by decide) (fun d hd => by
    simp only [List.mem_singleton] at hd
    subst hd
    decide))
  have HZ0 := Lib.hid (lit_w w).2.size
  go_enter Try.func7, Try.ntmps7
  go_wp2_with fail
  refine HN.out.mono ?_
  rintro e w1 ⟨v, c, ln, co, rfl, hb1, hor⟩
  rcases hor with ⟨_, _, hno⟩ | ⟨rfl, rfl, rfl, tb, m1, m2, n, rfl, ht⟩
  · exact absurd okl_lit hno
  have HT := Lib.hid ht.reads
  have HB1 := Lib.hid (HB0.out.trans (hb1.mono HZ0.out))
  have HLEN := Lib.hid (show (consOf [datL]).length ≤ 1000000000 by decide)
  clear hb1 ht HN
  have HBa := Lib.hid ((Below.refl w1.heap.size w1).alloc (Nat.le_refl _) (.cells #[.int .i64 0, .int .i64 0, .int .i64 0] TF))
  have HC1 := Lib.hid (con_any (x := conC) _ (HT.out.below HBa.out) HBa.out.size conC_mem)
  go_wp2_with fail
  refine HC1.out.mono ?_
  rintro e w2 ⟨a2, c2, rfl, hr2, hb2⟩
  have HB2 := Lib.hid (HBa.out.trans (hb2.mono (by simp)))
  have HR2 := Lib.hid hr2
  clear hr2 hb2 HC1
  have HX2 := Lib.hid (Box.new w2 #[.string bC, .string bL, .int .i64 1, .int .i64 1, .slice a2 2 c2] TC)
  have HBb := Lib.hid ((Below.refl w2.heap.size w2).alloc (Nat.le_refl _) (.cells #[.string bC, .string bL, .int .i64 1, .int .i64 1, .slice a2 2 c2] TC))
  have HB2b := Lib.hid (HB2.out.trans (HBb.out.mono HB2.out.size))
  have HC2 := Lib.hid (con_any (x := cTrue) _ (HT.out.below HB2b.out) HB2b.out.size (cTrue_mem _))
  go_wp2_with fail
  refine HC2.out.mono ?_
  rintro e w3 ⟨a3, c3, rfl, hr3, hb3⟩
  have HB3 := Lib.hid (HB2b.out.trans (hb3.mono HB2b.out.size))
  have HX3 := Lib.hid (HX2.out.below hb3 (by simp))
  have HR3 := Lib.hid (HR2.out.below (HBb.out.trans (hb3.mono (by simp))) (fun b hb => hb.2.lt))
  have hz3 : w2.heap.size + 1 ≤ w3.heap.size := by have := hb3.size; simp at this; omega
  clear hr3 hb3 HC2
  have HY3 := Lib.hid (Box.new w3 #[.string bTrue, .string bBool, .int .i64 1, .int .i64 0, .slice a3 0 c3] TC)
  have HBc := Lib.hid ((Below.refl w3.heap.size w3).alloc (Nat.le_refl _) (.cells #[.string bTrue, .string bBool, .int .i64 1, .int .i64 0, .slice a3 0 c3] TC))
  have HB3c := Lib.hid (HB3.out.trans (HBc.out.mono HB3.out.size))
  have HD := Lib.hid (data_no (s := ⟨#[88]⟩) _ (HT.out.below HB3c.out) HB3c.out.size (by decide) (by decide))
  go_wp2_with fail
  refine HD.out.mono ?_
  rintro e w4 ⟨rfl, hb4⟩
  have HB4 := Lib.hid ((HB1.out.trans (HB3c.out.mono HB1.out.size)).trans (hb4.mono (Nat.le_trans HB1.out.size HB3c.out.size)))
  have HX4 := Lib.hid ((HX3.out.below HBc.out (by omega)).below hb4 (by simp; omega))
  have HY4 := Lib.hid (HY3.out.below hb4 (by simp))
  have hr4 := (HR3.out.below HBc.out (fun b hb => by have := hb.2.lt; omega)).below hb4 (fun b hb => by have := hb.2.lt; simp; omega)
  obtain ⟨ad, a5, c5, rfl, _, z0, z1, z2, z3, _⟩ := hr4.at_ 1 (numX (placeF [bA]) tyL) rfl
  replace z2 : w4.cell? ⟨ad.block, ad.off + 4 + 2, none⟩ = some (.string bL) := z2
  obtain ⟨x0, x1, x2, x3, x4, _⟩ := HX4.out.cells5
  obtain ⟨y0, y1, y2, y3, y4, _⟩ := HY4.out.cells5
  clear hb4 hr4 HD z0 z1 z3
  go_wp2_with fail
  go_ret
  exact ⟨rfl, HB4.out⟩
end Go.Proofs.Ytgmgnnmmapdikaa.Dc
