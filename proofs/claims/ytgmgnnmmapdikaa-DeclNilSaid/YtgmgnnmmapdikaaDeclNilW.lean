/-
  The walk of the law changelinglaw08.DeclNil: a table that is not there tells nothing; what is told is nobody's else.
-/
import Derived.Test.YtgmgnnmmapdikaaDcT
import Derived.Test.YtgmgnnmmapdikaaDcArgD
namespace Go.Proofs.Ytgmgnnmmapdikaa.DeclNil
open Go.RowKit Mm Tm Mv Dc Go.Maps Go.ChangeMaps Go.MapKept Go.WideMaps
set_option linter.unusedVariables false
set_option linter.unusedSimpArgs false
/-- rows of types between two blocks are written; all else is as it was -/
structure Dirty (h0 h1 : Nat) (w wr : World) : Prop where
  os : wr.os = w.os
  tape : wr.tape = w.tape
  output : wr.output = w.output
  size : wr.heap.size = w.heap.size
  out : ∀ b, b < h0 ∨ h1 ≤ b → wr.heap[b]? = w.heap[b]?
  keep : ∀ (b : Nat) (cs : Array Value) (t : TypeId), Box w b t cs → t ≠ TT → wr.heap[b]? = w.heap[b]?
  ty : ∀ (b : Nat) (cs : Array Value), Box w b TT cs → ∃ cs' : Array Value, Box wr b TT cs' ∧ cs'.size = cs.size
theorem Dirty.refl (h0 h1 : Nat) (w : World) : Dirty h0 h1 w w := ⟨rfl, rfl, rfl, rfl, fun _ _ => rfl, fun _ _ _ _ _ => rfl, fun b cs h => ⟨cs, h, rfl⟩⟩
theorem Dirty.set {h0 h1 : Nat} {w wr : World} (h : Dirty h0 h1 w wr) {g : Nat} (hg : h0 ≤ g ∧ g < h1) (ht : TyB TT w g) (j : Nat) (v : Value) : Dirty h0 h1 w (wr.setCell ⟨g, j, none⟩ v) := by
  have hne : ∀ b, b ≠ g → (wr.setCell ⟨g, j, none⟩ v).heap[b]? = wr.heap[b]? := fun b hb => Below.heap_setCell wr ⟨g, j, none⟩ v b hb
  obtain ⟨cs0, hc0⟩ := ht
  refine ⟨h.os, h.tape, h.output, by rw [World.size_setCell, h.size], fun b hb => ?_, fun b cs t hb hn => ?_, fun b cs hb => ?_⟩
  · rw [hne b (by omega)]; exact h.out b hb
  · by_cases e : b = g
    · subst e
      exact absurd (Box.same hb (show Box w b TT cs0 from hc0)) hn
    · rw [hne b e]; exact h.keep b cs t hb hn
  · obtain ⟨cs', k1, k2⟩ := h.ty b cs hb
    by_cases e : b = g
    · subst e
      exact ⟨cs'.setIfInBounds j v, heap_setCell_same wr b j cs' TT v k1, by rw [Array.size_setIfInBounds]; exact k2⟩
    · exact ⟨cs', (hne b e).trans k1, k2⟩
theorem Dirty.below {h0 h1 : Nat} {w wr : World} (h : Dirty h0 h1 w wr) : Below h0 w wr := ⟨h.os, h.tape, h.output, Nat.le_of_eq h.size.symm, fun k hk => h.out k (.inl hk)⟩
theorem Dirty.cell {h0 h1 : Nat} {w wr : World} (h : Dirty h0 h1 w wr) {g j : Nat} {v : Value} (ht : TyB TT w g) (hc : w.cell? ⟨g, j, none⟩ = some v) : (∃ u, wr.cell? ⟨g, j, none⟩ = some u) ∧ wr.frozen? ⟨g, j, none⟩ = false := by
  obtain ⟨cs, hcs⟩ := ht
  have hx : Box w g TT cs := hcs
  obtain ⟨cs', hx', k2⟩ := h.ty g cs hx
  rw [hx.cell j] at hc
  have hj : j < cs.size := (Array.getElem?_eq_some_iff.1 hc).1
  exact ⟨⟨cs'[j]'(by omega), by rw [hx'.cell j]; exact Array.getElem?_eq_getElem (by omega)⟩, hx'.free j⟩
theorem spot_none {w : World} {a : Addr} {v : Value} (h : w.cell? a = some v) : a.spot = none := by
  unfold World.cell? at h
  split at h
  · split at h
    · cases h
    · rename_i q
      cases hs : a.spot with
      | none => rfl
      | some x => rw [hs] at q; simp at q
  · cases h
theorem type_nil (s : ByteArray) (w : World) : Calls Try.prog 14 #[.pointer none, .string s] w fun e w' => e = .returned (.tuple #[.agg #[.int .i64 0, .int .i64 0, .string ⟨#[]⟩, .slice none 0 0], .bool false]) ∧ Below w.heap.size w w' := by
  have HB0 := Lib.hid ((Below.refl w.heap.size w).alloc (Nat.le_refl _) (.cells #[.int .i64 0, .int .i64 0, .string ⟨#[]⟩, .slice none 0 0] TT))
  have HX0 := Lib.hid (Box.new w #[.int .i64 0, .int .i64 0, .string ⟨#[]⟩, .slice none 0 0] TT)
  go_enter Try.func14, Try.ntmps14
  go_wp2_with fail
  refine (con_nil s _).mono ?_
  rintro e w3 ⟨rfl, hb3⟩
  have HB := Lib.hid (HB0.out.trans (hb3.mono (by simp)))
  have hz3 : w.heap.size + 1 ≤ w3.heap.size := by have := hb3.size; simp at this; omega
  have hX := (HX0.out.below hb3 (by simp)).alloc (.cells #[.string ⟨#[]⟩, .string ⟨#[]⟩, .int .i64 0, .int .i64 0, .slice none 0 0] TC)
  have HBa := Lib.hid (HB.out.alloc (by omega) (.cells #[.string ⟨#[]⟩, .string ⟨#[]⟩, .int .i64 0, .int .i64 0, .slice none 0 0] TC))
  obtain ⟨x0, x1, x2, x3, y0, y1, y2, y3⟩ := hX.cells4
  obtain ⟨W, hW, hbx, hwr⟩ := hX.write4 (.int .i64 0) (.int .i64 0) (.string ⟨#[]⟩) (.slice none 0 0)
  obtain ⟨q0, q1, q2, q3, _⟩ := hbx.cells4
  have HW := Lib.hid hwr
  have HZW := Lib.hid hwr.size
  have Q0 := Lib.hid q0
  have Q1 := Lib.hid q1
  have Q2 := Lib.hid q2
  have Q3 := Lib.hid q3
  clear hb3 hX hbx hwr q0 q1 q2 q3
  go_wp2_with fail
  refine bodyPost_ret (v := .tuple #[.agg #[.int .i64 0, .int .i64 0, .string ⟨#[]⟩, .slice none 0 0], .bool false]) (by simp [results, Try.results14, go_sem, Q0.out, Q1.out, Q2.out, Q3.out]) rfl ?_
  exact ⟨rfl, HW.out.below HBa.out (Nat.le_refl _)⟩
/-- what the written rows of types are good for -/
theorem Dirty.at_ {h0 h1 : Nat} {w wr : World} (h : Dirty h0 h1 w wr) {Z : Nat → Prop} (hZ : ∀ b, Z b → (h0 ≤ b ∧ b < h1) ∧ TyB TT w b) {a : Option Addr} {k : Nat} {x : Ty} (ht : TyAt Z w a k x) :
    ∃ ad gb go u0 u1 u2 u3, a = some ad ∧ ad.add (k * 4) = ⟨gb, go, none⟩ ∧ (h0 ≤ gb ∧ gb < h1) ∧ TyB TT w gb ∧ wr.cell? ⟨gb, go, none⟩ = some u0 ∧ wr.cell? ⟨gb, go + 1, none⟩ = some u1 ∧ wr.cell? ⟨gb, go + 2, none⟩ = some u2 ∧ wr.cell? ⟨gb, go + 3, none⟩ = some u3 ∧
      wr.frozen? ⟨gb, go, none⟩ = false ∧ wr.frozen? ⟨gb, go + 1, none⟩ = false ∧ wr.frozen? ⟨gb, go + 2, none⟩ = false ∧ wr.frozen? ⟨gb, go + 3, none⟩ = false := by
  obtain ⟨ad, a2, c2, rfl, hz, x0, x1, x2, x3, _⟩ := ht
  have hs := spot_none x0
  have hb : (ad.add (k * 4)).block = ad.block := add_block _ _
  rcases hA : ad.add (k * 4) with ⟨gb, go, sp⟩
  rw [hA] at x0 x1 x2 x3 hs hb
  have hs : sp = none := hs
  have hb : gb = ad.block := hb
  subst hs
  obtain ⟨hr, hty⟩ := hZ gb (by have e : gb = ad.block := hb; clear hb; rw [e]; exact hz)
  obtain ⟨⟨u0, k0⟩, f0⟩ := h.cell hty x0
  obtain ⟨⟨u1, k1⟩, f1⟩ := h.cell hty x1
  obtain ⟨⟨u2, k2⟩, f2⟩ := h.cell hty x2
  obtain ⟨⟨u3, k3⟩, f3⟩ := h.cell hty x3
  exact ⟨ad, gb, go, u0, u1, u2, u3, rfl, hA, hr, hty, k0, k1, k2, k3, f0, f1, f2, f3⟩
/-- the row of constructors that was handed out, while rows of types of it are written -/
theorem own_field {B : Nat} {w w4 : World} {a : Option Addr} {n c : Nat} {l : List ConS} (h : OwnC B TC TT w (.slice a n c) l) (hb : Below w.heap.size w w4) (i : Nat) (hi : i < l.length) :
    ∃ ad a2 c2, a = some ad ∧ l[i].fields.length * 56 ≤ 140737488355328 ∧ (∀ wr, Dirty B w.heap.size w4 wr → wr.cell? ⟨(ad.add (i * 5)).block, (ad.add (i * 5)).off + 4, none⟩ = some (.slice a2 l[i].fields.length c2)) ∧
      ∀ j, j < l[i].fields.length → ∀ wr, Dirty B w.heap.size w4 wr → ∃ ad gb go u0 u1 u2 u3, a2 = some ad ∧ ad.add (j * 4) = ⟨gb, go, none⟩ ∧ (B ≤ gb ∧ gb < w.heap.size) ∧ TyB TT w4 gb ∧ wr.cell? ⟨gb, go, none⟩ = some u0 ∧ wr.cell? ⟨gb, go + 1, none⟩ = some u1 ∧ wr.cell? ⟨gb, go + 2, none⟩ = some u2 ∧ wr.cell? ⟨gb, go + 3, none⟩ = some u3 ∧
        wr.frozen? ⟨gb, go, none⟩ = false ∧ wr.frozen? ⟨gb, go + 1, none⟩ = false ∧ wr.frozen? ⟨gb, go + 2, none⟩ = false ∧ wr.frozen? ⟨gb, go + 3, none⟩ = false := by
  obtain ⟨vs, h1, h2⟩ := h
  obtain ⟨b, d, hv⟩ := own_slice h1
  injection hv with e1 e2 e3
  subst e1 e2
  obtain ⟨g, rfl, hg1, hg2, _, hc⟩ := own_at h1 (by omega)
  obtain ⟨cur, hcur⟩ := own_block h1
  obtain ⟨a2, c2, g0, g1, g2, g3, g4, g5, g6, g7⟩ := h2.get i l[i] (List.getElem?_eq_getElem hi)
  have hadd : ((⟨g, 0, none⟩ : Addr).add (i * 5)) = ⟨g, i * 5, none⟩ := by
    simp [Addr.add]
    try (intro e; omega)
  have hgl : g < w.heap.size := hg2
  have hB4 : TyB TC w4 g := TyB.below ⟨cur, hcur⟩ hb
  refine ⟨⟨g, 0, none⟩, a2, c2, rfl, g6, fun wr hd => ?_, fun j hj wr hd => ?_⟩
  · rw [hadd]
    obtain ⟨cs4, hcs⟩ := hB4
    have e1 : wr.cell? ⟨g, i * 5 + 4, none⟩ = w4.cell? ⟨g, i * 5 + 4, none⟩ := World.cell?_of_block (hd.keep g cs4 TC hcs tc_ne)
    have e2 : w4.cell? ⟨g, i * 5 + 4, none⟩ = w.cell? ⟨g, i * 5 + 4, none⟩ := hb.cell (p := ⟨g, i * 5 + 4, none⟩) hgl
    show wr.cell? ⟨g, i * 5 + 4, none⟩ = _
    rw [e1, e2, hc _ (by omega)]
    exact g4
  · have hr4 := (g7.below hb (fun b hZ => hZ.2.lt)).at_ j (l[i].fields[j]'hj) (by rw [Tys.toL_ofL]; exact List.getElem?_eq_getElem hj)
    rw [Nat.zero_add] at hr4
    exact hd.at_ (Z := fun b => B ≤ b ∧ TyB TT w b) (fun b hZ => ⟨⟨hZ.1, hZ.2.lt⟩, hZ.2.below hb⟩) hr4
set_option maxRecDepth 100000 in
set_option maxHeartbeats 8000000 in
theorem law (s : ByteArray) (hs : s.size ≤ 9223372036854775807) (b : Option Addr) (n c : Nat) (hn : n ≤ 9223372036854775807) (l : List DataS) (w : World) (hr : RowD w w.heap.size b n l) :
    Calls Try.prog 5 #[.string s, .slice b n c] w fun e w' => e = .returned (.bool true) ∧ Below w.heap.size w w' := by
  obtain ⟨rfl, hrd, hsz⟩ := hr
  have HRD := Lib.hid hrd
  have HSZ := Lib.hid hsz
  clear hrd hsz
  go_enter Try.func5, Try.ntmps5
  go_wp2_with fail
  refine (con_nil s _).mono ?_
  rintro e w1 ⟨rfl, hb1⟩
  have HB1 := Lib.hid hb1
  clear hb1
  have HX1 := Lib.hid (Box.new w1 #[.string ⟨#[]⟩, .string ⟨#[]⟩, .int .i64 0, .int .i64 0, .slice none 0 0] TC)
  have HBa := Lib.hid ((Below.refl w1.heap.size w1).alloc (Nat.le_refl _) (.cells #[.string ⟨#[]⟩, .string ⟨#[]⟩, .int .i64 0, .int .i64 0, .slice none 0 0] TC))
  go_wp2_with fail
  refine (data_nil s _).mono ?_
  rintro e w2 ⟨rfl, hb2⟩
  have HX2 := Lib.hid (HX1.out.below hb2 (by simp))
  have HB2 := Lib.hid (HB1.out.trans ((HBa.out.trans (hb2.mono (by simp))).mono HB1.out.size))
  have hz2 : w1.heap.size + 1 ≤ w2.heap.size := by have := hb2.size; simp at this; omega
  clear hb2
  go_wp2_with fail
  refine (type_nil s _).mono ?_
  rintro e w3 ⟨rfl, hb3⟩
  have HX3 := Lib.hid (HX2.out.below hb3 (by omega))
  have HB3 := Lib.hid (HB2.out.trans (hb3.mono HB2.out.size))
  have hz3 : w1.heap.size + 1 ≤ w3.heap.size := by have := hb3.size; omega
  clear hb3
  have HBb := Lib.hid ((Below.refl w3.heap.size w3).alloc (Nat.le_refl _) (.cells #[.int .i64 0, .int .i64 0, .string ⟨#[]⟩, .slice none 0 0] TT))
  have HX4 := Lib.hid (HX3.out.alloc (.cells #[.int .i64 0, .int .i64 0, .string ⟨#[]⟩, .slice none 0 0] TT))
  have HY4 := Lib.hid (Box.new w3 #[.int .i64 0, .int .i64 0, .string ⟨#[]⟩, .slice none 0 0] TT)
  have HB4 := Lib.hid (HB3.out.trans (HBb.out.mono HB3.out.size))
  obtain ⟨x0, x1, x2, x3, x4, x5, x6, x7, x8, x9⟩ := HX4.out.cells5
  obtain ⟨y0, y1, y2, y3, y4, y5, y6, y7⟩ := HY4.out.cells4
  go_wp2_with fail
  refine (cons_nil s _).mono ?_
  rintro e w5 ⟨rfl, hb5⟩
  have HB5 := Lib.hid (HB4.out.trans (hb5.mono HB4.out.size))
  clear hb5 x0 x1 x2 x3 x4 x5 x6 x7 x8 x9 y0 y1 y2 y3 y4 y5 y6 y7
  go_wp2_with fail
  refine (all_nil _).mono ?_
  rintro e w6 ⟨rfl, hb6⟩
  have HB6 := Lib.hid (HB5.out.trans (hb6.mono HB5.out.size))
  clear hb6
  have HF := Lib.hid (few_any (c := c) w6 ((HRD.out.below HB6.out (fun b h => h)).mono6 HB6.out.size) hn HSZ.out)
  go_wp2_with fail
  refine HF.out.mono ?_
  rintro e w7 ⟨t, rfl, rfl, hfew⟩
  have HFEW := Lib.hid hfew
  clear hfew HF
  cases t with
  | false =>
    go_wp2_with fail
    refine (known_any w7).mono ?_
    rintro e w9 ⟨rfl, hb9⟩
    have HB9 := Lib.hid (HB6.out.trans (hb9.mono HB6.out.size))
    clear hb9
    go_wp2_with fail
    go_ret
    exact ⟨rfl, HB9.out⟩
  | true =>
    have HFW := HFEW.out rfl
    obtain ⟨hf1, hf2⟩ := HFW
    have HNW := Lib.hid (new_any (c0 := c) w7 ((HRD.out.below HB6.out (fun b h => h)).mono6 HB6.out.size) (by omega) (fun d hd => by have := hf2 d hd; omega))
    have HCL := Lib.hid (show (consOf l).length ≤ 1000000000 from Nat.le_trans (consOf_len fun d hd => by have := hf2 d hd; omega) (by omega))
    clear hf2
    go_wp2_with fail
    refine HNW.out.mono ?_
    rintro e w8 ⟨v, cc, ln, co, rfl, hb8, hor⟩
    have HB8 := Lib.hid (HB6.out.trans (hb8.mono HB6.out.size))
    clear hb8 HNW
    rcases hor with ⟨rfl, hc8, _⟩ | ⟨rfl, rfl, rfl, tb, m1, m2, nn, rfl, ht⟩
    · have HBc := Lib.hid (HB8.out.alloc HB8.out.size (.cells #[.int .i64 cc, .int .i64 ln, .int .i64 co] TF))
      clear hc8
      go_wp2_with fail
      refine (known_any _).mono ?_
      rintro e w9 ⟨rfl, hb9⟩
      have HB9 := Lib.hid (HBc.out.trans (hb9.mono HBc.out.size))
      clear hb9
      go_wp2_with fail
      go_ret
      exact ⟨rfl, HB9.out⟩
    · have HR8 := Lib.hid ht.reads
      clear ht
      generalize consOf l = cs at HR8 HCL
      obtain ⟨B, hB⟩ : ∃ B, (w8.alloc (.cells #[.int .i64 0, .int .i64 0, .int .i64 0] TF)).heap.size = B := ⟨_, rfl⟩
      have HBS := Lib.hid (show w8.heap.size + 1 = B by rw [← hB]; simp)
      have HBc := Lib.hid ((Below.refl w8.heap.size w8).alloc (Nat.le_refl _) (.cells #[.int .i64 0, .int .i64 0, .int .i64 0] TF))
      have HA1 := Lib.hid (all_any _ (HR8.out.below HBc.out) (by simp) HCL.out)
      have HBQ := Lib.hid hB
      clear hB
      go_wp2_with fail
      refine HA1.out.mono ?_
      rintro e w3 ⟨a3, c3, rfl, ho3, hb3⟩
      rw [HBQ.out] at ho3 hb3
      have HB3 := Lib.hid (HBc.out.trans (hb3.mono (by have := HBS.out; omega)))
      have HZ3 := Lib.hid (show B ≤ w3.heap.size by have := hb3.size; rw [HBQ.out] at this; exact this)
      have HO3 := Lib.hid ho3
      have HA2 := Lib.hid (all_any w3 (HR8.out.below HB3.out) (by have := HZ3.out; have := HBS.out; omega) HCL.out)
      clear ho3 hb3
      go_wp2_with fail
      refine HA2.out.mono ?_
      rintro e w4 ⟨a4, c4, rfl, ho4, hb4⟩
      have HF := Lib.hid (own_field HO3.out hb4)
      have HB4 := Lib.hid (HB3.out.trans (hb4.mono (by have := HZ3.out; have := HBS.out; omega)))
      have HO4 := Lib.hid ho4
      clear ho4 hb4
      go_wp2_with fail
      go_loopg [16] cs.length (fun d v wr => ∃ k : Nat, k + d = cs.length ∧ v = .int .i64 k ∧ Dirty B w3.heap.size w4 wr)
      case atStart => exact ⟨0, by omega, rfl, Dirty.refl _ _ _⟩
      case round =>
        obtain ⟨k, hk, rfl, hd⟩ := hrel
        have HK := Lib.hid hk
        have HD := Lib.hid hd
        have hkle : k ≤ cs.length := by omega
        have hcl := HCL.out
        clear hk hd
        by_cases hlt : k < cs.length
        · have hlt' : (k : Int) < cs.length := by omega
          obtain ⟨ad, a2, c2, rfl, hfl, hcell, hty⟩ := HF.out k hlt
          have HCE := Lib.hid hcell
          have HTY := Lib.hid hty
          clear hcell hty
          generalize cs[k].fields.length = m at hfl HCE HTY
          go_wp2_with fail
          go_loopg [17] m (fun d v wx => ∃ j : Nat, j + d = m ∧ v = .int .i64 j ∧ Dirty B w3.heap.size w4 wx)
          case atStart => exact ⟨0, by omega, rfl, HD.out⟩
          case round =>
            obtain ⟨j, hj, rfl, hdx⟩ := hrel
            have HJ := Lib.hid hj
            have HDX := Lib.hid hdx
            have x4 := HCE.out _ hdx
            have hjle : j ≤ m := by omega
            clear hj hdx
            by_cases hjt : j < m
            · have hjt' : (j : Int) < m := by omega
              obtain ⟨bd, gb, go, u0, u1, u2, u3, rfl, hA, hr, hty, k0, k1, k2, k3, f0, f1, f2, f3⟩ := HTY.out j hjt _ HDX.out
              have HDW := Lib.hid ((((HDX.out.set hr hty go (.int .i64 0)).set hr hty (go + 1) (.int .i64 0)).set hr hty (go + 2) (.string ⟨#[]⟩)).set hr hty (go + 3) (.slice none 0 0))
              clear hr hty
              go_wp2_with fail
              go_roundg (m - (j + 1))
              case measure => have := HJ.out; omega
              case rel => exact ⟨j + 1, by have := HJ.out; omega, by go_num, HDW.out⟩
            · have hge : ¬ (j : Int) < m := by omega
              go_wp2_with fail
              go_roundg (cs.length - (k + 1))
              case measure => have := HK.out; omega
              case rel => exact ⟨k + 1, by have := HK.out; omega, by go_num, HDX.out⟩
        · have hge : ¬ (k : Int) < cs.length := by omega
          have HBD := Lib.hid (HB4.out.trans (HD.out.below.mono (by have := HBS.out; omega)))
          have HA3 := Lib.hid (all_any wr (HR8.out.below HBD.out) HBD.out.size HCL.out)
          have HRb := Lib.hid (HO4.out.reads.frame (w' := wr) (Z' := (· < wr.heap.size)) (fun ad hZ => World.cell?_of_block (HD.out.out _ (.inr hZ.1))) (fun b hZ => by
            show b < wr.heap.size
            rw [HD.out.size]
            rcases hZ.2 with h | h
            · exact h.lt
            · exact h.lt))
          go_wp2_with fail
          refine HA3.out.mono ?_
          rintro e w5 ⟨a5, c5, rfl, ho5, hb5⟩
          have HS := Lib.hid (samec_any (a := a5) (b := a4) (c := c5) (d := c4) w5 (ho5.reads.frame (fun _ _ => rfl) (fun b hZ => by
            rcases hZ.2 with h | h
            · exact h.lt
            · exact h.lt)) ((HRb.out.below hb5 (fun b h => h)).frame (fun _ _ => rfl) (fun b hZ => Nat.lt_of_lt_of_le hZ hb5.size)) HCL.out)
          have HB5 := Lib.hid (HBD.out.trans (hb5.mono HBD.out.size))
          clear ho5 hb5
          go_wp2_with fail
          refine HS.out.mono ?_
          rintro e w6 ⟨rfl, hb6⟩
          have HB6 := Lib.hid (HB5.out.trans (hb6.mono HB5.out.size))
          clear hb6
          go_wp2_with fail
          refine (known_any w6).mono ?_
          rintro e w9 ⟨rfl, hb9⟩
          have HB9 := Lib.hid (HB8.out.trans ((HB6.out.trans (hb9.mono HB6.out.size)).mono HB8.out.size))
          clear hb9
          go_wp2_with fail
          go_ret
          exact ⟨rfl, HB9.out⟩
end Go.Proofs.Ytgmgnnmmapdikaa.DeclNil
