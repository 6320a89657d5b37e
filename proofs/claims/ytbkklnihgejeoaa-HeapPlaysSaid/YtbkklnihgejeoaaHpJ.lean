/-
  CONTRACTS of layer heap: mark.
-/
import Derived.Test.YtbkklnihgejeoaaHpI
import Derived.Test.YtbkklnihgejeoaaHpAp
namespace Go.Proofs.Ytbkklnihgejeoaa.Hp
open Go.RowKit Mm Tm
set_option linter.unusedVariables false
set_option linter.unusedSimpArgs false
section
variable {B : Nat} {X Y : Nat → Prop} {w w' : World} {h : Nat} {S S' : Hs} {v : Value} {n : Nat} {pb : Nat → Nat} {P : Nat → Prop}
theorem rd_keepX {a : Option Addr} {l : List Int} (hr : RdI (ZL B X w) w a l) (hk : Kept P w w') (hP : ∀ b, P b → ¬ TyB TI w b ∨ X b) : RdI (ZL B X w') w' a l := by
  intro i x hx
  obtain ⟨ad, h1, ⟨h2, h3, h4⟩, h5⟩ := hr i x hx
  have hb := hk.block ad.block h3.lt (fun q => (hP _ q).elim (fun e => e h3) h4)
  refine ⟨ad, h1, ⟨h2, h3.same hb, h4⟩, ?_⟩
  exact (World.cell?_of_block (w := w) (w' := w') (by rw [Tm.add_block]; exact hb)).trans h5
/-- a heap stays where nothing turns but numbers that are not its own -/
theorem HpM.aside (hm : HpM B X w h S v n pb) (hk : Kept P w w') (hP : ∀ b, P b → X b ∧ TyB TI w b) : HpM B X w' h S v n pb := by
  have hne : ∀ t, t ≠ TI → ∀ b, P b → ¬ TyB t w b := fun t ht b q e => by
    obtain ⟨cs, hc⟩ := (hP b q).2
    exact ht (tyB_ne e (show Box w b TI cs from hc))
  refine ⟨hm.base, (hk.block h hm.box.lt (fun q => hne TH (by decide) h q ⟨_, hm.box⟩)).trans hm.box, hm.pages.keep hk (fun b q => ⟨hne TC (by decide) b q, hne TR (by decide) b q⟩), hm.room, fun a ha => ?_, hm.few⟩
  obtain ⟨_, cs, hb, _⟩ := hm.page ha
  have hp := hk.block _ hb.lt (fun q => hne TC (by decide) _ q ⟨cs, hb⟩)
  have hcell : ∀ j, w'.cell? ⟨pb (a / 256), j, none⟩ = w.cell? ⟨pb (a / 256), j, none⟩ := fun j => World.cell?_of_block hp
  refine ⟨by rw [hcell]; exact (hm.cells a ha).mark, fun hne => ?_⟩
  obtain ⟨la, lc, h1, h2, h3, h4, h5⟩ := (hm.cells a ha).node hne
  exact ⟨la, lc, by rw [hcell]; exact h1, by rw [hcell]; exact h2, by rw [hcell]; exact h3, rd_keepX h4 hk (fun b q => .inr (hP b q).1), h5⟩
theorem HpM.less (hm : HpM B X w h S v n pb) (hXY : ∀ b, b < w.heap.size → Y b → X b) : HpM B Y w h S v n pb :=
  ⟨hm.base, hm.box, hm.pages, hm.room, fun a ha => ⟨(hm.cells a ha).mark, fun hne => by
    obtain ⟨la, lc, h1, h2, h3, h4, h5⟩ := (hm.cells a ha).node hne
    exact ⟨la, lc, h1, h2, h3, h4.mono fun b q => ⟨q.1, q.2.1, fun e => q.2.2 (hXY b q.2.1.lt e)⟩, h5⟩⟩, hm.few⟩
end
theorem snoc_cases (l : List Int) : l = [] ∨ ∃ t x, l = t ++ [x] := by
  rcases List.eq_nil_or_concat l with h | ⟨t, x, h⟩
  · exact .inl h
  · exact .inr ⟨t, x, by rw [h]; simp⟩
/-- while it is marked -/
structure MkL (B : Nat) (X : Nat → Prop) (w : World) (h : Nat) (S : Hs) (roots : List Int) (v : Value) (n : Nat) (pb : Nat → Nat) (lim : Nat) (d : Nat) (u : Value) (wr : World) : Prop where
  mem : ∃ m todo, d = rest S m S.used + todo.length ∧ MkInv S roots m todo ∧ HpM B (fun b => X b ∨ w.heap.size ≤ b) wr h { S with is := m } v n pb ∧ OwnI w.heap.size TI wr u todo
  kept : KH B w wr
  lim : d ≤ lim
set_option maxRecDepth 100000 in
set_option maxHeartbeats 4000000 in
theorem mark_any {B : Nat} {X : Nat → Prop} {h : Nat} {S : Hs} {v : Value} {n : Nat} {pb : Nat → Nat} {roots : List Int} {a : Option Addr} {c : Nat} (w : World) (hm : HpM B X w h S v n pb) (g : Good S) (hr : RdI (ZA B w) w a roots) (hh : S.holds roots = true) (hr8 : roots.length * 8 ≤ 140737488355328) (hlim : roots.length + rest S S.is S.used ≤ 17866981951360) :
    Calls Try.prog 33 #[.pointer (some ⟨h, 0, none⟩), .slice a roots.length c] w (fun e w' => ∃ m, e = .returned (.tuple #[]) ∧ MkInv S roots m [] ∧ HpM B X w' h { S with is := m } v n pb ∧ KH B w w') := by
  have HCL := Lib.hid (clone_any (c := c) w hr (fun y hy => hy.1) (by omega))
  have HM := Lib.hid hm
  have HG := Lib.hid g
  have HHH := Lib.hid hh
  obtain ⟨i0, hi, hz0, hz1, hz2'⟩ := info_parts infoI
  clear hm g hr hh
  go_enter Try.func33, Try.ntmps33
  go_step3
  go_wp2_with fail
  refine HCL.out.mono ?_
  rintro e w1 ⟨u, rfl, ho1, hb1⟩
  have hst : MkL B X w h S roots v n pb (roots.length + rest S S.is S.used) (rest S S.is S.used + roots.length) u w1 := by
    refine ⟨⟨S.is, roots, rfl, MkInv.start HG.out (fun x hx => List.all_eq_true.1 HHH.out x hx), ?_, ho1⟩, KG.of_below hb1 (Nat.le_refl _), by omega⟩
    exact HpM.below (HM.out.less fun b hb e => e.elim id fun q => by omega) hb1
  have HST := Lib.hid hst
  clear hst ho1 hb1
  go_wp2_with fail
  go_step3
  go_wp2_with fail
  go_loopg [4] (rest S S.is S.used + roots.length) (fun d u wr => MkL B X w h S roots v n pb (roots.length + rest S S.is S.used) d u wr)
  case atStart => exact HST.out
  case round =>
    obtain ⟨⟨m, todo, hd, hI, hm, ho⟩, hkh, hle⟩ := hrel
    have HI := Lib.hid hI
    have HMr := Lib.hid hm
    have HD := Lib.hid hd
    have HKH := Lib.hid hkh
    rcases snoc_cases todo with ht | ⟨t, x, ht⟩
    · subst ht
      obtain ⟨ua, uc, rfl⟩ := ho.slice
      clear hd hI hm ho hkh
      go_wp2_with fail
      rw [Exit.noGoto_normal]
      go_wp2_with fail
      refine bodyPost_end (by simp [results, Try.results33, go_sem]; rfl) rfl ?_
      exact ⟨m, rfl, HI.out, HMr.out.less fun b hb e => .inl e, HKH.out⟩
    · subst ht
      obtain ⟨hx0, hx1, hx2⟩ := Hs.held_iff.1 (hI.wait x (by simp)).1
      obtain ⟨k, rfl⟩ : ∃ k : Nat, x = k := ⟨x.toNat, by omega⟩
      have hkk : k < n * 256 := by have := hm.room; have : S.used ≤ n * 256 := this; omega
      obtain ⟨ua, uc, rfl⟩ := ho.slice
      obtain ⟨gb, rfl, hg1, hg2, hg3, hgc⟩ := own_at ho (by simp)
      have hlast := hgc t.length (by simp)
      rw [List.getElem?_map, List.getElem?_append_right (Nat.le_refl _), Nat.sub_self] at hlast
      simp only [List.getElem?_cons_zero, Option.map_some] at hlast
      have hcut := own_cut ho (m := t.length) (by simp)
      rw [Nat.mul_one, List.map_append, List.take_left' (by simp)] at hcut
      have HO := Lib.hid (show OwnI w.heap.size TI wr (.slice (some ⟨gb, 0, none⟩) t.length uc) t from hcut)
      have HAT := Lib.hid (at_any wr hm k hkk)
      have hmk := (hm.cells k hkk).mark
      have hlenT : (t ++ [(k : Int)]).length = t.length + 1 := by simp
      rw [hlenT]
      have hbt : t.length ≤ 17866981951360 := by rw [hlenT] at hd; omega
      replace hlast : wr.cell? ⟨gb, t.length, none⟩ = some (.int .i64 k) := hlast
      have hcp : t.length + 1 ≤ uc := by rw [hlenT] at hg3; exact hg3
      have HLT := Lib.hid hlenT
      clear hgc
      by_cases h2 : m k = 2
      · have hmk' : wr.cell? ⟨pb (k / 256), k % 256 * 4 + 3, none⟩ = some (.int .u8 2) := by
          have := hmk
          simp only at this
          rw [h2] at this
          exact this
        have HE := Lib.hid (show MkL B X w h S roots v n pb (roots.length + rest S S.is S.used) (rest S m S.used + t.length) (.slice (some ⟨gb, 0, none⟩) t.length uc) wr from ⟨⟨m, t, rfl, HI.out.skip (by simpa using h2), HMr.out, HO.out⟩, HKH.out, by rw [hlenT] at hd; omega⟩)
        clear hmk h2 hd hI hm ho hkh hcut hle hx0 hx1 hx2 hlenT
        go_wp2_with fail
        with_reducible refine HAT.out.mono ?_
        rintro e w' ⟨rfl, rfl⟩
        go_wp2_with fail
        go_roundg (rest S m S.used + t.length)
        case measure => have := HD.out; simp at this; omega
        case rel => exact HE.out
      · have hk1 : m k = 1 := by
          rcases HI.out.cells k with q | q
          · have h3 := HG.out.one k
            have h4 : S.is k ≠ 0 := hx2
            omega
          · exact absurd q.1 h2
        have hmk' : wr.cell? ⟨pb (k / 256), k % 256 * 4 + 3, none⟩ = some (.int .u8 1) := by
          have := hmk
          simp only at this
          rw [hk1] at this
          exact this
        have fmk : wr.frozen? ⟨pb (k / 256), k % 256 * 4 + 3, none⟩ = false := by
          obtain ⟨_, _, _, _, _, _, q⟩ := hm.there hkk
          exact q _
        obtain ⟨hm2, hk2⟩ := hm.mark hkk 2 (show m k ≠ 0 by omega)
        obtain ⟨W2, hW2⟩ : ∃ W2, wr.setCell ⟨pb (k / 256), k % 256 * 4 + 3, none⟩ (.int .u8 2) = W2 := ⟨_, rfl⟩
        replace hm2 : HpM B (fun b => X b ∨ w.heap.size ≤ b) W2 h { S with is := upd m k 2 } v n pb := by rw [← hW2]; exact hm2
        replace hk2 : Kept (fun b => b = pb (k / 256)) wr W2 := by rw [← hW2]; exact hk2
        have ho2 : OwnI w.heap.size TI W2 (.slice (some ⟨gb, 0, none⟩) t.length uc) t := by
          obtain ⟨_, cs, hb, _⟩ := hm.page hkk
          rw [← hW2]
          exact own_far HO.out hb (by decide) _ _
        obtain ⟨la, lc, _, _, c2, hrl, hll, hnil⟩ := (hm2.cells k hkk).node (show upd m k 2 k ≠ 0 by rw [upd_same]; decide)
        have hkey := rest_mark (S := S) hk1 S.used (by omega)
        have HINV := Lib.hid (HI.out.mark HG.out (by simpa using h2))
        have HW2 := Lib.hid hm2
        have HO2 := Lib.hid ho2
        have HRL := Lib.hid hrl
        have HKH2 := Lib.hid (hkh.trans (kh_page hm hkk hk2))
        have hb2 : w.heap.size ≤ W2.heap.size := Nat.le_trans hkh.size hk2.size
        have HKEY := Lib.hid hkey
        have hsum : t.length + (S.nd k).l.length ≤ 17866981951360 := by rw [hlenT] at hd; omega
        simp only at c2
        cases la with
        | none =>
          have hc0 := hnil rfl
          have hl0 : (S.nd k).l = [] := by
            cases hq : (S.nd k).l with
            | nil => rfl
            | cons y ys =>
              have hrl' := hrl
              simp only at hrl'
              rw [hq] at hrl'
              obtain ⟨ad, e, _⟩ := hrl' 0 y rfl
              cases e
          subst hc0
          rw [hl0] at c2
          have HE := Lib.hid (show MkL B X w h S roots v n pb (roots.length + rest S S.is S.used) (rest S (upd m k 2) S.used + t.length) (.slice (some ⟨gb, 0, none⟩) t.length uc) W2 from ⟨⟨upd m k 2, t, rfl, by have := HINV.out; rw [show (k : Int).toNat = k from rfl, hl0, List.append_nil] at this; exact this, HW2.out, HO2.out⟩, HKH2.out, by rw [hlenT] at hd; omega⟩)
          clear hmk h2 hd hI hm ho hkh hcut hle hx0 hx1 hx2 hlenT hk1 hm2 hk2 ho2 hrl hll hnil hkey hl0
          go_wp2_with fail
          with_reducible refine HAT.out.mono ?_
          rintro e w' ⟨rfl, rfl⟩
          have HO2' := HO2.out
          unfold OwnI at HO2'
          have HO3 := Lib.hid HO2'
          clear HO2'
          go_wp2_with (at_builtin; refine wpList_append_own_none _ rfl _ _ 35 rfl w.heap.size 3 i0 1 Try.underlying35 hi (.slice (some ⟨gb, 0, none⟩) t.length uc) t.length (t.map fun x => .int .i64 x) rfl HO3.out rfl ?_)
          go_wp2_with fail
          go_roundg (rest S (upd m k 2) S.used + t.length)
          case measure => have h3 := HD.out; rw [HLT.out] at h3; have := HKEY.out; omega
          case rel => exact HE.out
        | some ad =>
          have HV2 := Lib.hid (show ∀ j u, ((S.nd k).l.map (Value.int .i64))[j]? = some u → W2.cell? (ad.add j) = some u from fun j u hu => by
            rw [List.getElem?_map] at hu
            obtain ⟨x, hx, hxu⟩ := Option.map_eq_some_iff.1 hu
            obtain ⟨ad', e, _, hc⟩ := hrl j x hx
            injection e with e
            subst e
            rw [hc, hxu])
          have HV3 := Lib.hid (show ∀ u ∈ (S.nd k).l.map (Value.int .i64), u.oneCell' = true from fun u hu => by
            obtain ⟨x, _, rfl⟩ := List.mem_map.1 hu
            rfl)
          have HLV := Lib.hid (show ((S.nd k).l.map (Value.int .i64)).length = (S.nd k).l.length * 1 by simp)
          have HIN := Lib.hid (show MkInv S roots (upd m k 2) (t ++ (S.nd k).l) from by simpa using HINV.out)
          generalize hL : (S.nd k).l = L at *
          have HD2 := Lib.hid (show rest S (upd m k 2) S.used + (t ++ L).length ≤ roots.length + rest S S.is S.used from by rw [hlenT] at hd; rw [List.length_append]; omega)
          have HM3 := Lib.hid (show rest S (upd m k 2) S.used + (t ++ L).length < rest S m S.used + (t.length + 1) from by rw [List.length_append]; omega)
          clear hmk h2 hd hI hm ho hkh hcut hle hx0 hx1 hx2 hlenT hk1 hm2 hk2 ho2 hrl hll hnil hkey hL
          go_wp2_with fail
          with_reducible refine HAT.out.mono ?_
          rintro e w' ⟨rfl, rfl⟩
          have HO2' := HO2.out
          unfold OwnI at HO2'
          have HO3 := Lib.hid HO2'
          clear HO2'
          go_wp2_with (at_builtin; refine wpList_append_big rfl _ _ 35 rfl w.heap.size 3 i0 _ Try.underlying35 hi hz0 hz1 hz2' rfl gb uc t.length (t.map fun x => .int .i64 x) rfl HO3.out ad L.length lc (L.map (Value.int .i64)) rfl (by simp) HV2.out HV3.out hsum hb2 ?_)
          intro v' w5 hown hgrow
          have HE := Lib.hid (show MkL B X w h S roots v n pb (roots.length + rest S S.is S.used) (rest S (upd m k 2) S.used + (t ++ L).length) v' w5 from by
            have hkk5 : Kept (fun b => b = gb) W2 w5 := Kept.grown (Kept.refl _ W2) hgrow (fun q hq _ => by injection hq with hq; exact hq.symm)
            refine ⟨⟨upd m k 2, t ++ L, rfl, HIN.out, HW2.out.aside hkk5 ?_, ?_⟩, HKH2.out.grown hgrow ?_, HD2.out⟩
            · rintro b rfl
              exact ⟨.inr hg1, (own_block HO3.out).elim fun cur q => ⟨cur, q⟩⟩
            · unfold OwnI
              rw [List.length_append, List.map_append]
              exact hown
            · intro q hq hlt
              have : gb = q := by injection hq
              omega)
          clear hown hgrow
          go_wp2_with fail
          go_roundg (rest S (upd m k 2) S.used + (t ++ L).length)
          case measure => have h4 := HD.out; rw [HLT.out] at h4; have h3 := HM3.out; omega
          case rel => exact HE.out
end Go.Proofs.Ytbkklnihgejeoaa.Hp
