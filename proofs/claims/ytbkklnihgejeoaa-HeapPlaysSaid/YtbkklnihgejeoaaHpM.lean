/-
  CONTRACTS of layer heap: Collect.
-/
import Derived.Test.YtbkklnihgejeoaaHpL
namespace Go.Proofs.Ytbkklnihgejeoaa.Hp
open Go.RowKit Mm Tm
set_option linter.unusedVariables false
set_option linter.unusedSimpArgs false
theorem collect_nil {n c : Nat} {a : Option Addr} (w : World) : Calls Try.prog 20 #[.pointer none, .slice a n c] w (RetB (two 0 3) w) := by
  have HB := Lib.hid ((Below.refl w.heap.size w).alloc (Nat.le_refl _) (.cells zeroH TH))
  have HG := Lib.hid (given_nil w)
  go_enter Try.func20, Try.ntmps20
  go_wp2_with fail
  refine HG.out.mono ?_
  rintro e w' ⟨rfl, rfl⟩
  go_wp2_with fail
  go_ret2
  exact ⟨rfl, HB.out⟩
theorem collect_no {B : Nat} {X : Nat → Prop} {h : Nat} {S : Hs} {roots : List Int} {a : Option Addr} {c : Nat} {Z : Nat → Prop} (w : World) (hm : HpI B X w h S) (hr : RdI Z w a roots) (hl : roots.length ≤ 9223372036854775807) (hh : S.holds roots = false) :
    Calls Try.prog 20 #[.pointer (some ⟨h, 0, none⟩), .slice a roots.length c] w (IsV (two 0 161) w) := by
  obtain ⟨v, n, pb, hm⟩ := hm
  have HG := Lib.hid (given_any w hm.box)
  have HH := Lib.hid (by have := holds_any (c := c) w hm hr hl; rw [hh] at this; exact this)
  clear hm hr hh
  go_enter Try.func20, Try.ntmps20
  go_wp2_with fail
  refine HG.out.mono ?_
  rintro e w' ⟨rfl, rfl⟩
  go_wp2_with fail
  refine HH.out.mono ?_
  rintro e w' ⟨rfl, rfl⟩
  go_wp2_with fail
  go_ret2
  exact ⟨rfl, rfl⟩
def CollP (B : Nat) (X : Nat → Prop) (w : World) (h : Nat) (S : Hs) (roots : List Int) (e : Ending) (w' : World) : Prop := ∃ S', Coll S roots S' ∧ e = .returned (two ((S.live : Int) - S'.live) 0) ∧ HpI B X w' h S' ∧ KH B w w'
theorem collect_ok {B : Nat} {X : Nat → Prop} {h : Nat} {S : Hs} {roots : List Int} {a : Option Addr} {c : Nat} (w : World) (hm : HpI B X w h S) (g : Good S) (hr : RdI (ZA B w) w a roots) (hh : S.holds roots = true) (hr8 : roots.length * 8 ≤ 140737488355328) (hlim : roots.length + rest S S.is S.used ≤ 17866981951360) :
    Calls Try.prog 20 #[.pointer (some ⟨h, 0, none⟩), .slice a roots.length c] w (CollP B X w h S roots) := by
  obtain ⟨v, n, pb, hm⟩ := hm
  have HG := Lib.hid (given_any w hm.box)
  have HH := Lib.hid (by have := holds_any (c := c) w hm hr (by omega); rw [hh] at this; exact this)
  have HMK := Lib.hid (mark_any (c := c) w hm g hr hh hr8 hlim)
  have HGD := Lib.hid g
  clear hm hr hh g
  go_enter Try.func20, Try.ntmps20
  go_wp2_with fail
  refine HG.out.mono ?_
  rintro e w' ⟨rfl, rfl⟩
  go_wp2_with fail
  refine HH.out.mono ?_
  rintro e w' ⟨rfl, rfl⟩
  go_wp2_with fail
  refine HMK.out.mono ?_
  rintro e w1 ⟨m, rfl, hI, hm1, hk1⟩
  have HSW := Lib.hid (sweep_any w1 hm1 HGD.out hI)
  have HI := Lib.hid hI
  have HK1 := Lib.hid hk1
  clear hI hm1 hk1
  go_wp2_with fail
  refine HSW.out.mono ?_
  rintro e w2 ⟨rfl, hm2, hk2⟩
  have HM2 := Lib.hid hm2
  have HK2 := Lib.hid (HK1.out.trans hk2)
  clear hm2 hk2
  go_wp2_with fail
  go_ret2
  exact ⟨S.swept m, swept_coll HGD.out HI.out, rfl, HM2.out, HK2.out⟩
end Go.Proofs.Ytbkklnihgejeoaa.Hp
