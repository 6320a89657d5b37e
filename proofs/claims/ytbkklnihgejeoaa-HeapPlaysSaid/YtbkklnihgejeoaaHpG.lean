/-
  CONTRACTS of layer heap: New, Alloc.
-/
import Derived.Test.YtbkklnihgejeoaaHpF
namespace Go.Proofs.Ytbkklnihgejeoaa.Hp
open Go.RowKit Mm Tm
set_option linter.unusedVariables false
set_option linter.unusedSimpArgs false
theorem below_drewN {B : Nat} {a w : World} (h : Below B a w) (n : Nat) : Below B a (w.drewN n) := h.trans ⟨rfl, rfl, rfl, Nat.le_refl _, fun _ _ => rfl⟩
/-- a heap in memory -/
def HpI (B : Nat) (X : Nat → Prop) (w : World) (h : Nat) (S : Hs) : Prop := ∃ v n pb, HpM B X w h S v n pb
theorem HpI.below {B : Nat} {X : Nat → Prop} {w w' : World} {h : Nat} {S : Hs} (hm : HpI B X w h S) (hb : Below w.heap.size w w') : HpI B X w' h S := by
  obtain ⟨v, n, pb, hm⟩ := hm
  exact ⟨v, n, pb, hm.below hb⟩
abbrev two (a b : Int) : Value := .tuple #[.int .i64 a, .int .i64 b]
def NewP (X : Nat → Prop) (c : Nat) (w : World) (e : Ending) (w' : World) : Prop := e = .returned (.tuple #[.pointer (some ⟨w.heap.size, 0, none⟩), .int .i64 0]) ∧ HpI w.heap.size X w' w.heap.size (start c) ∧ Below w.heap.size w w'
def RetB (v : Value) (w : World) (e : Ending) (w' : World) : Prop := e = .returned v ∧ Below w.heap.size w w'
theorem new_no (c : Int) (w : World) (h : c < 1 ∨ 16777216 < c) : Calls Try.prog 9 #[.int .i64 c] w (RetB (.tuple #[.pointer none, .int .i64 1]) w) := by
  rcases h with h | h
  · go_enter Try.func9, Try.ntmps9
    go_wp2_with fail
    go_ret2
    exact ⟨rfl, Below.refl _ _⟩
  · have h' : ¬ c < 1 := by omega
    go_enter Try.func9, Try.ntmps9
    go_wp2_with fail
    go_ret2
    exact ⟨rfl, Below.refl _ _⟩
theorem new_any (X : Nat → Prop) (c : Nat) (w : World) (h1 : 1 ≤ c) (h2 : c ≤ 16777216) : Calls Try.prog 9 #[.int .i64 c] w (NewP X c w) := by
  have HX1 := Lib.hid (Box.new w #[.slice none 0 0, .int .i64 c, .int .i64 0, .int .i64 0, .int .i64 0, .int .i64 0, .pointer (some ⟨w.heap.size, 0, none⟩)] TH)
  have HB := Lib.hid ((Below.refl w.heap.size w).alloc (Nat.le_refl _) (.cells #[.slice none 0 0, .int .i64 c, .int .i64 0, .int .i64 0, .int .i64 0, .int .i64 0, .pointer (some ⟨w.heap.size, 0, none⟩)] TH))
  go_enter Try.func9, Try.ntmps9
  go_wp2_with fail
  go_ret2
  refine ⟨rfl, ⟨.slice none 0 0, 0, fun _ => 0, Nat.le_refl _, HX1.out, ⟨World.ownsRow_nil _ _ _ _, fun k hk => by omega, fun i j hi => by omega⟩, Nat.zero_le _, fun a ha => by omega, by omega⟩, HB.out⟩
/-- where an argument's rows may lie -/
def ZA (B : Nat) (w : World) (b : Nat) : Prop := b < w.heap.size ∧ (b < B ∨ TyB TI w b)
/-- a node as an argument -/
structure NdA (B : Nat) (w : World) (x : Nd) (a : Option Addr) : Prop where
  rd : RdI (ZA B w) w a x.l
  len : x.l.length * 8 ≤ 140737488355328
theorem ra_keep {B : Nat} {w w' : World} {a : Option Addr} {l : List Int} {P : Nat → Prop} (hr : RdI (ZA B w) w a l) (hk : Kept P w w') (hP : ∀ b, P b → B ≤ b ∧ ¬ TyB TI w b) : RdI (ZA B w') w' a l := by
  intro i x hx
  obtain ⟨ad, h1, ⟨h2, h3⟩, h5⟩ := hr i x hx
  have hb := hk.block ad.block h2 (fun q => h3.elim (fun e => by have := (hP _ q).1; omega) (hP _ q).2)
  refine ⟨ad, h1, ⟨Nat.lt_of_lt_of_le h2 hk.size, h3.imp id fun e => e.same hb⟩, ?_⟩
  exact (World.cell?_of_block (w := w) (w' := w') (by rw [Tm.add_block]; exact hb)).trans h5
theorem NdA.below {B : Nat} {w w' : World} {x : Nd} {a : Option Addr} (h : NdA B w x a) (hb : Below w.heap.size w w') : NdA B w' x a := ⟨ra_keep h.rd (Kept.of_below hb (Nat.le_refl _) (fun _ => False)) fun b q => q.elim, h.len⟩
theorem xg_not {B : Nat} {w : World} {t : TypeId} (ht : ¬ TP t) : ∀ b, XG B TP (fun _ => False) w b → B ≤ b ∧ ¬ TyB t w b := fun b q => ⟨q.1, fun e => q.2.elim id fun ⟨t', ht', cs, hc⟩ => ht (by
  have := tyB_ne (e := t) e (show Box w b t' cs from hc)
  rw [this]; exact ht')⟩
theorem not_TP_I : ¬ TP TI := by unfold TP; decide
theorem not_TP_N : ¬ TP TN := by unfold TP; decide
theorem NdA.kh {B : Nat} {w w' : World} {x : Nd} {a : Option Addr} (h : NdA B w x a) (hk : KH B w w') : NdA B w' x a := ⟨ra_keep h.rd hk (xg_not not_TP_I), h.len⟩
abbrev ndV (x : Nd) (a : Option Addr) (c : Nat) : Value := .agg #[.int .i64 x.tag, .int .i64 x.n, .slice a x.l.length c]
theorem alloc_nil {x : Nd} {a : Option Addr} {c : Nat} (w : World) : Calls Try.prog 23 #[.pointer none, .agg #[.int .i64 x.tag, .int .i64 x.n, .slice a x.l.length c]] w (RetB (two 0 3) w) := by
  have HB := Lib.hid (((Below.refl w.heap.size w).alloc (Nat.le_refl _) (.cells #[.int .i64 x.tag, .int .i64 x.n, .slice a x.l.length c] TN)).alloc (by simp) (.cells zeroH TH))
  have HG := Lib.hid (given_nil (w.alloc (.cells #[.int .i64 x.tag, .int .i64 x.n, .slice a x.l.length c] TN)))
  go_enter Try.func23, Try.ntmps23
  go_wp2_with fail
  refine HG.out.mono ?_
  rintro e w' ⟨rfl, rfl⟩
  go_wp2_with fail
  go_ret2
  exact ⟨rfl, HB.out⟩
set_option maxRecDepth 100000 in
set_option maxHeartbeats 4000000 in
theorem alloc_addr {B : Nat} {X : Nat → Prop} {h : Nat} {S : Hs} {x : Nd} {a : Option Addr} {c : Nat} (w : World) (hm : HpI B X w h S) (hx : NdA B w x a) (hh : S.holds x.l = false) :
    Calls Try.prog 23 #[.pointer (some ⟨h, 0, none⟩), .agg #[.int .i64 x.tag, .int .i64 x.n, .slice a x.l.length c]] w (RetB (two 0 161) w) := by
  obtain ⟨v, n, pb, hm⟩ := hm
  obtain ⟨W0, hW0⟩ : ∃ W0, w.alloc (.cells #[.int .i64 x.tag, .int .i64 x.n, .slice a x.l.length c] TN) = W0 := ⟨_, rfl⟩
  have hB0 : Below w.heap.size w W0 := by rw [← hW0]; exact (Below.refl w.heap.size w).alloc (Nat.le_refl _) _
  have hX0 : Box W0 w.heap.size TN #[.int .i64 x.tag, .int .i64 x.n, .slice a x.l.length c] := by rw [← hW0]; exact Box.new w _ _
  have hm0 := hm.below hB0
  have hx0 := hx.below hB0
  have HG := Lib.hid (given_any W0 hm0.box)
  have HH := Lib.hid (by have := holds_any (c := c) W0 hm0 hx0.rd (by have := hx0.len; omega); rw [hh] at this; exact this)
  have HB0 := Lib.hid hB0
  have x2 := hX0.cell 2
  clear hm hx hh hB0 hX0 hm0 hx0
  go_enter Try.func23, Try.ntmps23
  go_wp2_with fail
  refine HG.out.mono ?_
  rintro e w' ⟨rfl, rfl⟩
  go_wp2_with fail
  refine HH.out.mono ?_
  rintro e w' ⟨rfl, rfl⟩
  go_wp2_with fail
  go_ret2
  exact ⟨rfl, HB0.out⟩
set_option maxRecDepth 100000 in
set_option maxHeartbeats 4000000 in
theorem alloc_full {B : Nat} {X : Nat → Prop} {h : Nat} {S : Hs} {x : Nd} {a : Option Addr} {c : Nat} (w : World) (hm : HpI B X w h S) (hx : NdA B w x a) (hh : S.holds x.l = true) (hf : S.live = S.cap) :
    Calls Try.prog 23 #[.pointer (some ⟨h, 0, none⟩), .agg #[.int .i64 x.tag, .int .i64 x.n, .slice a x.l.length c]] w (RetB (two 0 160) w) := by
  obtain ⟨v, n, pb, hm⟩ := hm
  obtain ⟨W0, hW0⟩ : ∃ W0, w.alloc (.cells #[.int .i64 x.tag, .int .i64 x.n, .slice a x.l.length c] TN) = W0 := ⟨_, rfl⟩
  have hB0 : Below w.heap.size w W0 := by rw [← hW0]; exact (Below.refl w.heap.size w).alloc (Nat.le_refl _) _
  have hX0 : Box W0 w.heap.size TN #[.int .i64 x.tag, .int .i64 x.n, .slice a x.l.length c] := by rw [← hW0]; exact Box.new w _ _
  have hm0 := hm.below hB0
  have hx0 := hx.below hB0
  have HG := Lib.hid (given_any W0 hm0.box)
  have HH := Lib.hid (by have := holds_any (c := c) W0 hm0 hx0.rd (by have := hx0.len; omega); rw [hh] at this; exact this)
  have HB0 := Lib.hid hB0
  have x2 := hX0.cell 2
  have y1 : W0.cell? ⟨h, 1, none⟩ = some (.int .i64 S.cap) := hm0.box.cell 1
  have y4 : W0.cell? ⟨h, 4, none⟩ = some (.int .i64 S.live) := hm0.box.cell 4
  rw [hf] at y4
  have q1 : ((S.cap : Int) == S.cap) = true := by simp
  clear hm hx hh hB0 hX0 hm0 hx0 hf
  go_enter Try.func23, Try.ntmps23
  go_wp2_with fail
  refine HG.out.mono ?_
  rintro e w' ⟨rfl, rfl⟩
  go_wp2_with fail
  refine HH.out.mono ?_
  rintro e w' ⟨rfl, rfl⟩
  go_wp2_with fail
  go_quiet (fail)
  go_wp2_with fail
  go_ret2
  exact ⟨rfl, below_drewN HB0.out _⟩
def AllocP (B : Nat) (X : Nat → Prop) (w : World) (h : Nat) (S : Hs) (x : Nd) (e : Ending) (w' : World) : Prop := ∃ k : Nat, IsVac S k ∧ e = .returned (two k 0) ∧ HpI B X w' h (S.put k x) ∧ KH B w w'
set_option maxRecDepth 100000 in
set_option maxHeartbeats 4000000 in
theorem alloc_ok {B : Nat} {X : Nat → Prop} {h : Nat} {S : Hs} {x : Nd} {a : Option Addr} {c : Nat} (w : World) (hm : HpI B X w h S) (g : Good S) (hx : NdA B w x a) (hh : S.holds x.l = true) (hf : S.live < S.cap) (hal : S.allocs + 1 ≤ 9223372036854775807) (hXw : ∀ b, X b → b < w.heap.size) :
    Calls Try.prog 23 #[.pointer (some ⟨h, 0, none⟩), .agg #[.int .i64 x.tag, .int .i64 x.n, .slice a x.l.length c]] w (AllocP B X w h S x) := by
  obtain ⟨v, n, pb, hm⟩ := hm
  obtain ⟨W0, hW0⟩ : ∃ W0, w.alloc (.cells #[.int .i64 x.tag, .int .i64 x.n, .slice a x.l.length c] TN) = W0 := ⟨_, rfl⟩
  have hB0 : Below w.heap.size w W0 := by rw [← hW0]; exact (Below.refl w.heap.size w).alloc (Nat.le_refl _) _
  have hX0 : Box W0 w.heap.size TN #[.int .i64 x.tag, .int .i64 x.n, .slice a x.l.length c] := by rw [← hW0]; exact Box.new w _ _
  have hm0 := hm.below hB0
  have hx0 := hx.below hB0
  have HG := Lib.hid (given_any W0 hm0.box)
  have HH := Lib.hid (by have := holds_any (c := c) W0 hm0 hx0.rd (by have := hx0.len; omega); rw [hh] at this; exact this)
  have HVA := Lib.hid (fun k => vacant_any (W0.drewN k) (hm0.drewN k) g hf)
  have HB0 := Lib.hid hB0
  have HX0 := Lib.hid hX0
  have HA0 := Lib.hid hx0
  have HGD := Lib.hid g
  have HM := Lib.hid hm
  have HHH := Lib.hid hh
  have HXW := Lib.hid hXw
  have x2 := hX0.cell 2
  have y1 : W0.cell? ⟨h, 1, none⟩ = some (.int .i64 S.cap) := hm0.box.cell 1
  have y4 : W0.cell? ⟨h, 4, none⟩ = some (.int .i64 S.live) := hm0.box.cell 4
  have q1 : ((S.live : Int) == S.cap) = false := by simpa using (show ¬ (S.live : Int) = S.cap by omega)
  clear hm hx hh hB0 hX0 hm0 hx0 hXw g
  go_enter Try.func23, Try.ntmps23
  go_wp2_with fail
  refine HG.out.mono ?_
  rintro e w' ⟨rfl, rfl⟩
  go_wp2_with fail
  refine HH.out.mono ?_
  rintro e w' ⟨rfl, rfl⟩
  go_wp2_with fail
  go_quiet (fail)
  go_wp2_with fail
  refine (HVA.out _).mono ?_
  rintro e W2 ⟨k, v', n', pb', rfl, hvac, hm2, hk2⟩
  have hkk : k < n' * 256 := by
    have h1 := hm2.room
    have h2 : max S.used (k + 1) ≤ n' * 256 := h1
    omega
  have hX2 : Box W2 w.heap.size TN #[.int .i64 x.tag, .int .i64 x.n, .slice a x.l.length c] := hk2.box (HX0.out.drewN _) id not_TP_N
  have hA2 := (HA0.out.below (below_drewN (Below.refl _ _) _)).kh hk2
  have HAT := Lib.hid (at_any W2.drew hm2.drew k hkk)
  have HB2 := Lib.hid (show B ≤ W2.drew.heap.size from Nat.le_trans hm2.base (Nat.le_of_lt hm2.box.lt))
  have HS2 := Lib.hid (show w.heap.size ≤ W2.drew.heap.size from Nat.le_trans HB0.out.size hk2.size)
  have HOW := Lib.hid (own_any (c := c) W2.drew (hA2.below (Below.drew (Below.refl _ W2))).rd (fun y hy => hy.1) hA2.len)
  have HM2 := Lib.hid hm2
  have HX2 := Lib.hid hX2
  have HK2 := Lib.hid (((KG.of_below (base := B) HB0.out (Nat.le_refl _) : KH B w W0).trans (KG.of_below (below_drewN (Below.refl _ _) _) (Nat.le_refl _))).trans hk2)
  have HV := Lib.hid hvac
  have hX2ne : w.heap.size ≠ pb' (k / 256) := fun e => by
    obtain ⟨_, cs, hb, _⟩ := hm2.page hkk
    rw [← e] at hb
    exact absurd (Box.same hX2 hb) (by decide)
  have HNE := Lib.hid hX2ne
  have HKK := Lib.hid hkk
  obtain ⟨u0, u1, u2⟩ : W2.cell? ⟨w.heap.size, 0, none⟩ = some (.int .i64 x.tag) ∧ W2.cell? ⟨w.heap.size, 1, none⟩ = some (.int .i64 x.n) ∧ W2.cell? ⟨w.heap.size, 2, none⟩ = some (.slice a x.l.length c) := ⟨hX2.cell 0, hX2.cell 1, hX2.cell 2⟩
  clear hm2 hk2 hvac hX2 hA2 hX2ne hkk x2 y1 y4 q1 hW0
  go_wp2_with fail
  go_region_held3 (fun w' => w'.cell? ⟨w.heap.size, 0, none⟩ = some (.int .i64 x.tag) ∧ w'.cell? ⟨w.heap.size, 1, none⟩ = some (.int .i64 x.n) ∧ w'.cell? ⟨w.heap.size, 2, none⟩ = some (.slice a x.l.length c))
    (first
      | exact ⟨u0, u1, u2⟩
      | exact ⟨m0, m1, m2⟩
      | exact ⟨n0, n1, n2⟩
      | (rw [hW8]; exact ⟨n0, n1, n2⟩)
      | go_keep)
    (first
      | (go_at_call 32; refine HAT.out.mono ?_; rintro e w' ⟨rfl, rfl⟩)
      | (go_at_call 31; refine HOW.out.mono ?_; rintro e w7 ⟨v7, rfl, ho7, hb7⟩; obtain ⟨va7, vc7, rfl⟩ := ho7.slice; have hX7 := HX2.out.drew.below hb7 HX2.out.lt; have m0 : w7.cell? ⟨w.heap.size, 0, none⟩ = some (.int .i64 x.tag) := hX7.cell 0; have m1 : w7.cell? ⟨w.heap.size, 1, none⟩ = some (.int .i64 x.n) := hX7.cell 1; have m2 : w7.cell? ⟨w.heap.size, 2, none⟩ = some (.slice a x.l.length c) := hX7.cell 2; have hm7 := HM2.out.drew.below hb7; obtain ⟨c0, c1, c2, z0, z1, z2, zf⟩ := hm7.there HKK.out; have z3 := (hm7.cells k HKK.out).mark; have f0 := zf (k % 256 * 4); have f1 := zf (k % 256 * 4 + 1); have f2 := zf (k % 256 * 4 + 2); have f3 := zf (k % 256 * 4 + 3); have HZ := Lib.hid zf; clear zf; have hr7 : RdI (ZL B X w7) w7 va7 x.l := (OwnI.readsT ho7).mono (fun b q => ⟨Nat.le_trans HB2.out q.1, q.2.1, fun e => by have := HXW.out b e; have := HS2.out; have := q.1; omega⟩); obtain ⟨hp8, hk8⟩ := hm7.node4 (lc := vc7) (is := 1) HKK.out (fun _ => hr7) ⟨HA0.out.len, OwnI.nilcap ho7⟩; obtain ⟨W8, hW8⟩ : ∃ W8, ((((w7.setCell ⟨pb' (k / 256), k % 256 * 4, none⟩ (.int .i64 x.tag)).setCell ⟨pb' (k / 256), k % 256 * 4 + 1, none⟩ (.int .i64 x.n)).setCell ⟨pb' (k / 256), k % 256 * 4 + 2, none⟩ (.slice va7 x.l.length vc7)).setCell ⟨pb' (k / 256), k % 256 * 4 + 3, none⟩ (.int .u8 1)) = W8 := ⟨_, rfl⟩; replace hp8 : HpM B X W8 h _ v' n' pb' := by { rw [← hW8]; exact hp8 }; replace hk8 : Kept (fun b => b = pb' (k / 256)) w7 W8 := by { rw [← hW8]; exact hk8 }; have hX8 : Box W8 w.heap.size TN #[.int .i64 x.tag, .int .i64 x.n, .slice a x.l.length c] := hk8.box hX7 HNE.out; have n0 : W8.cell? ⟨w.heap.size, 0, none⟩ = some (.int .i64 x.tag) := hX8.cell 0; have n1 : W8.cell? ⟨w.heap.size, 1, none⟩ = some (.int .i64 x.n) := hX8.cell 1; have n2 : W8.cell? ⟨w.heap.size, 2, none⟩ = some (.slice a x.l.length c) := hX8.cell 2; have HP8 := Lib.hid hp8; have HK8 := Lib.hid ((HK2.out.drew.trans (KG.of_below (hb7) (Nat.le_refl _))).trans (kh_page hm7 HKK.out hk8)); clear hX7 hX8 hm7 hr7 hp8 hk8 ho7 hb7))
  have hp8 := HP8.out
  obtain ⟨y0, y1, y2, y3, y4, y5, y6⟩ := hp8.box.cells7
  have g4 := hp8.box.free 4
  have g5 := hp8.box.free 5
  have hlim := HGD.out.lim
  simp only at y4 y5
  have hb9 : Box ((W8.setCell ⟨h, 4, none⟩ (.int .i64 ((S.live : Int) + 1))).setCell ⟨h, 5, none⟩ (.int .i64 ((S.allocs : Int) + 1))) h TH #[v', .int .i64 S.cap, .int .i64 ((max S.used (k + 1) : Nat) : Int), .int .i64 k, .int .i64 ((S.live + 1 : Nat) : Int), .int .i64 ((S.allocs + 1 : Nat) : Int), .pointer (some ⟨h, 0, none⟩)] := (hp8.box.put 4 _).put 5 _
  have hk9 := kept_put (kept_put (Kept.refl (fun b => b = h) W8) 4 (.int .i64 ((S.live : Int) + 1))) 5 (.int .i64 ((S.allocs : Int) + 1))
  have HE := Lib.hid (And.intro (hp8.field (S' := S.put k x) hk9 hb9 hp8.room rfl rfl) (HK8.out.trans (kh_field hp8 hk9)))
  have HW := Lib.hid hW8
  clear hp8 hb9 hk9 y0 y1 y2 y3 y6 n0 n1 n2 m0 m1 m2 u0 u1 u2 z0 z1 z2 z3 f0 f1 f2 f3
  try rw [hW8]
  clear hW8
  go_wp2_with fail
  go_ret2
  exact ⟨k, HV.out, rfl, ⟨_, _, _, HE.out.1⟩, HE.out.2⟩
end Go.Proofs.Ytbkklnihgejeoaa.Hp
