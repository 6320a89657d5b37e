/-
  THE LAW HeapPoints: no pointer of a node ever leads to a free cell.
-/
import Derived.Test.YtbkklnihgejeoaaHpQ
namespace Go.Proofs.Ytbkklnihgejeoaa.HeapPoints
open Go.RowKit Mm Tm Hp Ha
set_option linter.unusedVariables false
set_option linter.unusedSimpArgs false
structure L1 (w : World) (h c : Nat) (S : Hs) (d : Nat) (lv i : Value) (wr : World) : Prop where
  mem : ∃ k : Nat, k + d = c ∧ i = .int .i64 k ∧ lv = .int .i64 (cnt S.is k)
  heap : HpI w.heap.size (fun _ => False) wr h S
  below : Below w.heap.size w wr
theorem cnt_succ (f : Nat → Nat) (k : Nat) : cnt f (k + 1) = cnt f k + if f k ≠ 0 then 1 else 0 := rfl
theorem held_of {S : Hs} {k : Nat} (g : Hp.Good S) (h : S.is k ≠ 0) : S.held k = true := by
  refine Hs.held_iff.2 ⟨by omega, ?_, h⟩
  apply Classical.byContradiction
  intro q
  exact h (g.above k (by omega))
theorem row_at {B : Nat} {w : World} {a : Option Addr} {c : Nat} {l : List Int} (h : OwnI B TI w (.slice a l.length c) l) {i : Nat} {x : Int} (hx : l[i]? = some x) : ∃ g, a = some ⟨g, 0, none⟩ ∧ g < w.heap.size ∧ w.cell? ⟨g, i, none⟩ = some (.int .i64 x) := by
  have hi : i < l.length := (List.getElem?_eq_some_iff.1 hx).1
  obtain ⟨g, rfl, _, hg2, _, hc⟩ := own_at h (by omega)
  exact ⟨g, rfl, hg2, by rw [hc i (by omega), List.getElem?_map, hx]; rfl⟩
set_option maxRecDepth 100000 in
set_option maxHeartbeats 16000000 in
theorem law (c : Int) (hc1 : -9223372036854775808 ≤ c) (hc2 : c ≤ 9223372036854775807) (a : Option Addr) (n lc : Nat) (hn : n ≤ 9223372036854775807) (l : List HOp) (w : World) (hr : l.length = n ∧ RdO (· < w.heap.size) w a l) :
    Calls Try.prog 6 #[.int .i64 c, .slice a n lc] w fun e w' => e = .returned (.bool true) ∧ Below w.heap.size w w' := by
  obtain ⟨rfl, hr⟩ := hr
  have HKN := Lib.hid (fun w => known_any w)
  have HFW := Lib.hid (few_any (c := lc) w hr hn)
  have HR := Lib.hid hr
  clear hr
  go_enter Try.func6, Try.ntmps6
  by_cases hf : fewB l = true
  case neg =>
    have hf : fewB l = false := by simpa using hf
    rw [hf] at HFW
    clear hf
    go_wp2_with fail
    with_reducible refine HFW.out.mono ?_
    rintro e w' ⟨rfl, rfl⟩
    go_wp2_with fail
    refine (HKN.out _).mono ?_
    rintro e w' ⟨rfl, hb⟩
    go_wp2_with fail
    go_ret
    exact ⟨rfl, hb⟩
  rw [hf] at HFW
  have HF := Lib.hid hf
  clear hf
  by_cases h1 : c < 1
  · go_wp2_with fail
    with_reducible refine HFW.out.mono ?_
    rintro e w' ⟨rfl, rfl⟩
    go_wp2_with fail
    refine (HKN.out _).mono ?_
    rintro e w' ⟨rfl, hb⟩
    go_wp2_with fail
    go_ret
    exact ⟨rfl, hb⟩
  by_cases h2 : 1000 < c
  · go_wp2_with fail
    with_reducible refine HFW.out.mono ?_
    rintro e w' ⟨rfl, rfl⟩
    go_wp2_with fail
    refine (HKN.out _).mono ?_
    rintro e w' ⟨rfl, hb⟩
    go_wp2_with fail
    go_ret
    exact ⟨rfl, hb⟩
  obtain ⟨c, rfl⟩ : ∃ n : Nat, c = n := ⟨c.toNat, by omega⟩
  have h3 : 1 ≤ c := by omega
  have h4 : c ≤ 1000 := by omega
  have q1 : decide ((c : Int) < 1) = false := decide_eq_false (by omega)
  have q2 : decide ((1000 : Int) < c) = false := decide_eq_false (by omega)
  have HPD := Lib.hid (played_any (lc := lc) w HR.out HF.out h3 (by omega))
  clear h1 h2 hc1 hc2
  go_wp2_with fail
  with_reducible refine HFW.out.mono ?_
  rintro e w' ⟨rfl, rfl⟩
  go_wp2_with fail
  with_reducible refine HPD.out.mono ?_
  rintro e w1 ⟨S, rfl, hp1, hpl, hb1⟩
  have HG := Lib.hid hpl.good
  have HC := Lib.hid hpl.cap
  have HL1 := Lib.hid (show L1 w w.heap.size c S c (.int .i64 0) (.int .i64 0) w1 from ⟨⟨0, by omega, rfl, rfl⟩, hp1, hb1⟩)
  clear hp1 hpl hb1 q1 q2
  go_wp2_with fail
  go_loopg [6, 7] c (fun d lv i wr => L1 w w.heap.size c S d lv i wr)
  case atStart => exact HL1.out
  case round =>
    obtain ⟨⟨k, hd, rfl, rfl⟩, hp, hb⟩ := hrel
    have HD := Lib.hid hd
    have HP := Lib.hid hp
    have HB := Lib.hid hb
    have hkc : k ≤ c := by omega
    have hck := cnt_le S.is k
    have HCS := Lib.hid (cnt_succ S.is k)
    clear hd hp hb
    by_cases hlt : k < c
    case neg =>
      obtain rfl : k = c := by omega
      have HLV := Lib.hid (by
        have := live_any wr HP.out
        rw [show (S.live : Int) = (cnt S.is k : Nat) by
          rw [HG.out.live, cnt_zero k (m := S.used) (by have := HG.out.fits; rw [HC.out] at this; exact this) HG.out.above]] at this
        exact this)
      go_wp2_with fail
      with_reducible refine HLV.out.mono ?_
      rintro e w' ⟨rfl, rfl⟩
      go_wp2_with fail
      refine (HKN.out _).mono ?_
      rintro e w' ⟨rfl, hb⟩
      have HBE := Lib.hid (HB.out.trans (hb.mono HB.out.size))
      clear hb
      go_wp2_with fail
      go_ret
      exact ⟨rfl, HBE.out⟩
    by_cases hk0 : S.is k = 0
    · have HGT := Lib.hid (get_no (p := (k : Int)) wr HP.out (by
        apply Bool.eq_false_iff.2
        intro q
        exact (Hs.held_iff.1 q).2.2 hk0))
      have HE0 := Lib.hid (show cnt S.is (k + 1) = cnt S.is k by rw [HCS.out, if_neg (by simpa using hk0), Nat.add_zero])
      clear hk0
      go_wp2_with fail
      with_reducible refine HGT.out.mono ?_
      rintro e w2 ⟨rfl, hb2⟩
      have hx3 : Box (w2.alloc (.cells #[.int .i64 0, .int .i64 0, .slice none 0 0] TN)) w2.heap.size TN #[.int .i64 0, .int .i64 0, .slice none 0 0] := Box.new _ _ _
      have s2 : (w2.alloc (.cells #[.int .i64 0, .int .i64 0, .slice none 0 0] TN)).cell? ⟨w2.heap.size, 2, none⟩ = some (.slice none 0 0) := hx3.cell 2
      have hb3 := hb2.trans ((Below.refl w2.heap.size w2).alloc (Nat.le_refl _) (.cells #[.int .i64 0, .int .i64 0, .slice none 0 0] TN) |>.mono hb2.size)
      have HE := Lib.hid (show L1 w w.heap.size c S (c - (k + 1)) (.int .i64 (cnt S.is k)) (.int .i64 ((k : Int) + 1)) (w2.alloc (.cells #[.int .i64 0, .int .i64 0, .slice none 0 0] TN)) from ⟨⟨k + 1, by omega, rfl, by rw [HE0.out]⟩, HP.out.below hb3, HB.out.trans (hb3.mono HB.out.size)⟩)
      clear hb2 hb3 hx3
      go_wp2_with fail
      go_loopg [10] 0 (fun d i wz => i = .int .i64 0 ∧ (w2.alloc (.cells #[.int .i64 0, .int .i64 0, .slice none 0 0] TN)) = wz)
      case atStart => exact ⟨rfl, rfl⟩
      case round =>
        obtain ⟨rfl, rfl⟩ := hrel
        go_wp2_with fail
        go_roundg (c - (k + 1))
        case measure => have := HD.out; omega
        case rel => exact HE.out
    · have hheld := held_of HG.out hk0
      have HGT := Lib.hid (get_ok (k := k) wr HP.out hheld)
      have HPT := Lib.hid (HG.out.ptr k hk0)
      have HE1 := Lib.hid (show cnt S.is (k + 1) = cnt S.is k + 1 by rw [HCS.out, if_pos hk0])
      generalize hx : S.nd k = x at *
      clear hk0 hheld hx
      go_wp2_with fail
      with_reducible refine HGT.out.mono ?_
      rintro e w2 ⟨va, vc, rfl, ho2, hb2⟩
      obtain ⟨W3, hW3⟩ : ∃ W3, w2.alloc (.cells #[.int .i64 x.tag, .int .i64 x.n, .slice va x.l.length vc] TN) = W3 := ⟨_, rfl⟩
      have hb3 : Below w2.heap.size w2 W3 := by rw [← hW3]; exact (Below.refl w2.heap.size w2).alloc (Nat.le_refl _) _
      have hx3 : Box W3 w2.heap.size TN #[.int .i64 x.tag, .int .i64 x.n, .slice va x.l.length vc] := by rw [← hW3]; exact Box.new _ _ _
      have hb23 := hb2.trans (hb3.mono hb2.size)
      have HP3 := Lib.hid (HP.out.below hb23)
      have HB3 := Lib.hid (HB.out.trans (hb23.mono HB.out.size))
      have HX3 := Lib.hid hx3
      have HR3 := Lib.hid (show ∀ i y, x.l[i]? = some y → ∃ g, va = some ⟨g, 0, none⟩ ∧ g < W3.heap.size ∧ W3.cell? ⟨g, i, none⟩ = some (.int .i64 y) from fun i y hy => by
        obtain ⟨g, h1, h2, h3⟩ := row_at ho2 hy
        exact ⟨g, h1, Nat.lt_of_lt_of_le h2 hb3.size, by rw [hb3.cell (p := ⟨g, i, none⟩) h2]; exact h3⟩)
      have hxl : x.l.length ≤ 9223372036854775807 := by
        have := ho2.2
        rcases this with ⟨q1, q2⟩ | ⟨g, cap, cur, q1, _, _, q2, q3, _⟩
        · omega
        · unfold maxLen at q3; omega
      clear hb2 hb3 hx3 hb23 ho2
      go_wp2_with fail
      clear hW3
      obtain ⟨wq, hwq⟩ : ∃ q, q = wr := ⟨_, rfl⟩
      subst hwq
      go_loopg [10] x.l.length (fun d i wz => (∃ j : Nat, j + d = x.l.length ∧ i = .int .i64 j) ∧ Below W3.heap.size W3 wz)
      case atStart => exact ⟨⟨0, by omega, rfl⟩, Below.refl _ _⟩
      case round =>
        obtain ⟨⟨j, hd, rfl⟩, hbz⟩ := hrel
        have HDJ := Lib.hid hd
        have HBZ := Lib.hid hbz
        have hjl : j ≤ x.l.length := by omega
        have s2 : wr.cell? ⟨w2.heap.size, 2, none⟩ = some (.slice va x.l.length vc) := (HX3.out.below hbz HX3.out.lt).cell 2
        clear hd
        by_cases hj : j < x.l.length
        · have hxj := List.getElem?_eq_getElem hj
          have hmem := HPT.out _ (List.getElem_mem hj)
          obtain ⟨g, rfl, hg, hcj⟩ := HR3.out j _ hxj
          have hcz := (hbz.cell (p := ⟨g, j, none⟩) hg).trans hcj
          generalize hyy : x.l[j] = y at *
          obtain ⟨m, rfl⟩ : ∃ m : Nat, y = m := ⟨y.toNat, by have := (Hs.held_iff.1 hmem).1; omega⟩
          have HG2 := Lib.hid (get_ok (k := m) wr (HP3.out.below hbz) hmem)
          clear hxj hmem hcj hyy hbz hg
          go_wp2_with fail
          with_reducible refine HG2.out.mono ?_
          rintro e w5 ⟨vb, vd, rfl, _, hb5⟩
          obtain ⟨W6, hW6⟩ : ∃ W6, w5.alloc (.cells #[.int .i64 (S.nd m).tag, .int .i64 (S.nd m).n, .slice vb (S.nd m).l.length vd] TN) = W6 := ⟨_, rfl⟩
          have hb6 : Below w5.heap.size w5 W6 := by rw [← hW6]; exact (Below.refl w5.heap.size w5).alloc (Nat.le_refl _) _
          have HE := Lib.hid (HBZ.out.trans ((hb5.trans (hb6.mono hb5.size)).mono HBZ.out.size))
          clear hb5 hb6
          go_wp2_with fail
          go_roundg (x.l.length - (j + 1))
          case measure => have := HDJ.out; omega
          case rel => exact ⟨⟨j + 1, by omega, by go_num⟩, HE.out⟩
        · have HE := Lib.hid (show L1 w w.heap.size c S (c - (k + 1)) (.int .i64 ((cnt S.is k : Nat) + 1)) (.int .i64 ((k : Int) + 1)) wr from ⟨⟨k + 1, by omega, rfl, by rw [HE1.out]; rfl⟩, HP3.out.below hbz, HB3.out.trans (hbz.mono HB3.out.size)⟩)
          clear hbz
          go_wp2_with fail
          go_roundg (c - (k + 1))
          case measure => have := HD.out; omega
          case rel => exact HE.out
end Go.Proofs.Ytbkklnihgejeoaa.HeapPoints
