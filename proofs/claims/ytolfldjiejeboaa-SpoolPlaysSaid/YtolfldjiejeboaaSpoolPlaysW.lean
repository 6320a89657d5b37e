/-
  The walk of 'changelinglaw03.SpoolPlays'.
-/
import Derived.Test.YtolfldjiejeboaaSpGame
import Derived.Test.YtolfldjiejeboaaSpPlaysBad
namespace Go.Proofs.Ytolfldjiejeboaa.Sp
open Go.RowKit Go.Conc Mm Ln
set_option linter.unusedVariables false
set_option linter.unusedSimpArgs false
abbrev TO : TypeId := 33
set_option maxRecDepth 100000 in
set_option maxHeartbeats 400000000 in
theorem plays_law (room other : Nat) (hroom : room ≤ 1024) (hother : other ≤ 1024) (b : Option Addr) (n c : Nat) (hn : n ≤ 9223372036854775807) (O X : Nat → Int) (w : World) (hr : ReadsO w w.heap.size b n O X) :
    Calls Try.prog 3 #[.int .i64 room, .int .i64 other, .slice b n c] w fun e w' => e = .returned (.bool true) ∧ Below w.heap.size w w' := by
  have HR := Lib.hid hr
  clear hr
  go_enter Try.func3, Try.ntmps3
  go_wp2_with fail
  refine (new_mine room hroom (Below.refl _ _)).mono ?_
  rintro e w1 ⟨p, ch, rfl, hm⟩
  go_wp2_with fail
  refine (two_new (buf := []) other hother hroom hm).mono ?_
  rintro e w2 ⟨p2, c2, rfl, ht⟩
  go_wp2_with fail
  refine (right_yes room hroom w2).mono ?_
  rintro e w3 ⟨rfl, rfl⟩
  go_wp2_with fail
  refine (right_yes other hother w2).mono ?_
  rintro e w3 ⟨rfl, rfl⟩
  go_wp2_with fail
  go_loopg [13] n (fun d i wr => PlaysI w p ch room p2 c2 other w2.heap.size (w2.heap.size + 1) n d i wr)
  case atStart =>
    have z2 := ht.below.size
    have k0 := ((Kept.refl none0 w2).alloc (.cells #[.slice none 0 0, .int .i64 room, .bool false] TR)).alloc (.cells #[.slice none 0 0, .int .i64 other, .bool false] TR)
    have q1 := Box.new (w2.alloc (.cells #[.slice none 0 0, .int .i64 room, .bool false] TR)) #[.slice none 0 0, .int .i64 other, .bool false] TR
    rw [World.size_alloc] at q1
    exact ⟨0, [], [], false, false, none, 0, none, 0, by omega, rfl, ht.kept k0 (fun _ h => h.elim) (fun _ _ h => h), (Box.new w2 _ TR).alloc _, RL.nil _ _ (by omega), q1, RL.nil _ _ (by omega), z2, by omega, by omega⟩
  case round =>
    have hqa : w.heap.size ≤ w2.heap.size := ht.below.size
    obtain ⟨k, l, l2, sh, sh2, a, ca, a2, ca2, hk, rfl, G⟩ := hrel
    clear ht hm
    generalize hqb : w2.heap.size + 1 = qb at *
    generalize w2.heap.size = qa at *
    clear hqb
    have HK := Lib.hid hk
    have hle : k ≤ n := by omega
    clear hk
    have hl1 : l.length ≤ 1024 := Nat.le_trans G.two.m1 G.two.r1
    have hl2 : l2.length ≤ 1024 := Nat.le_trans G.two.m2 G.two.r2
    obtain ⟨⟨x0, x1, x2⟩, ⟨f0, f1, f2⟩, zx⟩ := G.cells
    obtain ⟨⟨y0, y1, y2⟩, ⟨g0, g1, g2⟩, zy⟩ := G.swap.cells
    by_cases hlt : k < n ∧ k < 2000
    · obtain ⟨h1, h2⟩ := hlt
      have h1' : (k : Int) < n := by omega
      have h2' : (k : Int) < 2000 := by omega
      obtain ⟨ad, rfl, had, o0, o1⟩ := (HR.out.below G.two.below (Nat.le_refl _)) k h1
      obtain ⟨kd, hkd⟩ : ∃ kd, O k = kd := ⟨_, rfl⟩
      obtain ⟨x, hx⟩ : ∃ x, X k = x := ⟨_, rfl⟩
      rw [hkd] at o0
      rw [hx] at o1
      clear hkd hx
      have kO := (Kept.refl none0 wr).alloc (.cells #[.int .i64 kd, .int .i64 x] TO)
      have GO := G.kept0 kO
      have bO := Box.new wr #[.int .i64 kd, .int .i64 x] TO
      rcases Classical.em (kd = 1) with rfl | e1
      · as_aux_lemma =>
          obtain ⟨r, hb⟩ : ∃ r, (!sh && decide (l.length < room)) = r := ⟨_, rfl⟩
          obtain ⟨L, hL⟩ : ∃ L, (if r = true then l ++ [x] else l) = L := ⟨_, rfl⟩
          have HB := Lib.hid hb
          have HL := Lib.hid hL
          clear hb hL
          go_wp2_with fail
          refine (rput_any x _ GO.ra hl1 hroom HB.out).mono ?_
          rintro e w4 ⟨v4, rfl, hr4, hb4⟩
          rw [HL.out] at hr4
          obtain ⟨a4, ca4, rfl⟩ := hr4.form
          have G1 := GO.kept0 (Kept.of_below hb4 none0)
          have G2 := (G1.setA hr4 sh).kept0 ((Kept.refl none0 _).alloc (.cells #[.slice a4 L.length ca4, .int .i64 room, .bool sh] TR))
          have bO4 := bO.below hb4 (by simp)
          have cx := bO4.cell 1
          have zo := bO4.lt
          have no : ¬ wr.heap.size = qa := by omega
          simp only [List.getElem?_toArray, List.getElem?_cons_zero, List.getElem?_cons_succ] at cx
          clear x0 x1 x2 f0 f1 f2 zx y0 y1 y2 g0 g1 g2 zy
          obtain ⟨⟨x0, x1, x2⟩, ⟨f0, f1, f2⟩, zx⟩ := G1.cells
          obtain ⟨⟨y0, y1, y2⟩, ⟨g0, g1, g2⟩, zy⟩ := G1.swap.cells
          go_wp2_with fail
          refine (put1 x G2.two HB.out).mono ?_
          rintro e w5 ⟨rfl, t5, k5⟩
          rw [HL.out] at t5
          have G3 := G2.turn k5 t5
          clear cx zo no
          clear x0 x1 x2 f0 f1 f2 zx y0 y1 y2 g0 g1 g2 zy
          obtain ⟨⟨x0, x1, x2⟩, ⟨f0, f1, f2⟩, zx⟩ := G3.cells
          obtain ⟨⟨y0, y1, y2⟩, ⟨g0, g1, g2⟩, zy⟩ := G3.swap.cells
          go_wp2_with fail
          refine (same_any _ G3.two.s1).mono ?_
          rintro e w7 ⟨rfl, k7⟩
          have G4 := G3.kept0 k7
          clear x0 x1 x2 f0 f1 f2 zx y0 y1 y2 g0 g1 g2 zy
          obtain ⟨⟨x0, x1, x2⟩, ⟨f0, f1, f2⟩, zx⟩ := G4.cells
          obtain ⟨⟨y0, y1, y2⟩, ⟨g0, g1, g2⟩, zy⟩ := G4.swap.cells
          go_wp2_with fail
          refine (same_any _ G4.two.s2).mono ?_
          rintro e w8 ⟨rfl, k8⟩
          have G5 := G4.kept0 k8
          clear x0 x1 x2 f0 f1 f2 zx y0 y1 y2 g0 g1 g2 zy
          go_wp2_with fail
          go_roundg (n - (k + 1))
          case measure => have := HK.out; omega
          case rel => exact ⟨k + 1, _, _, _, _, _, _, _, _, by have := HK.out; omega, by go_num, G5⟩
      rcases Classical.em (kd = 2) with rfl | e2
      · as_aux_lemma =>
          obtain ⟨r, hb⟩ : ∃ r, (!l.isEmpty) = r := ⟨_, rfl⟩
          obtain ⟨hd, hh⟩ : ∃ hd, l.headD 0 = hd := ⟨_, rfl⟩
          obtain ⟨L, hL⟩ : ∃ L, l.tail = L := ⟨_, rfl⟩
          have HL := Lib.hid hL
          clear hL
          have HB := Lib.hid hb
          have HH := Lib.hid hh
          clear hb hh
          go_wp2_with fail
          refine (rtake_any _ GO.ra hl1).mono ?_
          rintro e w4 ⟨v4, rfl, hr4, hb4⟩
          rw [HB.out, HH.out]
          rw [HL.out] at hr4
          obtain ⟨a4, ca4, rfl⟩ := hr4.form
          have G1 := GO.kept0 (Kept.of_below hb4 none0)
          have G2 := (G1.setA hr4 sh).kept0 ((Kept.refl none0 _).alloc (.cells #[.slice a4 L.length ca4, .int .i64 room, .bool sh] TR))
          clear x0 x1 x2 f0 f1 f2 zx y0 y1 y2 g0 g1 g2 zy
          obtain ⟨⟨x0, x1, x2⟩, ⟨f0, f1, f2⟩, zx⟩ := G1.cells
          obtain ⟨⟨y0, y1, y2⟩, ⟨g0, g1, g2⟩, zy⟩ := G1.swap.cells
          go_wp2_with fail
          refine (take1 G2.two).mono ?_
          rintro e w5 ⟨rfl, t5, k5⟩
          rw [HB.out, HH.out]
          rw [HL.out] at t5
          have G3 := G2.turn k5 t5
          clear x0 x1 x2 f0 f1 f2 zx y0 y1 y2 g0 g1 g2 zy
          obtain ⟨⟨x0, x1, x2⟩, ⟨f0, f1, f2⟩, zx⟩ := G3.cells
          obtain ⟨⟨y0, y1, y2⟩, ⟨g0, g1, g2⟩, zy⟩ := G3.swap.cells
          go_wp2_with fail
          refine (same_any _ G3.two.s1).mono ?_
          rintro e w7 ⟨rfl, k7⟩
          have G4 := G3.kept0 k7
          clear x0 x1 x2 f0 f1 f2 zx y0 y1 y2 g0 g1 g2 zy
          obtain ⟨⟨x0, x1, x2⟩, ⟨f0, f1, f2⟩, zx⟩ := G4.cells
          obtain ⟨⟨y0, y1, y2⟩, ⟨g0, g1, g2⟩, zy⟩ := G4.swap.cells
          go_wp2_with fail
          refine (same_any _ G4.two.s2).mono ?_
          rintro e w8 ⟨rfl, k8⟩
          have G5 := G4.kept0 k8
          clear x0 x1 x2 f0 f1 f2 zx y0 y1 y2 g0 g1 g2 zy
          go_wp2_with fail
          go_roundg (n - (k + 1))
          case measure => have := HK.out; omega
          case rel => exact ⟨k + 1, _, _, _, _, _, _, _, _, by have := HK.out; omega, by go_num, G5⟩
      rcases Classical.em (kd = 3) with rfl | e3
      · as_aux_lemma =>
          obtain ⟨N, hN⟩ : ∃ N, fewer x l.length = N := ⟨_, rfl⟩
          have hNl : N ≤ l.length := by rw [← hN]; unfold fewer; omega
          obtain ⟨L, hL⟩ : ∃ L, l.drop N = L := ⟨_, rfl⟩
          obtain ⟨LT, hLT⟩ : ∃ LT, l.take N = LT := ⟨_, rfl⟩
          have hlt : LT.length = N := by rw [← hLT, List.length_take]; omega
          have HL := Lib.hid hL
          have HLT := Lib.hid hLT
          clear hL hLT
          have HN := Lib.hid hN
          have HT := Lib.hid hlt
          clear hN hlt
          go_wp2_with fail
          refine (rdrain_any x _ GO.ra hl1).mono ?_
          rintro e w4 ⟨v4, u4, rfl, hu4, hr4, hb4⟩
          rw [HN.out] at hu4 hr4
          rw [HLT.out] at hu4
          rw [HL.out] at hr4
          obtain ⟨a4, ca4, rfl⟩ := hr4.form
          obtain ⟨a6, ca6, rfl⟩ := hu4.form
          have G1 := GO.kept0 (Kept.of_below hb4 none0)
          have G2 := (G1.setA hr4 sh).kept0 ((Kept.refl none0 _).alloc (.cells #[.slice a4 L.length ca4, .int .i64 room, .bool sh] TR))
          have U2 := (G1.carryA hu4 (.slice a4 L.length ca4) sh).kept ((Kept.refl none0 _).alloc (.cells #[.slice a4 L.length ca4, .int .i64 room, .bool sh] TR))
          have bO4 := bO.below hb4 (by simp)
          have cx := bO4.cell 1
          have zo := bO4.lt
          have no : ¬ wr.heap.size = qa := by omega
          simp only [List.getElem?_toArray, List.getElem?_cons_zero, List.getElem?_cons_succ] at cx
          clear x0 x1 x2 f0 f1 f2 zx y0 y1 y2 g0 g1 g2 zy
          obtain ⟨⟨x0, x1, x2⟩, ⟨f0, f1, f2⟩, zx⟩ := G1.cells
          obtain ⟨⟨y0, y1, y2⟩, ⟨g0, g1, g2⟩, zy⟩ := G1.swap.cells
          rw [HT.out]
          rw [HT.out] at U2
          go_wp2_with fail
          refine (drain1 x G2.two HN.out).mono ?_
          rintro e w5 ⟨a5, c5, rfl, ho5, t5, k5⟩
          rw [HLT.out] at ho5
          rw [HL.out] at t5
          have G6 := G2.turn k5 t5
          have U5 := U2.keptX k5 G2.two.noInt
          clear cx zo no x0 x1 x2 f0 f1 f2 zx y0 y1 y2 g0 g1 g2 zy
          go_wp2_with fail
          refine (samei_any w5 (by omega) (own_readsI ho5 HT.out) (U5.reads HT.out)).mono ?_
          rintro e w6 ⟨rfl, k6⟩
          have G3 := G6.kept0 k6
          obtain ⟨⟨x0, x1, x2⟩, ⟨f0, f1, f2⟩, zx⟩ := G3.cells
          obtain ⟨⟨y0, y1, y2⟩, ⟨g0, g1, g2⟩, zy⟩ := G3.swap.cells
          clear x0 x1 x2 f0 f1 f2 zx y0 y1 y2 g0 g1 g2 zy
          obtain ⟨⟨x0, x1, x2⟩, ⟨f0, f1, f2⟩, zx⟩ := G3.cells
          obtain ⟨⟨y0, y1, y2⟩, ⟨g0, g1, g2⟩, zy⟩ := G3.swap.cells
          go_wp2_with fail
          refine (same_any _ G3.two.s1).mono ?_
          rintro e w7 ⟨rfl, k7⟩
          have G4 := G3.kept0 k7
          clear x0 x1 x2 f0 f1 f2 zx y0 y1 y2 g0 g1 g2 zy
          obtain ⟨⟨x0, x1, x2⟩, ⟨f0, f1, f2⟩, zx⟩ := G4.cells
          obtain ⟨⟨y0, y1, y2⟩, ⟨g0, g1, g2⟩, zy⟩ := G4.swap.cells
          go_wp2_with fail
          refine (same_any _ G4.two.s2).mono ?_
          rintro e w8 ⟨rfl, k8⟩
          have G5 := G4.kept0 k8
          clear x0 x1 x2 f0 f1 f2 zx y0 y1 y2 g0 g1 g2 zy
          go_wp2_with fail
          go_roundg (n - (k + 1))
          case measure => have := HK.out; omega
          case rel => exact ⟨k + 1, _, _, _, _, _, _, _, _, by have := HK.out; omega, by go_num, G5⟩
      rcases Classical.em (kd = 4) with rfl | e4
      · as_aux_lemma =>
          have hclose : ∀ Y, Kept none0 wr Y → Calls Try.prog 18 #[.pointer (some ⟨p, 0, none⟩)] Y fun e w' => e = .returned (.bool (!sh)) ∧ Game w w' p ch room p2 c2 other qa qb l true l2 sh2 (.slice a l.length ca) l sh (.slice a2 l2.length ca2) l2 sh2 := fun Y kY => by
            have GY := G.kept0 kY
            refine (close1 GY.two).mono ?_
            rintro e w' ⟨rfl, t, kk⟩
            exact ⟨rfl, GY.turn kk t⟩
          go_wp2_with fail
          go_region_with (go_at_call 18; refine (hclose _ (by repeat (first | exact Kept.refl _ _ | refine Kept.drew ?_ | refine Kept.alloc ?_ _))).mono ?_; rintro e w4 ⟨rfl, G4⟩; clear x0 x1 x2 f0 f1 f2 zx y0 y1 y2 g0 g1 g2 zy; obtain ⟨⟨x0, x1, x2⟩, ⟨f0, f1, f2⟩, zx⟩ := G4.cells)
          all_goals as_aux_lemma =>
            clear x0 x1 x2 f0 f1 f2 zx
            have G3 := G4.shutA true
            obtain ⟨⟨x0, x1, x2⟩, ⟨f0, f1, f2⟩, zx⟩ := G4.cells
            go_wp2_with fail
            refine (same_any _ G3.two.s1).mono ?_
            rintro e w7 ⟨rfl, k7⟩
            have G5 := G3.kept0 k7
            clear x0 x1 x2 f0 f1 f2 zx
            obtain ⟨⟨x0, x1, x2⟩, ⟨f0, f1, f2⟩, zx⟩ := G5.cells
            obtain ⟨⟨y0, y1, y2⟩, ⟨g0, g1, g2⟩, zy⟩ := G5.swap.cells
            go_wp2_with fail
            refine (same_any _ G5.two.s2).mono ?_
            rintro e w8 ⟨rfl, k8⟩
            have G6 := G5.kept0 k8
            clear x0 x1 x2 f0 f1 f2 zx y0 y1 y2 g0 g1 g2 zy
            go_wp2_with fail
            go_roundg (n - (k + 1))
            case measure => have := HK.out; omega
            case rel => exact ⟨k + 1, _, _, _, _, _, _, _, _, by have := HK.out; omega, by go_num, G6⟩
      rcases Classical.em (kd = 5) with rfl | e5
      · as_aux_lemma =>
          obtain ⟨N, hN⟩ : ∃ N, moveN x l.length other l2.length sh2 = N := ⟨_, rfl⟩
          obtain ⟨L, hL⟩ : ∃ L, l.drop N = L := ⟨_, rfl⟩
          obtain ⟨L2, hL2⟩ : ∃ L2, l2 ++ l.take N = L2 := ⟨_, rfl⟩
          have HL := Lib.hid hL
          have HL2 := Lib.hid hL2
          clear hL hL2
          have HN := Lib.hid hN
          clear hN
          go_wp2_with fail
          refine (rmove_any x _ GO.ra GO.rb hl1 G.two.m2 hother).mono ?_
          rintro e w4 ⟨v4, v5, rfl, hr4, hr5, hb4⟩
          rw [HN.out] at hr4 hr5
          rw [HL.out] at hr4
          rw [HL2.out] at hr5
          rw [HN.out]
          obtain ⟨a4, ca4, rfl⟩ := hr4.form
          obtain ⟨a5, ca5, rfl⟩ := hr5.form
          have G1 := GO.kept0 (Kept.of_below hb4 none0)
          have GA := G1.setA hr4 sh
          have GB := (GA.swap.setA (G1.carryA hr5 (.slice a4 L.length ca4) sh) sh2).swap
          have G2 := GB.kept0 (((Kept.refl none0 _).alloc (.cells #[.slice a4 L.length ca4, .int .i64 room, .bool sh] TR)).alloc (.cells #[.slice a5 L2.length ca5, .int .i64 other, .bool sh2] TR))
          have bO4 := bO.below hb4 (by simp)
          have cx := bO4.cell 1
          have zo := bO4.lt
          have no : ¬ wr.heap.size = qa := by omega
          have no2 : ¬ wr.heap.size = qb := by omega
          have nab := G.ne
          simp only [List.getElem?_toArray, List.getElem?_cons_zero, List.getElem?_cons_succ] at cx
          clear x0 x1 x2 f0 f1 f2 zx y0 y1 y2 g0 g1 g2 zy
          obtain ⟨⟨x0, x1, x2⟩, ⟨f0, f1, f2⟩, zx⟩ := G1.cells
          obtain ⟨⟨y0, y1, y2⟩, ⟨g0, g1, g2⟩, zy⟩ := G1.swap.cells
          go_wp2_with fail
          refine (move1 x G2.two HN.out).mono ?_
          rintro e w5 ⟨rfl, t5, k5⟩
          rw [HL.out, HL2.out] at t5
          have G3 := G2.turn k5 t5
          clear cx zo no no2 nab
          clear x0 x1 x2 f0 f1 f2 zx y0 y1 y2 g0 g1 g2 zy
          obtain ⟨⟨x0, x1, x2⟩, ⟨f0, f1, f2⟩, zx⟩ := G3.cells
          obtain ⟨⟨y0, y1, y2⟩, ⟨g0, g1, g2⟩, zy⟩ := G3.swap.cells
          go_wp2_with fail
          refine (same_any _ G3.two.s1).mono ?_
          rintro e w7 ⟨rfl, k7⟩
          have G4 := G3.kept0 k7
          clear x0 x1 x2 f0 f1 f2 zx y0 y1 y2 g0 g1 g2 zy
          obtain ⟨⟨x0, x1, x2⟩, ⟨f0, f1, f2⟩, zx⟩ := G4.cells
          obtain ⟨⟨y0, y1, y2⟩, ⟨g0, g1, g2⟩, zy⟩ := G4.swap.cells
          go_wp2_with fail
          refine (same_any _ G4.two.s2).mono ?_
          rintro e w8 ⟨rfl, k8⟩
          have G5 := G4.kept0 k8
          clear x0 x1 x2 f0 f1 f2 zx y0 y1 y2 g0 g1 g2 zy
          go_wp2_with fail
          go_roundg (n - (k + 1))
          case measure => have := HK.out; omega
          case rel => exact ⟨k + 1, _, _, _, _, _, _, _, _, by have := HK.out; omega, by go_num, G5⟩
      rcases Classical.em (kd = 6) with rfl | e6
      · as_aux_lemma =>
          obtain ⟨N, hN⟩ : ∃ N, moveN x l2.length room l.length sh = N := ⟨_, rfl⟩
          obtain ⟨L, hL⟩ : ∃ L, l2.drop N = L := ⟨_, rfl⟩
          obtain ⟨L2, hL2⟩ : ∃ L2, l ++ l2.take N = L2 := ⟨_, rfl⟩
          have HL := Lib.hid hL
          have HL2 := Lib.hid hL2
          clear hL hL2
          have HN := Lib.hid hN
          clear hN
          go_wp2_with fail
          refine (rmove_any x _ GO.rb GO.ra hl2 G.two.m1 hroom).mono ?_
          rintro e w4 ⟨v4, v5, rfl, hr4, hr5, hb4⟩
          rw [HN.out] at hr4 hr5
          rw [HL.out] at hr4
          rw [HL2.out] at hr5
          rw [HN.out]
          obtain ⟨a4, ca4, rfl⟩ := hr4.form
          obtain ⟨a5, ca5, rfl⟩ := hr5.form
          have G1 := (GO.kept0 (Kept.of_below hb4 none0)).swap
          have GA := G1.setA hr4 sh2
          have GB := GA.swap.setA (G1.carryA hr5 (.slice a4 L.length ca4) sh2) sh
          have G2 := GB.kept0 (((Kept.refl none0 _).alloc (.cells #[.slice a4 L.length ca4, .int .i64 other, .bool sh2] TR)).alloc (.cells #[.slice a5 L2.length ca5, .int .i64 room, .bool sh] TR))
          have bO4 := bO.below hb4 (by simp)
          have cx := bO4.cell 1
          have zo := bO4.lt
          have no : ¬ wr.heap.size = qa := by omega
          have no2 : ¬ wr.heap.size = qb := by omega
          have nab := G.ne
          simp only [List.getElem?_toArray, List.getElem?_cons_zero, List.getElem?_cons_succ] at cx
          clear x0 x1 x2 f0 f1 f2 zx y0 y1 y2 g0 g1 g2 zy
          obtain ⟨⟨x0, x1, x2⟩, ⟨f0, f1, f2⟩, zx⟩ := G1.swap.cells
          obtain ⟨⟨y0, y1, y2⟩, ⟨g0, g1, g2⟩, zy⟩ := G1.swap.swap.cells
          go_wp2_with fail
          refine (move1 x G2.two.swap HN.out).mono ?_
          rintro e w5 ⟨rfl, t5, k5⟩
          rw [HL.out, HL2.out] at t5
          have G3 := (G2.swap.turn k5 t5).swap
          clear cx zo no no2 nab
          clear x0 x1 x2 f0 f1 f2 zx y0 y1 y2 g0 g1 g2 zy
          obtain ⟨⟨x0, x1, x2⟩, ⟨f0, f1, f2⟩, zx⟩ := G3.cells
          obtain ⟨⟨y0, y1, y2⟩, ⟨g0, g1, g2⟩, zy⟩ := G3.swap.cells
          go_wp2_with fail
          refine (same_any _ G3.two.s1).mono ?_
          rintro e w7 ⟨rfl, k7⟩
          have G4 := G3.kept0 k7
          clear x0 x1 x2 f0 f1 f2 zx y0 y1 y2 g0 g1 g2 zy
          obtain ⟨⟨x0, x1, x2⟩, ⟨f0, f1, f2⟩, zx⟩ := G4.cells
          obtain ⟨⟨y0, y1, y2⟩, ⟨g0, g1, g2⟩, zy⟩ := G4.swap.cells
          go_wp2_with fail
          refine (same_any _ G4.two.s2).mono ?_
          rintro e w8 ⟨rfl, k8⟩
          have G5 := G4.kept0 k8
          clear x0 x1 x2 f0 f1 f2 zx y0 y1 y2 g0 g1 g2 zy
          go_wp2_with fail
          go_roundg (n - (k + 1))
          case measure => have := HK.out; omega
          case rel => exact ⟨k + 1, _, _, _, _, _, _, _, _, by have := HK.out; omega, by go_num, G5⟩
      · as_aux_lemma =>
          have G3 := GO
          clear x0 x1 x2 f0 f1 f2 zx y0 y1 y2 g0 g1 g2 zy
          obtain ⟨⟨x0, x1, x2⟩, ⟨f0, f1, f2⟩, zx⟩ := G3.cells
          obtain ⟨⟨y0, y1, y2⟩, ⟨g0, g1, g2⟩, zy⟩ := G3.swap.cells
          go_wp2_with fail
          refine (same_any _ G3.two.s1).mono ?_
          rintro e w7 ⟨rfl, k7⟩
          have G4 := G3.kept0 k7
          clear x0 x1 x2 f0 f1 f2 zx y0 y1 y2 g0 g1 g2 zy
          obtain ⟨⟨x0, x1, x2⟩, ⟨f0, f1, f2⟩, zx⟩ := G4.cells
          obtain ⟨⟨y0, y1, y2⟩, ⟨g0, g1, g2⟩, zy⟩ := G4.swap.cells
          go_wp2_with fail
          refine (same_any _ G4.two.s2).mono ?_
          rintro e w8 ⟨rfl, k8⟩
          have G5 := G4.kept0 k8
          clear x0 x1 x2 f0 f1 f2 zx y0 y1 y2 g0 g1 g2 zy
          go_wp2_with fail
          go_roundg (n - (k + 1))
          case measure => have := HK.out; omega
          case rel => exact ⟨k + 1, _, _, _, _, _, _, _, _, by have := HK.out; omega, by go_num, G5⟩
    · as_aux_lemma =>
        have hex : ¬ (k : Int) < n ∨ (k : Int) < n ∧ ¬ (k : Int) < 2000 := by omega
        have hf1 : fewer (room : Int) l.length = l.length := by have := G.two.m1; unfold fewer; omega
        have hf2 : fewer (other : Int) l2.length = l2.length := by have := G.two.m2; unfold fewer; omega
        have ht1 : l.take l.length = l := List.take_length
        have ht2 : l2.take l2.length = l2 := List.take_length
        have hdrainA : ∀ Y, Kept none0 wr Y → Calls Try.prog 17 #[.pointer (some ⟨p, 0, none⟩), .int .i64 room] Y fun e w' => ∃ a5 c5, e = .returned (.slice a5 l.length c5) ∧ w'.ownsRow Y.heap.size 3 1 (.slice a5 l.length c5) l.length (iv l) ∧ Game w w' p ch room p2 c2 other qa qb (l.drop l.length) sh l2 sh2 (.slice a l.length ca) l sh (.slice a2 l2.length ca2) l2 sh2 := fun Y kY => by
          have GY := G.kept0 kY
          refine (drain1 (room : Int) GY.two hf1).mono ?_
          rintro e w' ⟨a5, c5, rfl, ho, t, kk⟩
          rw [ht1] at ho
          exact ⟨a5, c5, rfl, ho, GY.turn kk t⟩
        have hdrainB : ∀ (ll : List Int) (Y : World), Game w Y p ch room p2 c2 other qa qb ll sh l2 sh2 (.slice a l.length ca) l sh (.slice a2 l2.length ca2) l2 sh2 → Calls Try.prog 17 #[.pointer (some ⟨p2, 0, none⟩), .int .i64 other] Y fun e w' => ∃ a5 c5, e = .returned (.slice a5 l2.length c5) ∧ w'.ownsRow Y.heap.size 3 1 (.slice a5 l2.length c5) l2.length (iv l2) ∧ Game w w' p ch room p2 c2 other qa qb ll sh (l2.drop l2.length) sh2 (.slice a l.length ca) l sh (.slice a2 l2.length ca2) l2 sh2 := fun ll Y GY => by
          refine (drain1 (other : Int) GY.two.swap hf2).mono ?_
          rintro e w' ⟨a5, c5, rfl, ho, t, kk⟩
          rw [ht2] at ho
          exact ⟨a5, c5, rfl, ho, (GY.swap.turn kk t).swap⟩
        clear hlt hf1 hf2 ht1 ht2
        rcases hex with h1 | ⟨h1, h2⟩
        all_goals as_aux_lemma =>
          go_wp2_with fail
          go_region_with (first
            | (go_at_call 17; first
              | (have hh := G5; clear hh; refine (hdrainB _ _ G5).mono ?_; rintro e w6 ⟨a6, c6, rfl, ho6, G6⟩; have HO6 := Lib.hid ho6; clear ho6; obtain ⟨⟨s0, s1, s2⟩, _, zs⟩ := G6.swap.cells)
              | (refine (hdrainA _ (by repeat (first | exact Kept.refl _ _ | refine Kept.drew ?_ | refine Kept.alloc ?_ _))).mono ?_; rintro e w4 ⟨a5, c5, rfl, ho5, G4⟩; have HO5 := Lib.hid ho5; clear ho5; obtain ⟨⟨p0, p1, p2'⟩, _, zp⟩ := G4.cells))
            | (go_at_call 16; first
              | (have hh := G6; clear hh; refine (samei_any _ (by omega) (own_readsI HO6.out rfl) (G6.rb.reads rfl)).mono ?_; rintro e w7 ⟨rfl, k7⟩; have G7 := G6.kept0 k7)
              | (refine (samei_any _ (by omega) (own_readsI HO5.out rfl) (G4.ra.reads rfl)).mono ?_; rintro e w5 ⟨rfl, k5⟩; have G5 := G4.kept0 k5; obtain ⟨⟨r0, r1, r2⟩, _, zr⟩ := G5.swap.cells))
            | (go_at_call 10; refine (known_any _).mono ?_; rintro e w8 ⟨rfl, hb8⟩))
          all_goals as_aux_lemma =>
            have hfin := G7.two.below.trans (hb8.mono G7.two.below.size)
            have HFIN := Lib.hid hfin
            clear hfin
            go_wp2_with fail
            go_ret
            exact ⟨rfl, HFIN.out⟩
end Go.Proofs.Ytolfldjiejeboaa.Sp
namespace Go.Proofs.Ytolfldjiejeboaa.SpoolPlays
open Go.RowKit Sp
set_option linter.unusedVariables false
theorem law (room : Int) (h1 : -9223372036854775808 ≤ room) (h2 : room ≤ 9223372036854775807) (other : Int) (h3 : -9223372036854775808 ≤ other) (h4 : other ≤ 9223372036854775807) (b : Option Addr) (n c : Nat) (hn : n ≤ 9223372036854775807) (r : (Nat → Int) × (Nat → Int)) (w : World) (hr : ReadsO w w.heap.size b n r.1 r.2) :
    Calls Try.prog 3 #[.int .i64 room, .int .i64 other, .slice b n c] w fun e w' => e = .returned (.bool true) ∧ Below w.heap.size w w' := by
  by_cases hb : ¬ (0 ≤ room ∧ room ≤ 1024) ∨ ¬ (0 ≤ other ∧ other ≤ 1024)
  · exact plays_bad room other hb b n c w
  · obtain ⟨ro, rfl⟩ : ∃ r : Nat, room = r := ⟨room.toNat, by omega⟩
    obtain ⟨o, rfl⟩ : ∃ o : Nat, other = o := ⟨other.toNat, by omega⟩
    exact plays_law ro o (by omega) (by omega) b n c hn r.1 r.2 w hr
end Go.Proofs.Ytolfldjiejeboaa.SpoolPlays
