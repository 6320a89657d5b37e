/-
  CONTRACTS of the document's own spool: what comes first is moved from one to another one.
-/
import Derived.Test.YtolfldjiejeboaaSpRefB
import Derived.BigRegion
import Derived.Deep.RegionWith
namespace Go.Proofs.Ytolfldjiejeboaa.Sp
open Go.RowKit Go.Conc Mm Ln
set_option linter.unusedVariables false
set_option linter.unusedSimpArgs false
theorem belowA {w2 w3 : World} (hb : Below w2.drew.heap.size w2.drew w3) : Below w2.heap.size w2 w3 := ⟨hb.os, hb.tape, hb.output, hb.size, hb.block⟩
theorem belowB {w2 w3 : World} {o : Obj} (hb : Below (w2.alloc o).drew.heap.size (w2.alloc o).drew w3) : Below w2.heap.size w2 w3 :=
  ((Below.refl _ w2).alloc (Nat.le_refl _) o).trans ((⟨hb.os, hb.tape, hb.output, hb.size, hb.block⟩ : Below (w2.alloc o).heap.size (w2.alloc o) w3).mono (by simp))
theorem rl_box {w : World} {z : Nat} {zs : Array Value} {v : Value} {l : List Int} (hz : Box w z TR zs) (h : RL w v l) (u0 u1 u2 : Value) : RL (((w.setCell ⟨z, 0, none⟩ u0).setCell ⟨z, 1, none⟩ u1).setCell ⟨z, 2, none⟩ u2) v l :=
  h.keptX (X := at0 z) ((((Kept.refl (at0 z) w).setCell (a := ⟨z, 0, none⟩) (fun _ => rfl) u0).setCell (a := ⟨z, 1, none⟩) (fun _ => rfl) u1).setCell (a := ⟨z, 2, none⟩) (fun _ => rfl) u2)
    (fun g cs e hc => by subst e; exact absurd (Box.same hc hz) (by decide))
theorem rl_two {w w' : World} {g h : Nat} {xs ys : Array Value} {v : Value} {l : List Int} (hx : Box w g TR xs) (hy : Box w h TR ys) (k : Kept (at2 g h) w w') (r : RL w v l) : RL w' v l :=
  r.keptX k (fun i cs e hc => by
    rcases e with rfl | rfl
    · exact absurd (Box.same hc hx) (by decide)
    · exact absurd (Box.same hc hy) (by decide))
theorem kept3 {w w' : World} {X : Nat → Prop} (k : Kept X w w') (g : Nat) (hg : X g) (u0 u1 u2 : Value) : Kept X w (((w'.setCell ⟨g, 0, none⟩ u0).setCell ⟨g, 1, none⟩ u1).setCell ⟨g, 2, none⟩ u2) :=
  ((k.setCell (a := ⟨g, 0, none⟩) (fun _ => hg) u0).setCell (a := ⟨g, 1, none⟩) (fun _ => hg) u1).setCell (a := ⟨g, 2, none⟩) (fun _ => hg) u2
theorem put3 {w : World} {g : Nat} {y0 y1 y2 : Value} (h : Box w g TR #[y0, y1, y2]) (u0 u1 u2 : Value) : Box (((w.setCell ⟨g, 0, none⟩ u0).setCell ⟨g, 1, none⟩ u1).setCell ⟨g, 2, none⟩ u2) g TR #[u0, u1, u2] :=
  ((h.put 0 u0).put 1 u1).put 2 u2
theorem far3 {w : World} {g h : Nat} {t : TypeId} {cs : Array Value} (hb : Box w h t cs) (hgh : g ≠ h) (u0 u1 u2 : Value) : Box (((w.setCell ⟨g, 0, none⟩ u0).setCell ⟨g, 1, none⟩ u1).setCell ⟨g, 2, none⟩ u2) h t cs :=
  ((hb.far (a := ⟨g, 0, none⟩) hgh u0).far (a := ⟨g, 1, none⟩) hgh u1).far (a := ⟨g, 2, none⟩) hgh u2
theorem store6 {w W : World} {g h : Nat} {x0 x1 x2 y0 y1 y2 : Value} (hgh : g ≠ h) (hX : Box W g TR #[x0, x1, x2]) (hY : Box W h TR #[y0, y1, y2]) (u0 u1 u2 v0 v1 v2 : Value) (hb : Below w.heap.size w W) (hg : w.heap.size ≤ g) (hh : w.heap.size ≤ h) :
    ∃ W', ((((((W.setCell ⟨g, 0, none⟩ u0).setCell ⟨g, 1, none⟩ u1).setCell ⟨g, 2, none⟩ u2).setCell ⟨h, 0, none⟩ v0).setCell ⟨h, 1, none⟩ v1).setCell ⟨h, 2, none⟩ v2) = W' ∧ Box W' g TR #[u0, u1, u2] ∧ Box W' h TR #[v0, v1, v2] ∧ (∀ v l, RL W v l → RL W' v l) ∧ Below w.heap.size w W' := by
  have k := kept3 (kept3 (Kept.refl (at2 g h) W) g (.inl rfl) u0 u1 u2) h (.inr rfl) v0 v1 v2
  refine ⟨_, rfl, far3 (put3 hX u0 u1 u2) (fun e => hgh e.symm) v0 v1 v2, put3 (far3 hY hgh u0 u1 u2) v0 v1 v2, fun v l r => rl_two hX hY k r, hb.trans (k.below hb.size fun i hi => ?_)⟩
  rcases hi with rfl | rfl <;> assumption
/-- Where a region ends in which the document's Put is called. -/
def RegQ (T : Nat → Option Addr → Nat → Array Value) (m room2 : Nat) (shut2 : Bool) (L : List Int) (wr : World) : Exit → Act → World → Prop
  | .normal, a', W => ∃ (z : Nat) (b3 : Option Addr) (cb3 : Nat), a' = { tmps := T z b3 cb3, defers := [] } ∧ Box W z TR #[.slice b3 m cb3, .int .i64 room2, .bool shut2] ∧ RL W (.slice b3 m cb3) L ∧ Below wr.heap.size wr W ∧ wr.heap.size ≤ z
  | _, _, _ => False
/-- What a call of the document's Move ends with. -/
def RMovePost (N : Nat) (l l2 : List Int) (room room2 : Nat) (shut shut2 : Bool) (w : World) (e : Ending) (w' : World) : Prop :=
  ∃ v v2, e = .returned (.tuple #[refV v room shut, refV v2 room2 shut2, .int .i64 N]) ∧ RL w' v (l.drop N) ∧ RL w' v2 (l2 ++ l.take N) ∧ Below w.heap.size w w'
theorem rmoveEnd {N k : Nat} {l l2 : List Int} {room room2 : Nat} {shut shut2 : Bool} {w w' : World} {v v2 : Value} (hN : N = k) (h1 : RL w' v (l.drop k)) (h2 : RL w' v2 (l2 ++ l.take k)) (hb : Below w.heap.size w w') :
    RMovePost N l l2 room room2 shut shut2 w (.returned (.tuple #[refV v room shut, refV v2 room2 shut2, .int .i64 k])) w' := by
  subst hN
  exact ⟨v, v2, rfl, h1, h2, hb⟩
theorem take_stepI {l : List Int} {k : Nat} {v : Int} {rest : List Int} (hd : l.drop k = v :: rest) : l.drop (k + 1) = rest ∧ l.take (k + 1) = l.take k ++ [v] ∧ k < l.length := by
  have hkl : k < l.length := by
    have := congrArg List.length hd
    simp at this
    omega
  refine ⟨by rw [← List.tail_drop, hd]; rfl, ?_, hkl⟩
  rw [List.take_add_one]
  have h0 : l[k]? = some v := by
    have := congrArg List.head? hd
    rw [List.head?_drop] at this
    simpa using this
  rw [h0]; rfl
/-- What holds ahead of each round of the document's Move. -/
def RMoveI (N : Nat) (l l2 : List Int) (room room2 : Nat) (shut shut2 : Bool) (w : World) (d : Nat) (i : Value) (wr : World) : Prop :=
  ∃ (k : Nat) (u u2 : Value), k + d = N ∧ i = .int .i64 k ∧ Box wr w.heap.size TR #[u, .int .i64 room, .bool shut] ∧ RL wr u (l.drop k) ∧ Box wr (w.heap.size + 1) TR #[u2, .int .i64 room2, .bool shut2] ∧ RL wr u2 (l2 ++ l.take k) ∧
    Box wr (w.heap.size + 2) TR #[.slice none 0 0, .int .i64 0, .bool false] ∧ Box wr (w.heap.size + 3) TR #[.slice none 0 0, .int .i64 0, .bool false] ∧ Below w.heap.size w wr
theorem roundEnd {N k d : Nat} {l l2 : List Int} {room room2 : Nat} {shut shut2 : Bool} {w W : World} {i a0 b0 b1 b2 u u2 : Value} (h0 : Box W w.heap.size TR #[a0, .int .i64 room, .bool shut]) (h1 : Box W (w.heap.size + 1) TR #[b0, b1, b2]) (h2 : Box W (w.heap.size + 2) TR #[.slice none 0 0, .int .i64 0, .bool false]) (h3 : Box W (w.heap.size + 3) TR #[.slice none 0 0, .int .i64 0, .bool false])
    (hk : (k + 1) + d = N) (hi : i = .int .i64 ((k + 1 : Nat) : Int)) (hu : RL W u (l.drop (k + 1))) (hu2 : RL W u2 (l2 ++ l.take (k + 1))) (hb : Below w.heap.size w W) :
    RMoveI N l l2 room room2 shut shut2 w d i ((((W.setCell ⟨w.heap.size + 1, 0, none⟩ u2).setCell ⟨w.heap.size + 1, 1, none⟩ (.int .i64 room2)).setCell ⟨w.heap.size + 1, 2, none⟩ (.bool shut2)).setCell ⟨w.heap.size, 0, none⟩ u) := by
  have kW := (kept3 (Kept.refl (at2 (w.heap.size + 1) w.heap.size) W) (w.heap.size + 1) (.inl rfl) u2 (.int .i64 room2) (.bool shut2)).setCell (a := ⟨w.heap.size, 0, none⟩) (fun _ => .inr rfl) u
  refine ⟨k + 1, u, u2, hk, hi, (far3 h0 (by omega) _ _ _).put 0 u, rl_two h1 h0 kW hu, (put3 h1 _ _ _).far (a := ⟨w.heap.size, 0, none⟩) (by show w.heap.size ≠ _; omega) u, rl_two h1 h0 kW hu2, (far3 h2 (by omega) _ _ _).far (a := ⟨w.heap.size, 0, none⟩) (by show w.heap.size ≠ _; omega) u, (far3 h3 (by omega) _ _ _).far (a := ⟨w.heap.size, 0, none⟩) (by show w.heap.size ≠ _; omega) u, hb.trans (kW.below hb.size fun i hi => ?_)⟩
  rcases hi with rfl | rfl <;> omega
set_option maxRecDepth 100000 in
set_option maxHeartbeats 8000000 in
theorem rmove_any {v v2 : Value} {l l2 : List Int} {room room2 : Nat} {shut shut2 : Bool} (most : Int) (w : World) (hv : RL w v l) (hv2 : RL w v2 l2) (hlen : l.length ≤ 1024) (hlen2 : l2.length ≤ room2) (hroom2 : room2 ≤ 1024) :
    Calls Try.prog 19 #[refV v room shut, refV v2 room2 shut2, .int .i64 most] w (RMovePost (moveN most l.length room2 l2.length shut2) l l2 room room2 shut shut2 w) := by
  obtain ⟨N, hN⟩ : ∃ N, moveN most l.length room2 l2.length shut2 = N := ⟨_, rfl⟩
  rw [hN]
  have HN := Lib.hid hN
  have hNl : N ≤ l.length := by rw [← hN]; unfold moveN; omega
  have hNr : l2.length + N ≤ room2 := by
    have : N ≤ room2 - l2.length := by rw [← hN]; unfold moveN; split <;> omega
    omega
  clear hN
  obtain ⟨a, c, e1⟩ : ∃ a c, v = .slice a l.length c := by obtain ⟨a, c, h, _⟩ := hv; exact ⟨a, c, h⟩
  obtain ⟨a2, c2, e2⟩ : ∃ a c, v2 = .slice a l2.length c := by obtain ⟨a, c, h, _⟩ := hv2; exact ⟨a, c, h⟩
  subst e1 e2
  have HV := Lib.hid hv
  have HV2 := Lib.hid hv2
  clear hv hv2
  go_enter Try.func19, Try.ntmps19
  go_wp2_with fail
  go_loopg [9] N (fun d i wr => RMoveI N l l2 room room2 shut shut2 w d i wr)
  case atStart =>
    have b1 := (((Below.refl w.heap.size w).alloc (Nat.le_refl _) (.cells #[.slice a l.length c, .int .i64 room, .bool shut] TR)).alloc (by simp) (.cells #[.slice a2 l2.length c2, .int .i64 room2, .bool shut2] TR)).alloc (by simp only [World.size_alloc]; omega) (.cells #[.slice none 0 0, .int .i64 0, .bool false] TR)
    have b2 := b1.alloc (by simp only [World.size_alloc]; omega) (.cells #[.slice none 0 0, .int .i64 0, .bool false] TR)
    have q1 := Box.new (w.alloc (.cells #[.slice a l.length c, .int .i64 room, .bool shut] TR)) #[.slice a2 l2.length c2, .int .i64 room2, .bool shut2] TR
    have q2 := Box.new ((w.alloc (.cells #[.slice a l.length c, .int .i64 room, .bool shut] TR)).alloc (.cells #[.slice a2 l2.length c2, .int .i64 room2, .bool shut2] TR)) #[.slice none 0 0, .int .i64 0, .bool false] TR
    have q3 := Box.new (((w.alloc (.cells #[.slice a l.length c, .int .i64 room, .bool shut] TR)).alloc (.cells #[.slice a2 l2.length c2, .int .i64 room2, .bool shut2] TR)).alloc (.cells #[.slice none 0 0, .int .i64 0, .bool false] TR)) #[.slice none 0 0, .int .i64 0, .bool false] TR
    simp only [World.size_alloc] at q1 q2 q3
    exact ⟨0, _, _, by omega, rfl, (((Box.new w _ TR).alloc _).alloc _).alloc _, by simpa using HV.out.below b2, (q1.alloc _).alloc _, by simpa using HV2.out.below b2, q2.alloc _, q3, b2⟩
  case round =>
    obtain ⟨k, u, u2, hk, rfl, hx, hu, hx2, hu2, hy, hy2, hbw⟩ := hrel
    have HK := Lib.hid hk
    have hkN : k ≤ N := by omega
    have HX := Lib.hid hx
    have HX2 := Lib.hid hx2
    have HY := Lib.hid hy
    have HY2 := Lib.hid hy2
    have HU := Lib.hid hu
    have HU2 := Lib.hid hu2
    have HBW := Lib.hid hbw
    have zw := hbw.size
    have zy := hy2.lt
    have z0 : w.heap.size < wr.heap.size := by omega
    have z1 : w.heap.size + 1 < wr.heap.size := by omega
    have x0 := hx.cell 0
    have x1 := hx.cell 1
    have x2 := hx.cell 2
    have y0 := hx2.cell 0
    have y1 := hx2.cell 1
    have y2 := hx2.cell 2
    have hl2 : (l2 ++ l.take k).length = l2.length + k := by rw [List.length_append, List.length_take]; omega
    obtain ⟨b, cb, e1⟩ : ∃ b cb, u = .slice b (l.length - k) cb := by obtain ⟨a, c, h, _⟩ := hu; exact ⟨a, c, by rw [h, List.length_drop]⟩
    obtain ⟨b2, cb2, e2⟩ : ∃ b cb, u2 = .slice b (l2.length + k) cb := by obtain ⟨a, c, h, _⟩ := hu2; exact ⟨a, c, by rw [h, hl2]⟩
    subst e1 e2
    have HL2 := Lib.hid hl2
    simp only [List.getElem?_toArray, List.getElem?_cons_zero, List.getElem?_cons_succ] at x0 x1 x2 y0 y1 y2
    clear hk hx hx2 hy hy2 hu hu2 hbw hl2
    by_cases hgo : (k : Int) < most ∧ k < l.length
    · obtain ⟨h1, h2⟩ := hgo
      have h3 : (0 : Int) < ((l.length - k : Nat) : Int) := by omega
      obtain ⟨y, rest, hd⟩ : ∃ y rest, l.drop k = y :: rest := by
        cases h : l.drop k with
        | nil => have := congrArg List.length h; simp at this; omega
        | cons y rest => exact ⟨y, rest, rfl⟩
      have hu := HU.out
      rw [hd] at hu
      obtain ⟨b', c', e, g1, g2, g3, g4⟩ := hu
      simp only [Value.slice.injEq] at e
      obtain ⟨rfl, g0, rfl⟩ := e
      obtain ⟨ad, rfl, had, c0⟩ := g3 0 (by simp)
      replace c0 : wr.cell? (ad.add 0) = some (.int .i64 y) := c0
      have c1 : wr.cell? ad = some (.int .i64 y) := by simpa [Addr.add] using c0
      have HD := Lib.hid hd
      have had2 := had
      have hb0 : 0 < l.length - k := by omega
      clear c0 hd g3 g4 g0 g1
      have hput : ∀ (X : World) (p : Bool), (!shut2 && decide ((l2 ++ l.take k).length < room2)) = p → Kept none0 wr X → Calls Try.prog 11 #[refV (.slice b2 (l2.length + k) cb2) room2 shut2, .int .i64 y] X (RPutPost (.slice b2 (l2.length + k) cb2) (l2 ++ l.take k) room2 shut2 p y X) :=
        fun X p hp kx => rput_any y X (HU2.out.kept kx) (by rw [HL2.out]; omega) hroom2 hp
      obtain ⟨p, hp⟩ : ∃ p, (!shut2 && decide ((l2 ++ l.take k).length < room2)) = p := ⟨_, rfl⟩
      obtain ⟨L, hLL⟩ : ∃ L, (if p = true then (l2 ++ l.take k) ++ [y] else l2 ++ l.take k) = L := ⟨_, rfl⟩
      obtain ⟨m, hm⟩ : ∃ m, L.length = m := ⟨_, rfl⟩
      have HLL := Lib.hid hLL
      have HP := Lib.hid hp
      have HM := Lib.hid hm
      clear hp hm hLL
      go_wp2_with fail
      refine wp_mono (Q := RegQ (fun z b3 cb3 => #[refV (.slice a l.length c) room shut, refV (.slice a2 l2.length c2) room2 shut2, .int .i64 most, .pointer (some ⟨w.heap.size, 0, none⟩), .pointer (some ⟨w.heap.size + 1, 0, none⟩), undef, .pointer (some ⟨w.heap.size + 1 + 1, 0, none⟩), .pointer (some ⟨w.heap.size + 1 + 1 + 1, 0, none⟩), u8, .int .i64 k, .pointer (some ⟨z, 0, none⟩), .bool p, .int .i64 k, .int .i64 most, .bool true, .bool true, .pointer (some ⟨w.heap.size, 0, none⟩), .slice (some ad) (l.length - k) cb, .int .i64 (l.length - k : Nat), .bool true, .bool true, .tuple #[refV (.slice b3 m cb3) room2 shut2, .bool p], .agg #[.slice b2 (l2.length + k) cb2, .int .i64 room2, .bool shut2], .pointer (some ⟨w.heap.size, 0, none⟩), .slice (some ad) (l.length - k) cb, .pointer (some ad), .int .i64 y, .tuple #[refV (.slice b3 m cb3) room2 shut2, .bool p], refV (.slice b3 m cb3) room2 shut2, .bool p, u30, u31, u32, u33, u34, u35, u36, u37, u38, u39, u40, u41, undef, undef, undef]) m room2 shut2 L wr) ?_ ?_
      · go_region_with (go_at_call 11; refine (hput _ p HP.out (by repeat (first | exact Kept.refl _ _ | refine Kept.drew ?_ | refine Kept.alloc ?_ _))).mono ?_; rintro e w3 ⟨u3, rfl, hrl, hb⟩; rw [HLL.out] at hrl; (obtain ⟨b3, cb3, e3⟩ : ∃ a c, u3 = .slice a m c := by obtain ⟨a, c, h, _⟩ := hrl; exact ⟨a, c, by rw [h, HM.out]⟩); subst e3; have HRL := Lib.hid hrl; clear hrl; first | (have hz := (Box.new wr #[.slice none 0 0, .int .i64 0, .bool false] TR).drew.below hb (by simp); have n0 := hz.cell 0; have n1 := hz.cell 1; have n2 := hz.cell 2; have m0 := hz.free 0; have m1 := hz.free 1; have m2 := hz.free 2; have zz := hz.lt; simp only [List.getElem?_toArray, List.getElem?_cons_zero, List.getElem?_cons_succ] at n0 n1 n2; have HZ := Lib.hid hz; clear hz; have HB3 := Lib.hid (belowB hb); clear hb) | (have HB3 := Lib.hid (belowA hb); clear hb))
        all_goals first
          | exact ⟨_, b3, cb3, rfl, Box.new w3 _ TR, HRL.out.kept ((Kept.refl _ w3).alloc _), HB3.out.alloc HB3.out.size _, HB3.out.size⟩
          | exact ⟨_, b3, cb3, rfl, ((HZ.out.put 0 (.slice b3 m cb3)).put 1 (.int .i64 room2)).put 2 (.bool shut2), rl_box HZ.out HRL.out _ _ _, ((HB3.out.setCell (p := ⟨wr.heap.size, 0, none⟩) (Nat.le_refl _) _).setCell (p := ⟨wr.heap.size, 1, none⟩) (Nat.le_refl _) _).setCell (p := ⟨wr.heap.size, 2, none⟩) (Nat.le_refl _) _, Nat.le_refl _⟩
      · intro e a' W hQ
        cases e <;> try exact hQ.elim
        obtain ⟨z, b3, cb3, rfl, hZ, hRL, hB, hzz⟩ := hQ
        dsimp only
        have X0 := HX.out.below hB z0
        have X1 := HX2.out.below hB z1
        have X2 := HY.out.below hB (by omega)
        have X3 := HY2.out.below hB zy
        have HBW2 := Lib.hid (HBW.out.trans (hB.mono zw))
        have HU3 := Lib.hid (HU.out.below hB)
        have HU4 := Lib.hid (HU2.out.below hB)
        have HRL := Lib.hid hRL
        have Z := hZ
        have zW := hB.size
        have zz := hZ.lt
        have c2 := (hB.cell had2).trans c1
        clear x0 x1 x2 y0 y1 y2 hput hRL hB hZ c1
        have x0 := X0.cell 0
        have x1 := X0.cell 1
        have x2 := X0.cell 2
        have f0 := X0.free 0
        have y0 := X1.cell 0
        have y1 := X1.cell 1
        have y2 := X1.cell 2
        have g0 := X1.free 0
        have g1 := X1.free 1
        have g2 := X1.free 2
        have n0 := Z.cell 0
        have n1 := Z.cell 1
        have n2 := Z.cell 2
        simp only [List.getElem?_toArray, List.getElem?_cons_zero, List.getElem?_cons_succ] at x0 x1 x2 y0 y1 y2 n0 n1 n2
        have HX0 := Lib.hid X0
        have HX1 := Lib.hid X1
        have HX2' := Lib.hid X2
        have HX3 := Lib.hid X3
        have q0 := X2.cell 0
        have q1 := X2.cell 1
        have q2 := X2.cell 2
        have q3 := X2.free 0
        have q4 := X2.free 1
        have q5 := X2.free 2
        have r0 := X3.cell 0
        have r1 := X3.cell 1
        have r2 := X3.cell 2
        have r3 := X3.free 0
        have r4 := X3.free 1
        have r5 := X3.free 2
        simp only [List.getElem?_toArray, List.getElem?_cons_zero, List.getElem?_cons_succ] at q0 q1 q2 r0 r1 r2
        clear X0 X1 X2 X3 Z
        cases p with
        | false =>
          have hNk : N = k := by
            have h5 := HP.out
            have h6 : shut2 = true ∨ room2 ≤ l2.length + k := by
              rw [HL2.out] at h5
              cases shut2 <;> simp at h5 ⊢
              omega
            refine Nat.le_antisymm ?_ hkN
            rw [← HN.out]
            unfold moveN
            rcases h6 with h6 | h6
            · simp [h6]
            · split <;> omega
          have HNK := Lib.hid hNk
          clear hNk
          go_wp2_with fail
          go_region
          obtain ⟨W', hW', b1, b2', hrl, hbw⟩ := store6 (by omega) HX2'.out HX3.out (.slice (some ad) (l.length - k) cb) (.int .i64 room) (.bool shut) (.slice b2 (l2.length + k) cb2) (.int .i64 room2) (.bool shut2) HBW2.out (by omega) (by omega)
          have HW := Lib.hid hW'
          have R1 := Lib.hid (hrl _ _ HU3.out)
          have R2 := Lib.hid (hrl _ _ HU4.out)
          have HB := Lib.hid hbw
          have o0 := b1.cell 0
          have o1 := b1.cell 1
          have o2 := b1.cell 2
          have o3 := b2'.cell 0
          have o4 := b2'.cell 1
          have o5 := b2'.cell 2
          simp only [List.getElem?_toArray, List.getElem?_cons_zero, List.getElem?_cons_succ] at o0 o1 o2 o3 o4 o5
          clear hW' b1 b2' hrl hbw x0 x1 x2 y0 y1 y2 n0 n1 n2 q0 q1 q2 r0 r1 r2
          have e3 : ((((((W.setCell ⟨w.heap.size + 1 + 1, 0, none⟩ (.slice (some ad) (l.length - k) cb)).setCell ⟨w.heap.size + 1 + 1, 1, none⟩ (.int .i64 room)).setCell ⟨w.heap.size + 1 + 1, 2, none⟩ (.bool shut)).setCell ⟨w.heap.size + 1 + 1 + 1, 0, none⟩ (.slice b2 (l2.length + k) cb2)).setCell ⟨w.heap.size + 1 + 1 + 1, 1, none⟩ (.int .i64 room2)).setCell ⟨w.heap.size + 1 + 1 + 1, 2, none⟩ (.bool shut2)) = W' := HW.out
          rw [e3]
          clear e3
          go_wp2_with fail
          refine bodyPost_ret (v := .tuple #[refV (.slice (some ad) (l.length - k) cb) room shut, refV (.slice b2 (l2.length + k) cb2) room2 shut2, .int .i64 k]) (by simp [results, Try.results19, go_sem, o0, o1, o2, o3, o4, o5]) rfl ?_
          exact rmoveEnd HNK.out (R1.out.kept (Kept.refl _ _).drew) (R2.out.kept (Kept.refl _ _).drew) HB.out.drew
        | true =>
          have h5 := HP.out
          rw [HL2.out] at h5
          have h6 : shut2 = false ∧ l2.length + k < room2 := by cases shut2 <;> simp_all
          have hk2 : k + 1 ≤ N := by
            rw [← HN.out]
            unfold moveN
            rw [if_neg (by simp [h6.1])]
            omega
          obtain ⟨hr1, ht1, _⟩ := take_stepI HD.out
          have HR1 := Lib.hid hr1
          have hLL2 : L = l2 ++ l.take (k + 1) := by rw [ht1, ← List.append_assoc, ← HLL.out, if_pos rfl]
          have HL3 := Lib.hid hLL2
          have HLC : Hid ((l.drop k).length ≤ cb) := by
            obtain ⟨a', c', e, g1, _⟩ := HU3.out
            simp only [Value.slice.injEq] at e
            rw [e.2.2]
            exact g1
          have hdl : (l.drop k).length = l.length - k := List.length_drop
          have HDL := Lib.hid hdl
          clear h5 h6 hr1 ht1 hLL2 hdl
          go_wp2_with fail
          · have hcb : cb = 1 := by omega
            have hu : RL W (.slice (some ad) (l.length - k - 1) 0) (l.drop (k + 1)) := by
              have h1 := HLC.out
              rw [HDL.out, hcb] at h1
              have h2 : l.drop (k + 1) = [] := List.drop_eq_nil_of_le (by omega)
              rw [h2, show l.length - k - 1 = 0 by omega]
              exact RL.nil _ _ (by omega)
            have HU5 := Lib.hid hu
            clear hu hcb
            go_roundg (N - (k + 1))
            case measure => have := HK.out; omega
            case rel => exact roundEnd HX0.out HX1.out HX2'.out HX3.out (by have := HK.out; omega) (by go_num) HU5.out (by rw [← HL3.out]; exact HRL.out) HBW2.out
          · have hu : RL W (.slice (some ⟨ad.block, ad.off + 1, none⟩) (l.length - k - 1) (cb - 1)) (l.drop (k + 1)) := by
              have h1 := HU3.out
              rw [← HDL.out] at h1 ⊢
              have h2 := h1.drop (k := 1) (by rw [HDL.out]; omega)
              rw [List.drop_drop] at h2
              exact h2
            have HU5 := Lib.hid hu
            clear hu
            go_roundg (N - (k + 1))
            case measure => have := HK.out; omega
            case rel => exact roundEnd HX0.out HX1.out HX2'.out HX3.out (by have := HK.out; omega) (by go_num) HU5.out (by rw [← HL3.out]; exact HRL.out) HBW2.out
    · have hNk : N = k := by
        refine Nat.le_antisymm ?_ hkN
        rw [← HN.out]
        unfold moveN
        split <;> omega
      have HNK := Lib.hid hNk
      have q0 := HY.out.cell 0
      have q1 := HY.out.cell 1
      have q2 := HY.out.cell 2
      have q3 := HY.out.free 0
      have q4 := HY.out.free 1
      have q5 := HY.out.free 2
      have r0 := HY2.out.cell 0
      have r1 := HY2.out.cell 1
      have r2 := HY2.out.cell 2
      have r3 := HY2.out.free 0
      have r4 := HY2.out.free 1
      have r5 := HY2.out.free 2
      simp only [List.getElem?_toArray, List.getElem?_cons_zero, List.getElem?_cons_succ] at q0 q1 q2 r0 r1 r2
      have hex : ¬ (k : Int) < most ∨ (k : Int) < most ∧ ¬ 0 < l.length - k := by omega
      clear hNk hgo
      rcases hex with h1 | ⟨h1, h2⟩
      all_goals
        go_wp2_with fail
        go_region
        obtain ⟨W', hW', b1, b2', hrl, hbw⟩ := store6 (by omega) HY.out HY2.out (.slice b (l.length - k) cb) (.int .i64 room) (.bool shut) (.slice b2 (l2.length + k) cb2) (.int .i64 room2) (.bool shut2) HBW.out (by omega) (by omega)
        have HW := Lib.hid hW'
        have R1 := Lib.hid (hrl _ _ HU.out)
        have R2 := Lib.hid (hrl _ _ HU2.out)
        have HB := Lib.hid hbw
        have o0 := b1.cell 0
        have o1 := b1.cell 1
        have o2 := b1.cell 2
        have o3 := b2'.cell 0
        have o4 := b2'.cell 1
        have o5 := b2'.cell 2
        simp only [List.getElem?_toArray, List.getElem?_cons_zero, List.getElem?_cons_succ] at o0 o1 o2 o3 o4 o5
        clear hW' b1 b2' hrl hbw x0 x1 x2 y0 y1 y2 q0 q1 q2 r0 r1 r2
        have e3 : ((((((wr.setCell ⟨w.heap.size + 1 + 1, 0, none⟩ (.slice b (l.length - k) cb)).setCell ⟨w.heap.size + 1 + 1, 1, none⟩ (.int .i64 room)).setCell ⟨w.heap.size + 1 + 1, 2, none⟩ (.bool shut)).setCell ⟨w.heap.size + 1 + 1 + 1, 0, none⟩ (.slice b2 (l2.length + k) cb2)).setCell ⟨w.heap.size + 1 + 1 + 1, 1, none⟩ (.int .i64 room2)).setCell ⟨w.heap.size + 1 + 1 + 1, 2, none⟩ (.bool shut2)) = W' := HW.out
        rw [e3]
        clear e3
        go_wp2_with fail
        refine bodyPost_ret (v := .tuple #[refV (.slice b (l.length - k) cb) room shut, refV (.slice b2 (l2.length + k) cb2) room2 shut2, .int .i64 k]) (by simp [results, Try.results19, go_sem, o0, o1, o2, o3, o4, o5]) rfl ?_
        exact rmoveEnd HNK.out (R1.out.kept (Kept.refl _ _).drew) (R2.out.kept (Kept.refl _ _).drew) HB.out.drew
end Go.Proofs.Ytolfldjiejeboaa.Sp
