/-
  CONTRACTS of the document's own spool: something is put into it, taken from it.
-/
import Derived.Test.YtolfldjiejeboaaSpEq
import Derived.Test.YtolfldjiejeboaaSpTwo
namespace Go.Proofs.Ytolfldjiejeboaa.Sp
open Go.RowKit Go.Conc Mm Ln
set_option linter.unusedVariables false
set_option linter.unusedSimpArgs false
abbrev TR : TypeId := 31
abbrev refV (v : Value) (room : Nat) (shut : Bool) : Value := .agg #[v, .int .i64 room, .bool shut]
/-- A row of numbers that reads as l. -/
def RL (w : World) (v : Value) (l : List Int) : Prop := ∃ a c, v = .slice a l.length c ∧ l.length ≤ c ∧ c ≤ 9223372036854775807 ∧ ReadsV w w.heap.size a l.length (intV (fun i => l.getD i 0)) ∧ (0 < l.length → ∀ ad, a = some ad → ∃ cs, Box w ad.block 3 cs)
theorem RL.keptX {X : Nat → Prop} {w w' : World} {v : Value} {l : List Int} (h : RL w v l) (k : Kept X w w') (hX : ∀ g cs, X g → ¬ Box w g 3 cs) : RL w' v l := by
  obtain ⟨a, c, rfl, h1, h2, h3, h4⟩ := h
  have hb : ∀ ad, 0 < l.length → a = some ad → ¬ X ad.block := fun ad hl e hx => by
    obtain ⟨cs, hc⟩ := h4 hl ad e
    exact hX _ _ hx hc
  refine ⟨a, c, rfl, h1, h2, fun i hi => ?_, fun hl ad e => ?_⟩
  · obtain ⟨ad, e, g1, g2⟩ := h3 i hi
    exact ⟨ad, e, Nat.lt_of_lt_of_le g1 k.size, k.cell g2 (by rw [block_of_add]; exact hb ad (by omega) e)⟩
  · obtain ⟨cs, hc⟩ := h4 hl ad e
    exact ⟨cs, k.box hc (hb ad hl e)⟩
theorem RL.kept {w w' : World} {v : Value} {l : List Int} (h : RL w v l) (k : Kept none0 w w') : RL w' v l := h.keptX k (fun _ _ hx => hx.elim)
theorem RL.below {w w' : World} {v : Value} {l : List Int} (h : RL w v l) (k : Below w.heap.size w w') : RL w' v l := h.kept (.of_below k _)
theorem rl_own {w : World} {B : Nat} {v : Value} {l : List Int} {n : Nat} (h : w.ownsRow B 3 1 v n (iv l)) (hl : l.length = n) : RL w v l := by
  obtain ⟨a, c, rfl⟩ := own_slice h
  have hr := own_readsI h hl
  subst hl
  rcases h.2 with ⟨e, h0⟩ | ⟨g, cap, cur, e, _, _, h1, h2, _⟩
  · simp only [Value.slice.injEq] at e
    obtain ⟨rfl, h1, rfl⟩ := e
    exact ⟨none, 0, rfl, by omega, by omega, hr, fun _ ad e => by cases e⟩
  · simp only [Value.slice.injEq] at e
    obtain ⟨rfl, _, rfl⟩ := e
    exact ⟨_, c, rfl, h1, by unfold maxLen at h2; omega, hr, fun _ ad e => by
      simp only [Option.some.injEq] at e
      subst e
      exact own_block h⟩
theorem store4 {w w6 : World} {B g h n : Nat} {xs : Array Value} {y0 y1 y2 v : Value} {zs : List Value} (hgh : g ≠ h) (hX : Box w6 g TR xs) (hY : Box w6 h TR #[y0, y1, y2]) (o : w6.ownsRow B 3 1 v n zs) (u0 u1 u2 : Value) (hb : Below B w w6) (hg : B ≤ g) (hh : B ≤ h) :
    ∃ W, ((((w6.setCell ⟨g, 0, none⟩ u0).setCell ⟨h, 0, none⟩ u0).setCell ⟨h, 1, none⟩ u1).setCell ⟨h, 2, none⟩ u2) = W ∧ Box W h TR #[u0, u1, u2] ∧ W.ownsRow B 3 1 v n zs ∧ Below B w W := by
  have a1 := hY.far (a := ⟨g, 0, none⟩) hgh u0
  have a2 := a1.put 0 u0
  have a3 := a2.put 1 u1
  have a4 := a3.put 2 u2
  have o1 := own_far o hX (by decide) 0 u0
  have o2 := own_far o1 a1 (by decide) 0 u0
  have o3 := own_far o2 a2 (by decide) 1 u1
  have o4 := own_far o3 a3 (by decide) 2 u2
  exact ⟨_, rfl, a4, o4, (((hb.setCell (p := ⟨g, 0, none⟩) hg u0).setCell (p := ⟨h, 0, none⟩) hh u0).setCell (p := ⟨h, 1, none⟩) hh u1).setCell (p := ⟨h, 2, none⟩) hh u2⟩
/-- What a call of the document's Put ends with. -/
def RPutPost (v : Value) (l : List Int) (room : Nat) (shut b : Bool) (x : Int) (w : World) (e : Ending) (w' : World) : Prop :=
  ∃ v', e = .returned (.tuple #[refV v' room shut, .bool b]) ∧ RL w' v' (if b = true then l ++ [x] else l) ∧ Below w.heap.size w w'
set_option maxRecDepth 100000 in
set_option maxHeartbeats 2000000 in
theorem rput_any {v : Value} {l : List Int} {room : Nat} {shut b : Bool} (x : Int) (w : World) (hv : RL w v l) (hlen : l.length ≤ 1024) (hroom : room ≤ 1024) (hb : (!shut && decide (l.length < room)) = b) :
    Calls Try.prog 11 #[refV v room shut, .int .i64 x] w (RPutPost v l room shut b x w) := by
  have HV := Lib.hid hv
  obtain ⟨i0, hi, hz0, hz1, hz2'⟩ := info_parts TINT
  obtain ⟨a, c, rfl, hlc, hc63, hr, _⟩ := hv
  have HR := Lib.hid hr
  clear hr
  have kk : ∀ o1 o2, Below w.heap.size w ((w.alloc o1).alloc o2) := fun o1 o2 => ((Below.refl w.heap.size w).alloc (Nat.le_refl _) o1).alloc (by simp) o2
  cases b with
  | false =>
    have hcase : shut = true ∨ shut = false ∧ ((room : Int) ≤ l.length) := by
      cases shut with
      | true => exact .inl rfl
      | false => exact .inr ⟨rfl, by simp at hb; omega⟩
    clear hb
    rcases hcase with rfl | ⟨rfl, hge⟩
    all_goals
      go_enter Try.func11, Try.ntmps11
      go_wp2_with fail
      go_returns
      exact ⟨_, rfl, HV.out.below (kk _ _), kk _ _⟩
  | true =>
    have hsh : shut = false := by cases shut <;> simp_all
    have hlr : l.length < room := by subst hsh; simpa using hb
    subst hsh
    have hnge : ¬ ((room : Int) ≤ l.length) := by omega
    clear hb
    go_enter Try.func11, Try.ntmps11
    go_wp2_with fail
    go_loopg [6, 7] l.length (fun d v i wr => ∃ k : Nat, k + d = l.length ∧ i = .int .i64 k ∧ wr.ownsRow w.heap.size 3 1 v k (iv (l.take k)) ∧ Box wr w.heap.size TR #[.slice a l.length c, .int .i64 room, .bool false] ∧ Box wr (w.heap.size + 1) TR #[.slice none 0 0, .int .i64 0, .bool false] ∧ Below w.heap.size w wr)
    case atStart =>
      refine ⟨0, by omega, rfl, by simpa [iv] using World.ownsRow_nil _ _ _ _, (Box.new w _ TR).alloc _, ?_, kk _ _⟩
      have hb := Box.new (w.alloc (.cells #[.slice a l.length c, .int .i64 room, .bool false] TR)) #[.slice none 0 0, .int .i64 0, .bool false] TR
      rwa [World.size_alloc] at hb
    case round =>
      obtain ⟨k, hk, rfl, ho, hx, hy, hbw⟩ := hrel
      have HK := Lib.hid hk
      have hle : k ≤ l.length := by omega
      have HX := Lib.hid hx
      have HY := Lib.hid hy
      have HO := Lib.hid ho
      obtain ⟨a4, cp4, rfl⟩ := own_slice ho
      have HBW := Lib.hid hbw
      have zw := hbw.size
      have zx := hx.lt
      have x0 := hx.cell 0
      have x1 := hx.cell 1
      have x2 := hx.cell 2
      simp only [List.getElem?_toArray, List.getElem?_cons_zero, List.getElem?_cons_succ] at x0 x1 x2
      clear hk hx hy ho hbw
      by_cases hlt : k < l.length
      · have hlt' : (k : Int) < l.length := by omega
        obtain ⟨y, hy⟩ : ∃ y, l.getD k 0 = y := ⟨_, rfl⟩
        obtain ⟨ad, rfl, had, c0⟩ := (HR.out.below HBW.out (Nat.le_refl _)) k hlt
        replace c0 : wr.cell? (ad.add k) = some (.int .i64 y) := by rw [← hy]; exact c0
        have HTK : Hid (l.take (k + 1) = l.take k ++ [y]) := by
          show _ = _
          rw [List.take_add_one, ← hy, List.getD_eq_getElem?_getD, List.getElem?_eq_getElem hlt]
          rfl
        clear hy
        go_wp2_with (at_builtin; refine wpList_append_own _ rfl _ _ 29 rfl w.heap.size 3 i0 _ 1 8 Try.underlying29 hi hz0 hz1 hz2' rfl (by decide) _ _ _ rfl (HO.out.alloc _) ⟨wr.heap.size, 0, none⟩ 1 1 [.int .i64 y] rfl rfl ?c1 ?c2 ?c3 ?c4 ?c5 ?_)
        case c1 => exact news1 _ _ _
        case c2 =>
          intro u hu
          simp only [List.mem_cons, List.not_mem_nil, or_false] at hu
          rw [hu]; rfl
        case c3 => unfold maxLen; omega
        case c4 => omega
        case c5 => simp; omega
        intro v' w6 hown hgrow _
        have HB6 := Lib.hid ((HBW.out.alloc zw _).grown hgrow (by simp; omega) fun g hg => (HO.out.lt g hg).1)
        have HX6 := Lib.hid ((HX.out.alloc _).grown hgrow (own_ne HO.out HX.out (by decide)))
        have HY6 := Lib.hid ((HY.out.alloc _).grown hgrow (own_ne HO.out HY.out (by decide)))
        have HO2 : Hid (w6.ownsRow w.heap.size 3 1 v' (k + 1) (iv (l.take (k + 1)))) := by
          show World.ownsRow _ _ _ _ _ _ _
          rw [HTK.out, iv_append]
          exact hown
        clear hown hgrow
        go_wp2_with fail
        go_roundg (l.length - (k + 1))
        case measure => have := HK.out; omega
        case rel => exact ⟨k + 1, by have := HK.out; omega, by go_num, HO2.out, HX6.out, HY6.out, HB6.out⟩
      · have hkn : k = l.length := by omega
        have HKN := Lib.hid hkn
        have hge : ¬ (k : Int) < l.length := by omega
        clear hkn
        go_wp2_with (at_builtin; refine wpList_append_own _ rfl _ _ 29 rfl w.heap.size 3 i0 _ 1 8 Try.underlying29 hi hz0 hz1 hz2' rfl (by decide) _ _ _ rfl (HO.out.alloc _) ⟨wr.heap.size, 0, none⟩ 1 1 [.int .i64 x] rfl rfl ?c1 ?c2 ?c3 ?c4 ?c5 ?_)
        case c2 => rfl
        case c3 => unfold maxLen; omega
        case c4 => omega
        case c5 => omega
        intro v' w6 hown hgrow _
        have HB6 := Lib.hid ((HBW.out.alloc zw _).grown hgrow (by simp; omega) fun g hg => (HO.out.lt g hg).1)
        have HX6 := (HX.out.alloc _).grown hgrow (own_ne HO.out HX.out (by decide))
        have HY6 := (HY.out.alloc _).grown hgrow (own_ne HO.out HY.out (by decide))
        have HO2 : w6.ownsRow w.heap.size 3 1 v' (l.length + 1) (iv (l ++ [x])) := by
          have e := hown
          rw [HKN.out, List.take_length] at e
          rw [iv_append]
          exact e
        have hrl := rl_own HO2 (by simp)
        obtain ⟨a6, cp6, rfl⟩ := own_slice HO2
        have HRL := Lib.hid hrl
        have z6 := HX6.lt
        have z7 := HY6.lt
        have u0 := HX6.cell 0
        have u1 := HX6.cell 1
        have u2 := HX6.cell 2
        have v0 := HX6.free 0
        have y0 := HY6.cell 0
        have y1 := HY6.cell 1
        have y2 := HY6.cell 2
        have q0 := HY6.free 0
        have q1 := HY6.free 1
        have q2 := HY6.free 2
        simp only [List.getElem?_toArray, List.getElem?_cons_zero, List.getElem?_cons_succ] at u0 u1 u2 y0 y1 y2
        have hX6 := HX6
        have hY6 := HY6
        have hO6 := HO2
        clear hown hgrow HX6 HY6 HO2 hrl x0 x1 x2
        obtain ⟨W, hW, hYW, hOW, hBW⟩ := store4 (by omega) hX6 hY6 hO6 (.slice a6 (l.length + 1) cp6) (.int .i64 room) (.bool false) HB6.out (Nat.le_refl _) (by omega)
        have HW := Lib.hid hW
        have w0 := hYW.cell 0
        have w1 := hYW.cell 1
        have w2 := hYW.cell 2
        simp only [List.getElem?_toArray, List.getElem?_cons_zero, List.getElem?_cons_succ] at w0 w1 w2
        have HBW2 := Lib.hid hBW
        have HRW := Lib.hid (rl_own hOW (by simp))
        clear hW hYW hOW hBW hX6 hY6 hO6
        go_wp2_with fail
        rw [HW.out]
        clear u0 u1 u2 y0 y1 y2
        refine bodyPost_ret (v := .tuple #[refV (.slice a6 (l.length + 1) cp6) room false, .bool true]) (by simp [results, Try.results11, go_sem, w0, w1, w2]) rfl ?_
        exact ⟨_, rfl, HRW.out, HBW2.out⟩
end Go.Proofs.Ytolfldjiejeboaa.Sp
