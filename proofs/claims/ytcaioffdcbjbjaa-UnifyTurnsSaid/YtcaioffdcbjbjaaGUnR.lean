/-
  CONTRACT of layer unify: two variables of which nothing is known are made the same.
-/
import Derived.Test.YtcaioffdcbjbjaaGC

namespace Go.Proofs.Ytcaioffdcbjbjaa.Un
open Go.RowKit Mm Tm Mk Go.Maps Go.ChangeMaps Go.MapKept Go.WideMaps
set_option linter.unusedVariables false
set_option linter.unusedSimpArgs false
abbrev sideC (s : Side) : Array Value := #[.int .i64 s.f.kd, .int .i64 s.f.n, .string s.f.nm, .slice s.f.a s.f.args.len s.f.c, .int .i64 s.f.least, .int .i64 s.f.depth, .bool s.f.held, .bool s.isVar, .int .i64 s.n]
def linkF (n : Int) : Fact := ⟨1, n, noN, .nil, none, 0, 0, 0, false⟩
def opnF (l d : Int) (h : Bool) : Fact := ⟨0, 0, noN, .nil, none, 0, l, d, h⟩
theorem linkF_R (Z : Nat → Prop) (w : World) (n : Int) : FactR Z w (linkF n) := ⟨trivial, by simp [linkF, Tys.len], Nat.zero_le _⟩
theorem opnF_R (Z : Nat → Prop) (w : World) (l d : Int) (h : Bool) : FactR Z w (opnF l d h) := ⟨trivial, by simp [opnF, Tys.len], Nat.zero_le _⟩
theorem SetI.drew {base : Nat} {Y : Nat → Prop} {w : World} {mk s m : Nat} {nx : Int} {tv pv ov : Value} {st : St} (h : SetI base Y w mk s m nx tv pv ov st) : SetI base Y w.drew mk s m nx tv pv ov st := h.below (Below.refl _ w).drew
theorem SetI.notTB {base : Nat} {Y : Nat → Prop} {w : World} {mk s m : Nat} {nx : Int} {tv pv ov : Value} {st : St} {g : Nat} {cs : Array Value} (h : SetI base Y w mk s m nx tv pv ov st) (hx : Box w g TSide cs) (e : g = mk ∨ g = m) : False := by
  rcases e with rfl | rfl
  · exact absurd (hx.same h.box) (by decide)
  · exact h.kn.ne hx rfl
set_option maxRecDepth 100000 in
set_option maxHeartbeats 8000000 in
theorem join_any {base : Nat} {Y : Nat → Prop} {mk s m : Nat} {nx la da lb db : Int} {ha hb' : Bool} {tv pv ov : Value} {st st' : St} {x y : Side} (w : World) (hI : SetI base Y w mk s m nx tv pv ov st) (hb : base ≤ w.heap.size) (hx : ErF x.f (.opn la da ha)) (hy : ErF y.f (.opn lb db hb')) (hst : joinP st x.n la da ha y.n lb db hb' = some st') :
    Calls Try.prog 29 #[.pointer (some ⟨mk, 0, none⟩), sideV x, sideV y] w (SetPost base Y mk s m nx tv pv st' w) := by
  obtain ⟨W0, hW0⟩ : ∃ W0, (w.alloc (.cells (sideC x) TSide)).alloc (.cells (sideC y) TSide) = W0 := ⟨_, rfl⟩
  have hB0 : Below w.heap.size w W0 := by rw [← hW0]; exact ((Below.refl w.heap.size w).alloc (Nat.le_refl _) _).alloc (by simp) _
  have hX0 : Box W0 w.heap.size TSide (sideC x) := by rw [← hW0]; exact (Box.new w _ _).alloc _
  have hY0 : Box W0 (w.heap.size + 1) TSide (sideC y) := by rw [← hW0]; exact Box.at_ _ _ (by simp)
  have HI := Lib.hid hI
  have HX0 := Lib.hid hX0
  have HY0 := Lib.hid hY0
  have HB0 := Lib.hid hB0
  have HEX := Lib.hid hx
  have HEY := Lib.hid hy
  have HST := Lib.hid hst
  obtain ⟨a0, a1, a2, a3, a4, a5, a6, a7, a8⟩ := hX0.cells9
  obtain ⟨b0, b1, b2, b3, b4, b5, b6, b7, b8⟩ := hY0.cells9
  have ex := hx.2.2.2.1
  have ey := hy.2.2.2.1
  rw [ex] at a5
  rw [ey] at b5
  clear hI hX0 hY0 hB0 hx hy hst ex ey
  go_enter Try.func29, Try.ntmps29
  by_cases hd : da > db
  · have a5' := a5
    have b5' := b5
    rw [← HEX.out.2.2.2.1] at a5
    rw [← HEY.out.2.2.2.1] at b5
    have hd' : x.f.depth > y.f.depth := by rw [HEX.out.2.2.2.1, HEY.out.2.2.2.1]; exact hd
    obtain ⟨W1, hW1, hA1, hw1⟩ := HX0.out.write9 (.int .i64 y.f.kd) (.int .i64 y.f.n) (.string y.f.nm) (.slice y.f.a y.f.args.len y.f.c) (.int .i64 y.f.least) (.int .i64 y.f.depth) (.bool y.f.held) (.bool y.isVar) (.int .i64 y.n)
    obtain ⟨W2, hW2, hA2, hw2⟩ := (HY0.out.wrote hw1 (by omega)).write9 (.int .i64 x.f.kd) (.int .i64 x.f.n) (.string x.f.nm) (.slice x.f.a x.f.args.len x.f.c) (.int .i64 x.f.least) (.int .i64 x.f.depth) (.bool x.f.held) (.bool x.isVar) (.int .i64 x.n)
    have hst := HST.out
    unfold joinP at hst
    rw [if_pos hd] at hst
    obtain ⟨s1, hs1, hs2⟩ := Option.bind_eq_some_iff.1 hst
    have HS1 := Lib.hid hs1
    have HS2 := Lib.hid hs2
    have HA := Lib.hid (hA1.wrote hw2 (by omega))
    have HBX := Lib.hid hA2
    have HWS := Lib.hid (hw2.below (hw1.below HB0.out (Nat.le_refl _)) (by omega))
    have HFE := HEY
    have HSE := HEX
    obtain ⟨fr0, fr1, fr2, fr3, fr4, fr5, fr6, fr7, fr8⟩ := HX0.out.free9
    obtain ⟨fs0, fs1, fs2, fs3, fs4, fs5, fs6, fs7, fs8⟩ := (HY0.out.wrote hw1 (by omega)).free9
    have c5 := (HY0.out.wrote hw1 (by omega)).cells9
    obtain ⟨d0, d1, d2, d3, d4, d5, d6, d7, d8⟩ := c5
    clear hst hs1 hs2 hA1 hA2 hw1 hw2
    go_wp2_with fail
    clear hW1 hW2 fr0 fr1 fr2 fr3 fr4 fr5 fr6 fr7 fr8 fs0 fs1 fs2 fs3 fs4 fs5 fs6 fs7 fs8 d0 d1 d2 d3 d4 d5 d6 d7 d8 a0 a1 a2 a3 a4 a5 a6 a7 a8 b0 b1 b2 b3 b4 b5 b6 b7 b8 a5' b5' hd'
    have hF := HFE.out
    have hS := HSE.out
    obtain ⟨a0, a1, a2, a3, a4, a5, a6, a7, a8⟩ := HA.out.cells9
    obtain ⟨b0, b1, b2, b3, b4, b5, b6, b7, b8⟩ := HBX.out.cells9
    go_region_held3 (fun w' => w'.cell? ⟨w.heap.size, 8, none⟩ = some (.int .i64 y.n) ∧ w'.cell? ⟨w.heap.size + 1, 8, none⟩ = some (.int .i64 x.n))
      (first
        | exact ⟨a8, b8⟩
        | exact ⟨k0, k1⟩
        | exact ⟨l0, l1⟩
        | go_keep)
      (first
        | (go_at_call 21; refine (variable_any x.n W2.drew).mono ?_; rintro e w5 ⟨rfl, hb5⟩; have X5 := (show Box W2.drew _ _ _ from HA.out).below hb5 HA.out.lt; have A5 := (show Box W2.drew _ _ _ from HBX.out).below hb5 HBX.out.lt; have k0 : w5.cell? ⟨w.heap.size, 8, none⟩ = some (.int .i64 y.n) := X5.cell 8; have k1 : w5.cell? ⟨w.heap.size + 1, 8, none⟩ = some (.int .i64 x.n) := A5.cell 8; have hW5 := Lib.hid ((HWS.out.drew).trans (hb5.mono HWS.out.size)); have hI5 := Lib.hid (HI.out.below hW5.out))
        | (go_at_call 35; refine (set_any (g := linkF x.n) (f := .link x.n) (n := y.n) w5 hI5.out ⟨rfl, rfl⟩ (linkF_R _ _ _) (Nat.le_trans hb hW5.out.size) HS1.out).mono ?_; rintro e w6 ⟨rfl, ov6, si6, sk6⟩; have X6 := sk6.box X5 (fun e => hI5.out.notTB X5 e) (by decide); have A6 := sk6.box A5 (fun e => hI5.out.notTB A5 e) (by decide); have l0 : w6.cell? ⟨w.heap.size, 8, none⟩ = some (.int .i64 y.n) := X6.cell 8; have l1 : w6.cell? ⟨w.heap.size + 1, 8, none⟩ = some (.int .i64 x.n) := A6.cell 8))
    have HSI6 := Lib.hid si6
    have HSK6 := Lib.hid ((KG.of_below (T := (· = TCh)) (D := fun b => b = mk ∨ b = m) (base := base) hW5.out (Nat.le_refl _)).trans sk6)
    have hz6 : w.heap.size + 1 < w6.heap.size := A6.lt
    clear k0 k1 l0 l1 a0 a1 a2 a3 a4 a5 a6 a7 a8 b0 b1 b2 b3 b4 b5 b6 b7 b8 hF hS
    obtain ⟨a0, a1, a2, a3, a4, a5, a6, a7, a8⟩ := X6.cells9
    obtain ⟨b0, b1, b2, b3, b4, b5, b6, b7, b8⟩ := A6.cells9
    obtain ⟨eF1, eF2, eF3, eF4, eF5⟩ := HFE.out
    obtain ⟨eS1, eS2, eS3, eS4, eS5⟩ := HSE.out
    rw [eF3] at a4
    rw [eF4] at a5
    rw [eF5] at a6
    rw [eS3] at b4
    rw [eS4] at b5
    rw [eS5] at b6
    have HSET := Lib.hid (set_any (g := opnF (min lb la) (max (wr (db + 1)) da) (hb' || ha)) (f := .opn (min lb la) (max (wr (db + 1)) da) (hb' || ha)) (n := x.n) w6 si6 ⟨rfl, rfl, rfl, rfl, rfl⟩ (opnF_R _ _ _ _ _) (Nat.le_trans (Nat.le_trans hb hW5.out.size) sk6.size) HS2.out)
    clear sk6 si6 X5 A5 X6 A6 eF1 eF2 eF3 eF4 eF5 eS1 eS2 eS3 eS4 eS5 hb5
    have hmn : ∃ mn, min lb la = mn := ⟨_, rfl⟩
    by_cases c1 : la < lb
    · by_cases c2 : wrap64 (db + 1) < da
      · have HSET2 := HSET
        rw [show min lb la = la by omega, show max (wr (db + 1)) da = da by show max (wrap64 (db + 1)) da = _; omega] at HSET2
        unfold opnF factV at HSET2
        cases hb' <;> cases ha <;>
          (go_wp2_with fail
           refine HSET2.out.mono ?_
           rintro e w8 hp
           have HP := Lib.hid hp
           have he := hp.1
           subst he
           clear hp
           go_wp2_with fail
           go_end0
           obtain ⟨_, ov', q1, q2⟩ := HP.out
           exact ⟨rfl, ov', q1, HSK6.out.trans q2⟩)
      · have HSET2 := HSET
        rw [show min lb la = la by omega, show max (wr (db + 1)) da = wrap64 (db + 1) by show max (wrap64 (db + 1)) da = _; omega] at HSET2
        unfold opnF factV at HSET2
        cases hb' <;> cases ha <;>
          (go_wp2_with fail
           refine HSET2.out.mono ?_
           rintro e w8 hp
           have HP := Lib.hid hp
           have he := hp.1
           subst he
           clear hp
           go_wp2_with fail
           go_end0
           obtain ⟨_, ov', q1, q2⟩ := HP.out
           exact ⟨rfl, ov', q1, HSK6.out.trans q2⟩)
    · by_cases c2 : wrap64 (db + 1) < da
      · have HSET2 := HSET
        rw [show min lb la = lb by omega, show max (wr (db + 1)) da = da by show max (wrap64 (db + 1)) da = _; omega] at HSET2
        unfold opnF factV at HSET2
        cases hb' <;> cases ha <;>
          (go_wp2_with fail
           refine HSET2.out.mono ?_
           rintro e w8 hp
           have HP := Lib.hid hp
           have he := hp.1
           subst he
           clear hp
           go_wp2_with fail
           go_end0
           obtain ⟨_, ov', q1, q2⟩ := HP.out
           exact ⟨rfl, ov', q1, HSK6.out.trans q2⟩)
      · have HSET2 := HSET
        rw [show min lb la = lb by omega, show max (wr (db + 1)) da = wrap64 (db + 1) by show max (wrap64 (db + 1)) da = _; omega] at HSET2
        unfold opnF factV at HSET2
        cases hb' <;> cases ha <;>
          (go_wp2_with fail
           refine HSET2.out.mono ?_
           rintro e w8 hp
           have HP := Lib.hid hp
           have he := hp.1
           subst he
           clear hp
           go_wp2_with fail
           go_end0
           obtain ⟨_, ov', q1, q2⟩ := HP.out
           exact ⟨rfl, ov', q1, HSK6.out.trans q2⟩)
  · have hst := HST.out
    unfold joinP at hst
    rw [if_neg hd] at hst
    obtain ⟨s1, hs1, hs2⟩ := Option.bind_eq_some_iff.1 hst
    have HS1 := Lib.hid hs1
    have HS2 := Lib.hid hs2
    have HA := HX0
    have HBX := HY0
    have HWS := HB0
    have HFE := HEX
    have HSE := HEY
    clear hst hs1 hs2
    go_wp2_with fail
    clear hW0 a0 a1 a2 a3 a4 a5 a6 a7 a8 b0 b1 b2 b3 b4 b5 b6 b7 b8
    have hF := HFE.out
    have hS := HSE.out
    obtain ⟨a0, a1, a2, a3, a4, a5, a6, a7, a8⟩ := HA.out.cells9
    obtain ⟨b0, b1, b2, b3, b4, b5, b6, b7, b8⟩ := HBX.out.cells9
    go_region_held3 (fun w' => w'.cell? ⟨w.heap.size, 8, none⟩ = some (.int .i64 x.n) ∧ w'.cell? ⟨w.heap.size + 1, 8, none⟩ = some (.int .i64 y.n))
      (first
        | exact ⟨a8, b8⟩
        | exact ⟨k0, k1⟩
        | exact ⟨l0, l1⟩
        | go_keep)
      (first
        | (go_at_call 21; refine (variable_any y.n W0.drew).mono ?_; rintro e w5 ⟨rfl, hb5⟩; have X5 := (show Box W0.drew _ _ _ from HA.out).below hb5 HA.out.lt; have A5 := (show Box W0.drew _ _ _ from HBX.out).below hb5 HBX.out.lt; have k0 : w5.cell? ⟨w.heap.size, 8, none⟩ = some (.int .i64 x.n) := X5.cell 8; have k1 : w5.cell? ⟨w.heap.size + 1, 8, none⟩ = some (.int .i64 y.n) := A5.cell 8; have hW5 := Lib.hid ((HWS.out.drew).trans (hb5.mono HWS.out.size)); have hI5 := Lib.hid (HI.out.below hW5.out))
        | (go_at_call 35; refine (set_any (g := linkF y.n) (f := .link y.n) (n := x.n) w5 hI5.out ⟨rfl, rfl⟩ (linkF_R _ _ _) (Nat.le_trans hb hW5.out.size) HS1.out).mono ?_; rintro e w6 ⟨rfl, ov6, si6, sk6⟩; have X6 := sk6.box X5 (fun e => hI5.out.notTB X5 e) (by decide); have A6 := sk6.box A5 (fun e => hI5.out.notTB A5 e) (by decide); have l0 : w6.cell? ⟨w.heap.size, 8, none⟩ = some (.int .i64 x.n) := X6.cell 8; have l1 : w6.cell? ⟨w.heap.size + 1, 8, none⟩ = some (.int .i64 y.n) := A6.cell 8))
    have HSI6 := Lib.hid si6
    have HSK6 := Lib.hid ((KG.of_below (T := (· = TCh)) (D := fun b => b = mk ∨ b = m) (base := base) hW5.out (Nat.le_refl _)).trans sk6)
    have hz6 : w.heap.size + 1 < w6.heap.size := A6.lt
    clear k0 k1 l0 l1 a0 a1 a2 a3 a4 a5 a6 a7 a8 b0 b1 b2 b3 b4 b5 b6 b7 b8 hF hS
    obtain ⟨a0, a1, a2, a3, a4, a5, a6, a7, a8⟩ := X6.cells9
    obtain ⟨b0, b1, b2, b3, b4, b5, b6, b7, b8⟩ := A6.cells9
    obtain ⟨eF1, eF2, eF3, eF4, eF5⟩ := HFE.out
    obtain ⟨eS1, eS2, eS3, eS4, eS5⟩ := HSE.out
    rw [eF3] at a4
    rw [eF4] at a5
    rw [eF5] at a6
    rw [eS3] at b4
    rw [eS4] at b5
    rw [eS5] at b6
    have HSET := Lib.hid (set_any (g := opnF (min la lb) (max (wr (da + 1)) db) (ha || hb')) (f := .opn (min la lb) (max (wr (da + 1)) db) (ha || hb')) (n := y.n) w6 si6 ⟨rfl, rfl, rfl, rfl, rfl⟩ (opnF_R _ _ _ _ _) (Nat.le_trans (Nat.le_trans hb hW5.out.size) sk6.size) HS2.out)
    clear sk6 si6 X5 A5 X6 A6 eF1 eF2 eF3 eF4 eF5 eS1 eS2 eS3 eS4 eS5 hb5
    have hmn : ∃ mn, min la lb = mn := ⟨_, rfl⟩
    by_cases c1 : lb < la
    · by_cases c2 : wrap64 (da + 1) < db
      · have HSET2 := HSET
        rw [show min la lb = lb by omega, show max (wr (da + 1)) db = db by show max (wrap64 (da + 1)) db = _; omega] at HSET2
        unfold opnF factV at HSET2
        cases ha <;> cases hb' <;>
          (go_wp2_with fail
           refine HSET2.out.mono ?_
           rintro e w8 hp
           have HP := Lib.hid hp
           have he := hp.1
           subst he
           clear hp
           go_wp2_with fail
           go_end0
           obtain ⟨_, ov', q1, q2⟩ := HP.out
           exact ⟨rfl, ov', q1, HSK6.out.trans q2⟩)
      · have HSET2 := HSET
        rw [show min la lb = lb by omega, show max (wr (da + 1)) db = wrap64 (da + 1) by show max (wrap64 (da + 1)) db = _; omega] at HSET2
        unfold opnF factV at HSET2
        cases ha <;> cases hb' <;>
          (go_wp2_with fail
           refine HSET2.out.mono ?_
           rintro e w8 hp
           have HP := Lib.hid hp
           have he := hp.1
           subst he
           clear hp
           go_wp2_with fail
           go_end0
           obtain ⟨_, ov', q1, q2⟩ := HP.out
           exact ⟨rfl, ov', q1, HSK6.out.trans q2⟩)
    · by_cases c2 : wrap64 (da + 1) < db
      · have HSET2 := HSET
        rw [show min la lb = la by omega, show max (wr (da + 1)) db = db by show max (wrap64 (da + 1)) db = _; omega] at HSET2
        unfold opnF factV at HSET2
        cases ha <;> cases hb' <;>
          (go_wp2_with fail
           refine HSET2.out.mono ?_
           rintro e w8 hp
           have HP := Lib.hid hp
           have he := hp.1
           subst he
           clear hp
           go_wp2_with fail
           go_end0
           obtain ⟨_, ov', q1, q2⟩ := HP.out
           exact ⟨rfl, ov', q1, HSK6.out.trans q2⟩)
      · have HSET2 := HSET
        rw [show min la lb = la by omega, show max (wr (da + 1)) db = wrap64 (da + 1) by show max (wrap64 (da + 1)) db = _; omega] at HSET2
        unfold opnF factV at HSET2
        cases ha <;> cases hb' <;>
          (go_wp2_with fail
           refine HSET2.out.mono ?_
           rintro e w8 hp
           have HP := Lib.hid hp
           have he := hp.1
           subst he
           clear hp
           go_wp2_with fail
           go_end0
           obtain ⟨_, ov', q1, q2⟩ := HP.out
           exact ⟨rfl, ov', q1, HSK6.out.trans q2⟩)
end Go.Proofs.Ytcaioffdcbjbjaa.Un
