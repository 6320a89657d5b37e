/-
  CONTRACTS of layer decl: what is wrong with a type: some number, whatever it is.
-/
import Derived.Test.YtgmgnnmmapdikaaDcJ
import Derived.Deep.DeepCutAuto
namespace Go.Proofs.Ytgmgnnmmapdikaa.Dc
open Go.RowKit Mm Tm Mv Go.Maps Go.ChangeMaps Go.MapKept Go.WideMaps
set_option linter.unusedVariables false
set_option linter.unusedSimpArgs false
/-- some error's number: none where all is right -/
def SomeErr (ok : Prop) (w : World) (e : Ending) (w' : World) : Prop := ∃ c : Int, e = .returned (.int .i64 c) ∧ Below w.heap.size w w' ∧ (ok → c = 0)
/-- a type is right but for what it is made of -/
def HeadOK (F1 F : FM) (x : Ty) : Prop :=
  (x.kd = 1 ∧ (F x.nm.data.toList).isSome = true) ∨ (x.kd = 2 ∧ ∃ a k c, F1 x.nm.data.toList = some (.agg #[.int .i64 x.args.len, .slice a k c])) ∨ (x.kd = 3 ∧ x.args.len = 2)
/-- a table's data types, as a map of values -/
def DatF (F : FM) : Prop := ∀ s, F s = none ∨ ∃ p a k c, F s = some (.agg #[.int .i64 p, .slice a k c])
/-- what a look at types wants of the world -/
structure Look (w : World) (tb m1 n1 mb nb : Nat) (F1 F : FM) : Prop where
  c0 : w.cell? ⟨tb, 0, none⟩ = some (.map (some m1))
  map1 : MapIs w Try.prog TS m1 n1 F1
  dat : DatF F1
  par : MapIs w Try.prog TS mb nb F
  int : IntF F
theorem Look.below {w w' : World} {tb m1 n1 mb nb : Nat} {F1 F : FM} (h : Look w tb m1 n1 mb nb F1 F) (hb : Below w.heap.size w w') : Look w' tb m1 n1 mb nb F1 F :=
  ⟨(hb.cell (p := ⟨tb, 0, none⟩) (World.block_lt_of_cell? _ _ h.c0)).trans h.c0, h.map1.below hb h.map1.lt, h.dat, h.par.below hb h.par.lt, h.int⟩
theorem arity_any {x : Ty} {a : Option Addr} {c : Nat} (n : Int) (w : World) : Calls Try.prog 32 #[tyV x a c, .int .i64 n] w (SomeErr (n = (x.args.len : Int)) w) := by
  have hB : Below w.heap.size w (w.alloc (.cells #[.int .i64 x.kd, .int .i64 x.n, .string x.nm, .slice a x.args.len c] TT)) := (Below.refl _ _).alloc (Nat.le_refl _) _
  have HB := Lib.hid hB
  clear hB
  by_cases h : n = (x.args.len : Int)
  · subst h
    go_enter Try.func32, Try.ntmps32
    go_wp2_with fail
    go_ret
    exact ⟨_, rfl, HB.out, fun _ => rfl⟩
  · have e : ((x.args.len : Int) != n) = true := by simpa using fun q : (x.args.len : Int) = n => h q.symm
    have HH := Lib.hid h
    clear h
    go_enter Try.func32, Try.ntmps32
    go_wp2_with fail
    go_ret
    exact ⟨_, rfl, HB.out, fun q => absurd q HH.out⟩
set_option maxRecDepth 100000 in
set_option maxHeartbeats 4000000 in
theorem outside_any {tb m1 n1 mb nb : Nat} {F1 F : FM} {x : Ty} {a : Option Addr} {c : Nat} (w : World) (h : Look w tb m1 n1 mb nb F1 F) (hs : x.nm.size ≤ 9223372036854775807) :
    Calls Try.prog 31 #[.pointer (some ⟨tb, 0, none⟩), tyV x a c, .map (some mb)] w (SomeErr (HeadOK F1 F x) w) := by
  have HB1 := Lib.hid ((Below.refl w.heap.size w).alloc (Nat.le_refl _) (.cells #[.int .i64 x.kd, .int .i64 x.n, .string x.nm, .slice a x.args.len c] TT))
  have HX1 := Lib.hid (Box.new w #[.int .i64 x.kd, .int .i64 x.n, .string x.nm, .slice a x.args.len c] TT)
  have HS := Lib.hid (key_of hs)
  have HL := Lib.hid (h.below HB1.out)
  have HZ1 := Lib.hid (show (w.alloc (.cells #[.int .i64 x.kd, .int .i64 x.n, .string x.nm, .slice a x.args.len c] TT)).heap.size = w.heap.size + 1 by simp)
  obtain ⟨kd, nn, nm, args⟩ := x
  clear h hs
  by_cases h1 : kd = 1
  · subst h1
    have HP := Lib.hid (HL.out.int.at_ nm)
    obtain ⟨b, hb⟩ : ∃ b, (F nm.data.toList).isSome = b := ⟨_, rfl⟩
    have HBB := Lib.hid hb
    clear hb
    cases b with
    | true =>
      go_enter Try.func31, Try.ntmps31
      go_wp2_with (at_lookup; refine wpList_look_ok _ rfl _ _ 58 rfl TS 3 keyS Try.underlying58 (zeroInt _) mb nb F rfl HL.out.par _ _ rfl HS.out ?_; rw [HP.out, HBB.out])
      go_ret
      exact ⟨_, rfl, HB1.out, fun _ => rfl⟩
    | false =>
      go_enter Try.func31, Try.ntmps31
      go_wp2_with (at_lookup; refine wpList_look_ok _ rfl _ _ 58 rfl TS 3 keyS Try.underlying58 (zeroInt _) mb nb F rfl HL.out.par _ _ rfl HS.out ?_; rw [HP.out, HBB.out])
      go_ret
      exact ⟨_, rfl, HB1.out, fun h => by
        rcases h with ⟨_, h⟩ | ⟨h, _⟩ | ⟨h, _⟩
        · rw [HBB.out] at h; cases h
        · cases h
        · cases h⟩
  · by_cases h2 : kd = 2
    · subst h2
      clear h1
      go_enter Try.func31, Try.ntmps31
      go_wp2_with fail
      obtain ⟨w1, hw1⟩ : ∃ W, w.alloc (.cells #[.int .i64 2, .int .i64 nn, .string nm, .slice a args.len c] TT) = W := ⟨_, rfl⟩
      rw [hw1] at HB1 HX1 HL HZ1 ⊢
      clear hw1
      obtain ⟨x0, x1, x2, x3, _⟩ := HX1.out.cells4
      have y0 := HL.out.c0
      have hm1 : m1 < w1.heap.size := HL.out.map1.lt
      have hL : ∀ W, MapIs W Try.prog TS m1 n1 F1 → (Instr.lookup 64 (.map (some m1)) (.string nm) true).run Try.prog W = .ok (.tuple #[(F1 nm.data.toList).getD (.agg #[.int .i64 0, .slice none 0 0]), .bool (F1 nm.data.toList).isSome]) W := fun W hm => hm.look_ok keyS Try.underlying64 (zeroDat _) HS.out
      obtain ⟨p, ra, rk, rc, b, hv⟩ : ∃ p ra rk rc b, (Value.tuple #[(F1 nm.data.toList).getD (.agg #[.int .i64 0, .slice none 0 0]), .bool (F1 nm.data.toList).isSome]) = .tuple #[.agg #[.int .i64 p, .slice ra rk rc], .bool b] ∧ (HeadOK F1 F ⟨2, nn, nm, args⟩ → b = true ∧ p = (args.len : Int)) := by
        rcases HL.out.dat nm.data.toList with e | ⟨p, ra, rk, rc, e⟩
        · refine ⟨0, none, 0, 0, false, by rw [e]; rfl, fun h => ?_⟩
          rcases h with ⟨h, _⟩ | ⟨_, a', k', c', h⟩ | ⟨h, _⟩
          · cases h
          · have h : F1 nm.data.toList = _ := h
            rw [e] at h; cases h
          · cases h
        · refine ⟨p, ra, rk, rc, true, by rw [e]; rfl, fun h => ⟨rfl, ?_⟩⟩
          rcases h with ⟨h, _⟩ | ⟨_, a', k', c', h⟩ | ⟨h, _⟩
          · cases h
          · have h : F1 nm.data.toList = _ := h
            rw [e] at h
            injection h with h
            injection h with h
            simp only [Array.mk.injEq, List.cons.injEq, Value.int.injEq, true_and] at h
            exact h.1
          · cases h
      obtain ⟨hv, hok⟩ := hv
      have HOK := Lib.hid hok
      clear hok
      rw [hv] at hL
      have hlk := hL _ HL.out.map1
      have HLL := Lib.hid hL
      clear hL hv
      go_cut [9, 10] (fun v9 v10 wx => v9 = .pointer (some ⟨w1.heap.size, 0, none⟩) ∧ v10 = .bool b ∧ wx = (w1.alloc (.cells #[.int .i64 p, .slice ra rk rc] 70)).drew)
      case first =>
        go_region_held3 (fun w' => w'.cell? ⟨tb, 0, none⟩ = some (.map (some m1)) ∧ w'.cell? ⟨w.heap.size, 2, none⟩ = some (.string nm) ∧ (Instr.lookup 64 (.map (some m1)) (.string nm) true).run Try.prog w' = .ok (.tuple #[.agg #[.int .i64 p, .slice ra rk rc], .bool b]) w')
          (first
            | exact ⟨y0, x2, hlk⟩
            | (go_split_ands
               refine ⟨by go_keep, by go_keep, ?_⟩
               refine HLL.out _ ?_
               repeat (first | exact HL.out.map1 | refine MapIs.drew ?_ | refine MapIs.alloc ?_ _ | refine MapIs.setCell ?_ (by simp; omega) _)))
          (fail)
        all_goals
          go_wp2_with fail
          go_meet
          exact ⟨rfl, rfl, rfl⟩
      case rest =>
        obtain ⟨rfl, rfl, rfl⟩ := hcut
        have HB2 := Lib.hid ((HB1.out.alloc (by have := HZ1.out; omega) (.cells #[.int .i64 p, .slice ra rk rc] 70)).drew)
        have HX2 := Lib.hid (show Box (w1.alloc (.cells #[.int .i64 p, .slice ra rk rc] 70)).drew w.heap.size TT _ from HX1.out.alloc (.cells #[.int .i64 p, .slice ra rk rc] 70))
        have HY2 := Lib.hid (show Box (w1.alloc (.cells #[.int .i64 p, .slice ra rk rc] 70)).drew w1.heap.size 70 #[.int .i64 p, .slice ra rk rc] from Box.new w1 _ _)
        have HZ2 := Lib.hid (show w.heap.size ≤ (w1.alloc (.cells #[.int .i64 p, .slice ra rk rc] 70)).drew.heap.size from HB2.out.size)
        obtain ⟨w2, hw2⟩ : ∃ W, (w1.alloc (.cells #[.int .i64 p, .slice ra rk rc] 70)).drew = W := ⟨_, rfl⟩
        rw [hw2] at HB2 HX2 HY2 HZ2 ⊢
        clear hw2 hlk x0 x1 x2 x3 y0 hm1
        obtain ⟨x0, x1, x2, x3, _⟩ := HX2.out.cells4
        obtain ⟨z0, z1, _⟩ := HY2.out.cells2
        cases b with
        | false =>
          go_wp2_with fail
          go_ret
          exact ⟨_, rfl, ⟨HB2.out.os, HB2.out.tape, HB2.out.output, HB2.out.size, HB2.out.block⟩, fun h => by have := (HOK.out h).1; cases this⟩
        | true =>
          go_wp2_with fail
          refine (arity_any (x := ⟨2, nn, nm, args⟩) p w2).mono ?_
          rintro e w3 ⟨c3, rfl, hb3, hc3⟩
          have HB3 := Lib.hid (HB2.out.trans (hb3.mono HZ2.out))
          have HC3 := Lib.hid hc3
          clear hb3 hc3
          go_wp2_with fail
          go_ret
          exact ⟨_, rfl, HB3.out, fun h => HC3.out (HOK.out h).2⟩
    · have e1 : (kd == 1) = false := beq_eq_false_iff_ne.2 h1
      have e2 : (kd == 2) = false := beq_eq_false_iff_ne.2 h2
      clear h1 h2
      by_cases h3 : kd = 3
      · subst h3
        go_enter Try.func31, Try.ntmps31
        go_wp2_with fail
        refine (arity_any (x := ⟨3, nn, nm, args⟩) 2 _).mono ?_
        rintro e w3 ⟨c3, rfl, hb3, hc3⟩
        have HB3 := Lib.hid (HB1.out.trans (hb3.mono HB1.out.size))
        have HC3 := Lib.hid hc3
        clear hb3 hc3
        go_wp2_with fail
        go_ret
        exact ⟨_, rfl, HB3.out, fun h => HC3.out (by
          rcases h with ⟨h, _⟩ | ⟨h, _⟩ | ⟨_, h⟩
          · cases h
          · cases h
          · have h : args.len = 2 := h
            show (2 : Int) = (args.len : Int)
            omega)⟩
      · have e3 : (kd == 3) = false := beq_eq_false_iff_ne.2 h3
        have HN := Lib.hid (show ¬ HeadOK F1 F ⟨kd, nn, nm, args⟩ by
          rintro (⟨h, _⟩ | ⟨h, _⟩ | ⟨h, _⟩)
          · exact beq_eq_false_iff_ne.1 e1 h
          · exact beq_eq_false_iff_ne.1 e2 h
          · exact h3 h)
        clear h3
        go_enter Try.func31, Try.ntmps31
        go_wp2_with fail
        go_ret
        exact ⟨_, rfl, HB1.out, fun h => absurd h HN.out⟩
end Go.Proofs.Ytgmgnnmmapdikaa.Dc
