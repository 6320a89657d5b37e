/-
  CONTRACT of layer decl: a data type is added.
-/
import Derived.Test.YtgmgnnmmapdikaaDcJ
import Derived.Deep.DeepCutAuto
namespace Go.Proofs.Ytgmgnnmmapdikaa.Dc
open Go.RowKit Mm Tm Mv Go.Maps Go.ChangeMaps Go.MapKept Go.WideMaps
set_option linter.unusedVariables false
set_option linter.unusedSimpArgs false
abbrev TD : TypeId := 38
abbrev datV (nm : ByteArray) (ap : Option Addr) (np cp : Nat) (ac : Option Addr) (nc cc : Nat) (ln co : Int) : Value := .agg #[.string nm, .slice ap np cp, .slice ac nc cc, .int .i64 ln, .int .i64 co]
def AddDPost (B : Nat) (tb m1 m2 n : Nat) (F1 F2 : FM) (vo : Value) (Lo : List Value) (V : ByteArray → Value) (L : ByteArray → List Value) (nm : ByteArray) (ps : List ByteArray) (w : World) (e : Ending) (w' : World) : Prop :=
  ∃ c : Int, e = .returned (.int .i64 c) ∧ Below B w w' ∧ Keeps m1 m2 w w' ∧ (F1 nm.data.toList = none ∧ ps.Nodup → c = 0) ∧ (c = 0 → F1 nm.data.toList = none ∧ TabP B w' tb m1 m2 (n + 1) (updF F1 nm.data.toList (.agg #[.int .i64 ps.length, .slice none 0 0])) F2 vo vo Lo V L)
set_option maxRecDepth 100000 in
set_option maxHeartbeats 4000000 in
theorem adddata_any {B tb m1 m2 n : Nat} {F1 F2 : FM} {vo : Value} {Lo : List Value} {V : ByteArray → Value} {L : ByteArray → List Value} {nm : ByteArray} {ap : Option Addr} {cp : Nat} {ac : Option Addr} {nc cc : Nat} {ln co : Int} {ps : List ByteArray} (w : World) (h : TabP B w tb m1 m2 n F1 F2 vo vo Lo V L)
    (hF : F1 nm.data.toList = none ∨ ∃ p a k c, F1 nm.data.toList = some (.agg #[.int .i64 p, .slice a k c])) (hnm : nm.size ≤ 9223372036854775807) (hn : n ≤ 1000000000) (hp : RdS (· < B) w ap ps) (hpl : ps.length ≤ 1000) :
    Calls Try.prog 16 #[.pointer (some ⟨tb, 0, none⟩), datV nm ap ps.length cp ac nc cc ln co] w (AddDPost B tb m1 m2 n F1 F2 vo Lo V L nm ps w) := by
  have htb := h.box.lt
  have hbb : B ≤ tb := h.btb
  have HP := Lib.hid h
  have HS := Lib.hid (key_of hnm)
  have HB1 := Lib.hid ((Below.refl w.heap.size w).alloc (Nat.le_refl _) (.cells #[.string nm, .slice ap ps.length cp, .slice ac nc cc, .int .i64 ln, .int .i64 co] TD))
  have HP1 := Lib.hid (h.alloc (.cells #[.string nm, .slice ap ps.length cp, .slice ac nc cc, .int .i64 ln, .int .i64 co] TD))
  have HX1 := Lib.hid (Box.new w #[.string nm, .slice ap ps.length cp, .slice ac nc cc, .int .i64 ln, .int .i64 co] TD)
  have HK1 := Lib.hid ((Keeps.refl m1 m2 w).alloc (.cells #[.string nm, .slice ap ps.length cp, .slice ac nc cc, .int .i64 ln, .int .i64 co] TD))
  have HZ1 := Lib.hid (show (w.alloc (.cells #[.string nm, .slice ap ps.length cp, .slice ac nc cc, .int .i64 ln, .int .i64 co] TD)).heap.size = w.heap.size + 1 by simp)
  have HRS := Lib.hid (hp.below HB1.out fun b hb => by omega)
  go_enter Try.func16, Try.ntmps16
  go_wp2_with fail
  obtain ⟨w1, hw1⟩ : ∃ W, w.alloc (.cells #[.string nm, .slice ap ps.length cp, .slice ac nc cc, .int .i64 ln, .int .i64 co] TD) = W := ⟨_, rfl⟩
  rw [hw1] at HB1 HP1 HX1 HK1 HZ1 HRS ⊢
  clear hw1 h hp hnm
  obtain ⟨x0, x1, x2, x3, x4, _⟩ := HX1.out.cells5
  have y0 : w1.cell? ⟨tb, 0, none⟩ = some (.map (some m1)) := HP1.out.box.cell 0
  have hm1 : m1 < w1.heap.size := HP1.out.map1.lt
  have hz1 : w1.heap.size = w.heap.size + 1 := HZ1.out
  have hL : ∀ W, MapIs W Try.prog TS m1 n F1 → (Instr.lookup 64 (.map (some m1)) (.string nm) true).run Try.prog W = .ok (.tuple #[(F1 nm.data.toList).getD (.agg #[.int .i64 0, .slice none 0 0]), .bool (F1 nm.data.toList).isSome]) W := fun W hm => hm.look_ok keyS Try.underlying64 (zeroDat _) HS.out
  rcases hF with hF | ⟨p, a, k, c, hF⟩
  · rw [hF, Option.getD_none, Option.isSome_none] at hL
    have HF := Lib.hid hF
    have hlk := hL _ HP1.out.map1
    have HL := Lib.hid hL
    clear hF hL
    have HZ1 := Lib.hid hz1
    clear hz1
    go_cut [6] (fun v6 wx => v6 = .bool false ∧ wx = (w1.alloc (.cells #[.int .i64 0, .slice none 0 0] 70)).drew)
    case first =>
      go_region_held3 (fun w' => w'.cell? ⟨tb, 0, none⟩ = some (.map (some m1)) ∧ w'.cell? ⟨w.heap.size, 0, none⟩ = some (.string nm) ∧ (Instr.lookup 64 (.map (some m1)) (.string nm) true).run Try.prog w' = .ok (.tuple #[.agg #[.int .i64 0, .slice none 0 0], .bool false]) w')
        (first
          | exact ⟨y0, x0, hlk⟩
          | (go_split_ands
             refine ⟨by go_keep, by go_keep, ?_⟩
             refine HL.out _ ?_
             repeat (first | exact HP1.out.map1 | refine MapIs.drew ?_ | refine MapIs.alloc ?_ _ | refine MapIs.setCell ?_ (by simp; omega) _)))
        (fail)
      all_goals
        go_wp2_with fail
        go_meet
        exact ⟨rfl, rfl⟩
    case rest =>
      obtain ⟨rfl, rfl⟩ := hcut
      go_wp2_with fail
      have HP2 := Lib.hid ((HP1.out.alloc (.cells #[.int .i64 0, .slice none 0 0] 70)).drew)
      have HX2 := Lib.hid (show Box (w1.alloc (.cells #[.int .i64 0, .slice none 0 0] 70)).drew w.heap.size TD _ from HX1.out.alloc (.cells #[.int .i64 0, .slice none 0 0] 70))
      have HB2 := Lib.hid ((HB1.out.alloc (by have := HZ1.out; omega) (.cells #[.int .i64 0, .slice none 0 0] 70)).drew)
      have HK2 := Lib.hid ((HK1.out.alloc (.cells #[.int .i64 0, .slice none 0 0] 70)).drew)
      have HR2 := Lib.hid (show RdS (· < B) (w1.alloc (.cells #[.int .i64 0, .slice none 0 0] 70)).drew ap ps from HRS.out.below (B := w1.heap.size) (w' := w1.alloc _) ((Below.refl w1.heap.size w1).alloc (Nat.le_refl _) (.cells #[.int .i64 0, .slice none 0 0] 70)) (fun b hb => by have := HZ1.out; omega))
      have HZ2 := Lib.hid (show (w1.alloc (.cells #[.int .i64 0, .slice none 0 0] 70)).drew.heap.size = w.heap.size + 1 + 1 by have := HZ1.out; show (w1.alloc _).heap.size = _; rw [World.size_alloc]; omega)
      obtain ⟨w2, hw2⟩ : ∃ W, (w1.alloc (.cells #[.int .i64 0, .slice none 0 0] 70)).drew = W := ⟨_, rfl⟩
      rw [hw2] at HP2 HX2 HB2 HK2 HR2 HZ2 ⊢
      clear hw2 hlk x0 x1 x2 x3 x4 y0 hm1
      have HPL := Lib.hid (places_any (a := ap) (c := cp) (l := ps) w2.drew (show RdS (· < w2.drew.heap.size) w2.drew ap ps from HR2.out.mono fun b hb => by have := HZ2.out; show b < w2.heap.size; omega) hpl)
      have x1 : w2.cell? ⟨w.heap.size, 1, none⟩ = some (.slice ap ps.length cp) := HX2.out.cell 1
      go_cut [27] (fun v27 wx => ∃ t : Bool, v27 = .bool t ∧ Below w2.heap.size w2 wx ∧ (ps.Nodup → t = false))
      case first =>
        by_cases hnd : ps.Nodup
        · go_region_with (go_at_call 17; refine HPL.out.mono ?_; rintro e w3 ⟨b3, rfl, _, hm3, hb3, hl3⟩; have hlen := hl3 hnd; clear hl3; have x3 := (hb3.cell (p := ⟨w.heap.size, 1, none⟩) (by have := HZ2.out; show w.heap.size < w2.heap.size; omega)).trans x1)
          all_goals
            go_wp2_with fail
            go_meet
            exact ⟨_, rfl, ⟨hb3.os, hb3.tape, hb3.output, hb3.size, hb3.block⟩, fun _ => rfl⟩
        · go_region_with (go_at_call 17; refine HPL.out.mono ?_; rintro e w3 ⟨b3, rfl, _, hm3, hb3, hl3⟩; clear hl3; obtain ⟨q, hq, hlen⟩ := hm3.len Try.underlying58; have x3 := (hb3.cell (p := ⟨w.heap.size, 1, none⟩) (by have := HZ2.out; show w.heap.size < w2.heap.size; omega)).trans x1)
          all_goals
            go_wp2_with fail
            go_meet
            exact ⟨_, rfl, ⟨hb3.os, hb3.tape, hb3.output, hb3.size, hb3.block⟩, fun h => absurd h hnd⟩
      case rest =>
        obtain ⟨t, rfl, hb3, hnt⟩ := hcut
        have HNT := Lib.hid hnt
        clear hnt
        have HP3 := Lib.hid (HP2.out.here hb3)
        have HK3 := Lib.hid (HK2.out.below hb3)
        have HX3 := Lib.hid (HX2.out.below hb3 HX2.out.lt)
        have HB3 := Lib.hid ((HB2.out.mono (B' := B) (by omega)).trans (hb3.mono (by have := HZ2.out; omega)))
        have hz3 := hb3.size
        clear hb3 HPL x1
        cases t with
        | true =>
          go_wp2_with fail
          go_ret
          exact ⟨80, rfl, HB3.out, HK3.out, fun e => absurd (HNT.out e.2) (by simp), fun e => absurd e (by decide)⟩
        | false =>
          have y0 : wc.cell? ⟨tb, 0, none⟩ = some (.map (some m1)) := HP3.out.box.cell 0
          obtain ⟨x0, x1, x2, x3, x4, _⟩ := HX3.out.cells5
          go_wp2_with fail
          go_still_tail 10, (by kernel_rfl)
          change wpList _ _ _ _ _ wc.drew
          go_wp2_with (at_mapUpdate; refine wpList_put _ rfl _ _ _ 64 rfl TS 70 keyS Try.underlying64 m1 n F1 rfl HP3.out.map1.drew (by unfold maxLen; omega) _ _ _ rfl rfl HS.out ?_)
          intro w5 hm5 hg5
          have HP5 := Lib.hid (HP3.out.drew.put1 hm5 hg5)
          have HK5 := Lib.hid (HK3.out.drew.grown hg5 (fun o e => map_mine HP3.out.map1 (.inl rfl) e))
          have HB5 := Lib.hid (HB3.out.drew.grown hg5 (by have := HZ2.out; show B ≤ wc.heap.size; omega) (fun q hq => by injection hq with hq; subst hq; exact HP3.out.bm1))
          clear hm5 hg5 y0 x0 x1 x2 x3 x4
          go_wp2_with fail
          go_ret
          exact ⟨0, rfl, HB5.out, HK5.out, fun _ => rfl, fun _ => ⟨HF.out, HP5.out⟩⟩
  · rw [hF, Option.getD_some, Option.isSome_some] at hL
    have HF := Lib.hid hF
    have hlk := hL _ HP1.out.map1
    have HL := Lib.hid hL
    clear hF hL
    have HZ1 := Lib.hid hz1
    clear hz1
    go_cut [6] (fun v6 wx => v6 = .bool true ∧ wx = (w1.alloc (.cells #[.int .i64 p, .slice a k c] 70)).drew)
    case first =>
      go_region_held3 (fun w' => w'.cell? ⟨tb, 0, none⟩ = some (.map (some m1)) ∧ w'.cell? ⟨w.heap.size, 0, none⟩ = some (.string nm) ∧ (Instr.lookup 64 (.map (some m1)) (.string nm) true).run Try.prog w' = .ok (.tuple #[.agg #[.int .i64 p, .slice a k c], .bool true]) w')
        (first
          | exact ⟨y0, x0, hlk⟩
          | (go_split_ands
             refine ⟨by go_keep, by go_keep, ?_⟩
             refine HL.out _ ?_
             repeat (first | exact HP1.out.map1 | refine MapIs.drew ?_ | refine MapIs.alloc ?_ _ | refine MapIs.setCell ?_ (by simp; omega) _)))
        (fail)
      all_goals
        go_wp2_with fail
        go_meet
        exact ⟨rfl, rfl⟩
    case rest =>
      obtain ⟨rfl, rfl⟩ := hcut
      have HB2 := Lib.hid (((HB1.out.mono (B' := B) (by omega)).alloc (by have := HZ1.out; omega) (.cells #[.int .i64 p, .slice a k c] 70)).drew)
      have HK2 := Lib.hid ((HK1.out.alloc (.cells #[.int .i64 p, .slice a k c] 70)).drew)
      obtain ⟨w2, hw2⟩ : ∃ W, (w1.alloc (.cells #[.int .i64 p, .slice a k c] 70)).drew = W := ⟨_, rfl⟩
      rw [hw2] at HB2 HK2 ⊢
      clear hw2 hlk
      go_wp2_with fail
      go_quiet (fail)
      go_wp2_with fail
      go_ret
      exact ⟨80, rfl, ⟨HB2.out.os, HB2.out.tape, HB2.out.output, HB2.out.size, HB2.out.block⟩, HK2.out, (fun e => by rw [HF.out] at e; cases e.1), (fun e => absurd e (by decide))⟩
end Go.Proofs.Ytgmgnnmmapdikaa.Dc
