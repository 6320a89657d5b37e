/-
  CONTRACTS of layer decl: what is wrong with types, with a constructor: some number, whatever it is; none only where its name is new.
-/
import Derived.Test.YtgmgnnmmapdikaaDcL
namespace Go.Proofs.Ytgmgnnmmapdikaa.Dc
open Go.RowKit Mm Tm Mv Go.Maps Go.ChangeMaps Go.MapKept Go.WideMaps
set_option linter.unusedVariables false
set_option linter.unusedSimpArgs false
/-- types are right, each with what it is made of -/
def OKT (F1 F : FM) : Tys → Prop
  | .nil => True
  | .cons kd n nm args rest => HeadOK F1 F ⟨kd, n, nm, args⟩ ∧ OKT F1 F args ∧ OKT F1 F rest
theorem OKT.at_ {F1 F : FM} : ∀ {t : Tys}, OKT F1 F t → ∀ x ∈ t.toL, HeadOK F1 F x ∧ OKT F1 F x.args
  | .nil, _, x, hx => by simp [Tys.toL] at hx
  | .cons kd n nm args rest, h, x, hx => by
    rw [Tys.toL] at hx
    rcases List.mem_cons.1 hx with rfl | q
    · exact ⟨h.1, h.2.1⟩
    · exact OKT.at_ h.2.2 x q
set_option maxRecDepth 100000 in
set_option maxHeartbeats 4000000 in
theorem wrongin_of {tb m1 n1 mb nb : Nat} {F1 F : FM} {t : Tys} {a : Option Addr} {c : Nat} (w : World) (h : Look w tb m1 n1 mb nb F1 F) (hr : RdT (· < w.heap.size) w a t 0) (hl : t.len * 56 ≤ 140737488355328)
    (hC : ∀ x ∈ t.toL, ∀ a2 c2 w', Look w' tb m1 n1 mb nb F1 F → RdT (· < w'.heap.size) w' a2 x.args 0 → x.args.len * 56 ≤ 140737488355328 → Calls Try.prog 26 #[.pointer (some ⟨tb, 0, none⟩), .slice a2 x.args.len c2, .map (some mb)] w' (SomeErr (OKT F1 F x.args) w')) :
    Calls Try.prog 26 #[.pointer (some ⟨tb, 0, none⟩), .slice a t.len c, .map (some mb)] w (SomeErr (OKT F1 F t) w) := by
  have HL := Lib.hid h
  have HR := Lib.hid hr
  have HC := Lib.hid hC
  have HLEN := Lib.hid (Tys.toL_len t)
  clear h hr hC
  go_enter Try.func26, Try.ntmps26
  go_wp2_with fail
  go_loopg [13] t.len (fun d v wr => ∃ k : Nat, k + d = t.len ∧ v = .int .i64 k ∧ Below w.heap.size w wr)
  case atStart => exact ⟨0, by omega, rfl, Below.refl _ _⟩
  case round =>
    obtain ⟨k, hk, rfl, hb⟩ := hrel
    have HK := Lib.hid hk
    have HB := Lib.hid hb
    have hkle : k ≤ t.len := by omega
    have hzB := hb.size
    clear hk hb
    by_cases hlt : k < t.len
    · have hlt' : (k : Int) < t.len := by omega
      have hkL : k < t.toL.length := by rw [HLEN.out]; exact hlt
      have hx := TyAt.below (HR.out.at_ k t.toL[k] (List.getElem?_eq_getElem hkL)) HB.out (fun b h => h)
      have HM := Lib.hid (List.getElem_mem hkL)
      generalize t.toL[k] = x at hx HM
      rw [Nat.zero_add] at hx
      obtain ⟨ad, a2, c2, rfl, hz, x0, x1, x2, x3, hs, ha, hrd⟩ := hx
      have HBA := Lib.hid (HB.out.alloc hzB (.cells #[.int .i64 x.kd, .int .i64 x.n, .string x.nm, .slice a2 x.args.len c2] TT))
      have HXA := Lib.hid (Box.new wr #[.int .i64 x.kd, .int .i64 x.n, .string x.nm, .slice a2 x.args.len c2] TT)
      have HRD := Lib.hid (hrd.below ((Below.refl wr.heap.size wr).alloc (Nat.le_refl _) (.cells #[.int .i64 x.kd, .int .i64 x.n, .string x.nm, .slice a2 x.args.len c2] TT)) (fun b hb => by omega))
      have HOUT := Lib.hid (outside_any (x := x) (a := a2) (c := c2) _ (HL.out.below HBA.out) hs)
      have HZA := Lib.hid (show (wr.alloc (.cells #[.int .i64 x.kd, .int .i64 x.n, .string x.nm, .slice a2 x.args.len c2] TT)).heap.size = wr.heap.size + 1 by simp)
      clear hrd
      go_wp2_with fail
      refine HOUT.out.mono ?_
      rintro e w3 ⟨e3, rfl, hb3, hc3⟩
      have HC3 := Lib.hid hc3
      clear hc3
      have HB3 := Lib.hid (HBA.out.trans (hb3.mono (by have := HZA.out; omega)))
      have HX3 := Lib.hid (HXA.out.below hb3 (by have := HZA.out; omega))
      have HRD3 := Lib.hid (HRD.out.below hb3 (fun b hb => by have := HZA.out; omega))
      have hz3 := hb3.size
      rw [HZA.out] at hz3
      clear hb3 HOUT
      by_cases he3 : e3 = 0
      · subst he3
        obtain ⟨y0, y1, y2, y3, _⟩ := HX3.out.cells4
        have HCC := Lib.hid (HC.out x HM.out a2 c2 w3 (HL.out.below HB3.out) (HRD3.out.mono fun b hb => by omega) ha)
        go_wp2_with fail
        refine HCC.out.mono ?_
        rintro e w4 ⟨e4, rfl, hb4, hc4⟩
        have HC4 := Lib.hid hc4
        clear hc4
        have HB4 := Lib.hid (HB3.out.trans (hb4.mono (by omega)))
        clear hb4 HCC
        by_cases he4 : e4 = 0
        · subst he4
          go_wp2_with fail
          go_roundg (t.len - (k + 1))
          case measure => have := HK.out; omega
          case rel => exact ⟨k + 1, by have := HK.out; omega, by go_num, HB4.out⟩
        · have q4 : (e4 != 0) = true := by simpa using he4
          have HE4 := Lib.hid he4
          clear he4
          go_wp2_with fail
          go_ret
          exact ⟨_, rfl, HB4.out, fun h => absurd (HC4.out (h.at_ x HM.out).2) HE4.out⟩
      · have q3 : (e3 != 0) = true := by simpa using he3
        have HE3 := Lib.hid he3
        clear he3
        go_wp2_with fail
        go_ret
        exact ⟨_, rfl, HB3.out, fun h => absurd (HC3.out (h.at_ x HM.out).1) HE3.out⟩
    · have hge : ¬ (k : Int) < t.len := by omega
      go_wp2_with fail
      go_ret
      exact ⟨_, rfl, HB.out, fun _ => rfl⟩
theorem wrongin_any {tb m1 n1 mb nb : Nat} {F1 F : FM} : ∀ (q : Nat) (t : Tys), t.nodes ≤ q → ∀ (a : Option Addr) (c : Nat) (w : World), Look w tb m1 n1 mb nb F1 F → RdT (· < w.heap.size) w a t 0 → t.len * 56 ≤ 140737488355328 →
    Calls Try.prog 26 #[.pointer (some ⟨tb, 0, none⟩), .slice a t.len c, .map (some mb)] w (SomeErr (OKT F1 F t) w) := by
  intro q
  induction q with
  | zero =>
    intro t ht a c w h hr hl
    refine wrongin_of w h hr hl fun x hx => ?_
    obtain ⟨i, hi⟩ := List.getElem?_of_mem hx
    have := Tys.nodes_get t i x hi
    omega
  | succ q ih =>
    intro t ht a c w h hr hl
    refine wrongin_of w h hr hl fun x hx a2 c2 w' h' hrd hl2 => ?_
    obtain ⟨i, hi⟩ := List.getElem?_of_mem hx
    have := Tys.nodes_get t i x hi
    exact ih x.args (by omega) a2 c2 w' h' hrd hl2
/-- a constructor as it is declared, by its value -/
abbrev cnV (nm : ByteArray) (af : Option Addr) (nf cf : Nat) (ln co : Int) : Value := .agg #[.string nm, .slice af nf cf, .int .i64 ln, .int .i64 co]
/-- what wrong answers: none only where the name is new -/
def WrongPost (F2 : FM) (nm : ByteArray) (ok : Prop) (w : World) (e : Ending) (w' : World) : Prop := ∃ c : Int, e = .returned (.int .i64 c) ∧ Below w.heap.size w w' ∧ (F2 nm.data.toList = none ∧ ok → c = 0) ∧ (c = 0 → F2 nm.data.toList = none)
set_option maxRecDepth 100000 in
set_option maxHeartbeats 4000000 in
theorem wrong_any {tb m1 n1 mb nb m2 n2 : Nat} {F1 F F2 : FM} {nm : ByteArray} {t : Tys} {af : Option Addr} {cf : Nat} {ln co : Int} (w : World) (h : Look w tb m1 n1 mb nb F1 F) (hm : MapIs w Try.prog TS m2 n2 F2) (ht : w.cell? ⟨tb, 1, none⟩ = some (.map (some m2)))
    (hF : F2 nm.data.toList = none ∨ ∃ x a c, F2 nm.data.toList = some (conV x a c)) (hs : nm.size ≤ 9223372036854775807) (hr : RdT (· < w.heap.size) w af t 0) (hl : t.len * 56 ≤ 140737488355328) :
    Calls Try.prog 18 #[.pointer (some ⟨tb, 0, none⟩), cnV nm af t.len cf ln co, .map (some mb)] w (WrongPost F2 nm (OKT F1 F t) w) := by
  have htb := World.block_lt_of_cell? _ _ ht
  have HB1 := Lib.hid ((Below.refl w.heap.size w).alloc (Nat.le_refl _) (.cells #[.string nm, .slice af t.len cf, .int .i64 ln, .int .i64 co] 55))
  have HX1 := Lib.hid (Box.new w #[.string nm, .slice af t.len cf, .int .i64 ln, .int .i64 co] 55)
  have HS := Lib.hid (key_of hs)
  have HL := Lib.hid (h.below HB1.out)
  have HR := Lib.hid (hr.below HB1.out fun b h => h)
  have HM := Lib.hid (hm.below HB1.out hm.lt)
  have HT := Lib.hid ((HB1.out.cell (p := ⟨tb, 1, none⟩) htb).trans ht)
  have HZ1 := Lib.hid (show (w.alloc (.cells #[.string nm, .slice af t.len cf, .int .i64 ln, .int .i64 co] 55)).heap.size = w.heap.size + 1 by simp)
  clear h hm ht hr hs
  go_enter Try.func18, Try.ntmps18
  go_wp2_with fail
  obtain ⟨w1, hw1⟩ : ∃ W, w.alloc (.cells #[.string nm, .slice af t.len cf, .int .i64 ln, .int .i64 co] 55) = W := ⟨_, rfl⟩
  rw [hw1] at HB1 HX1 HL HZ1 HR HM HT ⊢
  clear hw1
  obtain ⟨x0, x1, x2, x3, _⟩ := HX1.out.cells4
  have y1 := HT.out
  have hm2 : m2 < w1.heap.size := HM.out.lt
  have hL : ∀ W, MapIs W Try.prog TS m2 n2 F2 → (Instr.lookup 65 (.map (some m2)) (.string nm) true).run Try.prog W = .ok (.tuple #[(F2 nm.data.toList).getD zeroConV, .bool (F2 nm.data.toList).isSome]) W := fun W hm => hm.look_ok keyS Try.underlying65 (zeroCon _) HS.out
  obtain ⟨v0, v1, v2, v3, v4, b, hv, hb⟩ : ∃ (v0 v1 : ByteArray) (v2 v3 : Int) (v4 : Option Addr × Nat × Nat) (b : Bool), (Value.tuple #[(F2 nm.data.toList).getD zeroConV, .bool (F2 nm.data.toList).isSome]) = .tuple #[.agg #[.string v0, .string v1, .int .i64 v2, .int .i64 v3, .slice v4.1 v4.2.1 v4.2.2], .bool b] ∧ ((b = false → F2 nm.data.toList = none) ∧ (F2 nm.data.toList = none → b = false)) := by
    rcases hF with e | ⟨x, xa, xc, e⟩
    · exact ⟨⟨#[]⟩, ⟨#[]⟩, 0, 0, (none, 0, 0), false, by rw [e]; rfl, fun _ => e, fun _ => rfl⟩
    · exact ⟨x.name, x.data, x.tag, x.params, (xa, x.fields.length, xc), true, by rw [e]; rfl, (fun h => by cases h), (fun h => by rw [e] at h; cases h)⟩
  obtain ⟨va, vl, vc⟩ := v4
  rw [hv] at hL
  have hlk := hL _ HM.out
  have HLL := Lib.hid hL
  have HBN := Lib.hid hb
  clear hL hv hF hb
  go_cut [8] (fun v8 wx => v8 = .bool b ∧ wx = (w1.alloc (.cells #[.string v0, .string v1, .int .i64 v2, .int .i64 v3, .slice va vl vc] TC)).drew)
  case first =>
    go_region_held3 (fun w' => w'.cell? ⟨tb, 1, none⟩ = some (.map (some m2)) ∧ w'.cell? ⟨w.heap.size, 0, none⟩ = some (.string nm) ∧ (Instr.lookup 65 (.map (some m2)) (.string nm) true).run Try.prog w' = .ok (.tuple #[.agg #[.string v0, .string v1, .int .i64 v2, .int .i64 v3, .slice va vl vc], .bool b]) w')
      (first
        | exact ⟨y1, x0, hlk⟩
        | (go_split_ands
           refine ⟨by go_keep, by go_keep, ?_⟩
           refine HLL.out _ ?_
           repeat (first | exact HM.out | refine MapIs.drew ?_ | refine MapIs.alloc ?_ _ | refine MapIs.setCell ?_ (by simp; omega) _)))
      (fail)
    all_goals
      go_wp2_with fail
      go_meet
      exact ⟨rfl, rfl⟩
  case rest =>
    obtain ⟨rfl, rfl⟩ := hcut
    have HBa := Lib.hid ((Below.refl w1.heap.size w1).alloc (Nat.le_refl _) (.cells #[.string v0, .string v1, .int .i64 v2, .int .i64 v3, .slice va vl vc] TC)).drew
    have HB2 := Lib.hid (HB1.out.trans (HBa.out.mono (by have := HZ1.out; omega)))
    have HX2 := Lib.hid (HX1.out.below HBa.out HX1.out.lt)
    have HL2 := Lib.hid (HL.out.below HBa.out)
    have HR2 := Lib.hid (HR.out.below HBa.out fun b hb => by have := HZ1.out; omega)
    have hz2 := HB2.out.size
    obtain ⟨w2, hw2⟩ : ∃ W, (w1.alloc (.cells #[.string v0, .string v1, .int .i64 v2, .int .i64 v3, .slice va vl vc] TC)).drew = W := ⟨_, rfl⟩
    rw [hw2] at HB2 HX2 HL2 HR2 hz2 ⊢
    clear hw2 hlk x0 x1 x2 x3 y1 hm2 HBa
    obtain ⟨x0, x1, x2, x3, _⟩ := HX2.out.cells4
    cases b with
    | true =>
      go_wp2_with fail
      go_ret
      exact ⟨_, rfl, HB2.out, (fun h => by have := HBN.out.2 h.1; cases this), fun e => absurd e (by decide)⟩
    | false =>
      have HW := Lib.hid (wrongin_any _ t (Nat.le_refl _) af cf w2 HL2.out (HR2.out.mono fun b hb => by omega) hl)
      go_wp2_with fail
      refine HW.out.mono ?_
      rintro e w3 ⟨e3, rfl, hb3, hc3⟩
      have HB3 := Lib.hid (HB2.out.trans (hb3.mono hz2))
      have HC3 := Lib.hid hc3
      clear hb3 hc3
      go_wp2_with fail
      go_ret
      exact ⟨_, rfl, HB3.out, fun h => HC3.out h.2, fun _ => HBN.out.1 trivial⟩
end Go.Proofs.Ytgmgnnmmapdikaa.Dc
