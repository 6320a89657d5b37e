/-
  CONTRACTS of layer decl: a variable; one type numbered (the closure of numbered).
-/
import Derived.Test.YtgmgnnmmapdikaaDcA
import Derived.Test.YtgmgnnmmapdikaaBoxes
namespace Go.Proofs.Ytgmgnnmmapdikaa.Dc
open Go.RowKit Mm Tm Mv Go.Maps Go.ChangeMaps Go.MapKept Go.WideMaps
set_option linter.unusedVariables false
set_option linter.unusedSimpArgs false
/-- a type by its value: its own row lies at a -/
abbrev tyV (x : Ty) (a : Option Addr) (c : Nat) : Value := .agg #[.int .i64 x.kd, .int .i64 x.n, .string x.nm, .slice a x.args.len c]
def intV1 : Value → Int
  | .int _ n => n
  | _ => 0
/-- the place of a name -/
def placeN (F : FM) (s : ByteArray) : Int := intV1 ((F s.data.toList).getD (.int .i64 0))
/-- the function of places is one of numbers -/
def IntF (F : FM) : Prop := ∀ s, ∃ n : Int, (F s).getD (.int .i64 0) = .int .i64 n
theorem IntF.at_ {F : FM} (h : IntF F) (s : ByteArray) : (F s.data.toList).getD (.int .i64 0) = .int .i64 (placeN F s) := by
  obtain ⟨n, hn⟩ := h s.data.toList
  unfold placeN
  rw [hn]
  rfl
def numK (F : FM) : Tys → Tys
  | .nil => .nil
  | .cons kd n nm args rest => if kd = 1 then .cons 1 (placeN F nm) ByteArray.empty .nil (numK F rest) else if kd = 2 then .cons 2 0 nm (numK F args) (numK F rest) else .cons 3 0 ByteArray.empty (numK F args) (numK F rest)
def numX (F : FM) (x : Ty) : Ty := if x.kd = 1 then ⟨1, placeN F x.nm, ByteArray.empty, .nil⟩ else if x.kd = 2 then ⟨2, 0, x.nm, numK F x.args⟩ else ⟨3, 0, ByteArray.empty, numK F x.args⟩
theorem numK_toL (F : FM) : ∀ t : Tys, (numK F t).toL = t.toL.map (numX F)
  | .nil => rfl
  | .cons kd n nm args rest => by
    rw [numK, Tys.toL, List.map_cons, ← numK_toL F rest, numX]
    split
    · rfl
    · split <;> rfl
theorem numK_len (F : FM) (t : Tys) : (numK F t).len = t.len := by rw [← Tys.toL_len, numK_toL, List.length_map, Tys.toL_len]
theorem zeroInt (w : World) : (zeroValue 3).run Try.prog w = .ok (.int .i64 0) w := by kernel_rfl
theorem var_any (n : Int) (w : World) : Calls Try.prog 24 #[.int .i64 n] w fun e w' => e = .returned (.agg #[.int .i64 1, .int .i64 n, .string ByteArray.empty, .slice none 0 0]) ∧ Below w.heap.size w w' := by
  go_enter Try.func24, Try.ntmps24
  go_wp2
  exact bodyPost_ret (v := .agg #[.int .i64 1, .int .i64 n, .string ByteArray.empty, .slice none 0 0]) (by simp [results, Try.results24, go_sem]; rfl) rfl ⟨rfl, by go_grown⟩
theorem bcell {W w1 : World} (hb : Below W.heap.size W w1) : (∀ b o, b < W.heap.size → w1.cell? ⟨b, o, none⟩ = W.cell? ⟨b, o, none⟩) ∧ (∀ b o, b < W.heap.size → w1.frozen? ⟨b, o, none⟩ = W.frozen? ⟨b, o, none⟩) :=
  ⟨fun b o h => hb.cell (p := ⟨b, o, none⟩) h, fun b o h => hb.frozen (p := ⟨b, o, none⟩) h⟩
/-- what numbered answers -/
def NumPost (F : FM) (t : Tys) (w : World) (e : Ending) (w' : World) : Prop := ∃ a c, e = .returned (.slice a t.len c) ∧ OwnT w.heap.size TT w' (.slice a t.len c) (numK F t).toL ∧ Below w.heap.size w w'
/-- what the closure answers -/
def NumXPost (F : FM) (x : Ty) (w : World) (e : Ending) (w' : World) : Prop := ∃ a c, e = .returned (tyV (numX F x) a c) ∧ RdT (fun b => w.heap.size ≤ b ∧ TyB TT w' b) w' a (numX F x).args 0 ∧ Below w.heap.size w w'
/-- two boxes and a cell below them, behind a call that makes memory -/
theorem two_keep {w w0 w3 : World} {c0 c1 c2 c3 d0 d1 d2 d3 u : Value} {pb : Nat} (hz : w0.heap.size = w.heap.size + 1 + 1) (hX : Box w0 w.heap.size TT #[c0, c1, c2, c3]) (hY : Box w0 (w.heap.size + 1) TT #[d0, d1, d2, d3]) (hp : w0.cell? ⟨pb, 0, none⟩ = some u) (hpb : pb < w.heap.size) (hb : Below w0.heap.size w0 w3) :
    w3.cell? ⟨pb, 0, none⟩ = some u ∧ w3.cell? ⟨w.heap.size, 2, none⟩ = some c2 ∧ w3.cell? ⟨w.heap.size, 3, none⟩ = some c3 ∧ Box w3 (w.heap.size + 1) TT #[d0, d1, d2, d3] :=
  ⟨(hb.cell (p := ⟨pb, 0, none⟩) (by show pb < _; omega)).trans hp, (hX.below hb (by omega)).cell 2, (hX.below hb (by omega)).cell 3, hY.below hb (by omega)⟩
/-- the end, behind the call for what a type is made of -/
theorem numx_end {F : FM} {x : Ty} {args : Tys} {y : Ty} {w w1 w3 W : World} {a3 : Option Addr} {c3 : Nat} (hx : numX F y = ⟨x.kd, x.n, x.nm, numK F args⟩) (ha : y.args = args) (hl : w1.heap.size = w.heap.size + 1 + 1) (ho : OwnT w1.heap.size TT w3 (.slice a3 args.len c3) (numK F args).toL) (hb : Below w.heap.size w w3) (hw : Wrote w3 W (w.heap.size + 1)) :
    NumXPost F y w (.returned (.agg #[.int .i64 x.kd, .int .i64 x.n, .string x.nm, .slice a3 args.len c3])) W := by
  refine ⟨a3, c3, ?_, ?_, hw.below hb (by omega)⟩
  · rw [hx]
    show _ = Ending.returned (.agg #[.int .i64 x.kd, .int .i64 x.n, .string x.nm, .slice a3 (numK F args).len c3])
    rw [numK_len]
  · rw [hx]
    have h := ho.reads
    rw [Tys.ofL_toL] at h
    exact h.frame (fun b o hZ => hw.cell _ (by show b ≠ _; omega)) (fun ad hZ => hw.cell _ (by omega)) (fun b hZ => ⟨by omega, hZ.2.same (hw.block b (by omega))⟩)
set_option maxRecDepth 100000 in
set_option maxHeartbeats 2000000 in
theorem numx_any {F : FM} {x : Ty} {a : Option Addr} {c mb n pb : Nat} (w : World) (hF : IntF F) (hm : MapIs w Try.prog TS mb n F) (hp : w.cell? ⟨pb, 0, none⟩ = some (.map (some mb))) (hs : x.nm.size ≤ 9223372036854775807)
    (hN : ∀ w', Below w.heap.size w w' → Calls Try.prog 20 #[.slice a x.args.len c, .map (some mb)] w' (NumPost F x.args w')) :
    Calls Try.prog 28 #[tyV x a c, .pointer (some ⟨pb, 0, none⟩)] w (NumXPost F x w) := by
  have HF := Lib.hid hF
  have HM := Lib.hid hm
  have HN := Lib.hid hN
  have HS := Lib.hid (key_of hs)
  obtain ⟨kd, nn, nm, args⟩ := x
  have hpb := World.block_lt_of_cell? _ _ hp
  clear hF hm hN hs
  by_cases h1 : kd = 1
  · subst h1
    have HX1 := Lib.hid (show numX F ⟨1, nn, nm, args⟩ = ⟨1, placeN F nm, ByteArray.empty, .nil⟩ from rfl)
    go_enter Try.func28, Try.ntmps28
    go_wp2_with (at_lookup; refine wpList_look _ rfl _ _ 58 rfl TS 3 keyS Try.underlying58 (zeroInt _) mb n F rfl ((HM.out.alloc _).alloc _) _ _ rfl HS.out ?_)
    rw [HF.out.at_ nm]
    refine (var_any _ _).mono ?_
    rintro e w3 ⟨rfl, hb3⟩
    have HB := Lib.hid ((((Below.refl w.heap.size w).alloc (Nat.le_refl _) (.cells #[.int .i64 1, .int .i64 nn, .string nm, .slice a args.len c] TT)).alloc (by simp) (.cells #[.int .i64 0, .int .i64 0, .string ByteArray.empty, .slice none 0 0] TT)).trans (hb3.mono (by simp; omega)))
    have HX := (Box.at_ (w := w.alloc (.cells #[.int .i64 1, .int .i64 nn, .string nm, .slice a args.len c] TT)) #[.int .i64 0, .int .i64 0, .string ByteArray.empty, .slice none 0 0] TT (k := w.heap.size + 1) (by simp)).below hb3 (by simp)
    obtain ⟨x0, x1, x2, x3, y0, y1, y2, y3⟩ := HX.cells4
    obtain ⟨W, hW, hbx, hwr⟩ := HX.write4 (.int .i64 1) (.int .i64 (placeN F nm)) (.string ByteArray.empty) (.slice none 0 0)
    obtain ⟨q0, q1, q2, q3, _⟩ := hbx.cells4
    have HBW := Lib.hid (hwr.below HB.out (by omega))
    have Q0 := Lib.hid q0
    have Q1 := Lib.hid q1
    have Q2 := Lib.hid q2
    have Q3 := Lib.hid q3
    clear hb3 HX hbx hwr q0 q1 q2 q3
    go_wp2_with fail
    refine bodyPost_ret (v := tyV ⟨1, placeN F nm, ByteArray.empty, .nil⟩ none 0) (by simp [results, Try.results28, go_sem, Q0.out, Q1.out, Q2.out, Q3.out]; rfl) rfl ?_
    exact ⟨none, 0, by rw [HX1.out], by rw [HX1.out]; trivial, HBW.out⟩
  · by_cases h2 : kd = 2
    · subst h2
      have HX1 := Lib.hid (show numX F ⟨2, nn, nm, args⟩ = ⟨2, 0, nm, numK F args⟩ from rfl)
      clear h1
      go_enter Try.func28, Try.ntmps28
      go_wp2_with fail
      have HB0 := Lib.hid (((Below.refl w.heap.size w).alloc (Nat.le_refl _) (.cells #[.int .i64 2, .int .i64 nn, .string nm, .slice a args.len c] TT)).alloc (by simp) (.cells #[.int .i64 0, .int .i64 0, .string ByteArray.empty, .slice none 0 0] TT))
      have HX0 := (Box.new w #[.int .i64 2, .int .i64 nn, .string nm, .slice a args.len c] TT).alloc (.cells #[.int .i64 0, .int .i64 0, .string ByteArray.empty, .slice none 0 0] TT)
      have HY0 := Box.at_ (w := w.alloc (.cells #[.int .i64 2, .int .i64 nn, .string nm, .slice a args.len c] TT)) #[.int .i64 0, .int .i64 0, .string ByteArray.empty, .slice none 0 0] TT (k := w.heap.size + 1) (by simp)
      have hp0 := (HB0.out.cell (p := ⟨pb, 0, none⟩) hpb).trans hp
      obtain ⟨s0, s1, s2, s3, _⟩ := HX0.cells4
      go_region_held3 (fun w' => w'.cell? ⟨pb, 0, none⟩ = some (.map (some mb)) ∧ w'.cell? ⟨w.heap.size, 2, none⟩ = some (.string nm) ∧ w'.cell? ⟨w.heap.size, 3, none⟩ = some (.slice a args.len c))
        (first | exact ⟨hp0, s2, s3⟩ | exact ⟨p3, t2, t3⟩ | exact ⟨p4, t4, t5⟩ | (rw [hW]; exact ⟨p4, t4, t5⟩) | go_keep)
        (first | (go_at_call 20; refine (HN.out _ HB0.out.drew).mono ?_; rintro e w3 ⟨a3, c3, rfl, ho3, hb3⟩; obtain ⟨p3, t2, t3, hbx3⟩ := two_keep (w := w) (w0 := World.drew _) (by simp) HX0.drew HY0.drew hp0 hpb hb3; obtain ⟨x0, x1, x2, x3, y0, y1, y2, y3⟩ := hbx3.cells4; obtain ⟨W, hW, hbx, hwr⟩ := hbx3.write4 (.int .i64 2) (.int .i64 0) (.string nm) (.slice a3 args.len c3); have p4 := (hwr.cell ⟨pb, 0, none⟩ (by show pb ≠ _; omega)).trans p3; have t4 := (hwr.cell ⟨w.heap.size, 2, none⟩ (by show w.heap.size ≠ _; omega)).trans t2; have t5 := (hwr.cell ⟨w.heap.size, 3, none⟩ (by show w.heap.size ≠ _; omega)).trans t3))
      obtain ⟨q0, q1, q2, q3, _⟩ := hbx.cells4
      have HB := Lib.hid (HB0.out.drew.trans (hb3.mono HB0.out.size))
      have HO3 := Lib.hid ho3
      have HW := Lib.hid hwr
      have Q0 := Lib.hid q0
      have Q1 := Lib.hid q1
      have Q2 := Lib.hid q2
      have Q3 := Lib.hid q3
      clear hb3 hbx hwr q0 q1 q2 q3 ho3
      go_wp2_with fail
      refine bodyPost_ret (v := .agg #[.int .i64 2, .int .i64 0, .string nm, .slice a3 args.len c3]) (by simp [results, Try.results28, go_sem, Q0.out, Q1.out, Q2.out, Q3.out]) rfl ?_
      exact numx_end (x := ⟨2, 0, nm, args⟩) HX1.out rfl (by simp) HO3.out HB.out HW.out
    · have e1 : (kd == 1) = false := beq_eq_false_iff_ne.2 h1
      have e2 : (kd == 2) = false := beq_eq_false_iff_ne.2 h2
      have HX1 := Lib.hid (show numX F ⟨kd, nn, nm, args⟩ = ⟨3, 0, ByteArray.empty, numK F args⟩ by unfold numX; rw [if_neg h1, if_neg h2])
      clear h1 h2
      have HB0 := Lib.hid (((Below.refl w.heap.size w).alloc (Nat.le_refl _) (.cells #[.int .i64 kd, .int .i64 nn, .string nm, .slice a args.len c] TT)).alloc (by simp) (.cells #[.int .i64 0, .int .i64 0, .string ByteArray.empty, .slice none 0 0] TT))
      have hp0 := (HB0.out.cell (p := ⟨pb, 0, none⟩) hpb).trans hp
      go_enter Try.func28, Try.ntmps28
      go_wp2_with fail
      refine (HN.out _ HB0.out).mono ?_
      rintro e w3 ⟨a3, c3, rfl, ho3, hb3⟩
      have HO3 := Lib.hid ho3
      have HB := Lib.hid (HB0.out.trans (hb3.mono HB0.out.size))
      have HX := (Box.at_ (w := w.alloc (.cells #[.int .i64 kd, .int .i64 nn, .string nm, .slice a args.len c] TT)) #[.int .i64 0, .int .i64 0, .string ByteArray.empty, .slice none 0 0] TT (k := w.heap.size + 1) (by simp)).below hb3 (by simp)
      obtain ⟨x0, x1, x2, x3, y0, y1, y2, y3⟩ := HX.cells4
      obtain ⟨W, hW, hbx, hwr⟩ := HX.write4 (.int .i64 3) (.int .i64 0) (.string ⟨#[]⟩) (.slice a3 args.len c3)
      obtain ⟨q0, q1, q2, q3, _⟩ := hbx.cells4
      have HW := Lib.hid hwr
      have Q0 := Lib.hid q0
      have Q1 := Lib.hid q1
      have Q2 := Lib.hid q2
      have Q3 := Lib.hid q3
      clear hb3 HX hbx hwr q0 q1 q2 q3 ho3
      go_wp2_with fail
      refine bodyPost_ret (v := .agg #[.int .i64 3, .int .i64 0, .string ByteArray.empty, .slice a3 args.len c3]) (by simp [results, Try.results28, go_sem, Q0.out, Q1.out, Q2.out, Q3.out]; rfl) rfl ?_
      exact numx_end (x := ⟨3, 0, ByteArray.empty, args⟩) HX1.out rfl (by simp) HO3.out HB.out HW.out
end Go.Proofs.Ytgmgnnmmapdikaa.Dc
