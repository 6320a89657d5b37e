/-
  CONTRACTS of layer decl: what a table tells.
-/
import Derived.Test.YtgmgnnmmapdikaaDcG
namespace Go.Proofs.Ytgmgnnmmapdikaa.Dc
open Go.RowKit Mm Tm Mv Go.Maps Go.ChangeMaps Go.MapKept Go.WideMaps
set_option linter.unusedVariables false
set_option linter.unusedSimpArgs false
/-- the constructors of a data type -/
def ofD (cs : List ConS) (s : ByteArray) : List ConS := cs.filter fun x => decide (x.data = s)
/-- A table that is read: its constructors, and its data types with how many params each has. -/
structure TabR (B : Nat) (w : World) (tb : Nat) (cs : List ConS) (dl : List (ByteArray × Int)) : Prop where
  ex : ∃ m1 m2 n1 n2 F1 F2 ao co, tb < B ∧ m1 < B ∧ m2 < B ∧ w.cell? ⟨tb, 0, none⟩ = some (.map (some m1)) ∧ w.cell? ⟨tb, 1, none⟩ = some (.map (some m2)) ∧ w.cell? ⟨tb, 2, none⟩ = some (.slice ao cs.length co) ∧
    MapIs w Try.prog TS m1 n1 F1 ∧ MapIs w Try.prog TS m2 n2 F2 ∧ RdS (· < B) w ao (cs.map ConS.name) ∧ (∀ x ∈ cs, ConIs (· < B) w F2 x) ∧
    (∀ d ∈ dl, ∃ a c, F1 d.1.data.toList = some (.agg #[.int .i64 d.2, .slice a (ofD cs d.1).length c]) ∧ RdS (· < B) w a ((ofD cs d.1).map ConS.name)) ∧
    (∀ s, (∀ x ∈ cs, x.name.data.toList ≠ s) → F2 s = none) ∧ (∀ s, (∀ d ∈ dl, d.1.data.toList ≠ s) → F1 s = none)
theorem RdS.mono {Z Z' : Nat → Prop} {w : World} {a : Option Addr} {l : List ByteArray} (h : RdS Z w a l) (hz : ∀ b, Z b → Z' b) : RdS Z' w a l := h.frame (fun _ _ => rfl) hz
theorem TabR.below {B : Nat} {w w' : World} {tb : Nat} {cs : List ConS} {dl : List (ByteArray × Int)} (h : TabR B w tb cs dl) (hb : Below B w w') : TabR B w' tb cs dl := by
  obtain ⟨m1, m2, n1, n2, F1, F2, ao, co, t1, t2, t3, c0, c1, c2, h1, h2, h3, h4, h5, h6⟩ := h.ex
  exact ⟨m1, m2, n1, n2, F1, F2, ao, co, t1, t2, t3, (hb.cell (p := ⟨tb, 0, none⟩) t1).trans c0, (hb.cell (p := ⟨tb, 1, none⟩) t1).trans c1, (hb.cell (p := ⟨tb, 2, none⟩) t1).trans c2, h1.below hb t2, h2.below hb t3, h3.below hb fun b h => h,
    fun x hx => (h4 x hx).frame (fun ad hZ => hb.cell hZ) fun _ h => h, fun d hd => by obtain ⟨a, c, q1, q2⟩ := h5 d hd; exact ⟨a, c, q1, q2.below hb fun b h => h⟩, h6⟩
theorem hmfT : ∀ (fn : Fn) (first cap : Array Value) (w : World), (Instr.makeFunc fn first cap).run Try.prog w = .ok (.func fn first cap) w := fun _ _ _ _ => rfl
theorem fldDat (p v : Value) (w : World) : (Instr.field 70 (.agg #[p, v]) 1).run Try.prog w = .ok v w := by kernel_rfl
theorem zeroDat (w : World) : (zeroValue 70).run Try.prog w = .ok (.agg #[.int .i64 0, .slice none 0 0]) w := by kernel_rfl
set_option maxRecDepth 100000 in
theorem all_any {B tb : Nat} {cs : List ConS} {dl : List (ByteArray × Int)} (w : World) (h : TabR B w tb cs dl) (hB : B ≤ w.heap.size) (hl : cs.length ≤ 1000000000) :
    Calls Try.prog 9 #[.pointer (some ⟨tb, 0, none⟩)] w (EachCPost cs w) := by
  obtain ⟨m1, m2, n1, n2, F1, F2, ao, co, t1, t2, t3, c0, c1, c2, h1, h2, h3, h4, h5, h6, h7⟩ := h.ex
  have hmf := hmfT
  have HE := Lib.hid (cons_any (a := ao) (c := co) (l := cs) w c1 h2 hl (h3.mono fun b h => by omega) (fun x hx => (h4 x hx).frame (fun _ _ => rfl) fun b h => by omega))
  clear h h1 h2 h3 h4 h5 h6 h7 c0 c1
  go_enter Try.func9, Try.ntmps9
  go_wp2_with fail
  refine HE.out.mono ?_
  rintro e w3 ⟨a3, c3, rfl, ho3, hb3⟩
  have HO := Lib.hid ho3
  have HB := Lib.hid hb3
  clear ho3 hb3
  go_wp2_with fail
  go_ret
  exact ⟨a3, c3, rfl, HO.out, HB.out⟩
set_option maxRecDepth 100000 in
theorem consof_any {B tb : Nat} {cs : List ConS} {dl : List (ByteArray × Int)} {d : ByteArray × Int} (w : World) (h : TabR B w tb cs dl) (hB : B ≤ w.heap.size) (hl : cs.length ≤ 1000000000) (hd : d ∈ dl) (hs : d.1.size ≤ 9223372036854775807) :
    Calls Try.prog 11 #[.pointer (some ⟨tb, 0, none⟩), .string d.1] w (EachCPost (ofD cs d.1) w) := by
  obtain ⟨m1, m2, n1, n2, F1, F2, ao, co, t1, t2, t3, c0, c1, c2, h1, h2, h3, h4, h5, h6, h7⟩ := h.ex
  obtain ⟨a, c, hF, hr⟩ := h5 d hd
  have hle : (ofD cs d.1).length ≤ cs.length := List.length_filter_le _ _
  have hmf := hmfT
  have hfl := fldDat (.int .i64 d.2) (.slice a (ofD cs d.1).length c)
  have HS := Lib.hid (key_of hs)
  have HF := Lib.hid hF
  have HM := Lib.hid h1
  have HE := Lib.hid (cons_any (a := a) (c := c) (l := ofD cs d.1) w c1 h2 (by omega) (hr.mono fun b h => by omega) (fun x hx => (h4 x ((List.mem_filter.1 hx).1)).frame (fun _ _ => rfl) fun b h => by omega))
  clear h h1 h2 h3 h4 h5 h6 h7 c1 c2 hF hr hd
  go_enter Try.func11, Try.ntmps11
  go_wp2_with (at_lookup; refine wpList_look _ rfl _ _ 64 rfl TS 70 keyS Try.underlying64 (zeroDat _) m1 n1 F1 rfl HM.out _ _ rfl HS.out ?_; rw [HF.out, Option.getD_some])
  refine HE.out.mono ?_
  rintro e w3 ⟨a3, c3, rfl, ho3, hb3⟩
  have HO := Lib.hid ho3
  have HB := Lib.hid hb3
  clear ho3 hb3
  go_wp2_with fail
  go_ret
  exact ⟨a3, c3, rfl, HO.out, HB.out⟩
def ConPost (x : ConS) (w : World) (e : Ending) (w' : World) : Prop := ∃ a c, e = .returned (.tuple #[conV x a c, .bool true]) ∧ RdT (fun b => w.heap.size ≤ b ∧ TyB TT w' b) w' a (Tys.ofL x.fields) 0 ∧ Below w.heap.size w w'
set_option maxRecDepth 100000 in
set_option maxHeartbeats 4000000 in
theorem con_any {B tb : Nat} {cs : List ConS} {dl : List (ByteArray × Int)} {x : ConS} (w : World) (h : TabR B w tb cs dl) (hB : B ≤ w.heap.size) (hx : x ∈ cs) :
    Calls Try.prog 10 #[.pointer (some ⟨tb, 0, none⟩), .string x.name] w (ConPost x w) := by
  obtain ⟨m1, m2, n1, n2, F1, F2, ao, co, t1, t2, t3, c0, c1, c2, h1, h2, h3, h4, h5, h6, h7⟩ := h.ex
  obtain ⟨a, c, hF, hr, hfl, hs⟩ := h4 x hx
  have htb : tb < w.heap.size := by omega
  have HB0 := Lib.hid (((Below.refl w.heap.size w).alloc (Nat.le_refl _) (.cells #[.string ⟨#[]⟩, .string ⟨#[]⟩, .int .i64 0, .int .i64 0, .slice none 0 0] TC)).alloc (by simp) (.cells #[.string x.name, .string x.data, .int .i64 x.tag, .int .i64 x.params, .slice a x.fields.length c] TC))
  have HS := Lib.hid (key_of hs)
  have HF := Lib.hid hF
  have HM := Lib.hid h2
  have hX0 := Lib.hid ((Box.new w #[.string ⟨#[]⟩, .string ⟨#[]⟩, .int .i64 0, .int .i64 0, .slice none 0 0] TC).alloc (.cells #[.string x.name, .string x.data, .int .i64 x.tag, .int .i64 x.params, .slice a x.fields.length c] TC))
  have HE := Lib.hid (dknown_any (s := x.name) (x := x) (a := a) (c := c) _ ((HB0.out.cell (p := ⟨tb, 1, none⟩) (by show tb < _; omega)).trans c1) (h2.below HB0.out h2.lt) hs (by rw [hF]; rfl) ((hr.below HB0.out fun b h => by omega).mono fun b h => by simp; omega) hfl)
  clear h h1 h2 h3 h4 h5 h6 h7 c0 c2 hF hr hx
  go_enter Try.func10, Try.ntmps10
  go_wp2_with (at_lookup; refine wpList_look_ok _ rfl _ _ 65 rfl TS TC keyS Try.underlying65 (zeroCon _) m2 n2 F2 rfl (HM.out.alloc _) _ _ rfl HS.out ?_; rw [HF.out, Option.getD_some, Option.isSome_some])
  refine HE.out.mono ?_
  rintro e w3 ⟨a3, c3, rfl, hr3, hb3⟩
  have HR := Lib.hid hr3
  have HB := Lib.hid (HB0.out.trans (hb3.mono (by simp; omega)))
  have hX := hX0.out.below hb3 (by simp; omega)
  obtain ⟨r0, r1, r2, r3, r4, s0, s1, s2, s3, s4⟩ := hX.cells5
  obtain ⟨W, hW, hbx, hwr⟩ := hX.write5 (.string x.name) (.string x.data) (.int .i64 x.tag) (.int .i64 x.params) (.slice a3 x.fields.length c3)
  obtain ⟨q0, q1, q2, q3, q4, _⟩ := hbx.cells5
  have HW := Lib.hid hwr
  have Q0 := Lib.hid q0
  have Q1 := Lib.hid q1
  have Q2 := Lib.hid q2
  have Q3 := Lib.hid q3
  have Q4 := Lib.hid q4
  have hz3 := hb3.size
  simp at hz3
  clear hb3 hX hr3 hbx hwr q0 q1 q2 q3 q4
  go_wp2_with fail
  refine bodyPost_ret (v := .tuple #[conV x a3 c3, .bool true]) (by simp [results, Try.results10, go_sem, Q0.out, Q1.out, Q2.out, Q3.out, Q4.out]) rfl ?_
  exact ⟨a3, c3, rfl, HR.out.frame (fun b o hZ => HW.out.cell _ (by have := hZ.1; simp at this; show b ≠ _; omega)) (fun ad hZ => HW.out.cell _ (by have := hZ.1; simp at this; omega)) (fun b hZ => ⟨by have := hZ.1; simp at this; omega, hZ.2.same (HW.out.block b (by have := hZ.1; simp at this; omega))⟩), HW.out.below HB.out (Nat.le_refl _)⟩
set_option maxRecDepth 100000 in
theorem data_no {B tb : Nat} {cs : List ConS} {dl : List (ByteArray × Int)} {s : ByteArray} (w : World) (h : TabR B w tb cs dl) (hB : B ≤ w.heap.size) (hd : ∀ d ∈ dl, d.1.data.toList ≠ s.data.toList) (hs : s.size ≤ 9223372036854775807) :
    Calls Try.prog 13 #[.pointer (some ⟨tb, 0, none⟩), .string s] w fun e w' => e = .returned (.tuple #[.int .i64 0, .bool false]) ∧ Below w.heap.size w w' := by
  obtain ⟨m1, m2, n1, n2, F1, F2, ao, co, t1, t2, t3, c0, c1, c2, h1, h2, h3, h4, h5, h6, h7⟩ := h.ex
  have HS := Lib.hid (key_of hs)
  have HF := Lib.hid (h7 _ hd)
  have HM := Lib.hid h1
  clear h h1 h2 h3 h4 h5 h6 h7 c1 c2 hd
  go_enter Try.func13, Try.ntmps13
  go_wp2_with (at_lookup; refine wpList_look_ok _ rfl _ _ 64 rfl TS 70 keyS Try.underlying64 (zeroDat _) m1 n1 F1 rfl HM.out _ _ rfl HS.out ?_; rw [HF.out, Option.getD_none, Option.isSome_none])
  go_ret2
  exact ⟨rfl, by go_grown⟩
/-! a table that is not there -/
theorem con_nil (s : ByteArray) (w : World) : Calls Try.prog 10 #[.pointer none, .string s] w fun e w' => e = .returned (.tuple #[zeroConV, .bool false]) ∧ Below w.heap.size w w' := by
  go_enter Try.func10, Try.ntmps10
  go_wp2_with fail
  refine bodyPost_ret (v := .tuple #[zeroConV, .bool false]) (by simp [results, Try.results10, go_sem]) rfl ?_
  exact ⟨rfl, by go_grown⟩
theorem data_nil (s : ByteArray) (w : World) : Calls Try.prog 13 #[.pointer none, .string s] w fun e w' => e = .returned (.tuple #[.int .i64 0, .bool false]) ∧ Below w.heap.size w w' := by
  go_enter Try.func13, Try.ntmps13
  go_wp2_with fail
  go_ret2
  exact ⟨rfl, by go_grown⟩
theorem cons_nil (s : ByteArray) (w : World) : Calls Try.prog 11 #[.pointer none, .string s] w fun e w' => e = .returned (.slice none 0 0) ∧ Below w.heap.size w w' := by
  go_enter Try.func11, Try.ntmps11
  go_wp2_with fail
  go_ret
  exact ⟨rfl, by go_grown⟩
theorem all_nil (w : World) : Calls Try.prog 9 #[.pointer none] w fun e w' => e = .returned (.slice none 0 0) ∧ Below w.heap.size w w' := by
  go_enter Try.func9, Try.ntmps9
  go_wp2_with fail
  go_ret
  exact ⟨rfl, by go_grown⟩
end Go.Proofs.Ytgmgnnmmapdikaa.Dc
