/-
  CONTRACT of layer decl: a constructor that is known, in new memory.
-/
import Derived.Test.YtgmgnnmmapdikaaDcE
import Derived.Test.YtgmgnnmmapdikaaConMem
namespace Go.Proofs.Ytgmgnnmmapdikaa.Dc
open Go.RowKit Mm Tm Mv Go.Maps Go.ChangeMaps Go.MapKept Go.WideMaps
set_option linter.unusedVariables false
set_option linter.unusedSimpArgs false
abbrev TC : TypeId := 41
abbrev TTab : TypeId := 67
/-- a constructor by its value: its fields lie at a -/
abbrev conV (x : ConS) (a : Option Addr) (c : Nat) : Value := .agg #[.string x.name, .string x.data, .int .i64 x.tag, .int .i64 x.params, .slice a x.fields.length c]
abbrev zeroConV : Value := .agg #[.string ⟨#[]⟩, .string ⟨#[]⟩, .int .i64 0, .int .i64 0, .slice none 0 0]
theorem zeroCon (w : World) : (zeroValue 41).run Try.prog w = .ok zeroConV w := by kernel_rfl
/-- what known answers -/
def KnownPost (x : ConS) (w : World) (e : Ending) (w' : World) : Prop := ∃ a c, e = .returned (conV x a c) ∧ RdT (fun b => w.heap.size ≤ b ∧ TyB TT w' b) w' a (Tys.ofL x.fields) 0 ∧ Below w.heap.size w w'
theorem known_end {x : ConS} {w w1 w3 W1 W : World} {a3 : Option Addr} {c3 : Nat} (hl : w1.heap.size = w.heap.size + 1 + 1) (ho : OwnT w1.heap.size TT w3 (.slice a3 x.fields.length c3) x.fields) (hb : Below w.heap.size w w3) (h1 : Wrote w3 W1 (w.heap.size + 1)) (h2 : Wrote W1 W w.heap.size) :
    KnownPost x w (.returned (conV x a3 c3)) W := by
  refine ⟨a3, c3, rfl, ?_, h2.below (h1.below hb (by omega)) (Nat.le_refl _)⟩
  have h := ho.reads
  exact h.frame (fun b o hZ => (h2.cell _ (by show b ≠ _; omega)).trans (h1.cell _ (by show b ≠ _; omega))) (fun ad hZ => (h2.cell _ (by omega)).trans (h1.cell _ (by omega))) (fun b hZ => ⟨by omega, hZ.2.same ((h2.block b (by omega)).trans (h1.block b (by omega)))⟩)
set_option maxRecDepth 100000 in
set_option maxHeartbeats 4000000 in
theorem dknown_any {tb m2 n2 : Nat} {F2 : FM} {s : ByteArray} {x : ConS} {a : Option Addr} {c : Nat} (w : World) (ht : w.cell? ⟨tb, 1, none⟩ = some (.map (some m2))) (hm : MapIs w Try.prog TS m2 n2 F2) (hs : s.size ≤ 9223372036854775807) (hF : (F2 s.data.toList).getD zeroConV = conV x a c)
    (hr : RdT (· < w.heap.size) w a (Tys.ofL x.fields) 0) (hl : x.fields.length * 56 ≤ 140737488355328) :
    Calls Try.prog 22 #[.pointer (some ⟨tb, 0, none⟩), .string s] w (KnownPost x w) := by
  have htb := World.block_lt_of_cell? _ _ ht
  have HM := Lib.hid hm
  have HS := Lib.hid (key_of hs)
  have HF := Lib.hid hF
  have HB0 := Lib.hid ((Below.refl w.heap.size w).alloc (Nat.le_refl _) (.cells #[.string ⟨#[]⟩, .string ⟨#[]⟩, .int .i64 0, .int .i64 0, .slice none 0 0] TC))
  have HB1 := Lib.hid (HB0.out.alloc (by simp) (.cells #[.string x.name, .string x.data, .int .i64 x.tag, .int .i64 x.params, .slice a x.fields.length c] TC))
  have HX0 := Lib.hid ((Box.new w #[.string ⟨#[]⟩, .string ⟨#[]⟩, .int .i64 0, .int .i64 0, .slice none 0 0] TC).alloc (.cells #[.string x.name, .string x.data, .int .i64 x.tag, .int .i64 x.params, .slice a x.fields.length c] TC))
  have HY0 := Lib.hid (Box.at_ (w := w.alloc (.cells #[.string ⟨#[]⟩, .string ⟨#[]⟩, .int .i64 0, .int .i64 0, .slice none 0 0] TC)) #[.string x.name, .string x.data, .int .i64 x.tag, .int .i64 x.params, .slice a x.fields.length c] TC (k := w.heap.size + 1) (by simp))
  have HE := Lib.hid (copies_any (a := a) (c := c) (l := x.fields) _ ((hr.below HB1.out fun b h => h).mono fun b h => by simp; omega) hl)
  clear hm hs hF hr hl
  go_enter Try.func22, Try.ntmps22
  go_wp2_with (at_lookup; refine wpList_look _ rfl _ _ 65 rfl TS TC keyS Try.underlying65 (zeroCon _) m2 n2 F2 rfl (HM.out.alloc _) _ _ rfl HS.out ?_; rw [HF.out])
  refine HE.out.mono ?_
  rintro e w3 ⟨a3, c3, rfl, ho3, hb3⟩
  rw [List.map_id] at ho3
  have HO := Lib.hid ho3
  have HB := Lib.hid (HB1.out.trans (hb3.mono (by simp; omega)))
  have hX := HX0.out.below hb3 (by simp; omega)
  have hY := HY0.out.below hb3 (by simp)
  obtain ⟨x0, x1, x2, x3, x4, y0, y1, y2, y3, y4⟩ := hY.cells5
  have hY1 := hY.put 4 (.slice a3 x.fields.length c3)
  have HW1 := (Wrote.refl w3 (w.heap.size + 1)).set 4 (.slice a3 x.fields.length c3)
  obtain ⟨W1, hW1⟩ : ∃ W, w3.setCell ⟨w.heap.size + 1, 4, none⟩ (.slice a3 x.fields.length c3) = W := ⟨_, rfl⟩
  rw [hW1] at hY1 HW1
  have hX1 := hX.wrote HW1 (by omega)
  replace hY1 : Box W1 (w.heap.size + 1) TC #[.string x.name, .string x.data, .int .i64 x.tag, .int .i64 x.params, .slice a3 x.fields.length c3] := hY1
  obtain ⟨p0, p1, p2, p3, p4, _⟩ := hY1.cells5
  obtain ⟨r0, r1, r2, r3, r4, s0, s1, s2, s3, s4⟩ := hX1.cells5
  obtain ⟨W, hW, hbx, hwr⟩ := hX1.write5 (.string x.name) (.string x.data) (.int .i64 x.tag) (.int .i64 x.params) (.slice a3 x.fields.length c3)
  obtain ⟨q0, q1, q2, q3, q4, _⟩ := hbx.cells5
  have HW := Lib.hid hwr
  have HWW := Lib.hid HW1
  have Q0 := Lib.hid q0
  have Q1 := Lib.hid q1
  have Q2 := Lib.hid q2
  have Q3 := Lib.hid q3
  have Q4 := Lib.hid q4
  clear hb3 hX hY ho3 hX1 hY1 HW1 hbx hwr q0 q1 q2 q3 q4
  go_wp2_with fail
  refine bodyPost_ret (v := conV x a3 c3) (by simp [results, Try.results22, go_sem, Q0.out, Q1.out, Q2.out, Q3.out, Q4.out]) rfl ?_
  exact known_end (w1 := (w.alloc (.cells #[.string ⟨#[]⟩, .string ⟨#[]⟩, .int .i64 0, .int .i64 0, .slice none 0 0] TC)).alloc (.cells #[.string x.name, .string x.data, .int .i64 x.tag, .int .i64 x.params, .slice a x.fields.length c] TC)) (by simp) HO.out HB.out HWW.out HW.out
end Go.Proofs.Ytgmgnnmmapdikaa.Dc
