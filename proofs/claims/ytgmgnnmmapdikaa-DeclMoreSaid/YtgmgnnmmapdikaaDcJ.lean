/-
  CONTRACT of layer decl: a constructor is added.
-/
import Derived.Test.YtgmgnnmmapdikaaDcI
import Derived.Test.YtgmgnnmmapdikaaStillQ
namespace Go.Proofs.Ytgmgnnmmapdikaa.Dc
open Go.RowKit Mm Tm Mv Go.Maps Go.ChangeMaps Go.MapKept Go.WideMaps
set_option linter.unusedVariables false
set_option linter.unusedSimpArgs false
theorem Tstr : (Try.prog.info? 9).map (fun i => (i.zero, i.size, i.bytes)) = some (some (.string ByteArray.empty), 1, 16) := by kernel_rfl
/-- what addCon leaves -/
def AddPost (B : Nat) (tb m1 m2 n : Nat) (F1 F2 : FM) (vo : Value) (Lo : List Value) (V : ByteArray → Value) (L : ByteArray → List Value) (of nm : ByteArray) (p : Int) (u : Value) (w : World) (e : Ending) (w' : World) : Prop :=
  e = .returned (.tuple #[]) ∧ ∃ vo' v', TabP B w' tb m1 m2 (n + 2) (updF F1 of.data.toList (.agg #[.int .i64 p, v'])) (updF F2 nm.data.toList u) vo' vo' (Lo ++ [.string nm]) (fun x => if x = of then v' else V x) (fun x => if x = of then L of ++ [.string nm] else L x) ∧ Keeps m1 m2 w w' ∧ Below B w w'
theorem map_mine {w : World} {b n m1 m2 : Nat} {F : FM} (h : MapIs w Try.prog TS b n F) (hb : b = m1 ∨ b = m2) {o : Obj} (e : w.heap[b]? = some o) : Mine m1 m2 b o := by
  obtain ⟨D, ⟨es, clock, k1, _⟩, _⟩ := h
  rw [k1] at e
  injection e with e
  subst e
  exact hb
set_option maxRecDepth 100000 in
set_option maxHeartbeats 4000000 in
theorem addcon_any {B tb m1 m2 n : Nat} {F1 F2 : FM} {vo : Value} {Lo : List Value} {V : ByteArray → Value} {L : ByteArray → List Value} {of nm : ByteArray} {p : Int} {a : Option Addr} {k c : Nat} (w : World) (h : TabP B w tb m1 m2 n F1 F2 vo vo Lo V L)
    (hF : F1 of.data.toList = some (.agg #[.int .i64 p, V of])) (hof : of.size ≤ 9223372036854775807) (hnm : nm.size ≤ 9223372036854775807) (hn : n ≤ 1000000000) (hlo : Lo.length ≤ 1000000000) (hl : (L of).length ≤ 1000000000) :
    Calls Try.prog 19 #[.pointer (some ⟨tb, 0, none⟩), .string of, .string nm, .slice a k c] w (AddPost B tb m1 m2 n F1 F2 vo Lo V L of nm p (.agg #[.string nm, .string of, .int .i64 (L of).length, .int .i64 p, .slice a k c]) w) := by
  obtain ⟨i0, hi0, hi1, hi2, hi3⟩ := info_parts Tstr
  obtain ⟨ao, co, hvo⟩ := own_slice h.ord
  obtain ⟨av, cv, hvv⟩ := own_slice (h.row of)
  have HVV := Lib.hid hvv
  have HVO := Lib.hid hvo
  have HP := Lib.hid h
  have HF := Lib.hid hF
  have HS1 := Lib.hid (key_of hof)
  have HS2 := Lib.hid (key_of hnm)
  have htb := h.box.lt
  have hbb : B ≤ tb := h.btb
  obtain ⟨x0, x1, x2⟩ : w.cell? ⟨tb, 0, none⟩ = some (.map (some m1)) ∧ w.cell? ⟨tb, 1, none⟩ = some (.map (some m2)) ∧ w.cell? ⟨tb, 2, none⟩ = some vo := ⟨h.box.cell 0, h.box.cell 1, h.box.cell 2⟩
  clear h hF hof hnm
  go_enter Try.func19, Try.ntmps19
  go_wp2_with (at_lookup; refine wpList_look _ rfl _ _ 64 rfl TS 70 keyS Try.underlying64 (zeroDat _) m1 n F1 rfl HP.out.map1 _ _ rfl HS1.out ?_; rw [HF.out, Option.getD_some])
  have HB1 := Lib.hid ((Below.refl w.heap.size w).alloc (Nat.le_refl _) (.cells #[.int .i64 p, .slice av (L of).length cv] 70))
  have HP1 := Lib.hid (HP.out.alloc (.cells #[.int .i64 p, .slice av (L of).length cv] 70))
  have HK1 := Lib.hid ((Keeps.refl m1 m2 w).alloc (.cells #[.int .i64 p, .slice av (L of).length cv] 70))
  have HX1 := Box.new w #[.int .i64 p, .slice av (L of).length cv] 70
  obtain ⟨d0, d1, e0, e1⟩ := HX1.cells2
  replace x0 := (HB1.out.cell (p := ⟨tb, 0, none⟩) htb).trans x0
  replace x1 := (HB1.out.cell (p := ⟨tb, 1, none⟩) htb).trans x1
  replace x2 := (HB1.out.cell (p := ⟨tb, 2, none⟩) htb).trans x2
  have HZ1 := Lib.hid (show (w.alloc (.cells #[.int .i64 p, .slice av (L of).length cv] 70)).heap.size = w.heap.size + 1 by simp)
  have HX1' := Lib.hid HX1
  clear HX1
  obtain ⟨W1, hW1⟩ : ∃ W, w.alloc (.cells #[.int .i64 p, .slice av (L of).length cv] 70) = W := ⟨_, rfl⟩
  rw [hW1] at x0 x1 x2 d0 d1 e0 e1 HB1 HP1 HX1' HZ1 HK1 ⊢
  clear hW1
  go_still_tail 14, (by kernel_rfl)
  change wpList _ _ _ _ _ W1.drew
  go_wp2_with (at_mapUpdate; refine wpList_put _ rfl _ _ _ 65 rfl TS TC keyS Try.underlying65 m2 n F2 rfl HP1.out.map2.drew (by unfold maxLen; omega) _ _ _ rfl rfl HS2.out ?_)
  intro w2 hm2 hg2
  have HP2 := Lib.hid (HP1.out.drew.put2 hm2 hg2)
  have HK2 := Lib.hid (HK1.out.drew.grown hg2 (fun o e => map_mine HP1.out.map2 (.inr rfl) e))
  have HX2 := Lib.hid ((show Box W1.drew w.heap.size 70 #[.int .i64 p, .slice av (L of).length cv] from HX1'.out).grown hg2 (fun e => map_not_cells HP1.out.map2 (by injection e with e; subst e; exact HX1'.out)))
  have HB2 := Lib.hid ((HB1.out.mono (B' := B) (by omega)).drew.grown hg2 (by have := HZ1.out; show B ≤ W1.heap.size; omega) (fun q hq => by injection hq with hq; subst hq; exact HP1.out.bm2))
  have HV := HVV.out
  have HR2 := Lib.hid (HP2.out.row of)
  rw [HV] at HR2
  clear HV
  obtain ⟨d0', d1', e0', e1'⟩ := HX2.out.cells2
  have hzw := (Nat.le_trans (Nat.le_of_eq HZ1.out.symm) (show W1.heap.size ≤ w2.heap.size from hg2.size))
  clear hm2 hg2 d0 d1 e0 e1 x0 x1 x2
  go_wp2_with (at_builtin; refine wpList_append_own_at _ rfl _ _ 35 rfl B TS i0 _ 1 16 Try.underlying35 hi0 hi1 hi2 hi3 rfl (by decide) _ _ _ rfl (HR2.out.alloc _) ⟨w2.heap.size, 0, none⟩ 1 1 [.string nm] rfl rfl (Go.cell_one_new _ _ _) (fun u hu => by simp only [List.mem_singleton] at hu; rw [hu]; rfl) (by unfold maxLen; omega) (by omega) (by simp; omega) ?_)
  intro v3 w3 hown3 hg3 _ hat3
  obtain ⟨a3, c3, rfl⟩ := own_slice hown3
  have e3 : (Value.slice av (L of).length cv).ownBlock = (V of).ownBlock := by rw [HVV.out]
  rw [e3] at hg3 hat3
  have HP3 := Lib.hid ((HP2.out.alloc (.cells #[.string nm] TS)).app of (xs := L of ++ [.string nm]) (by rwa [List.length_append, List.length_singleton]) hg3 (by simpa using hat3))
  have HK3 := Lib.hid ((HK2.out.alloc (.cells #[.string nm] TS)).row (HR2.out.alloc (.cells #[.string nm] TS)) (by rw [e3]; exact hg3))
  have HX3 := Lib.hid ((HX2.out.alloc (.cells #[.string nm] TS)).grown hg3 (own_ne ((HP2.out.row of).alloc (.cells #[.string nm] TS)) (HX2.out.alloc (.cells #[.string nm] TS)) (by decide)))
  have HB3 := Lib.hid ((HB2.out.alloc (by omega) (.cells #[.string nm] TS)).grown hg3 (by simp; omega) (fun q hq => ((HP2.out.row of).lt q hq).1))
  have hz3 : w.heap.size + 1 ≤ w3.heap.size := by have := hg3.size; simp at this; omega
  obtain ⟨d0'', d1'', e0'', e1''⟩ := HX3.out.cells2
  have HX4 := Lib.hid (show Box (w3.setCell ⟨w.heap.size, 1, none⟩ (.slice a3 ((L of).length + 1) c3)) w.heap.size 70 #[.int .i64 p, .slice a3 ((L of).length + 1) c3] from HX3.out.put 1 (.slice a3 ((L of).length + 1) c3))
  have HP4 := Lib.hid (HP3.out.far HX3.out (by decide) (by decide) 1 (.slice a3 ((L of).length + 1) c3))
  have HK4 := Lib.hid (HK3.out.setNew (g := w.heap.size) (Nat.le_refl _) 1 (.slice a3 ((L of).length + 1) c3))
  have HB4 := Lib.hid (HB3.out.setCell (p := ⟨w.heap.size, 1, none⟩) (by show B ≤ w.heap.size; omega) (.slice a3 ((L of).length + 1) c3))
  have HZ4 := Lib.hid (show (w3.setCell ⟨w.heap.size, 1, none⟩ (.slice a3 ((L of).length + 1) c3)).heap.size = w3.heap.size from World.size_setCell _ _ _)
  obtain ⟨w4, hw4⟩ : ∃ W, w3.setCell ⟨w.heap.size, 1, none⟩ (.slice a3 ((L of).length + 1) c3) = W := ⟨_, rfl⟩
  rw [hw4] at HX4 HP4 HK4 HB4 HZ4
  have f0 := HX4.out.cell 0
  have f1 := HX4.out.cell 1
  have y0 : w4.cell? ⟨tb, 0, none⟩ = some (.map (some m1)) := HP4.out.box.cell 0
  have y2 : w4.cell? ⟨tb, 2, none⟩ = some vo := HP4.out.box.cell 2
  have y2f := HP4.out.box.free 2
  clear hown3 hg3 hat3 e3
  go_wp2_with fail
  clear hw4 d0' d1' e0' e1' d0'' d1'' e0'' e1'' y2f
  go_still_tail 6, (by kernel_rfl)
  change wpList _ _ _ _ _ w4.drew
  go_wp2_with (at_mapUpdate; refine wpList_put _ rfl _ _ _ 64 rfl TS 70 keyS Try.underlying64 m1 (n + 1) F1 rfl HP4.out.map1.drew (by unfold maxLen; omega) _ _ _ rfl rfl HS1.out ?_)
  intro w5 hm5 hg5
  have HP5 := Lib.hid (HP4.out.drew.put1 hm5 hg5)
  have HK5 := Lib.hid (HK4.out.drew.grown hg5 (fun o e => map_mine HP4.out.map1 (.inl rfl) e))
  have HB5 := Lib.hid (HB4.out.drew.grown hg5 (by have := HZ4.out; show B ≤ w4.heap.size; omega) (fun q hq => by injection hq with hq; subst hq; exact HP4.out.bm1))
  have hz5 : w.heap.size + 1 ≤ w5.heap.size := by have := hg5.size; have := HZ4.out; have e : w4.drew.heap.size = w4.heap.size := rfl; omega
  have z0 : w5.cell? ⟨tb, 2, none⟩ = some vo := HP5.out.box.cell 2
  have z0f := HP5.out.box.free 2
  have HO5 := Lib.hid HP5.out.ord
  have HVO5 := HVO.out
  rw [HVO5] at HO5 z0
  clear hm5 hg5 y0 y2 f0 f1 HVO5
  go_wp2_with (at_builtin; refine wpList_append_own_at _ rfl _ _ 35 rfl B TS i0 _ 1 16 Try.underlying35 hi0 hi1 hi2 hi3 rfl (by decide) _ _ _ rfl (HO5.out.alloc _) ⟨w5.heap.size, 0, none⟩ 1 1 [.string nm] rfl rfl (Go.cell_one_new _ _ _) (fun u hu => by simp only [List.mem_singleton] at hu; rw [hu]; rfl) (by unfold maxLen; omega) (by omega) (by simp; omega) ?_)
  intro v6 w6 hown6 hg6 _ hat6
  obtain ⟨a6, c6, rfl⟩ := own_slice hown6
  have e6 : (Value.slice ao Lo.length co).ownBlock = vo.ownBlock := by rw [HVO.out]
  rw [e6] at hg6 hat6
  have HP6 := Lib.hid ((HP5.out.alloc (.cells #[.string nm] TS)).appo (xs := Lo ++ [.string nm]) (by rwa [List.length_append, List.length_singleton]) hg6 (by simpa using hat6))
  have HK6 := Lib.hid ((HK5.out.alloc (.cells #[.string nm] TS)).row (HP5.out.ord.alloc (.cells #[.string nm] TS)) hg6)
  have HB6 := Lib.hid ((HB5.out.alloc (by omega) (.cells #[.string nm] TS)).grown hg6 (by simp; omega) (fun q hq => (HP5.out.ord.lt q hq).1))
  have z6 := HP6.out.box.cell 2
  have z6f := HP6.out.box.free 2
  have HP7 := Lib.hid (HP6.out.set (.slice a6 (Lo.length + 1) c6))
  have HK7 := Lib.hid (HK6.out.set HP6.out.box 2 (.slice a6 (Lo.length + 1) c6))
  have HB7 := Lib.hid (HB6.out.setCell (p := ⟨tb, 2, none⟩) hbb (.slice a6 (Lo.length + 1) c6))
  clear hown6 hg6 hat6 e6 z0 z0f
  go_wp2_with fail
  go_end0
  exact ⟨rfl, _, _, HP7.out, HK7.out, HB7.out⟩
end Go.Proofs.Ytgmgnnmmapdikaa.Dc
