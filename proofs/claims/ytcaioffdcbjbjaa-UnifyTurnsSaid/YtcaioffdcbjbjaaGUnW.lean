/-
  CONTRACT of layer unify: the open variables of a type: an iterator with memory of its own.
-/
import Derived.Test.YtcaioffdcbjbjaaGD

namespace Go.Proofs.Ytcaioffdcbjbjaa.Un
open Go.RowKit Go.Shelf Mm Tm Mk Go.Maps Go.ChangeMaps Go.MapKept Go.WideMaps Rg
set_option linter.unusedVariables false
set_option linter.unusedSimpArgs false
attribute [local go_sem] Oper.semAt_some
set_option maxRecDepth 100000 in
set_option maxHeartbeats 8000000 in
theorem open_seq {base : Nat} {Y : Nat → Prop} {q s m cnt n bt bs bd d0 : Nat} {nx : Int} {K : PS} {deep : Bool} {x : Ty} {a : Option Addr} {c : Nat} {L : List (Int × PF)} (hn : 9 ≤ n) (w0 : World) (hs : Box w0 s TSt #[.map (some m), .int .i64 nx]) (hk : KnI (ZT base Y w0) w0 m K cnt)
    (hbt : Box w0 bt TT #[.int .i64 x.kd, .int .i64 x.n, .string x.nm, .slice a x.args.len c]) (hbs : Box w0 bs TPSt #[.pointer (some ⟨s, 0, none⟩)]) (hbd : Box w0 bd TB #[.bool deep]) (hx : RdT (ZU base Y w0) w0 a x.args 0) (hl : x.args.len * 56 ≤ 140737488355328) (hnm : x.nm.size ≤ 9223372036854775807) (hd : d0 ≤ 1000000000)
    (hrun : openL q K deep d0 (fun _ => 0) [x] = some L) :
    Rg.Seq Try.prog n (fun _ _ => False) 39 #[.pointer (some ⟨bt, 0, none⟩), .pointer (some ⟨bs, 0, none⟩), .pointer (some ⟨bd, 0, none⟩)] encF (fun xs => xs.map (fun y => (y.1, y.2.least)) = L.map (fun y => (y.1, y.2.least))) (fun pre => ∃ rest, L.map (fun y => (y.1, y.2.least)) = pre.map (fun y => (y.1, y.2.least)) ++ rest) d0 w0 := by
  intro l J Jx W hW hlo hlt hXl hJ hJx hY h0
  have hmm := @run_makeMap Try.prog
  refine callsIn_of_wp_marks Try.func39 rfl trivial ?_ rfl
  simp only [Try.ntmps39, List.size_toArray, List.length_cons, List.length_nil, Nat.reduceAdd, Nat.reduceSub, Array.replicate_succ, Array.replicate_zero, List.push_toArray, List.append_toArray, List.nil_append, List.cons_append]
  refine wpIn_wide.2 ?_
  obtain ⟨x0, x1, x2, x3, _⟩ := (hbt.below hW hbt.lt).cells4
  obtain ⟨W1, hW1⟩ : ∃ W1, ((W.alloc (.map #[] 0)).alloc (.cells #[.int .i64 x.kd, .int .i64 x.n, .string x.nm, .slice a x.args.len c] TT)).alloc (.cells #[.slice (some ⟨W.heap.size + 1, 0, none⟩) 1 1] TTs) = W1 := ⟨_, rfl⟩
  have zbt : bt < W.heap.size := Nat.lt_of_lt_of_le hbt.lt hW.size
  have hB1 : Below W.heap.size W W1 := by rw [← hW1]; exact (((Below.refl W.heap.size W).alloc (Nat.le_refl _) _).alloc (by simp) _).alloc (by simp; omega) _
  have hz1 : W1.heap.size = W.heap.size + 3 := by rw [← hW1]; simp
  have hbx6 : Box W1 (W.heap.size + 2) TTs #[.slice (some ⟨W.heap.size + 1, 0, none⟩) 1 1] := by rw [← hW1]; exact Box.at_ _ _ (by simp)
  have hrow1 : Box W1 (W.heap.size + 1) TT #[.int .i64 x.kd, .int .i64 x.n, .string x.nm, .slice a x.args.len c] := by rw [← hW1]; exact (Box.at_ _ _ (by simp)).alloc _
  have hsm1 : MapK W1 Try.prog TI W.heap.size (fun _ => none) 0 := by rw [← hW1]; exact ((MapK.made W Try.prog TI).alloc _).alloc _
  have hown1 : W1.ownsRow W.heap.size TT 4 (.slice (some ⟨W.heap.size + 1, 0, none⟩) 1 1) 1 [.int .i64 x.kd, .int .i64 x.n, .string x.nm, .slice a x.args.len c] :=
    ⟨rfl, .inr ⟨W.heap.size + 1, 1, _, rfl, by omega, hrow1, Nat.le_refl _, by unfold maxLen; omega, by simp, rfl⟩⟩
  have HR1 : Hid (OpenR (ZU base Y w0) w0 W q K deep l J L d0 d0 [] W1 (fun _ => 0) [x] [x] [] L (some ⟨W.heap.size + 1, 0, none⟩) 1 [.int .i64 x.kd, .int .i64 x.n, .string x.nm, .slice a x.args.len c] (fun _ => none) 0) :=
    Lib.hid ⟨hrun, rfl, hJ _ _ _ h0 (Kept.of_below hB1 (Nat.le_refl _) _), Kept.of_below hB1 (Nat.le_refl _) _, hbx6, hown1, ⟨a, c, [], rfl, hnm, hl, (hx.below hW fun b hb => hb.lt).below hB1 (fun b hb => Nat.lt_of_lt_of_le hb.lt hW.size), rfl⟩, hsm1, fun n _ => rfl, by omega, trivial, by simp, by omega, by simp⟩
  have HHS := Lib.hid hs
  have HHK := Lib.hid hk
  have HBS := Lib.hid hbs
  have HBD := Lib.hid hbd
  have HJ := Lib.hid hJ
  have HJX := Lib.hid hJx
  have HY := Lib.hid hY
  have HW := Lib.hid hW
  clear hs hk hbt hbs hbd hx hJ hJx hY h0 hrun hB1 hz1 hbx6 hrow1 hsm1 hown1 hXl hl hnm
  go_wp2_with fail
  clear hW1 x0 x1 x2 x3
  refine wp_loop_ghost_k (fun d ac wr => ∃ (u7 u13 u14 u15 u16 u17 u18 u19 u20 u21 u22 u23 u24 u25 u26 u27 u28 u29 u30 u31 u32 u33 u34 u35 u36 u37 u38 u39 u40 u41 u42 u43 u44 u45 u46 u47 u48 u49 u50 u51 u52 u53 u54 u55 u56 u57 u58 u59 u60 u61 u62 u63 u64 u65 : Value) (ds : List Deferred), OpenI (ZU base Y w0) w0 W q K deep l J L d0 d ds wr ∧ ac = { tmps := #[.func (.yield l) #[] #[], .pointer (some ⟨bt, 0, none⟩), .pointer (some ⟨bs, 0, none⟩), .pointer (some ⟨bd, 0, none⟩), undef, .map (some W.heap.size), .pointer (some ⟨W.heap.size + 2, 0, none⟩), u7, undef, undef, .map (some W.heap.size), .agg #[.int .i64 x.kd, .int .i64 x.n, .string x.nm, .slice a x.args.len c], .slice (some ⟨W.heap.size + 1, 0, none⟩) 1 1, u13, u14, u15, u16, u17, u18, u19, u20, u21, u22, u23, u24, u25, u26, u27, u28, u29, u30, u31, u32, u33, u34, u35, u36, u37, u38, u39, u40, u41, u42, u43, u44, u45, u46, u47, u48, u49, u50, u51, u52, u53, u54, u55, u56, u57, u58, u59, u60, u61, u62, u63, u64, u65, undef, undef, undef, undef, undef, undef, undef, undef], defers := ds }) d0 ?_ ?_
  · (repeat apply Exists.intro)
    refine ⟨?_, rfl⟩
    exact ⟨_, _, _, _, _, _, _, _, _, HR1.out⟩
  · intro d ad wr hinv
    obtain ⟨u7, u13, u14, u15, u16, u17, u18, u19, u20, u21, u22, u23, u24, u25, u26, u27, u28, u29, u30, u31, u32, u33, u34, u35, u36, u37, u38, u39, u40, u41, u42, u43, u44, u45, u46, u47, u48, u49, u50, u51, u52, u53, u54, u55, u56, u57, u58, u59, u60, u61, u62, u63, u64, u65, ds, hrel, rfl⟩ := hinv
    intro JJ KK hJJ hKK
    obtain ⟨seen, td, pre, rest, ag, cg, vs, Fs, cs, hR⟩ := hrel
    have HR := Lib.hid hR
    have b6 : wr.cell? ⟨W.heap.size + 2, 0, none⟩ = some (.slice ag td.length cg) := hR.bx6.cell 0
    have f6 := hR.bx6.free 0
    clear hR
    cases td with
    | nil =>
      have hb6 : wr.cell? ⟨W.heap.size + 2, 0, none⟩ = some (.slice ag 0 cg) := b6
      go_wp2_with fail
      refine leaves_all _ _ HR.out.marks fun w' hk' => ⟨_, results_none rfl _ _ _, ⟨_, rfl⟩, .inl ⟨pre, ?_, HJ.out _ _ _ HR.out.j (Kept.mono hk' fun k _ q => ?_)⟩⟩
      · have hru := HR.out.run
        have hre : rest = [] := by
          cases d <;> simp [openL] at hru <;> exact hru
        have hal := HR.out.all
        rw [hre, List.map_nil, List.append_nil] at hal
        exact hal.symm
      · exact ⟨q, fun e => e⟩
    | cons x' td' =>
      have hBW := HR.out.low HW.out hlo
      have HBW := Lib.hid hBW
      have hsz := hBW.size
      obtain ⟨g, rfl, hgB, hgS, hgc, _⟩ := own_at HR.out.own (by simp)
      obtain ⟨a2, c2, z0, z1, z2, z3, hnx, hlx, hrx⟩ := row_elem2 (k := td'.length) (y := x') HR.out.own HR.out.row (by simp) (by simp)
      have HRX := Lib.hid hrx
      have HLX := Lib.hid hlx
      have hS := HHS.out.below hBW HHS.out.lt
      have s0 : wr.cell? ⟨bs, 0, none⟩ = some (.pointer (some ⟨s, 0, none⟩)) := (HBS.out.below hBW HBS.out.lt).cell 0
      have HK2 := Lib.hid (HHK.out.low hBW fun b hb => hb.lt)
      have HSW := Lib.hid hS
      have hrun := HR.out.run
      have hslice := fun W' => slice_last (a := some ⟨g, 0, none⟩) (n := td'.length + 1) (k := td'.length) (c4 := cg) (by simp at hgc; omega) W'
      have hw1 : wrap64 ((td'.length : Int) + 1 - 1) = td'.length := by rw [show (td'.length : Int) + 1 - 1 = td'.length by omega]; exact IntWalk.wrap64_in _ (by have := HR.out.tdl; simp at this; omega)
      have hw2 : wrap64 (td'.length : Int) = td'.length := IntWalk.wrap64_in _ (by have := HR.out.tdl; simp at this; omega)
      have hw3 : IntKind.i64.wrap (td'.length : Int) = td'.length := (IntWalk.i64_left _).trans hw2
      have hlt1 : (td'.length : Int) < td'.length + 1 := by omega
      cases d with
      | zero => simp [openL] at hrun
      | succ d' =>
      unfold openL at hrun
      cases htk : takenP q K x' with
      | none => rw [htk] at hrun; cases hrun
      | some sdp =>
      have hBA : Below wr.heap.size wr (wr.alloc (.cells zeroS TSide)) := (Below.refl _ wr).alloc (Nat.le_refl _) _
      have hXA : Box (wr.alloc (.cells zeroS TSide)) wr.heap.size TSide zeroS := Box.new _ _ _
      have HXA := Lib.hid hXA
      have HBA := Lib.hid hBA
      have hzA : (wr.alloc (.cells zeroS TSide)).heap.size = wr.heap.size + 1 := by simp
      obtain ⟨sd, hsd, HTK⟩ := taken_side (a := a2) (c := c2) hS HK2.out htk
      have HSD := Lib.hid hsd
      clear hsd
      have HRUN := Lib.hid hrun
      have HTP := Lib.hid htk
      have b6' : wr.cell? ⟨W.heap.size + 2, 0, none⟩ = some (.slice (some ⟨g, 0, none⟩) (td'.length + 1) cg) := b6
      have zbs : bs < wr.heap.size := by have := HBS.out.lt; omega
      have zb6 := HR.out.big
      have y0 := (hBA.cell (p := ⟨bs, 0, none⟩) zbs).trans s0
      have y1 := (hBA.cell (p := ⟨W.heap.size + 2, 0, none⟩) zb6).trans b6'
      have y2 := (hBA.cell (p := ⟨g, td'.length * 4, none⟩) hgS).trans z0
      have y3 := (hBA.cell (p := ⟨g, td'.length * 4 + 1, none⟩) hgS).trans z1
      have y4 := (hBA.cell (p := ⟨g, td'.length * 4 + 2, none⟩) hgS).trans z2
      have y5 := (hBA.cell (p := ⟨g, td'.length * 4 + 3, none⟩) hgS).trans z3
      clear hrun htk hS hBW hrx hlx hnx b6 hXA
      go_wp2_with fail
      go_region_held3 (fun w' => w'.cell? ⟨bs, 0, none⟩ = some (.pointer (some ⟨s, 0, none⟩)) ∧ w'.cell? ⟨W.heap.size + 2, 0, none⟩ = some (.slice (some ⟨g, 0, none⟩) (td'.length + 1) cg) ∧ w'.cell? ⟨g, td'.length * 4, none⟩ = some (.int .i64 x'.kd) ∧ w'.cell? ⟨g, td'.length * 4 + 1, none⟩ = some (.int .i64 x'.n) ∧ w'.cell? ⟨g, td'.length * 4 + 2, none⟩ = some (.string x'.nm) ∧ w'.cell? ⟨g, td'.length * 4 + 3, none⟩ = some (.slice a2 x'.args.len c2))
        (first
          | exact ⟨s0, b6', z0, z1, z2, z3⟩
          | exact ⟨y0, y1, y2, y3, y4, y5⟩
          | exact ⟨k0, k1, k2, k3, k4, k5⟩
          | exact ⟨l0, l1, l2, l3, l4, l5⟩
          | (rw [hW4]; exact ⟨l0, l1, l2, l3, l4, l5⟩)
          | go_keep)
        (first
          | (go_at_call 26; refine (HTK wr.drew ((Below.refl _ wr).drew)).mono ?_; rintro e w3 ⟨rfl, hb3⟩; replace hb3 : Below wr.heap.size wr w3 := ⟨hb3.os, hb3.tape, hb3.output, hb3.size, hb3.block⟩; have zs3 := hb3.size; have k0 := (hb3.cell (p := ⟨bs, 0, none⟩) (by show bs < wr.heap.size; omega)).trans s0; have k1 := (hb3.cell (p := ⟨W.heap.size + 2, 0, none⟩) (by show W.heap.size + 2 < wr.heap.size; omega)).trans b6'; have k2 := (hb3.cell (p := ⟨g, td'.length * 4, none⟩) (by show g < wr.heap.size; omega)).trans z0; have k3 := (hb3.cell (p := ⟨g, td'.length * 4 + 1, none⟩) (by show g < wr.heap.size; omega)).trans z1; have k4 := (hb3.cell (p := ⟨g, td'.length * 4 + 2, none⟩) (by show g < wr.heap.size; omega)).trans z2; have k5 := (hb3.cell (p := ⟨g, td'.length * 4 + 3, none⟩) (by show g < wr.heap.size; omega)).trans z3; obtain ⟨W4, hW4⟩ : ∃ W4, w3.alloc (.cells (sideC' sd) TSide) = W4 := ⟨_, rfl⟩; have hB4 : Below w3.heap.size w3 W4 := (by rw [← hW4]; exact (Below.refl _ w3).alloc (Nat.le_refl _) _); have l0 := (hB4.cell (p := ⟨bs, 0, none⟩) (by show bs < w3.heap.size; omega)).trans k0; have l1 := (hB4.cell (p := ⟨W.heap.size + 2, 0, none⟩) (by show W.heap.size + 2 < w3.heap.size; omega)).trans k1; have l2 := (hB4.cell (p := ⟨g, td'.length * 4, none⟩) (by show g < w3.heap.size; omega)).trans k2; have l3 := (hB4.cell (p := ⟨g, td'.length * 4 + 1, none⟩) (by show g < w3.heap.size; omega)).trans k3; have l4 := (hB4.cell (p := ⟨g, td'.length * 4 + 2, none⟩) (by show g < w3.heap.size; omega)).trans k4; have l5 := (hB4.cell (p := ⟨g, td'.length * 4 + 3, none⟩) (by show g < w3.heap.size; omega)).trans k5; have HB4 := Lib.hid (show Below wr.heap.size wr W4 by rw [← hW4]; exact hb3.alloc hb3.size _); have HX4 := Lib.hid (show Box W4 w3.heap.size TSide (sideC' sd) by rw [← hW4]; exact Box.new _ _ _); have HBX := Lib.hid (show W.heap.size + 2 < w3.heap.size ∧ g < w3.heap.size from ⟨by omega, by omega⟩); have TAGA := True.intro)
          | (go_at_call 26; refine (HTK (wr.alloc (.cells zeroS TSide)).drew hBA.drew).mono ?_; rintro e w3 ⟨rfl, hb3⟩; replace hb3 : Below (wr.alloc (.cells zeroS TSide)).heap.size (wr.alloc (.cells zeroS TSide)) w3 := ⟨hb3.os, hb3.tape, hb3.output, hb3.size, hb3.block⟩; have k0 := (hb3.cell (p := ⟨bs, 0, none⟩) (by show bs < (wr.alloc (.cells zeroS TSide)).heap.size; omega)).trans y0; have k1 := (hb3.cell (p := ⟨W.heap.size + 2, 0, none⟩) (by show W.heap.size + 2 < (wr.alloc (.cells zeroS TSide)).heap.size; omega)).trans y1; have k2 := (hb3.cell (p := ⟨g, td'.length * 4, none⟩) (by show g < (wr.alloc (.cells zeroS TSide)).heap.size; omega)).trans y2; have k3 := (hb3.cell (p := ⟨g, td'.length * 4 + 1, none⟩) (by show g < (wr.alloc (.cells zeroS TSide)).heap.size; omega)).trans y3; have k4 := (hb3.cell (p := ⟨g, td'.length * 4 + 2, none⟩) (by show g < (wr.alloc (.cells zeroS TSide)).heap.size; omega)).trans y4; have k5 := (hb3.cell (p := ⟨g, td'.length * 4 + 3, none⟩) (by show g < (wr.alloc (.cells zeroS TSide)).heap.size; omega)).trans y5; have hX3 := HXA.out.below hb3 HXA.out.lt; obtain ⟨q0, q1, q2, q3, q4, q5, q6, q7, q8⟩ := hX3.cells9; obtain ⟨e0, e1, e2, e3, e4, e5, e6, e7, e8⟩ := hX3.free9; obtain ⟨W4, hW4, hX4, hwr4⟩ := hX3.write9 (.int .i64 sd.f.kd) (.int .i64 sd.f.n) (.string sd.f.nm) (.slice sd.f.a sd.f.args.len sd.f.c) (.int .i64 sd.f.least) (.int .i64 sd.f.depth) (.bool sd.f.held) (.bool sd.isVar) (.int .i64 sd.n); have l0 := (hwr4.cell ⟨bs, 0, none⟩ (by show bs ≠ _; omega)).trans k0; have l1 := (hwr4.cell ⟨W.heap.size + 2, 0, none⟩ (by show W.heap.size + 2 ≠ _; omega)).trans k1; have l2 := (hwr4.cell ⟨g, td'.length * 4, none⟩ (by show g ≠ _; omega)).trans k2; have l3 := (hwr4.cell ⟨g, td'.length * 4 + 1, none⟩ (by show g ≠ _; omega)).trans k3; have l4 := (hwr4.cell ⟨g, td'.length * 4 + 2, none⟩ (by show g ≠ _; omega)).trans k4; have l5 := (hwr4.cell ⟨g, td'.length * 4 + 3, none⟩ (by show g ≠ _; omega)).trans k5; have HB4 := Lib.hid (show Below wr.heap.size wr W4 from hwr4.below (HBA.out.trans (hb3.mono HBA.out.size)) (Nat.le_refl _)); have HX4 := Lib.hid (show Box W4 wr.heap.size TSide (sideC' sd) from hX4); have HBX := Lib.hid (show W.heap.size + 2 < wr.heap.size ∧ g < wr.heap.size from ⟨zb6, hgS⟩); have TAGB := True.intro))
      all_goals
        first
          | (clear TAGA; generalize w3.heap.size = bX at HX4 HBX ⊢)
          | (clear TAGB; generalize wr.heap.size = bX at HX4 HBX ⊢)
        have HBX6 := Lib.hid (HR.out.bx6.below HB4.out HR.out.big)
        have l6 := HBX6.out.free 0
        obtain ⟨v0, v1, v2, v3, v4, v5, v6, v7, v8⟩ := HX4.out.cells9
        obtain ⟨W5, hW5⟩ : ∃ W5, W4.setCell ⟨W.heap.size + 2, 0, none⟩ (.slice (some ⟨g, 0, none⟩) td'.length cg) = W5 := ⟨_, rfl⟩
        have hb6X : W.heap.size + 2 ≠ bX := Nat.ne_of_lt HBX.out.1
        have HX5 := Lib.hid (show Box W5 bX TSide (sideC' sd) by rw [← hW5]; exact HX4.out.far hb6X _)
        obtain ⟨p0, p1, p2, p3, p4, p5, p6, p7, p8⟩ := HX5.out.cells9
        clear k0 k1 k2 k3 k4 k5 l0 l2 l3 l4 l5
        have htd : td'.length ≤ 1000000000 := Nat.le_trans (Nat.le_succ _) HR.out.tdl
        cases sdp with
        | typ yy =>
          obtain ⟨rfl, hsd, hk1, hk0⟩ := HSD.out
          have hiv : sd.isVar = false := by rw [hsd]
          rw [hiv] at v7 p7
          have HSDE := Lib.hid hsd
          clear hsd hiv
          have hrun' := HRUN.out
          rw [HTP.out] at hrun'
          simp only at hrun'
          split at hrun'
          case isFalse => cases hrun'
          case isTrue hlim =>
          have hBW4 := HB4.out
          have HM5 : Hid (OpenR (ZU base Y w0) w0 W q K deep l J L d0 d' ds W5 seen (sd.f.args.toL ++ td') td' pre rest (some ⟨g, 0, none⟩) cg (vs.take (td'.length * 4)) Fs cs) := Lib.hid (by rw [← hW5, HSDE.out]; exact (HR.out.here HJ.out (fun b hb => Nat.lt_of_lt_of_le hb.lt HW.out.size) hBW4).pop HJ.out (fun b hb => Nat.lt_of_lt_of_le hb.lt HW.out.size) hrun')
          have hrx5 : RdT (ZU base Y w0) W5 a2 yy.args 0 := Kept.types (X := fun b => b = W.heap.size + 2) (by rw [← hW5]; exact Kept.setCell (X := fun b => b = W.heap.size + 2) (Kept.of_below HB4.out (Nat.le_refl _) _) (a := ⟨W.heap.size + 2, 0, none⟩) (fun _ => rfl) _) HRX.out (fun b hb => ⟨by have := hb.lt; have := HW.out.size; have := HR.out.big; omega, by have := hb.lt; have := HW.out.size; omega⟩)
          have HARG : Hid (RdT (ZU base Y w0) W5 sd.f.a sd.f.args 0 ∧ sd.f.args.len * 56 ≤ 140737488355328 ∧ sd.f.args.len + td'.length < limT) := Lib.hid (by rw [HSDE.out]; exact ⟨hrx5, HLX.out, hlim⟩)
          clear hrun' hBW4 hlim hrx5
          go_wp2_with fail
          refine (backT_any sd.f.a sd.f.args.len sd.f.c W5).mono ?_
          obtain ⟨w6, hw6⟩ : ∃ w6, W5.alloc (.cells #[.slice sd.f.a sd.f.args.len sd.f.c] TTs) = w6 := ⟨_, rfl⟩
          rintro e w6' ⟨rfl, rfl⟩
          rw [hw6]
          clear p0 p1 p2 p3 p4 p5 p6 p7 p8 v0 v1 v2 v3 v4 v5 v6 v7 v8 l6 l1 hW5 hw1 hw2 hw3 hslice hlt1
          go_wp2_with fail
          refine inner_loop (fc := sd.f.c) HM5.out HARG.out HJ.out (fun b hb => Nat.lt_of_lt_of_le hb.lt HW.out.size) w6 hw6 _ _ _ _ _ _ _ _ _ _ _ _ _ _ _ _ _ _ _ _ _ _ _ _ _ _ _ _ _ _ _ _ _ _ _ _ _ _ _ _ _ _ _ _ _ _ _ _ _ _ _ _ _ _ _ _ _ _ _ _ _ _ _ _ _ _ _ _ _ _ _ _ ?_
          intro D Wd hOI
          refine hKK _ _ (Handed.intro d' (Nat.lt_succ_self _) (hJJ _ _ _ ?_))
          (repeat apply Exists.intro)
          refine ⟨?_, rfl⟩
          exact hOI
        | var r f =>
          obtain ⟨hiv, hin, hef, hfr, hnl, hir⟩ := HSD.out
          rw [hiv] at v7 p7
          rw [hin] at v8 p8
          have HEF := Lib.hid hef
          have HFR := Lib.hid hfr
          have HIV := Lib.hid hiv
          have HIN := Lib.hid hin
          have HIR := Lib.hid hir
          have hrun' := HRUN.out
          rw [HTP.out] at hrun'
          simp only at hrun'
          have hzB : ∀ b, ZU base Y w0 b → b < W.heap.size := fun b hb => Nat.lt_of_lt_of_le hb.lt HW.out.size
          have HM5K := Lib.hid (show MapK W5 Try.prog TI W.heap.size Fs cs by rw [← hW5]; exact (HR.out.sm.below HB4.out HR.out.sm.lt).setCell (a := ⟨W.heap.size + 2, 0, none⟩) (by show W.heap.size ≠ W.heap.size + 2; omega) _)
          have hkey := key_int (inI_iff.1 hir)
          have hlook5 : (Instr.lookup 85 (.map (some W.heap.size)) (.int .i64 r) false).run Try.prog W5 = .ok (.int .i64 (seen r)) W5 := by rw [HM5K.out.look keyI Try.underlying85 (zeroI W5) hkey (lit_int r), HR.out.sn r hir]
          obtain ⟨W6, hupd, hmk6, hturn6⟩ := map_put_run (.int .i64 (wrap64 (seen r + 1))) HM5K.out (by have := HR.out.csd; omega) hir
          have hlook6 : (Instr.lookup 85 (.map (some W.heap.size)) (.int .i64 r) false).run Try.prog W6 = .ok (.int .i64 (wrap64 (seen r + 1))) W6 := by
            rw [hmk6.look keyI Try.underlying85 (zeroI W6) hkey (lit_int r)]
            unfold updK
            rw [if_pos rfl]
            rfl
          have hX6 := HX5.out.grown hturn6 (fun e => HM5K.out.ne HX5.out (by injection e with e; exact e.symm))
          obtain ⟨t0, t1, t2, t3, t4, t5, t6, t7, t8⟩ := hX6.cells9
          rw [hiv] at t7
          rw [hin] at t8
          have HR6 : Hid (∀ (L' : List (Int × PF)) tdr' rest', openL q K deep d' (updN seen r (wrap64 (seen r + 1))) tdr' = some rest' → L'.map (fun y => (y.1, y.2.least)) = pre.map (fun y => (y.1, y.2.least)) ++ rest'.map (fun y => (y.1, y.2.least)) → OpenR (ZU base Y w0) w0 W q K deep l J L' d0 d' ds W6 (updN seen r (wrap64 (seen r + 1))) tdr' td' pre rest' (some ⟨g, 0, none⟩) cg (vs.take (td'.length * 4)) (updK Fs (.int .i64 r) (.int .i64 (wrap64 (seen r + 1)))) (cntPut Fs (.int .i64 r) cs)) :=
            Lib.hid fun L' tdr' rest' q1 q2 => (HR.out.here HJ.out hzB HB4.out).bump HJ.out hzB (by rw [hW5]; exact hturn6) hmk6 (seen_put HR.out.sn) (cntPut_le _ _ _) q1 q2
          have HRN := Lib.hid hrun'
          have HX6 := Lib.hid hX6
          have HMK6 := Lib.hid hmk6
          have HG6 := Lib.hid hturn6
          have HKW6 : Hid (Kept (fun b => b = W.heap.size + 2 ∨ b = W.heap.size) wr W6) := Lib.hid (by
            have h5 : Kept (fun b => b = W.heap.size + 2 ∨ b = W.heap.size) wr W5 := by
              rw [← hW5]
              exact Kept.setCell (X := fun b => b = W.heap.size + 2 ∨ b = W.heap.size) (Kept.of_below HB4.out (Nat.le_refl _) _) (a := ⟨W.heap.size + 2, 0, none⟩) (fun _ => .inl rfl) _
            exact Kept.grown h5 hturn6 (fun k e _ => by injection e with e; exact .inr e.symm))
          have HB6 : Hid (Below w0.heap.size w0 W6) := Lib.hid (HBW.out.trans (Kept.below HKW6.out HBW.out.size (fun k q => by have := HW.out.size; omega)))
          have bd6 : W6.cell? ⟨bd, 0, none⟩ = some (.bool deep) := (HBD.out.below HB6.out HBD.out.lt).cell 0
          clear hiv hin hef hfr hnl hir hrun' hkey hmk6 hturn6 hX6
          by_cases hgt : 1 < wrap64 (seen r + 1)
          · have hru := HRN.out
            rw [if_pos (by rw [Bool.or_eq_true]; exact .inl (decide_eq_true hgt))] at hru
            have HOI := Lib.hid (HR6.out _ _ _ hru HR.out.all)
            clear hru
            go_wp2_with fail
            refine Handed.intro d' (Nat.lt_succ_self _) (hJJ _ _ _ ?_)
            (repeat apply Exists.intro)
            refine ⟨?_, rfl⟩
            exact ⟨_, _, _, _, _, _, _, _, _, HOI.out⟩
          · have hru := HRN.out
            have hng : decide (1 < Un.wr (seen r + 1)) = false := decide_eq_false hgt
            have HISO := Lib.hid (fun wq : World => isOpen_any ⟨sd.f, true, r⟩ wq)
            rw [hng, Bool.false_or] at hru
            cases f with
            | link r' => exact absurd HSD.out.2.2.2.2.1 (by simp [PF.isLink])
            | opn lo dp hd' =>
              have hk0 : sd.f.kd = 0 := HEF.out.1
              have hle : sd.f.least = lo := HEF.out.2.2.1
              have hdp : (!deep && !(PF.opn lo dp hd').isOpn) = false := by cases deep <;> rfl
              rw [if_neg (by rw [hdp]; decide), if_pos (by rfl)] at hru
              obtain ⟨l', hl', hrl⟩ := Option.map_eq_some_iff.1 hru
              have HL' := Lib.hid hl'
              have HRL := Lib.hid hrl
              have HK0 := Lib.hid hk0
              have HLE := Lib.hid hle
              have hiso : ((sd.f.kd == 0) : Bool) = true := by rw [hk0]; rfl
              clear hru hl' hrl hle hk0 hdp
              cases deep with
              | true =>
                have HOP : Hid (∀ w7, Below W6.heap.size W6 w7 → OpenR (ZU base Y w0) w0 W q K true l J (pre.map (fun y => (y.1, PF.opn y.2.least 0 false)) ++ l') d0 d' ds w7 (updN seen r (wrap64 (seen r + 1))) (sd.f.args.toL ++ td') td' pre l' (some ⟨g, 0, none⟩) cg (vs.take (td'.length * 4)) (updK Fs (.int .i64 r) (.int .i64 (wrap64 (seen r + 1)))) (cntPut Fs (.int .i64 r) cs)) :=
                  Lib.hid fun w7 hb7 => (HR6.out _ _ _ (show openL q K _ d' (updN seen r (wrap64 (seen r + 1))) (sd.f.args.toL ++ td') = some l' by rw [HEF.out.2.1]; exact HL'.out) (by rw [List.map_append, List.map_map]; rfl)).here HJ.out hzB hb7
                have HALL : Hid (L.map (fun y => (y.1, y.2.least)) = (pre ++ [(r, sd.f)]).map (fun y => (y.1, y.2.least)) ++ l'.map (fun y => (y.1, y.2.least))) := Lib.hid (by
                  have hal := HR.out.all
                  rw [← HRL.out] at hal
                  rw [hal, List.map_append, List.append_assoc]
                  simp only [List.map_cons, List.map_nil, List.cons_append, List.nil_append, HLE.out]
                  rfl)
                clear hzB
                go_upto_region 8 with fail
                refine (wpIn_wide (n := n)).1 ?_
                gi_wp2_with (refine ⟨trivial, (fun _ => by omega), ?_⟩; gi_at_call 28; refine (callsIn_wide.2 (HISO.out W6)).mono ?_; rintro e w7 ⟨rfl, hw7⟩; rw [hiso]; have HBw7 := Lib.hid hw7; have HXw7 := Lib.hid (HX6.out.below hw7 HX6.out.lt); obtain ⟨o0, o1, o2, o3, o4, o5, o6, o7, o8⟩ := HXw7.out.cells9; rw [HIV.out] at o7; rw [HIN.out] at o8; clear hw7; obtain ⟨fn, tmps, assign, body, hy, hR⟩ := HY.out pre (r, sd.f) w7 (HOP.out w7 HBw7.out).j (by have := HR.out.prl; omega); simp only [encF, factV] at hy)
                refine ⟨fun _ => by omega, hR.mono ?_⟩
                rintro e3 W3 (⟨rfl, hJ3, hk3⟩ | ⟨rfl, hJx3, hk3⟩)
                · have HM3 := Lib.hid ((HOP.out w7 HBw7.out).yielded (L := L) (fun b hb => hb.lt) hlo hlt hk3 hJ3 HALL.out (by have := HR.out.prl; omega))
                  have HX3 := Lib.hid (Kept.box hk3 HXw7.out (fun q => q.elim (fun e => by have := HBX.out.1; omega) fun e => e))
                  obtain ⟨m0, m1, m2, m3, m4, m5, m6, m7, m8⟩ := HX3.out.cells9
                  rw [HIV.out] at m7
                  rw [HIN.out] at m8
                  clear hJ3 hk3 hy hR
                  have HARG : Hid (RdT (ZU base Y w0) W3 sd.f.a sd.f.args 0 ∧ sd.f.args.len * 56 ≤ 140737488355328 ∧ sd.f.args.len + td'.length < limT) := Lib.hid (by rw [HEF.out.2.1]; exact ⟨trivial, Nat.zero_le _, by rw [show Tys.nil.len + td'.length = td'.length from Nat.zero_add _]; exact HR.out.tdl⟩)
                  gi_wp2
                  go_wp2_with fail
                  refine (backT_any sd.f.a sd.f.args.len sd.f.c W3).mono ?_
                  obtain ⟨w6, hw6⟩ : ∃ w6, W3.alloc (.cells #[.slice sd.f.a sd.f.args.len sd.f.c] TTs) = w6 := ⟨_, rfl⟩
                  rintro e w6' ⟨rfl, rfl⟩
                  rw [hw6]
                  clear m0 m1 m2 m3 m4 m5 m6 m7 m8
                  go_wp2_with fail
                  refine inner_loop (fc := sd.f.c) HM3.out HARG.out HJ.out (fun b hb => Nat.lt_of_lt_of_le hb.lt HW.out.size) w6 hw6 _ _ _ _ _ _ _ _ _ _ _ _ _ _ _ _ _ _ _ _ _ _ _ _ _ _ _ _ _ _ _ _ _ _ _ _ _ _ _ _ _ _ _ _ _ _ _ _ _ _ _ _ _ _ _ _ _ _ _ _ _ _ _ _ _ _ _ _ _ _ _ _ ?_
                  intro D Wd hOI
                  refine hKK _ _ (Handed.intro d' (Nat.lt_succ_self _) (hJJ _ _ _ ?_))
                  (repeat apply Exists.intro)
                  refine ⟨?_, rfl⟩
                  exact hOI
                · have hmk3 := (HOP.out w7 HBw7.out).marks.frame (fun D ⟨d', hd', e⟩ hD => hk3.block D (Array.getElem?_eq_some_iff.1 hD).1 (fun q => q.elim (fun e' => by have := (HOP.out w7 HBw7.out).marks.ge d' hd' D e; omega) fun e => e))
                  have HMK3 := Lib.hid hmk3
                  have HJ3 := Lib.hid hJx3
                  clear hmk3 hJx3 hk3 hy hR
                  gi_wp2
                  go_wp2_with fail
                  refine leaves_all _ _ HMK3.out ?_
                  intro w' hk'
                  refine ⟨_, results_none rfl _ _ _, ⟨_, rfl⟩, .inr ⟨pre ++ [(r, sd.f)], ⟨l'.map (fun y => (y.1, y.2.least)), HALL.out⟩, ?_⟩⟩
                  exact HJX.out _ _ _ HJ3.out (Kept.mono hk' fun k _ q => ⟨q, fun e => e⟩)
              | false =>
                have HOP : Hid (∀ w7, Below W6.heap.size W6 w7 → OpenR (ZU base Y w0) w0 W q K false l J (pre.map (fun y => (y.1, PF.opn y.2.least 0 false)) ++ l') d0 d' ds w7 (updN seen r (wrap64 (seen r + 1))) (sd.f.args.toL ++ td') td' pre l' (some ⟨g, 0, none⟩) cg (vs.take (td'.length * 4)) (updK Fs (.int .i64 r) (.int .i64 (wrap64 (seen r + 1)))) (cntPut Fs (.int .i64 r) cs)) :=
                  Lib.hid fun w7 hb7 => (HR6.out _ _ _ (show openL q K _ d' (updN seen r (wrap64 (seen r + 1))) (sd.f.args.toL ++ td') = some l' by rw [HEF.out.2.1]; exact HL'.out) (by rw [List.map_append, List.map_map]; rfl)).here HJ.out hzB hb7
                have HALL : Hid (L.map (fun y => (y.1, y.2.least)) = (pre ++ [(r, sd.f)]).map (fun y => (y.1, y.2.least)) ++ l'.map (fun y => (y.1, y.2.least))) := Lib.hid (by
                  have hal := HR.out.all
                  rw [← HRL.out] at hal
                  rw [hal, List.map_append, List.append_assoc]
                  simp only [List.map_cons, List.map_nil, List.cons_append, List.nil_append, HLE.out]
                  rfl)
                clear hzB
                go_upto_region 8 with (go_at_call 28; refine (HISO.out W6).mono ?_; rintro e w7 ⟨rfl, hw7⟩; rw [hiso]; have HBw7 := Lib.hid hw7; have HXw7 := Lib.hid (HX6.out.below hw7 HX6.out.lt); obtain ⟨o0, o1, o2, o3, o4, o5, o6, o7, o8⟩ := HXw7.out.cells9; rw [HIV.out] at o7; rw [HIN.out] at o8; clear hw7)
                refine (wpIn_wide (n := n)).1 ?_
                gi_wp2_with (refine ⟨trivial, (fun _ => by omega), ?_⟩; gi_at_call 28; refine (callsIn_wide.2 (HISO.out w7)).mono ?_; rintro e w8 ⟨rfl, hw8⟩; rw [hiso]; have HBw8 := Lib.hid hw8; have HXw8 := Lib.hid (HXw7.out.below hw8 HXw7.out.lt); obtain ⟨n0, n1, n2, n3, n4, n5, n6, n7, n8⟩ := HXw8.out.cells9; rw [HIV.out] at n7; rw [HIN.out] at n8; clear hw8; obtain ⟨fn, tmps, assign, body, hy, hR⟩ := HY.out pre (r, sd.f) w8 (HOP.out w8 (HBw7.out.trans (HBw8.out.mono HBw7.out.size))).j (by have := HR.out.prl; omega); simp only [encF, factV] at hy)
                refine ⟨fun _ => by omega, hR.mono ?_⟩
                rintro e3 W3 (⟨rfl, hJ3, hk3⟩ | ⟨rfl, hJx3, hk3⟩)
                · have HM3 := Lib.hid ((HOP.out w8 (HBw7.out.trans (HBw8.out.mono HBw7.out.size))).yielded (L := L) (fun b hb => hb.lt) hlo hlt hk3 hJ3 HALL.out (by have := HR.out.prl; omega))
                  have HX3 := Lib.hid (Kept.box hk3 HXw8.out (fun q => q.elim (fun e => by have := HBX.out.1; omega) fun e => e))
                  obtain ⟨m0, m1, m2, m3, m4, m5, m6, m7, m8⟩ := HX3.out.cells9
                  rw [HIV.out] at m7
                  rw [HIN.out] at m8
                  clear hJ3 hk3 hy hR
                  have HARG : Hid (RdT (ZU base Y w0) W3 sd.f.a sd.f.args 0 ∧ sd.f.args.len * 56 ≤ 140737488355328 ∧ sd.f.args.len + td'.length < limT) := Lib.hid (by rw [HEF.out.2.1]; exact ⟨trivial, Nat.zero_le _, by rw [show Tys.nil.len + td'.length = td'.length from Nat.zero_add _]; exact HR.out.tdl⟩)
                  gi_wp2
                  go_wp2_with fail
                  refine (backT_any sd.f.a sd.f.args.len sd.f.c W3).mono ?_
                  obtain ⟨w6, hw6⟩ : ∃ w6, W3.alloc (.cells #[.slice sd.f.a sd.f.args.len sd.f.c] TTs) = w6 := ⟨_, rfl⟩
                  rintro e w6' ⟨rfl, rfl⟩
                  rw [hw6]
                  clear m0 m1 m2 m3 m4 m5 m6 m7 m8
                  go_wp2_with fail
                  refine inner_loop (fc := sd.f.c) HM3.out HARG.out HJ.out (fun b hb => Nat.lt_of_lt_of_le hb.lt HW.out.size) w6 hw6 _ _ _ _ _ _ _ _ _ _ _ _ _ _ _ _ _ _ _ _ _ _ _ _ _ _ _ _ _ _ _ _ _ _ _ _ _ _ _ _ _ _ _ _ _ _ _ _ _ _ _ _ _ _ _ _ _ _ _ _ _ _ _ _ _ _ _ _ _ _ _ _ ?_
                  intro D Wd hOI
                  refine hKK _ _ (Handed.intro d' (Nat.lt_succ_self _) (hJJ _ _ _ ?_))
                  (repeat apply Exists.intro)
                  refine ⟨?_, rfl⟩
                  exact hOI
                · have hmk3 := (HOP.out w8 (HBw7.out.trans (HBw8.out.mono HBw7.out.size))).marks.frame (fun D ⟨d', hd', e⟩ hD => hk3.block D (Array.getElem?_eq_some_iff.1 hD).1 (fun q => q.elim (fun e' => by have := (HOP.out w8 (HBw7.out.trans (HBw8.out.mono HBw7.out.size))).marks.ge d' hd' D e; omega) fun e => e))
                  have HMK3 := Lib.hid hmk3
                  have HJ3 := Lib.hid hJx3
                  clear hmk3 hJx3 hk3 hy hR
                  gi_wp2
                  go_wp2_with fail
                  refine leaves_all _ _ HMK3.out ?_
                  intro w' hk'
                  refine ⟨_, results_none rfl _ _ _, ⟨_, rfl⟩, .inr ⟨pre ++ [(r, sd.f)], ⟨l'.map (fun y => (y.1, y.2.least)), HALL.out⟩, ?_⟩⟩
                  exact HJX.out _ _ _ HJ3.out (Kept.mono hk' fun k _ q => ⟨q, fun e => e⟩)
            | typ kd nm xs =>
              have hkn : sd.f.kd ≠ 0 := by rw [HEF.out.1]; exact HEF.out.2.1
              have hiso : ((sd.f.kd == 0) : Bool) = false := by simpa using hkn
              have hpar : (PF.typ kd nm xs).parts = sd.f.args.toL := by rw [HEF.out.2.2.2.2, ofVars_toL]; rfl
              cases deep with
              | true =>
                rw [if_neg (by simp [PF.isOpn]), if_neg (by simp [PF.isOpn])] at hru
                split at hru
                case isFalse => cases hru
                case isTrue hlim =>
                rw [hpar] at hru hlim
                have HRU := Lib.hid hru
                have HLM := Lib.hid hlim
                clear hru hlim hpar hkn hzB
                go_wp2_with (go_at_call 28; refine (HISO.out W6).mono ?_; rintro e w7 ⟨rfl, hw7⟩; rw [hiso]; have HBw7 := Lib.hid hw7; have HXw7 := Lib.hid (HX6.out.below hw7 HX6.out.lt); obtain ⟨o0, o1, o2, o3, o4, o5, o6, o7, o8⟩ := HXw7.out.cells9; rw [HIV.out] at o7; rw [HIN.out] at o8; clear hw7)
                have hzB : ∀ b, ZU base Y w0 b → b < W.heap.size := fun b hb => Nat.lt_of_lt_of_le hb.lt HW.out.size
                have HM7 := Lib.hid ((HR6.out _ _ _ HRU.out HR.out.all).here HJ.out hzB HBw7.out)
                have HARG : Hid (RdT (ZU base Y w0) w7 sd.f.a sd.f.args 0 ∧ sd.f.args.len * 56 ≤ 140737488355328 ∧ sd.f.args.len + td'.length < limT) := Lib.hid ⟨Kept.types (HKW6.out.trans (Kept.of_below HBw7.out (Nat.le_refl _) _)) (HFR.out.1.mono fun b hb => .inr hb) (fun b hb => by have := hzB b hb; have := HR.out.big; constructor <;> omega), HFR.out.2.1, by rw [← Tys.toL_len]; exact HLM.out⟩
                go_wp2_with fail
                refine (backT_any sd.f.a sd.f.args.len sd.f.c w7).mono ?_
                obtain ⟨w6, hw6⟩ : ∃ w6, w7.alloc (.cells #[.slice sd.f.a sd.f.args.len sd.f.c] TTs) = w6 := ⟨_, rfl⟩
                rintro e w6' ⟨rfl, rfl⟩
                rw [hw6]
                clear o0 o1 o2 o3 o4 o5 o6 o7 o8
                go_wp2_with fail
                refine inner_loop (fc := sd.f.c) HM7.out HARG.out HJ.out (fun b hb => Nat.lt_of_lt_of_le hb.lt HW.out.size) w6 hw6 _ _ _ _ _ _ _ _ _ _ _ _ _ _ _ _ _ _ _ _ _ _ _ _ _ _ _ _ _ _ _ _ _ _ _ _ _ _ _ _ _ _ _ _ _ _ _ _ _ _ _ _ _ _ _ _ _ _ _ _ _ _ _ _ _ _ _ _ _ _ _ _ ?_
                intro D Wd hOI
                refine hKK _ _ (Handed.intro d' (Nat.lt_succ_self _) (hJJ _ _ _ ?_))
                (repeat apply Exists.intro)
                refine ⟨?_, rfl⟩
                exact hOI
              | false =>
                rw [if_pos (by simp [PF.isOpn])] at hru
                have HRU := Lib.hid hru
                clear hru hpar hkn hzB
                go_wp2_with (go_at_call 28; refine (HISO.out W6).mono ?_; rintro e w7 ⟨rfl, hw7⟩; rw [hiso]; have HBw7 := Lib.hid hw7; have HXw7 := Lib.hid (HX6.out.below hw7 HX6.out.lt); obtain ⟨o0, o1, o2, o3, o4, o5, o6, o7, o8⟩ := HXw7.out.cells9; rw [HIV.out] at o7; rw [HIN.out] at o8; clear hw7)
                refine Handed.intro d' (Nat.lt_succ_self _) (hJJ _ _ _ ?_)
                (repeat apply Exists.intro)
                refine ⟨?_, rfl⟩
                exact ⟨_, _, _, _, _, _, _, _, _, (HR6.out _ _ _ HRU.out HR.out.all).here HJ.out (fun b hb => Nat.lt_of_lt_of_le hb.lt HW.out.size) HBw7.out⟩


end Go.Proofs.Ytcaioffdcbjbjaa.Un
