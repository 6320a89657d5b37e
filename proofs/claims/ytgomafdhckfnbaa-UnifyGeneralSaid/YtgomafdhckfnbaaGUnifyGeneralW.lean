/-
  The walk of the law changelinglaw10.UnifyGeneral: where some types in the place of the variables make pairs the same, they can be made so, and what that leaves becomes with these what the types do.
-/
import Derived.Test.YtgomafdhckfnbaaGE
import Derived.Test.YtgomafdhckfnbaaGGeE

namespace Go.Proofs.Ytgomafdhckfnbaa.UnifyGeneral
open Go.RowKit Go.Shelf Mm Tm Mk Un Rn Go.Maps Go.ChangeMaps Go.MapKept Go.WideMaps Ua
set_option linter.unusedVariables false
set_option linter.unusedSimpArgs false
theorem resE_or (q : Nat) (K : PS) (x : Ty) : resE q K x = 0 ∨ resE q K x = 102 := by
  unfold resE
  split
  · exact .inl rfl
  · exact .inr rfl
theorem ok_next {W : List Ty} {k : Nat} {y : Ty} (hy : W[k]? = some y) (h : ∀ z ∈ W.take k, okTy z = true) (ho : okTy y = true) : ∀ z ∈ W.take (k + 1), okTy z = true := by
  intro z hz
  rw [List.take_add_one, hy, List.mem_append] at hz
  rcases hz with hz | hz
  · exact h z hz
  · rw [List.mem_singleton.1 hz]; exact ho
def PairOK (F : Int → Option Ty) (p : Pr) : Prop := (okTy p.1 = true ∧ okTy p.2 = true) ∧ sub1 F p.1 = sub1 F p.2
theorem pok_next {F : Int → Option Ty} {l : List Pr} {k : Nat} {y : Pr} (hy : l[k]? = some y) (h : ∀ z ∈ l.take k, PairOK F z) (ho : PairOK F y) : ∀ z ∈ l.take (k + 1), PairOK F z := by
  intro z hz
  rw [List.take_add_one, hy, List.mem_append] at hz
  rcases hz with hz | hz
  · exact h z hz
  · rw [List.mem_singleton.1 hz]; exact ho
set_option maxRecDepth 100000 in
set_option maxHeartbeats 16000000 in
theorem walk (q d kk : Nat) (hN : Nums q d kk) (a : Option Addr) (n c : Nat) (l : List Pr) (b : Option Addr) (m cw : Nat) (T : Tys) (w : World) (hln : l.length = n) (hn : n * 112 ≤ 140737488355328) (hr : Prs (· < w.heap.size) w a l) (hTl : T.len = m) (hm : m * 56 ≤ 140737488355328) (hT : RdT (· < w.heap.size) w b T 0) :
    Calls Try.prog 4 #[.slice a n c, .slice b m cw] w fun e w' => e = .returned (.bool true) ∧ Below w.heap.size w w' := by
  obtain ⟨i0, hi, hz0, hz1, hz2'⟩ := info_parts Tint
  have HL := Lib.hid hr
  have HLN := Lib.hid (And.intro hln hn)
  have HNN := Lib.hid hN
  have HTT := Lib.hid hT
  obtain ⟨W, hW⟩ : ∃ W, T.toL = W := ⟨_, rfl⟩
  have hWl : W.length = m := by rw [← hW, Tys.toL_len, hTl]
  have HWT := Lib.hid hW
  have HWL := Lib.hid hWl
  have HTL := Lib.hid hTl
  have hn40 : n ≤ 140737488355328 := by omega
  have hm40 : m ≤ 140737488355328 := by omega
  have HFP := Lib.hid (few_any (c := c) w HLN.out.1 HLN.out.2 HL.out fun b h => h)
  clear hr hln hn hN hT hW hWl hTl hm
  go_enter Try.func4, Try.ntmps4
  by_cases hfew : fewP l
  case neg =>
    rw [decide_eq_false hfew] at HFP
    clear hfew
    go_wp2_with fail
    refine HFP.out.mono ?_
    rintro e w1 ⟨rfl, hb1⟩
    have HB1 := Lib.hid hb1
    clear hb1
    go_wp2_with fail
    refine (known_any w1).mono ?_
    rintro e w2 ⟨rfl, hb2⟩
    have HB2 := Lib.hid (HB1.out.trans (hb2.mono HB1.out.size))
    clear hb2
    go_wp2_with fail
    go_ret
    exact ⟨rfl, HB2.out⟩
  rw [decide_eq_true hfew] at HFP
  have HFEW := Lib.hid hfew
  have h40 := hfew.1
  clear hfew
  go_wp2_with fail
  refine HFP.out.mono ?_
  rintro e w1 ⟨rfl, hb1⟩
  have HB1 := Lib.hid hb1
  have hs1 : w.heap.size ≤ w1.heap.size := hb1.size
  clear hb1
  by_cases h12 : m ≤ 12
  case neg =>
    have q1 : (12 : Int) < m := by omega
    go_wp2_with fail
    refine (known_any w1).mono ?_
    rintro e w2 ⟨rfl, hb2⟩
    have HB2 := Lib.hid (HB1.out.trans (hb2.mono HB1.out.size))
    clear hb2
    go_wp2_with fail
    go_ret
    exact ⟨rfl, HB2.out⟩
  have q1 : ¬ (12 : Int) < m := by omega
  go_wp2_with fail
  go_loopg [5, 6] m (fun dd v5 v6 wr => ∃ i : Nat, i + dd = m ∧ v6 = .int .i64 i ∧ OwnI w1.heap.size TI wr v5 (upN i) ∧ (∀ y ∈ W.take i, okTy y = true) ∧ Below w1.heap.size w1 wr)
  case atStart => exact ⟨0, by omega, rfl, OwnI.nil _ _ _, fun y hy => by simp at hy, Below.refl _ _⟩
  case round =>
    obtain ⟨i, hid, rfl, how, hoks, hb⟩ := hrel
    have HK := Lib.hid hid
    have HOW := Lib.hid how
    have HOKS := Lib.hid hoks
    have HB := Lib.hid hb
    have hzw := hb.size
    have hile : i ≤ m := by omega
    have hsl := how.slice
    rw [upN_len] at hsl
    obtain ⟨a5, c5, rfl⟩ := hsl
    clear hid how hoks hb
    by_cases hlt : i < m
    · have hlt' : (i : Int) < m := by omega
      have how' := HOW.out
      unfold OwnI at how'
      rw [upN_len] at how'
      have HOW' := Lib.hid how'
      clear how'
      go_wp2_with (at_builtin; refine wpList_append_own _ rfl _ _ 37 rfl w1.heap.size TI i0 _ 1 8 Try.underlying37 hi hz0 hz1 hz2' rfl (by decide) _ _ _ rfl (HOW'.out.alloc _) ⟨wr.heap.size, 0, none⟩ 1 1 [.int .i64 i] rfl rfl (Go.cell_one_new _ _ _) (fun u hu => by simp only [List.mem_singleton] at hu; rw [hu]; rfl) (by unfold maxLen; omega) (by omega) (by simp; omega) ?_)
      intro v7 w7 hown hgrow _
      have HO7 := Lib.hid (show OwnI w1.heap.size TI w7 v7 (upN (i + 1)) by unfold OwnI; rw [upN_len, upN_succ, List.map_append]; exact hown)
      have HB7 := Lib.hid ((HB.out.alloc hzw (.cells #[.int .i64 i] TI)).grown hgrow (by simp; omega) (fun q hq => (HOW'.out.lt q hq).1))
      have hz7 : w1.heap.size ≤ w7.heap.size := HB7.out.size
      obtain ⟨a7, c7, rfl⟩ := own_slice hown
      clear hown hgrow
      have hiL : i < W.length := by rw [HWL.out]; exact hlt
      have HMM := Lib.hid (List.getElem?_eq_getElem hiL)
      have hx := ((HTT.out.below HB1.out fun b h => h).below HB7.out fun b h => Nat.lt_of_lt_of_le h hs1).at_ i W[i] (by rw [HWT.out]; exact HMM.out)
      generalize W[i] = z at hx HMM
      rw [Nat.zero_add] at hx
      obtain ⟨ad, a2, c2, rfl, _, z0, z1, z2, z3, nz, lz, rz⟩ := hx
      have HRI := Lib.hid (rright_any z.args.nodes z (Nat.le_refl _) a2 c2 w7 rz (fun b h => by omega) lz)
      unfold tyV at HRI
      clear rz
      cases hok : okTy z with
      | false =>
        rw [hok] at HRI
        clear hok
        go_wp2_with fail
        refine HRI.out.mono ?_
        rintro e w8 ⟨rfl, hb8⟩
        have HB8 := Lib.hid (HB1.out.trans ((HB7.out.trans (hb8.mono hz7)).mono hs1))
        clear hb8 z0 z1 z2 z3
        go_wp2_with fail
        refine (known_any w8).mono ?_
        rintro e w9 ⟨rfl, hb9⟩
        have HB9 := Lib.hid (HB8.out.trans (hb9.mono HB8.out.size))
        clear hb9
        go_wp2_with fail
        go_ret
        exact ⟨rfl, HB9.out⟩
      | true =>
        rw [hok] at HRI
        have HOK := Lib.hid hok
        clear hok
        go_wp2_with fail
        refine HRI.out.mono ?_
        rintro e w8 ⟨rfl, hb8⟩
        have HB8 := Lib.hid (HB7.out.trans (hb8.mono hz7))
        have HO8 := Lib.hid (HO7.out.here hb8)
        have hz8 : w1.heap.size ≤ w8.heap.size := HB8.out.size
        clear hb8 z0 z1 z2 z3
        have hx := ((HTT.out.below HB1.out fun b h => h).below HB8.out fun b h => Nat.lt_of_lt_of_le h hs1).at_ i z (by rw [HWT.out]; exact HMM.out)
        rw [Nat.zero_add] at hx
        obtain ⟨ad', a3, c3, hae, _, z0, z1, z2, z3, _, lz3, rz⟩ := hx
        obtain rfl : ad = ad' := Option.some.inj hae
        have HSZ := Lib.hid (rsize_any z.args.nodes z (Nat.le_refl _) a3 c3 10 w8 (by decide) rz (fun b h => by omega) lz3)
        unfold tyV at HSZ
        obtain ⟨sz, hsz⟩ : ∃ sz, min (z.args.nodes + 1) (10 + 1) = sz := ⟨_, rfl⟩
        rw [hsz] at HSZ
        clear rz hsz
        by_cases h10 : sz ≤ 10
        case neg =>
          have q2 : (10 : Int) < (sz : Int) := by omega
          go_wp2_with fail
          refine HSZ.out.mono ?_
          rintro e w9 ⟨rfl, hb9⟩
          have HB9 := Lib.hid (HB1.out.trans ((HB8.out.trans (hb9.mono hz8)).mono hs1))
          clear hb9 z0 z1 z2 z3
          go_wp2_with fail
          refine (known_any w9).mono ?_
          rintro e w10 ⟨rfl, hb10⟩
          have HB10 := Lib.hid (HB9.out.trans (hb10.mono HB9.out.size))
          clear hb10
          go_wp2_with fail
          go_ret
          exact ⟨rfl, HB10.out⟩
        have q2 : ¬ (10 : Int) < (sz : Int) := by omega
        go_wp2_with fail
        refine HSZ.out.mono ?_
        rintro e w9 ⟨rfl, hb9⟩
        have HB9 := Lib.hid (HB8.out.trans (hb9.mono hz8))
        have HO9 := Lib.hid (HO8.out.here hb9)
        clear hb9 z0 z1 z2 z3
        go_wp2_with fail
        go_roundg (m - (i + 1))
        case measure => have := HK.out; omega
        case rel => exact ⟨i + 1, by have := HK.out; omega, by go_num, HO9.out, ok_next HMM.out HOKS.out HOK.out, HB9.out⟩
    · have hge : ¬ (i : Int) < m := by omega
      obtain rfl : m = i := by omega
      obtain ⟨w2, hw2⟩ : ∃ w2, w2 = wr := ⟨_, rfl⟩
      subst hw2
      have HWOK := Lib.hid (show ∀ y ∈ W, okTy y = true by have h := HOKS.out; rw [List.take_of_length_le (by rw [HWL.out]; exact Nat.le_refl _)] at h; exact h)
      have HB2 := Lib.hid (HB1.out.trans (HB.out.mono hs1))
      have hs2 : w.heap.size ≤ w2.heap.size := HB2.out.size
      obtain ⟨base, hbase⟩ : ∃ base, base = w2.heap.size := ⟨_, rfl⟩
      have HBS := Lib.hid hbase
      have hwb : ∀ b, b < w.heap.size → b < base := fun b h => by omega
      have HL2 := Lib.hid (show Prs (· < base) w2 a l from (HL.out.below HB2.out fun b h => h).mono hwb)
      have HV2 := Lib.hid (show RdI (· < base) w2 a5 (upN m) by
        have h := HOW.out
        have h2 : OwnI w1.heap.size TI w2 (.slice a5 (upN m).length c5) (upN m) := by rw [upN_len]; exact h
        exact h2.reads.mono fun b q => by have := q.2; omega)
      have HT2 := Lib.hid (show RdT (· < base) w2 b (Tys.ofL W) 0 by rw [← HWT.out, Tys.ofL_toL]; exact (HTT.out.below HB2.out fun b h => h).mono hwb)
      obtain ⟨F, hF⟩ : ∃ F, subF (upN m) W = F := ⟨_, rfl⟩
      have HF := Lib.hid (show subF (upN W.length) W = F by rw [HWL.out]; exact hF)
      have HSUB : Hid (∀ (B : Nat) (w' : World) (z : Ty) (az : Option Addr) (cz : Nat), base ≤ B → B ≤ w'.heap.size → Below base w2 w' → RdT (· < B) w' az z.args 0 → z.args.len * 56 ≤ 140737488355328 → z.nm.size ≤ 9223372036854775807 → okTy z = true →
          Calls Try.prog 17 #[.agg #[.int .i64 z.kd, .int .i64 z.n, .string z.nm, .slice az z.args.len cz], .slice a5 m c5, .slice b m cw] w' (SubPost B (sub1 F z) w')) := Lib.hid fun B w' z az cz h1 h2 h3 h4 h5 h6 h7 => by
        have h := rsubst_any (base := B) (l := upN m) (W := W) (b := a5) (p := b) (cb := c5) (cp := cw) (by rw [upN_len]; omega) (by rw [HWL.out]; omega) z.args.nodes z (Nat.le_refl _) az cz w' h2 h4 h5 h6 h7 ((HV2.out.below h3 fun b h => h).mono fun b h => Nat.lt_of_lt_of_le h h1) ((HT2.out.below h3 fun b h => h).mono fun b h => Nat.lt_of_lt_of_le h h1)
        rw [upN_len, HWL.out, hF] at h
        exact h
      clear hF hwb
      have HEND : Hid (∀ W W', Below base w2 W → Below W.heap.size W W' → base ≤ W.heap.size → Below w.heap.size w W') := Lib.hid fun W W' h1 h2 h3 => HB2.out.trans ((h1.trans (h2.mono h3)).mono (by have := HBS.out; omega))
      have hbb : base ≤ w2.heap.size := Nat.le_of_eq HBS.out
      go_wp2_with fail
      go_loopg [7] n (fun dd v7 wr => ∃ k : Nat, k + dd = n ∧ v7 = .int .i64 k ∧ (∀ p ∈ l.take k, PairOK F p) ∧ Below base w2 wr)
      case atStart => exact ⟨0, by omega, rfl, fun p hp => by simp at hp, Below.refl _ _⟩
      case round =>
        obtain ⟨k, hkd, rfl, hpok, hb⟩ := hrel
        have HKK := Lib.hid hkd
        have HPOK := Lib.hid hpok
        have HBR := Lib.hid hb
        have hzb : base ≤ wr.heap.size := by have := hb.size; omega
        have hkle : k ≤ n := by omega
        clear hkd hpok hb
        by_cases hlt : k < n
        · have hlt' : (k : Int) < n := by omega
          have hkL : k < l.length := by rw [HLN.out.1]; exact hlt
          have hx := HL2.out.below HBR.out (fun b h => h) k l[k] (List.getElem?_eq_getElem hkL)
          have HMM := Lib.hid (List.getElem?_eq_getElem hkL)
          generalize l[k] = p at hx HMM
          obtain ⟨x, y⟩ := p
          obtain ⟨ad, a2, c2, a3, c3, rfl, hza, z0, z1, z2, z3, z4, z5, z6, z7, nx1, lx, rx, ny1, ly, ry⟩ := hx
          have zb' : (ad.add (k * 8)).block < wr.heap.size := by rw [add_block]; exact Nat.lt_of_lt_of_le hza hzb
          have HRI := Lib.hid (pright_any (Z := (· < base)) (c := c2) (e := c3) wr.drew rx.drew ry.drew lx ly fun b h => Nat.lt_of_lt_of_le h hzb)
          have HXY := Lib.hid (And.intro rx ry)
          clear rx ry
          cases hok : okTy x && okTy y with
          | false =>
            rw [hok] at HRI
            clear hok
            go_wp2_with fail
            refine wp_region_held_drew (S := fun w' => w'.cell? (ad.add (k * 8)) = some (.int .i64 x.kd) ∧ w'.cell? ⟨(ad.add (k * 8)).block, (ad.add (k * 8)).off + 1, none⟩ = some (.int .i64 x.n) ∧ w'.cell? ⟨(ad.add (k * 8)).block, (ad.add (k * 8)).off + 2, none⟩ = some (.string x.nm) ∧ w'.cell? ⟨(ad.add (k * 8)).block, (ad.add (k * 8)).off + 3, none⟩ = some (.slice a2 x.args.len c2) ∧ w'.cell? ⟨(ad.add (k * 8)).block, (ad.add (k * 8)).off + 4, none⟩ = some (.int .i64 y.kd) ∧ w'.cell? ⟨(ad.add (k * 8)).block, (ad.add (k * 8)).off + 5, none⟩ = some (.int .i64 y.n) ∧ w'.cell? ⟨(ad.add (k * 8)).block, (ad.add (k * 8)).off + 6, none⟩ = some (.string y.nm) ∧ w'.cell? ⟨(ad.add (k * 8)).block, (ad.add (k * 8)).off + 7, none⟩ = some (.slice a3 y.args.len c3)) (by kernel_rfl) ⟨z0, z1, z2, z3, z4, z5, z6, z7⟩ (fun hHeld => ?_)
            refine wpAnyH_take (i := 0) (oi := { dst := some 53, op := Op.move (Operand.tmp 0), type := 22, pos := "law.go:140", after := #[], guard := none }) (v := ?_) rfl (by kernel_rfl) (by kernel_rfl) (by kernel_rfl) (fun _ _ _ h => h) (Or.inl ⟨by rfl, ?_⟩) (by assumption) ?_
            rotate_left 1
            · intro w hSw; (try dsimp only at hSw); first | (go_simp; done) | (go_simp; with_reducible rfl)
            simp only [Act.put, List.setIfInBounds_toArray, List.set_cons_zero, List.set_cons_succ]
            refine wpAnyH_take (i := 1) (oi := { dst := some 54, op := Op.move (Operand.tmp 7), type := 3, pos := "law.go:140", after := #[], guard := none }) (v := ?_) rfl (by kernel_rfl) (by kernel_rfl) (by kernel_rfl) (fun _ _ _ h => h) (Or.inl ⟨by rfl, ?_⟩) (by assumption) ?_
            rotate_left 1
            · intro w hSw; (try dsimp only at hSw); first | (go_simp; done) | (go_simp; with_reducible rfl)
            simp only [Act.put, List.setIfInBounds_toArray, List.set_cons_zero, List.set_cons_succ]
            refine wpAnyH_take (i := 2) (oi := { dst := some 55, op := Op.indexAddr 22 (Operand.tmp 53) (Operand.tmp 54), type := 0, pos := "law.go:140", after := #[{ on := 0, ground := Ground.data }, { on := 1, ground := Ground.data }], guard := none }) (v := ?_) rfl (by kernel_rfl) (by kernel_rfl) (by kernel_rfl) (fun _ _ _ h => h) (Or.inl ⟨by rfl, ?_⟩) (by assumption) ?_
            rotate_left 1
            · intro w hSw; (try dsimp only at hSw); first | (go_simp; done) | (go_simp; with_reducible rfl)
            simp only [Act.put, List.setIfInBounds_toArray, List.set_cons_zero, List.set_cons_succ]
            refine wpAnyH_take (i := 3) (oi := { dst := some 56, op := Op.load 34 (Operand.tmp 55), type := 34, pos := "law.go:140", after := #[{ on := 2, ground := Ground.data }], guard := none }) (v := ?_) rfl (by kernel_rfl) (by kernel_rfl) (by kernel_rfl) (fun _ _ _ h => h) (Or.inl ⟨by rfl, ?_⟩) (by assumption) ?_
            rotate_left 1
            · intro w hSw; (try dsimp only at hSw); first | (go_simp; done) | (go_simp; with_reducible rfl)
            simp only [Act.put, List.setIfInBounds_toArray, List.set_cons_zero, List.set_cons_succ]
            refine wpAnyH_ready (rs := [4]) (by kernel_rfl) (by simp) ?_
            refine AllReadyH.cons (o := { dst := some 57, op := Op.call { callee := Callee.value (Operand.func 16), args := #[Operand.tmp 56], argTypes := #[34] }, type := 4, pos := "law.go:140", after := #[{ on := 3, ground := Ground.data }], guard := none }) rfl (fun K hK => ?_) AllReadyH.nil
            go_simp
            refine HRI.out.mono ?_
            rintro e w3 ⟨rfl, hb3⟩
            replace hb3 : Below wr.heap.size wr w3 := ⟨hb3.os, hb3.tape, hb3.output, hb3.size, hb3.block⟩
            have k0 := (hb3.cell zb').trans z0
            have k1 := (hb3.cell (p := ⟨_, _, none⟩) zb').trans z1
            have k2 := (hb3.cell (p := ⟨_, _, none⟩) zb').trans z2
            have k3 := (hb3.cell (p := ⟨_, _, none⟩) zb').trans z3
            have k4 := (hb3.cell (p := ⟨_, _, none⟩) zb').trans z4
            have k5 := (hb3.cell (p := ⟨_, _, none⟩) zb').trans z5
            have k6 := (hb3.cell (p := ⟨_, _, none⟩) zb').trans z6
            have k7 := (hb3.cell (p := ⟨_, _, none⟩) zb').trans z7
            refine hK.out _ _ ⟨k0, k1, k2, k3, k4, k5, k6, k7⟩ (fun hHeld => ?_)
            clear hK K
            try simp only [Act.put, List.setIfInBounds_toArray, List.set_cons_zero, List.set_cons_succ]
            refine wpAnyH_take (i := 5) (oi := { dst := some 58, op := Op.unOp UnOp.not 4 (Operand.tmp 57), type := 4, pos := "law.go:140", after := #[{ on := 4, ground := Ground.data }], guard := none }) (v := ?_) rfl (by kernel_rfl) (by kernel_rfl) (by kernel_rfl) (fun _ _ _ h => h) (Or.inl ⟨by rfl, ?_⟩) (by assumption) ?_
            rotate_left 1
            · intro w hSw; (try dsimp only at hSw); first | (go_simp; done) | (go_simp; with_reducible rfl)
            simp only [Act.put, List.setIfInBounds_toArray, List.set_cons_zero, List.set_cons_succ]
            refine wpAnyH_take (i := 6) (oi := { dst := some 59, op := Op.move (Operand.tmp 58), type := 4, pos := "law.go:140", after := #[{ on := 5, ground := Ground.data }, { on := 4, ground := Ground.chain }], guard := none }) (v := ?_) rfl (by kernel_rfl) (by kernel_rfl) (by kernel_rfl) (fun _ _ _ h => h) (Or.inl ⟨by rfl, ?_⟩) (by assumption) ?_
            rotate_left 1
            · intro w hSw; (try dsimp only at hSw); first | (go_simp; done) | (go_simp; with_reducible rfl)
            simp only [Act.put, List.setIfInBounds_toArray, List.set_cons_zero, List.set_cons_succ]
            refine wpAnyH_take (i := 7) (oi := { dst := some 60, op := Op.move (Operand.tmp 0), type := 22, pos := "law.go:140", after := #[{ on := 6, ground := Ground.guard }], guard := some (6, false) }) (v := undef) rfl (by kernel_rfl) (by kernel_rfl) (by kernel_rfl) (fun _ _ _ h => h) (Or.inr ⟨by rfl, rfl⟩) (by assumption) ?_
            simp only [Act.put, List.setIfInBounds_toArray, List.set_cons_zero, List.set_cons_succ]
            refine wpAnyH_take (i := 8) (oi := { dst := some 61, op := Op.move (Operand.tmp 7), type := 3, pos := "law.go:140", after := #[{ on := 6, ground := Ground.guard }], guard := some (6, false) }) (v := undef) rfl (by kernel_rfl) (by kernel_rfl) (by kernel_rfl) (fun _ _ _ h => h) (Or.inr ⟨by rfl, rfl⟩) (by assumption) ?_
            simp only [Act.put, List.setIfInBounds_toArray, List.set_cons_zero, List.set_cons_succ]
            refine wpAnyH_take (i := 9) (oi := { dst := some 62, op := Op.indexAddr 22 (Operand.tmp 60) (Operand.tmp 61), type := 0, pos := "law.go:140", after := #[{ on := 7, ground := Ground.data }, { on := 8, ground := Ground.data }, { on := 6, ground := Ground.guard }], guard := some (6, false) }) (v := undef) rfl (by kernel_rfl) (by kernel_rfl) (by kernel_rfl) (fun _ _ _ h => h) (Or.inr ⟨by rfl, rfl⟩) (by assumption) ?_
            simp only [Act.put, List.setIfInBounds_toArray, List.set_cons_zero, List.set_cons_succ]
            refine wpAnyH_take (i := 10) (oi := { dst := some 63, op := Op.fieldAddr 34 (Operand.tmp 62) 0, type := 0, pos := "law.go:140", after := #[{ on := 9, ground := Ground.data }, { on := 6, ground := Ground.guard }], guard := some (6, false) }) (v := undef) rfl (by kernel_rfl) (by kernel_rfl) (by kernel_rfl) (fun _ _ _ h => h) (Or.inr ⟨by rfl, rfl⟩) (by assumption) ?_
            simp only [Act.put, List.setIfInBounds_toArray, List.set_cons_zero, List.set_cons_succ]
            refine wpAnyH_take (i := 11) (oi := { dst := some 64, op := Op.load 29 (Operand.tmp 63), type := 29, pos := "law.go:140", after := #[{ on := 10, ground := Ground.data }, { on := 6, ground := Ground.guard }], guard := some (6, false) }) (v := undef) rfl (by kernel_rfl) (by kernel_rfl) (by kernel_rfl) (fun _ _ _ h => h) (Or.inr ⟨by rfl, rfl⟩) (by assumption) ?_
            simp only [Act.put, List.setIfInBounds_toArray, List.set_cons_zero, List.set_cons_succ]
            refine wpAnyH_take (i := 12) (oi := { dst := some 65, op := Op.move (Operand.tmp 5), type := 37, pos := "law.go:140", after := #[{ on := 6, ground := Ground.guard }], guard := some (6, false) }) (v := undef) rfl (by kernel_rfl) (by kernel_rfl) (by kernel_rfl) (fun _ _ _ h => h) (Or.inr ⟨by rfl, rfl⟩) (by assumption) ?_
            simp only [Act.put, List.setIfInBounds_toArray, List.set_cons_zero, List.set_cons_succ]
            refine wpAnyH_take (i := 13) (oi := { dst := some 66, op := Op.move (Operand.tmp 1), type := 27, pos := "law.go:140", after := #[{ on := 6, ground := Ground.guard }], guard := some (6, false) }) (v := undef) rfl (by kernel_rfl) (by kernel_rfl) (by kernel_rfl) (fun _ _ _ h => h) (Or.inr ⟨by rfl, rfl⟩) (by assumption) ?_
            simp only [Act.put, List.setIfInBounds_toArray, List.set_cons_zero, List.set_cons_succ]
            refine wpAnyH_take (i := 14) (oi := { dst := some 67, op := Op.call { callee := Callee.value (Operand.func 17), args := #[Operand.tmp 64, Operand.tmp 65, Operand.tmp 66], argTypes := #[29, 37, 27] }, type := 29, pos := "law.go:140", after := #[{ on := 11, ground := Ground.data }, { on := 12, ground := Ground.data }, { on := 13, ground := Ground.data }, { on := 6, ground := Ground.chain }, { on := 6, ground := Ground.guard }], guard := some (6, false) }) (v := undef) rfl (by kernel_rfl) (by kernel_rfl) (by kernel_rfl) (fun _ _ _ h => h) (Or.inr ⟨by rfl, rfl⟩) (by assumption) ?_
            simp only [Act.put, List.setIfInBounds_toArray, List.set_cons_zero, List.set_cons_succ]
            refine wpAnyH_take (i := 15) (oi := { dst := some 68, op := Op.move (Operand.tmp 0), type := 22, pos := "law.go:140", after := #[{ on := 6, ground := Ground.guard }], guard := some (6, false) }) (v := undef) rfl (by kernel_rfl) (by kernel_rfl) (by kernel_rfl) (fun _ _ _ h => h) (Or.inr ⟨by rfl, rfl⟩) (by assumption) ?_
            simp only [Act.put, List.setIfInBounds_toArray, List.set_cons_zero, List.set_cons_succ]
            refine wpAnyH_take (i := 16) (oi := { dst := some 69, op := Op.move (Operand.tmp 7), type := 3, pos := "law.go:140", after := #[{ on := 6, ground := Ground.guard }], guard := some (6, false) }) (v := undef) rfl (by kernel_rfl) (by kernel_rfl) (by kernel_rfl) (fun _ _ _ h => h) (Or.inr ⟨by rfl, rfl⟩) (by assumption) ?_
            simp only [Act.put, List.setIfInBounds_toArray, List.set_cons_zero, List.set_cons_succ]
            refine wpAnyH_take (i := 17) (oi := { dst := some 70, op := Op.indexAddr 22 (Operand.tmp 68) (Operand.tmp 69), type := 0, pos := "law.go:140", after := #[{ on := 15, ground := Ground.data }, { on := 16, ground := Ground.data }, { on := 6, ground := Ground.guard }], guard := some (6, false) }) (v := undef) rfl (by kernel_rfl) (by kernel_rfl) (by kernel_rfl) (fun _ _ _ h => h) (Or.inr ⟨by rfl, rfl⟩) (by assumption) ?_
            simp only [Act.put, List.setIfInBounds_toArray, List.set_cons_zero, List.set_cons_succ]
            refine wpAnyH_take (i := 18) (oi := { dst := some 71, op := Op.fieldAddr 34 (Operand.tmp 70) 1, type := 0, pos := "law.go:140", after := #[{ on := 17, ground := Ground.data }, { on := 6, ground := Ground.guard }], guard := some (6, false) }) (v := undef) rfl (by kernel_rfl) (by kernel_rfl) (by kernel_rfl) (fun _ _ _ h => h) (Or.inr ⟨by rfl, rfl⟩) (by assumption) ?_
            simp only [Act.put, List.setIfInBounds_toArray, List.set_cons_zero, List.set_cons_succ]
            refine wpAnyH_take (i := 19) (oi := { dst := some 72, op := Op.load 29 (Operand.tmp 71), type := 29, pos := "law.go:140", after := #[{ on := 18, ground := Ground.data }, { on := 6, ground := Ground.guard }], guard := some (6, false) }) (v := undef) rfl (by kernel_rfl) (by kernel_rfl) (by kernel_rfl) (fun _ _ _ h => h) (Or.inr ⟨by rfl, rfl⟩) (by assumption) ?_
            simp only [Act.put, List.setIfInBounds_toArray, List.set_cons_zero, List.set_cons_succ]
            refine wpAnyH_take (i := 20) (oi := { dst := some 73, op := Op.move (Operand.tmp 5), type := 37, pos := "law.go:140", after := #[{ on := 6, ground := Ground.guard }], guard := some (6, false) }) (v := undef) rfl (by kernel_rfl) (by kernel_rfl) (by kernel_rfl) (fun _ _ _ h => h) (Or.inr ⟨by rfl, rfl⟩) (by assumption) ?_
            simp only [Act.put, List.setIfInBounds_toArray, List.set_cons_zero, List.set_cons_succ]
            refine wpAnyH_take (i := 21) (oi := { dst := some 74, op := Op.move (Operand.tmp 1), type := 27, pos := "law.go:140", after := #[{ on := 6, ground := Ground.guard }], guard := some (6, false) }) (v := undef) rfl (by kernel_rfl) (by kernel_rfl) (by kernel_rfl) (fun _ _ _ h => h) (Or.inr ⟨by rfl, rfl⟩) (by assumption) ?_
            simp only [Act.put, List.setIfInBounds_toArray, List.set_cons_zero, List.set_cons_succ]
            refine wpAnyH_take (i := 22) (oi := { dst := some 75, op := Op.call { callee := Callee.value (Operand.func 17), args := #[Operand.tmp 72, Operand.tmp 73, Operand.tmp 74], argTypes := #[29, 37, 27] }, type := 29, pos := "law.go:140", after := #[{ on := 19, ground := Ground.data }, { on := 20, ground := Ground.data }, { on := 21, ground := Ground.data }, { on := 14, ground := Ground.chain }, { on := 6, ground := Ground.guard }], guard := some (6, false) }) (v := undef) rfl (by kernel_rfl) (by kernel_rfl) (by kernel_rfl) (fun _ _ _ h => h) (Or.inr ⟨by rfl, rfl⟩) (by assumption) ?_
            simp only [Act.put, List.setIfInBounds_toArray, List.set_cons_zero, List.set_cons_succ]
            refine wpAnyH_take (i := 23) (oi := { dst := some 76, op := Op.call { callee := Callee.value (Operand.func 12), args := #[Operand.tmp 67, Operand.tmp 75], argTypes := #[29, 29] }, type := 4, pos := "law.go:140", after := #[{ on := 14, ground := Ground.data }, { on := 22, ground := Ground.data }, { on := 22, ground := Ground.chain }, { on := 6, ground := Ground.guard }], guard := some (6, false) }) (v := undef) rfl (by kernel_rfl) (by kernel_rfl) (by kernel_rfl) (fun _ _ _ h => h) (Or.inr ⟨by rfl, rfl⟩) (by assumption) ?_
            simp only [Act.put, List.setIfInBounds_toArray, List.set_cons_zero, List.set_cons_succ]
            refine wpAnyH_take (i := 24) (oi := { dst := some 77, op := Op.unOp UnOp.not 4 (Operand.tmp 76), type := 4, pos := "law.go:140", after := #[{ on := 23, ground := Ground.data }, { on := 6, ground := Ground.guard }], guard := some (6, false) }) (v := undef) rfl (by kernel_rfl) (by kernel_rfl) (by kernel_rfl) (fun _ _ _ h => h) (Or.inr ⟨by rfl, rfl⟩) (by assumption) ?_
            simp only [Act.put, List.setIfInBounds_toArray, List.set_cons_zero, List.set_cons_succ]
            refine wpAnyH_take (i := 25) (oi := { dst := some 78, op := Op.pick (Operand.tmp 59) (Operand.const (Value.bool true)) (Operand.tmp 77), type := 4, pos := "law.go:140", after := #[{ on := 6, ground := Ground.data }, { on := 24, ground := Ground.data }], guard := none }) (v := ?_) rfl (by kernel_rfl) (by kernel_rfl) (by kernel_rfl) (fun _ _ _ h => h) (Or.inl ⟨by rfl, ?_⟩) (by assumption) ?_
            rotate_left 1
            · intro w hSw; (try dsimp only at hSw); first | (go_simp; done) | (go_simp; with_reducible rfl)
            simp only [Act.put, List.setIfInBounds_toArray, List.set_cons_zero, List.set_cons_succ]
            refine wpAnyH_done (by kernel_rfl) ?_ _
            have HB3 := Lib.hid (HBR.out.trans (hb3.mono hzb))
            have hz3 : base ≤ w3.heap.size := Nat.le_trans hzb hb3.size
            clear hb3 k0 k1 k2 k3 k4 k5 k6 k7 z0 z1 z2 z3 z4 z5 z6 z7
            go_wp2_with fail
            refine (known_any w3).mono ?_
            rintro e w4 ⟨rfl, hb4⟩
            have HB4 := Lib.hid (HEND.out w3 w4 HB3.out hb4 hz3)
            clear hb4
            go_wp2_with fail
            go_ret
            exact ⟨rfl, HB4.out⟩
          | true =>
            rw [hok] at HRI
            rw [Bool.and_eq_true] at hok
            have HOK := Lib.hid hok
            obtain ⟨X, hX⟩ : ∃ X, sub1 F x = X := ⟨_, rfl⟩
            obtain ⟨Y, hY⟩ : ∃ Y, sub1 F y = Y := ⟨_, rfl⟩
            have HXX := Lib.hid (And.intro hX hY)
            have HSX : Hid (∀ w', Below wr.heap.size wr w' → Calls Try.prog 17 #[.agg #[.int .i64 x.kd, .int .i64 x.n, .string x.nm, .slice a2 x.args.len c2], .slice a5 m c5, .slice b m cw] w' (SubPost base X w')) := Lib.hid fun w' h => by
              rw [← hX]
              exact HSUB.out base w' x a2 c2 (Nat.le_refl _) (Nat.le_trans hzb h.size) (HBR.out.trans (h.mono hzb)) (HXY.out.1.below (h.mono hzb) fun b h => h) lx nx1 HOK.out.1
            have HSY : Hid (∀ w', Below wr.heap.size wr w' → Calls Try.prog 17 #[.agg #[.int .i64 y.kd, .int .i64 y.n, .string y.nm, .slice a3 y.args.len c3], .slice a5 m c5, .slice b m cw] w' (SubPost base Y w')) := Lib.hid fun w' h => by
              rw [← hY]
              exact HSUB.out base w' y a3 c3 (Nat.le_refl _) (Nat.le_trans hzb h.size) (HBR.out.trans (h.mono hzb)) (HXY.out.2.below (h.mono hzb) fun b h => h) ly ny1 HOK.out.2
            clear hok hX hY
            go_wp2_with fail
            go_region_held3 (fun w' => w'.cell? (ad.add (k * 8)) = some (.int .i64 x.kd) ∧ w'.cell? ⟨(ad.add (k * 8)).block, (ad.add (k * 8)).off + 1, none⟩ = some (.int .i64 x.n) ∧ w'.cell? ⟨(ad.add (k * 8)).block, (ad.add (k * 8)).off + 2, none⟩ = some (.string x.nm) ∧ w'.cell? ⟨(ad.add (k * 8)).block, (ad.add (k * 8)).off + 3, none⟩ = some (.slice a2 x.args.len c2) ∧ w'.cell? ⟨(ad.add (k * 8)).block, (ad.add (k * 8)).off + 4, none⟩ = some (.int .i64 y.kd) ∧ w'.cell? ⟨(ad.add (k * 8)).block, (ad.add (k * 8)).off + 5, none⟩ = some (.int .i64 y.n) ∧ w'.cell? ⟨(ad.add (k * 8)).block, (ad.add (k * 8)).off + 6, none⟩ = some (.string y.nm) ∧ w'.cell? ⟨(ad.add (k * 8)).block, (ad.add (k * 8)).off + 7, none⟩ = some (.slice a3 y.args.len c3))
      (first
        | exact ⟨z0, z1, z2, z3, z4, z5, z6, z7⟩
        | exact ⟨k0, k1, k2, k3, k4, k5, k6, k7⟩
        | exact ⟨f0, f1, f2, f3, f4, f5, f6, f7⟩
        | exact ⟨g0, g1, g2, g3, g4, g5, g6, g7⟩
        | exact ⟨j0, j1, j2, j3, j4, j5, j6, j7⟩
        | go_keep)
      (first
        | (have h := G3; clear h; go_at_call 12; refine (rsame_any (Z := fun b => b < w5.heap.size) (Z' := fun b => b < w5.heap.size) X.args.nodes X Y (Nat.le_refl _) a14 a15 c14 c15 w5 HX5.out HY5.out (fun b h => h) (fun b h => h) HXL.out).mono ?_; rintro e w6 ⟨v, rfl, hv, hb6⟩; have HBr6 := Lib.hid (HBr5.out.trans (hb6.mono HBr5.out.size)); have j0 := (HBr6.out.cell zb').trans z0; have j1 := (HBr6.out.cell (p := ⟨_, _, none⟩) zb').trans z1; have j2 := (HBr6.out.cell (p := ⟨_, _, none⟩) zb').trans z2; have j3 := (HBr6.out.cell (p := ⟨_, _, none⟩) zb').trans z3; have j4 := (HBr6.out.cell (p := ⟨_, _, none⟩) zb').trans z4; have j5 := (HBr6.out.cell (p := ⟨_, _, none⟩) zb').trans z5; have j6 := (HBr6.out.cell (p := ⟨_, _, none⟩) zb').trans z6; have j7 := (HBr6.out.cell (p := ⟨_, _, none⟩) zb').trans z7; clear hb6)
        | (have h := G2; clear h; go_at_call 17; refine (HSY.out w4 HBr4.out).mono ?_; rintro e w5 ⟨a15, c15, rfl, hrd, hl, hn, hb5⟩; have HBr5 := Lib.hid (HBr4.out.trans (hb5.mono HBr4.out.size)); have HY5 := Lib.hid (hrd.mono (Z' := fun b => b < w5.heap.size) fun b q => q.elim (fun q => Nat.lt_of_lt_of_le q (Nat.le_trans hzb HBr5.out.size)) fun q => q.2); have HX5 := Lib.hid (rdT_here HX4.out hb5); have g0 := (HBr5.out.cell zb').trans z0; have g1 := (HBr5.out.cell (p := ⟨_, _, none⟩) zb').trans z1; have g2 := (HBr5.out.cell (p := ⟨_, _, none⟩) zb').trans z2; have g3 := (HBr5.out.cell (p := ⟨_, _, none⟩) zb').trans z3; have g4 := (HBr5.out.cell (p := ⟨_, _, none⟩) zb').trans z4; have g5 := (HBr5.out.cell (p := ⟨_, _, none⟩) zb').trans z5; have g6 := (HBr5.out.cell (p := ⟨_, _, none⟩) zb').trans z6; have g7 := (HBr5.out.cell (p := ⟨_, _, none⟩) zb').trans z7; have G3 := Lib.hid True.intro; clear hrd hl hn hb5)
        | (have h := G1; clear h; go_at_call 17; refine (HSX.out w3 HBr3.out).mono ?_; rintro e w4 ⟨a14, c14, rfl, hrd, hl, hn, hb4⟩; have HBr4 := Lib.hid (HBr3.out.trans (hb4.mono HBr3.out.size)); have HX4 := Lib.hid (hrd.mono (Z' := fun b => b < w4.heap.size) fun b q => q.elim (fun q => Nat.lt_of_lt_of_le q (Nat.le_trans hzb HBr4.out.size)) fun q => q.2); have HXL := Lib.hid hl; have f0 := (HBr4.out.cell zb').trans z0; have f1 := (HBr4.out.cell (p := ⟨_, _, none⟩) zb').trans z1; have f2 := (HBr4.out.cell (p := ⟨_, _, none⟩) zb').trans z2; have f3 := (HBr4.out.cell (p := ⟨_, _, none⟩) zb').trans z3; have f4 := (HBr4.out.cell (p := ⟨_, _, none⟩) zb').trans z4; have f5 := (HBr4.out.cell (p := ⟨_, _, none⟩) zb').trans z5; have f6 := (HBr4.out.cell (p := ⟨_, _, none⟩) zb').trans z6; have f7 := (HBr4.out.cell (p := ⟨_, _, none⟩) zb').trans z7; have G2 := Lib.hid True.intro; clear hrd hl hn hb4)
        | (go_at_call 16; refine HRI.out.mono ?_; rintro e w3 ⟨rfl, hb3⟩; replace hb3 : Below wr.heap.size wr w3 := ⟨hb3.os, hb3.tape, hb3.output, hb3.size, hb3.block⟩; have HBr3 := Lib.hid hb3; have k0 := (hb3.cell zb').trans z0; have k1 := (hb3.cell (p := ⟨_, _, none⟩) zb').trans z1; have k2 := (hb3.cell (p := ⟨_, _, none⟩) zb').trans z2; have k3 := (hb3.cell (p := ⟨_, _, none⟩) zb').trans z3; have k4 := (hb3.cell (p := ⟨_, _, none⟩) zb').trans z4; have k5 := (hb3.cell (p := ⟨_, _, none⟩) zb').trans z5; have k6 := (hb3.cell (p := ⟨_, _, none⟩) zb').trans z6; have k7 := (hb3.cell (p := ⟨_, _, none⟩) zb').trans z7; have G1 := Lib.hid True.intro; clear hb3))
            have HB6 := Lib.hid (HBR.out.trans (HBr6.out.mono hzb))
            have hz6 : base ≤ w6.heap.size := Nat.le_trans hzb HBr6.out.size
            have HV := Lib.hid hv
            clear hv k0 k1 k2 k3 k4 k5 k6 k7 z0 z1 z2 z3 z4 z5 z6 z7 f0 f1 f2 f3 f4 f5 f6 f7 g0 g1 g2 g3 g4 g5 g6 g7 j0 j1 j2 j3 j4 j5 j6 j7
            cases v with
            | false =>
              go_wp2_with fail
              refine (known_any w6).mono ?_
              rintro e w7 ⟨rfl, hb7⟩
              have HB7 := Lib.hid (HEND.out w6 w7 HB6.out hb7 hz6)
              clear hb7
              go_wp2_with fail
              go_ret
              exact ⟨rfl, HB7.out⟩
            | true =>
              have HEQ := Lib.hid (show PairOK F (x, y) from ⟨HOK.out, HXX.out.1.trans ((HV.out.1 rfl).trans HXX.out.2.symm)⟩)
              go_wp2_with fail
              go_roundg (n - (k + 1))
              case measure => have := HKK.out; omega
              case rel => exact ⟨k + 1, by have := HKK.out; omega, by go_num, pok_next HMM.out HPOK.out HEQ.out, HB6.out⟩
        · have hge : ¬ (k : Int) < n := by omega
          have HPALL := Lib.hid (show ∀ p ∈ l, PairOK F p by have h := HPOK.out; rw [List.take_of_length_le (by rw [HLN.out.1]; omega)] at h; exact h)
          obtain ⟨w3, hw3⟩ : ∃ w3, w3 = wr := ⟨_, rfl⟩
          subst hw3
          obtain ⟨b3, hb3⟩ : ∃ b3, b3 = w3.heap.size := ⟨_, rfl⟩
          have HB33 := Lib.hid hb3
          have hb23 : base ≤ b3 := by omega
          have HL3 := Lib.hid (show Prs (· < b3) w3 a l from (HL2.out.below HBR.out fun b h => h).mono fun b h => Nat.lt_of_lt_of_le h hb23)
          go_wp2_with fail
          refine (joined_any HNN.out (base := b3) (c := c) w3 HB33.out HLN.out.1 HLN.out.2 HL3.out).mono ?_
          rintro e w4 ⟨s, mm, nx0, v, rfl, hb, hf, ht⟩
          have hno : v = true := by
            cases v with
            | true => rfl
            | false => exact absurd (hf rfl) (sub_no (W := W) HFEW.out (fun p hp => (HPALL.out p hp).1) (fun p hp => by rw [HF.out]; exact (HPALL.out p hp).2))
          subst hno
          obtain ⟨_, K, cnt, hj, hS⟩ := ht rfl
          have HJ := Lib.hid hj
          have HKB := Lib.hid (hj.kb HNN.out (by omega) HFEW.out.2)
          have HS4 := Lib.hid hS
          have HB4 := Lib.hid hb
          clear hf ht hj hS hb hb3
          have HENDT : Hid (∀ W W', Below b3 w3 W → Below W.heap.size W W' → b3 ≤ W.heap.size → Below w.heap.size w W') := Lib.hid fun W W' h1 h2 h3 => HEND.out W W' (HBR.out.trans (h1.mono hb23)) h2 (Nat.le_trans hb23 h3)
          go_wp2_with fail
          go_loopg [10] n (fun dd v10 wr => ∃ (k : Nat) (nx : Int), k + dd = n ∧ v10 = .int .i64 k ∧ StoreI b3 wr s mm nx K cnt ∧ Below b3 w3 wr)
          case atStart => exact ⟨0, _, by omega, rfl, HS4.out, HB4.out⟩
          case round =>
            obtain ⟨k, nx, hkd, rfl, hS, hb⟩ := hrel
            have HK3 := Lib.hid hkd
            have HSR := Lib.hid hS
            have HBR3 := Lib.hid hb
            have hzb3 : b3 ≤ wr.heap.size := by have := hb.size; have := HB33.out; omega
            have hkle : k ≤ n := by omega
            clear hkd hS hb
            by_cases hlt : k < n
            · have hlt' : (k : Int) < n := by omega
              have hkL : k < l.length := by rw [HLN.out.1]; exact hlt
              have hx := HL3.out.below HBR3.out (fun b h => h) k l[k] (List.getElem?_eq_getElem hkL)
              have HMM := Lib.hid (List.getElem?_eq_getElem hkL)
              generalize l[k] = p at hx HMM
              obtain ⟨x, y⟩ := p
              obtain ⟨ad, a2, c2, a3, c3, rfl, hza, z0, z1, z2, z3, z4, z5, z6, z7, nx1, lx, rx, ny1, ly, ry⟩ := hx
              have HOKP := Lib.hid (HPALL.out _ (List.mem_of_getElem? HMM.out)).1
              have HRS := Lib.hid (resolve_is HNN.out (cx := c2) wr HKB.out (by omega) HSR.out hzb3 (tyR_low rx (Below.refl _ _) hzb3 lx nx1) HOKP.out.1)
              have HRES := Lib.hid (fun h0 => res_sub HNN.out HJ.out HFEW.out (by rw [HWL.out]; exact h12) HWOK.out (fun p hp => by rw [HF.out]; exact (HPALL.out p hp).2) HOKP.out.1 (x := x) h0)
              have her := resE_or q K x
              obtain ⟨r9, hr9⟩ : ∃ r9, resP q K x = r9 := ⟨_, rfl⟩
              obtain ⟨e9, he9⟩ : ∃ e9, resE q K x = e9 := ⟨_, rfl⟩
              rw [hr9, he9] at HRS
              rw [hr9, he9, HF.out] at HRES
              rw [he9] at her
              have HER := Lib.hid her
              have HRX := Lib.hid rx
              clear hr9 he9 her rx ry
              go_wp2_with fail
              refine HRS.out.mono ?_
              rintro e w5 ⟨a9, c9, nx5, rfl, hrd, hl5, hn5, hbox5, hk5⟩
              have HRD := Lib.hid (And.intro hrd (And.intro hl5 hn5))
              have HS5 := Lib.hid (HSR.out.given hbox5 hk5)
              have HB5 := Lib.hid (HBR3.out.trans (Kept.below hk5 hzb3 fun b e => by rw [e]; exact HSR.out.bs))
              have hz5 : b3 ≤ w5.heap.size := Nat.le_trans hzb3 hk5.size
              clear hrd hl5 hn5 hbox5 hk5 z0 z1 z2 z3 z4 z5 z6 z7
              obtain ⟨w6, hw6⟩ : ∃ w6, w5.alloc (.cells #[.int .i64 r9.kd, .int .i64 r9.n, .string r9.nm, .slice a9 r9.args.len c9] TT) = w6 := ⟨_, rfl⟩
              have hb56 : Below w5.heap.size w5 w6 := by rw [← hw6]; exact (Below.refl _ w5).alloc (Nat.le_refl _) _
              have HX6 := Lib.hid (show Box w6 w5.heap.size TT #[.int .i64 r9.kd, .int .i64 r9.n, .string r9.nm, .slice a9 r9.args.len c9] by rw [← hw6]; exact Box.new _ _ _)
              have HS6 := Lib.hid (HS5.out.below hb56)
              have HB6 := Lib.hid (HB5.out.trans (hb56.mono hz5))
              have HRD6 := Lib.hid ((KeepT.of_below hb56).zn HRD.out.1)
              have zx := HX6.out.lt
              have hz6 : b3 ≤ w6.heap.size := Nat.le_trans hz5 hb56.size
              have HW6 := Lib.hid hw6
              have hx6 := HL3.out.below HB6.out (fun b h => h) k (x, y) HMM.out
              obtain ⟨ad', a2', c2', a3', c3', hae, _, z0, z1, z2, z3, _, _, _, _, nx1, lx, rx6, _, _, _⟩ := hx6
              obtain rfl : ad = ad' := Option.some.inj hae
              have zb' : (ad.add (k * 8)).block < w6.heap.size := by rw [add_block]; exact Nat.lt_of_lt_of_le hza hz6
              obtain ⟨p0, p1, p2, p3, _⟩ := HX6.out.cells4
              have HRX6 := Lib.hid rx6
              clear hb56 hw6 rx6
              go_upto_region 22 with fail
              rw [HW6.out]
              rcases HER.out with rfl | rfl
              · obtain ⟨hokr, hsub⟩ := HRES.out rfl
                obtain ⟨X, hX⟩ : ∃ X, sub1 F x = X := ⟨_, rfl⟩
                have HSR9 : Hid (∀ w', Below w6.heap.size w6 w' → Calls Try.prog 17 #[.agg #[.int .i64 r9.kd, .int .i64 r9.n, .string r9.nm, .slice a9 r9.args.len c9], .slice a5 m c5, .slice b m cw] w' (SubPost w6.heap.size X w')) := Lib.hid fun w' h => by
                  rw [← hX, ← hsub]
                  exact HSUB.out w6.heap.size w' r9 a9 c9 (by omega) h.size (HBR.out.trans ((HB6.out.trans (h.mono hz6)).mono hb23)) ((HRD6.out.mono (fun b q => q.2.lt)).below h fun b h => h) HRD.out.2.1 HRD.out.2.2 hokr
                have HSX : Hid (∀ w', Below w6.heap.size w6 w' → Calls Try.prog 17 #[.agg #[.int .i64 x.kd, .int .i64 x.n, .string x.nm, .slice a2' x.args.len c2'], .slice a5 m c5, .slice b m cw] w' (SubPost w6.heap.size X w')) := Lib.hid fun w' h => by
                  rw [← hX]
                  exact HSUB.out w6.heap.size w' x a2' c2' (by omega) h.size (HBR.out.trans ((HB6.out.trans (h.mono hz6)).mono hb23)) ((HRX6.out.mono (fun b q => Nat.lt_of_lt_of_le q hz6)).below h fun b h => h) lx nx1 HOKP.out.1
                clear hokr hsub hX
                go_region_held3 (fun w' => (w'.cell? ⟨w5.heap.size, 0, none⟩ = some (.int .i64 r9.kd) ∧ w'.cell? ⟨w5.heap.size, 1, none⟩ = some (.int .i64 r9.n) ∧ w'.cell? ⟨w5.heap.size, 2, none⟩ = some (.string r9.nm) ∧ w'.cell? ⟨w5.heap.size, 3, none⟩ = some (.slice a9 r9.args.len c9)) ∧ (w'.cell? (ad.add (k * 8)) = some (.int .i64 x.kd) ∧ w'.cell? ⟨(ad.add (k * 8)).block, (ad.add (k * 8)).off + 1, none⟩ = some (.int .i64 x.n) ∧ w'.cell? ⟨(ad.add (k * 8)).block, (ad.add (k * 8)).off + 2, none⟩ = some (.string x.nm) ∧ w'.cell? ⟨(ad.add (k * 8)).block, (ad.add (k * 8)).off + 3, none⟩ = some (.slice a2' x.args.len c2')))
    (first
      | exact ⟨⟨p0, p1, p2, p3⟩, ⟨z0, z1, z2, z3⟩⟩
      | exact ⟨⟨k0, k1, k2, k3⟩, ⟨k4, k5, k6, k7⟩⟩
      | exact ⟨⟨f0, f1, f2, f3⟩, ⟨f4, f5, f6, f7⟩⟩
      | exact ⟨⟨g0, g1, g2, g3⟩, ⟨g4, g5, g6, g7⟩⟩
      | go_keep)
    (first
      | (have h := G2; clear h; go_at_call 12; refine (rsame_any (Z := fun b => b < w8.heap.size) (Z' := fun b => b < w8.heap.size) X.args.nodes X X (Nat.le_refl _) a14 a15 c14 c15 w8 HX8.out HY8.out (fun b h => h) (fun b h => h) HXL.out).mono ?_; rintro e w10 ⟨v, rfl, hv, hb10⟩; obtain rfl : v = true := hv.2 rfl; have HBr10 := Lib.hid (HBr8.out.trans (hb10.mono HBr8.out.size)); have g0 := (HBr10.out.cell (p := ⟨w5.heap.size, 0, none⟩) zx).trans p0; have g1 := (HBr10.out.cell (p := ⟨w5.heap.size, 1, none⟩) zx).trans p1; have g2 := (HBr10.out.cell (p := ⟨w5.heap.size, 2, none⟩) zx).trans p2; have g3 := (HBr10.out.cell (p := ⟨w5.heap.size, 3, none⟩) zx).trans p3; have g4 := (HBr10.out.cell zb').trans z0; have g5 := (HBr10.out.cell (p := ⟨_, _, none⟩) zb').trans z1; have g6 := (HBr10.out.cell (p := ⟨_, _, none⟩) zb').trans z2; have g7 := (HBr10.out.cell (p := ⟨_, _, none⟩) zb').trans z3; clear hb10 hv)
      | (have h := G1; clear h; go_at_call 17; refine (HSX.out w7 HBr7.out).mono ?_; rintro e w8 ⟨a15, c15, rfl, hrd, hl, hn, hb8⟩; have HBr8 := Lib.hid (HBr7.out.trans (hb8.mono HBr7.out.size)); have HY8 := Lib.hid (hrd.mono (Z' := fun b => b < w8.heap.size) fun b q => q.elim (fun q => Nat.lt_of_lt_of_le q HBr8.out.size) fun q => q.2); have HX8 := Lib.hid (rdT_here HX7.out hb8); have f0 := (HBr8.out.cell (p := ⟨w5.heap.size, 0, none⟩) zx).trans p0; have f1 := (HBr8.out.cell (p := ⟨w5.heap.size, 1, none⟩) zx).trans p1; have f2 := (HBr8.out.cell (p := ⟨w5.heap.size, 2, none⟩) zx).trans p2; have f3 := (HBr8.out.cell (p := ⟨w5.heap.size, 3, none⟩) zx).trans p3; have f4 := (HBr8.out.cell zb').trans z0; have f5 := (HBr8.out.cell (p := ⟨_, _, none⟩) zb').trans z1; have f6 := (HBr8.out.cell (p := ⟨_, _, none⟩) zb').trans z2; have f7 := (HBr8.out.cell (p := ⟨_, _, none⟩) zb').trans z3; have G2 := Lib.hid True.intro; clear hrd hl hn hb8)
      | (go_at_call 17; refine (HSR9.out w6.drew (Below.refl _ w6).drew).mono ?_; rintro e w7 ⟨a14, c14, rfl, hrd, hl, hn, hb7⟩; replace hb7 : Below w6.heap.size w6 w7 := ⟨hb7.os, hb7.tape, hb7.output, hb7.size, hb7.block⟩; have HBr7 := Lib.hid hb7; have HX7 := Lib.hid (hrd.mono (Z' := fun b => b < w7.heap.size) fun b q => q.elim (fun q => Nat.lt_of_lt_of_le q HBr7.out.size) fun q => q.2); have HXL := Lib.hid hl; have k0 := (HBr7.out.cell (p := ⟨w5.heap.size, 0, none⟩) zx).trans p0; have k1 := (HBr7.out.cell (p := ⟨w5.heap.size, 1, none⟩) zx).trans p1; have k2 := (HBr7.out.cell (p := ⟨w5.heap.size, 2, none⟩) zx).trans p2; have k3 := (HBr7.out.cell (p := ⟨w5.heap.size, 3, none⟩) zx).trans p3; have k4 := (HBr7.out.cell zb').trans z0; have k5 := (HBr7.out.cell (p := ⟨_, _, none⟩) zb').trans z1; have k6 := (HBr7.out.cell (p := ⟨_, _, none⟩) zb').trans z2; have k7 := (HBr7.out.cell (p := ⟨_, _, none⟩) zb').trans z3; have G1 := Lib.hid True.intro; clear hrd hl hn hb7))
                have HS10 := Lib.hid (HS6.out.below HBr10.out)
                have HB10 := Lib.hid (HB6.out.trans (HBr10.out.mono hz6))
                clear k0 k1 k2 k3 k4 k5 k6 k7 f0 f1 f2 f3 f4 f5 f6 f7 g0 g1 g2 g3 g4 g5 g6 g7 p0 p1 p2 p3 z0 z1 z2 z3
                go_wp2_with fail
                go_roundg (n - (k + 1))
                case measure => have := HK3.out; omega
                case rel => exact ⟨k + 1, _, by have := HK3.out; omega, by go_num, HS10.out, HB10.out⟩
              · refine wp_region_held_drew (S := fun w' => True) (by kernel_rfl) trivial (fun hHeld => ?_)
                refine wpAnyH_take (i := 0) (oi := { dst := some 107, op := Op.move (Operand.tmp 12), type := 30, pos := "law.go:150", after := #[], guard := none }) (v := ?_) rfl (by kernel_rfl) (by kernel_rfl) (by kernel_rfl) (fun _ _ _ h => h) (Or.inl ⟨by rfl, ?_⟩) (by assumption) ?_
                rotate_left 1
                · intro w hSw; (try dsimp only at hSw); first | (go_simp; done) | (go_simp; with_reducible rfl)
                simp only [Act.put, List.setIfInBounds_toArray, List.set_cons_zero, List.set_cons_succ]
                refine wpAnyH_take (i := 1) (oi := { dst := some 108, op := Op.binOp BinOp.eql 30 (Operand.tmp 107) (Operand.const (Value.int IntKind.i64 0)) 30, type := 4, pos := "law.go:150", after := #[{ on := 0, ground := Ground.data }], guard := none }) (v := ?_) rfl (by kernel_rfl) (by kernel_rfl) (by kernel_rfl) (fun _ _ _ h => h) (Or.inl ⟨by rfl, ?_⟩) (by assumption) ?_
                rotate_left 1
                · intro w hSw; (try dsimp only at hSw); first | (go_simp; done) | (go_simp; with_reducible rfl)
                simp only [Act.put, List.setIfInBounds_toArray, List.set_cons_zero, List.set_cons_succ]
                refine wpAnyH_take (i := 2) (oi := { dst := some 109, op := Op.move (Operand.tmp 108), type := 4, pos := "law.go:150", after := #[{ on := 1, ground := Ground.data }], guard := none }) (v := ?_) rfl (by kernel_rfl) (by kernel_rfl) (by kernel_rfl) (fun _ _ _ h => h) (Or.inl ⟨by rfl, ?_⟩) (by assumption) ?_
                rotate_left 1
                · intro w hSw; (try dsimp only at hSw); first | (go_simp; done) | (go_simp; with_reducible rfl)
                simp only [Act.put, List.setIfInBounds_toArray, List.set_cons_zero, List.set_cons_succ]
                refine wpAnyH_take (i := 3) (oi := { dst := some 110, op := Op.load 29 (Operand.tmp 11), type := 29, pos := "law.go:150", after := #[{ on := 2, ground := Ground.guard }], guard := some (2, true) }) (v := undef) rfl (by kernel_rfl) (by kernel_rfl) (by kernel_rfl) (fun _ _ _ h => h) (Or.inr ⟨by rfl, rfl⟩) (by assumption) ?_
                simp only [Act.put, List.setIfInBounds_toArray, List.set_cons_zero, List.set_cons_succ]
                refine wpAnyH_take (i := 4) (oi := { dst := some 111, op := Op.move (Operand.tmp 5), type := 37, pos := "law.go:150", after := #[{ on := 2, ground := Ground.guard }], guard := some (2, true) }) (v := undef) rfl (by kernel_rfl) (by kernel_rfl) (by kernel_rfl) (fun _ _ _ h => h) (Or.inr ⟨by rfl, rfl⟩) (by assumption) ?_
                simp only [Act.put, List.setIfInBounds_toArray, List.set_cons_zero, List.set_cons_succ]
                refine wpAnyH_take (i := 5) (oi := { dst := some 112, op := Op.move (Operand.tmp 1), type := 27, pos := "law.go:150", after := #[{ on := 2, ground := Ground.guard }], guard := some (2, true) }) (v := undef) rfl (by kernel_rfl) (by kernel_rfl) (by kernel_rfl) (fun _ _ _ h => h) (Or.inr ⟨by rfl, rfl⟩) (by assumption) ?_
                simp only [Act.put, List.setIfInBounds_toArray, List.set_cons_zero, List.set_cons_succ]
                refine wpAnyH_take (i := 6) (oi := { dst := some 113, op := Op.call { callee := Callee.value (Operand.func 17), args := #[Operand.tmp 110, Operand.tmp 111, Operand.tmp 112], argTypes := #[29, 37, 27] }, type := 29, pos := "law.go:150", after := #[{ on := 3, ground := Ground.data }, { on := 4, ground := Ground.data }, { on := 5, ground := Ground.data }, { on := 2, ground := Ground.chain }, { on := 2, ground := Ground.guard }], guard := some (2, true) }) (v := undef) rfl (by kernel_rfl) (by kernel_rfl) (by kernel_rfl) (fun _ _ _ h => h) (Or.inr ⟨by rfl, rfl⟩) (by assumption) ?_
                simp only [Act.put, List.setIfInBounds_toArray, List.set_cons_zero, List.set_cons_succ]
                refine wpAnyH_take (i := 7) (oi := { dst := some 114, op := Op.move (Operand.tmp 0), type := 22, pos := "law.go:150", after := #[{ on := 2, ground := Ground.guard }], guard := some (2, true) }) (v := undef) rfl (by kernel_rfl) (by kernel_rfl) (by kernel_rfl) (fun _ _ _ h => h) (Or.inr ⟨by rfl, rfl⟩) (by assumption) ?_
                simp only [Act.put, List.setIfInBounds_toArray, List.set_cons_zero, List.set_cons_succ]
                refine wpAnyH_take (i := 8) (oi := { dst := some 115, op := Op.move (Operand.tmp 10), type := 3, pos := "law.go:150", after := #[{ on := 2, ground := Ground.guard }], guard := some (2, true) }) (v := undef) rfl (by kernel_rfl) (by kernel_rfl) (by kernel_rfl) (fun _ _ _ h => h) (Or.inr ⟨by rfl, rfl⟩) (by assumption) ?_
                simp only [Act.put, List.setIfInBounds_toArray, List.set_cons_zero, List.set_cons_succ]
                refine wpAnyH_take (i := 9) (oi := { dst := some 116, op := Op.indexAddr 22 (Operand.tmp 114) (Operand.tmp 115), type := 0, pos := "law.go:150", after := #[{ on := 7, ground := Ground.data }, { on := 8, ground := Ground.data }, { on := 2, ground := Ground.guard }], guard := some (2, true) }) (v := undef) rfl (by kernel_rfl) (by kernel_rfl) (by kernel_rfl) (fun _ _ _ h => h) (Or.inr ⟨by rfl, rfl⟩) (by assumption) ?_
                simp only [Act.put, List.setIfInBounds_toArray, List.set_cons_zero, List.set_cons_succ]
                refine wpAnyH_take (i := 10) (oi := { dst := some 117, op := Op.fieldAddr 34 (Operand.tmp 116) 0, type := 0, pos := "law.go:150", after := #[{ on := 9, ground := Ground.data }, { on := 2, ground := Ground.guard }], guard := some (2, true) }) (v := undef) rfl (by kernel_rfl) (by kernel_rfl) (by kernel_rfl) (fun _ _ _ h => h) (Or.inr ⟨by rfl, rfl⟩) (by assumption) ?_
                simp only [Act.put, List.setIfInBounds_toArray, List.set_cons_zero, List.set_cons_succ]
                refine wpAnyH_take (i := 11) (oi := { dst := some 118, op := Op.load 29 (Operand.tmp 117), type := 29, pos := "law.go:150", after := #[{ on := 10, ground := Ground.data }, { on := 2, ground := Ground.guard }], guard := some (2, true) }) (v := undef) rfl (by kernel_rfl) (by kernel_rfl) (by kernel_rfl) (fun _ _ _ h => h) (Or.inr ⟨by rfl, rfl⟩) (by assumption) ?_
                simp only [Act.put, List.setIfInBounds_toArray, List.set_cons_zero, List.set_cons_succ]
                refine wpAnyH_take (i := 12) (oi := { dst := some 119, op := Op.move (Operand.tmp 5), type := 37, pos := "law.go:150", after := #[{ on := 2, ground := Ground.guard }], guard := some (2, true) }) (v := undef) rfl (by kernel_rfl) (by kernel_rfl) (by kernel_rfl) (fun _ _ _ h => h) (Or.inr ⟨by rfl, rfl⟩) (by assumption) ?_
                simp only [Act.put, List.setIfInBounds_toArray, List.set_cons_zero, List.set_cons_succ]
                refine wpAnyH_take (i := 13) (oi := { dst := some 120, op := Op.move (Operand.tmp 1), type := 27, pos := "law.go:150", after := #[{ on := 2, ground := Ground.guard }], guard := some (2, true) }) (v := undef) rfl (by kernel_rfl) (by kernel_rfl) (by kernel_rfl) (fun _ _ _ h => h) (Or.inr ⟨by rfl, rfl⟩) (by assumption) ?_
                simp only [Act.put, List.setIfInBounds_toArray, List.set_cons_zero, List.set_cons_succ]
                refine wpAnyH_take (i := 14) (oi := { dst := some 121, op := Op.call { callee := Callee.value (Operand.func 17), args := #[Operand.tmp 118, Operand.tmp 119, Operand.tmp 120], argTypes := #[29, 37, 27] }, type := 29, pos := "law.go:150", after := #[{ on := 11, ground := Ground.data }, { on := 12, ground := Ground.data }, { on := 13, ground := Ground.data }, { on := 6, ground := Ground.chain }, { on := 2, ground := Ground.guard }], guard := some (2, true) }) (v := undef) rfl (by kernel_rfl) (by kernel_rfl) (by kernel_rfl) (fun _ _ _ h => h) (Or.inr ⟨by rfl, rfl⟩) (by assumption) ?_
                simp only [Act.put, List.setIfInBounds_toArray, List.set_cons_zero, List.set_cons_succ]
                refine wpAnyH_take (i := 15) (oi := { dst := some 122, op := Op.call { callee := Callee.value (Operand.func 12), args := #[Operand.tmp 113, Operand.tmp 121], argTypes := #[29, 29] }, type := 4, pos := "law.go:150", after := #[{ on := 6, ground := Ground.data }, { on := 14, ground := Ground.data }, { on := 14, ground := Ground.chain }, { on := 2, ground := Ground.guard }], guard := some (2, true) }) (v := undef) rfl (by kernel_rfl) (by kernel_rfl) (by kernel_rfl) (fun _ _ _ h => h) (Or.inr ⟨by rfl, rfl⟩) (by assumption) ?_
                simp only [Act.put, List.setIfInBounds_toArray, List.set_cons_zero, List.set_cons_succ]
                refine wpAnyH_take (i := 16) (oi := { dst := some 123, op := Op.unOp UnOp.not 4 (Operand.tmp 122), type := 4, pos := "law.go:150", after := #[{ on := 15, ground := Ground.data }, { on := 2, ground := Ground.guard }], guard := some (2, true) }) (v := undef) rfl (by kernel_rfl) (by kernel_rfl) (by kernel_rfl) (fun _ _ _ h => h) (Or.inr ⟨by rfl, rfl⟩) (by assumption) ?_
                simp only [Act.put, List.setIfInBounds_toArray, List.set_cons_zero, List.set_cons_succ]
                refine wpAnyH_take (i := 17) (oi := { dst := some 124, op := Op.pick (Operand.tmp 109) (Operand.tmp 123) (Operand.const (Value.bool false)), type := 4, pos := "law.go:150", after := #[{ on := 2, ground := Ground.data }, { on := 16, ground := Ground.data }], guard := none }) (v := ?_) rfl (by kernel_rfl) (by kernel_rfl) (by kernel_rfl) (fun _ _ _ h => h) (Or.inl ⟨by rfl, ?_⟩) (by assumption) ?_
                rotate_left 1
                · intro w hSw; (try dsimp only at hSw); first | (go_simp; done) | (go_simp; with_reducible rfl)
                simp only [Act.put, List.setIfInBounds_toArray, List.set_cons_zero, List.set_cons_succ]
                refine wpAnyH_done (by kernel_rfl) ?_ _
                have HS10 := Lib.hid (HS6.out.below (Below.refl _ w6).drew)
                have HB10 := Lib.hid (HB6.out.trans ((Below.refl _ w6).drew.mono hz6))
                clear p0 p1 p2 p3 z0 z1 z2 z3
                go_wp2_with fail
                go_roundg (n - (k + 1))
                case measure => have := HK3.out; omega
                case rel => exact ⟨k + 1, _, by have := HK3.out; omega, by go_num, HS10.out, HB10.out⟩
            · have hge : ¬ (k : Int) < n := by omega
              go_wp2_with fail
              refine (known_any wr).mono ?_
              rintro e w9 ⟨rfl, hb⟩
              have HB9 := Lib.hid (HENDT.out wr w9 HBR3.out hb hzb3)
              clear hb
              go_wp2_with fail
              go_ret
              exact ⟨rfl, HB9.out⟩
theorem law (a : Option Addr) (n c : Nat) (hn : n * 112 ≤ 140737488355328) (l : List Pr) (b : Option Addr) (m cw : Nat) (hm : m * 56 ≤ 140737488355328) (T : Tys) (w : World) (hl : l.length = n ∧ Prs (· < w.heap.size) w a l) (ht : T.len = m ∧ RdT (· < w.heap.size) w b T 0) :
    Calls Try.prog 4 #[.slice a n c, .slice b m cw] w fun e w' => e = .returned (.bool true) ∧ Below w.heap.size w w' :=
  walk 10000000000 1000000000 999999999 ⟨Nat.le_refl _, rfl, rfl⟩ a n c l b m cw T w hl.1 hn hl.2 ht.1 hm ht.2
end Go.Proofs.Ytgomafdhckfnbaa.UnifyGeneral
