/-
  The walk of the law changelinglaw08.DeclMore: declarations one more behind turn nothing of those that were there.
-/
import Derived.Test.YtgmgnnmmapdikaaDcV
import Derived.Test.YtgmgnnmmapdikaaDcArgD
namespace Go.Proofs.Ytgmgnnmmapdikaa.DeclMore
open Go.RowKit Mm Tm Mv Dc Go.Maps Go.ChangeMaps Go.MapKept Go.WideMaps
set_option linter.unusedVariables false
set_option linter.unusedSimpArgs false
theorem Tdat : (Try.prog.info? 38).map (fun i => (i.zero, i.size, i.bytes)) = some (some (.agg #[.string ⟨#[]⟩, .slice none 0 0, .slice none 0 0, .int .i64 0, .int .i64 0]), 5, 80) := by kernel_rfl
theorem sizeC (W : World) : (sizeOf (Try.prog.elem 33)).run Try.prog W = .ok 5 W := by kernel_rfl
theorem slice_front {a : Option Addr} {n c4 k : Nat} (hk : k ≤ c4) (W : World) : (Instr.slice 33 (.slice a n c4) none (some (.int .i64 (k : Int))) none).run Try.prog W = .ok (.slice a k c4) W := by
  rw [run_slice_h (P := Try.prog) (w := W) 33 a n c4 (by kernel_rfl) .i64 (k : Int) (by omega) (by omega), sizeC]
  simp only [Result.andThen, sliced, Int.toNat_natCast, Nat.sub_zero]
  cases a <;> simp [Addr.add]
set_option maxRecDepth 100000 in
set_option maxHeartbeats 8000000 in
theorem law (b : Option Addr) (n c : Nat) (hn : n ≤ 9223372036854775807) (l : List DataS) (z : DataS) (ap : Option Addr) (cp : Nat) (ac : Option Addr) (cq : Nat) (ln co : Int) (w : World) (hr : RowD w w.heap.size b n l)
    (hq : z.name.size ≤ 9223372036854775807 ∧ RdS (· < w.heap.size) w ap z.params ∧ RdCn (· < w.heap.size) w ac z.cons ∧ z.cons.length ≤ 9223372036854775807 ∧ z.params.length ≤ 9223372036854775807) :
    Calls Try.prog 4 #[.slice b n c, .agg #[.string z.name, .slice ap z.params.length cp, .slice ac z.cons.length cq, .int .i64 ln, .int .i64 co]] w fun e w' => e = .returned (.bool true) ∧ Below w.heap.size w w' := by
  obtain ⟨i0, hi0, hi1, hi2, hi3⟩ := info_parts Tdat
  obtain ⟨rfl, hrd, hsz⟩ := hr
  obtain ⟨hq1, hq2, hq3, hq4, hq5⟩ := hq
  have HRD := Lib.hid hrd
  have HSZ := Lib.hid hsz
  have HQ1 := Lib.hid hq1
  have HQ2 := Lib.hid hq2
  have HQ3 := Lib.hid hq3
  have HQ4 := Lib.hid (show ∀ d ∈ [z], d.cons.length ≤ 9223372036854775807 ∧ d.params.length ≤ 9223372036854775807 from fun d hd => by rw [show d = z by simpa using hd]; exact ⟨hq4, hq5⟩)
  clear hrd hsz hq1 hq2 hq3 hq4 hq5
  have HB0 := Lib.hid ((Below.refl w.heap.size w).alloc (Nat.le_refl _) (.cells #[.string z.name, .slice ap z.params.length cp, .slice ac z.cons.length cq, .int .i64 ln, .int .i64 co] TD))
  have HX0 := Lib.hid (Box.new w #[.string z.name, .slice ap z.params.length cp, .slice ac z.cons.length cq, .int .i64 ln, .int .i64 co] TD)
  have HF := Lib.hid (few_any (c := c) (w.alloc (.cells #[.string z.name, .slice ap z.params.length cp, .slice ac z.cons.length cq, .int .i64 ln, .int .i64 co] TD)) ((HRD.out.below HB0.out (fun b h => h)).mono6 HB0.out.size) hn HSZ.out)
  go_enter Try.func4, Try.ntmps4
  go_wp2_with fail
  refine HF.out.mono ?_
  rintro e w7 ⟨t, rfl, hw7, hfew⟩
  have HFEW := Lib.hid hfew
  have HX7 := Lib.hid (show Box w7 w.heap.size TD #[.string z.name, .slice ap z.params.length cp, .slice ac z.cons.length cq, .int .i64 ln, .int .i64 co] by rw [hw7]; exact HX0.out)
  have HB7 := Lib.hid (show Below w.heap.size w w7 by rw [hw7]; exact HB0.out)
  have hz7 : w7.heap.size = w.heap.size + 1 := by rw [hw7]; simp
  have HZ7 := Lib.hid hz7
  clear hfew HF hw7 hz7
  obtain ⟨x0, x1, x2, x3, x4, _⟩ := HX7.out.cells5
  cases t with
  | false =>
    go_wp2_with fail
    refine (known_any w7).mono ?_
    rintro e w9 ⟨rfl, hb9⟩
    have HB9 := Lib.hid (HB7.out.trans (hb9.mono HB7.out.size))
    clear hb9
    go_wp2_with fail
    go_ret
    exact ⟨rfl, HB9.out⟩
  | true =>
    obtain ⟨hf1, hf2⟩ := HFEW.out rfl
    have HC30 := Lib.hid hf2
    have HB7a := Lib.hid ((Below.refl w7.heap.size w7).alloc (Nat.le_refl _) (.cells #[.string z.name, .slice ap z.params.length cp, .slice ac z.cons.length cq, .int .i64 ln, .int .i64 co] TD))
    have HB8 := Lib.hid (HB7.out.trans (HB7a.out.mono HB7.out.size))
    have HG := Lib.hid (few_any (l := [z]) (c := 1) _ (Box.oneD (Box.new w7 #[.string z.name, .slice ap z.params.length cp, .slice ac z.cons.length cq, .int .i64 ln, .int .i64 co] TD) HQ1.out ((HQ2.out.below HB8.out (fun b h => h)).mono6 HB8.out.size) ((HQ3.out.below HB8.out (fun b h => h)).mono6 HB8.out.size)) (by simp) HQ4.out)
    clear hf2
    go_wp2_with fail
    refine HG.out.mono ?_
    rintro e w8 ⟨t, rfl, hw8, hfew⟩
    have HFW2 := Lib.hid hfew
    have HX8 := Lib.hid (show Box w8 w.heap.size TD #[.string z.name, .slice ap z.params.length cp, .slice ac z.cons.length cq, .int .i64 ln, .int .i64 co] by rw [hw8]; exact HX7.out.alloc _)
    have HBw8 := Lib.hid (show Below w.heap.size w w8 by rw [hw8]; exact HB8.out)
    clear hfew HG hw8 x0 x1 x2 x3 x4
    cases t with
    | false =>
      go_wp2_with fail
      refine (known_any w8).mono ?_
      rintro e w9 ⟨rfl, hb9⟩
      have HB9 := Lib.hid (HBw8.out.trans (hb9.mono HBw8.out.size))
      clear hb9
      go_wp2_with fail
      go_ret
      exact ⟨rfl, HB9.out⟩
    | true =>
      obtain ⟨_, hf3⟩ := HFW2.out rfl
      have HZ30 := Lib.hid (hf3 z (by simp))
      clear hf3
      have HNW := Lib.hid (new_any (c0 := c) w8 ((HRD.out.below HBw8.out (fun b h => h)).mono6 HBw8.out.size) (by omega) (fun d hd => by have := HC30.out d hd; omega))
      go_wp2_with fail
      refine HNW.out.mono ?_
      rintro e w9 ⟨v, cc, ln2, co2, rfl, hb9, hor⟩
      have HOR := Lib.hid hor
      have HB9 := Lib.hid (HBw8.out.trans (hb9.mono HBw8.out.size))
      have HX9 := Lib.hid ((HX8.out.below hb9 HX8.out.lt).alloc (.cells #[.int .i64 cc, .int .i64 ln2, .int .i64 co2] TF))
      have HX6 := Lib.hid (Box.new w9 #[.int .i64 cc, .int .i64 ln2, .int .i64 co2] TF)
      have HB9a := Lib.hid ((Below.refl w9.heap.size w9).alloc (Nat.le_refl _) (.cells #[.int .i64 cc, .int .i64 ln2, .int .i64 co2] TF))
      have HBw9 := Lib.hid (HB9.out.trans (HB9a.out.mono HB9.out.size))
      have HZ9 := Lib.hid (show (w9.alloc (.cells #[.int .i64 cc, .int .i64 ln2, .int .i64 co2] TF)).heap.size = w9.heap.size + 1 by simp)
      clear hor hb9 HNW
      go_wp2_with fail
      go_loopg [7, 8] l.length (fun d v7 v8 wr => ∃ k : Nat, k + d = l.length ∧ v8 = .int .i64 k ∧ OwnV (w9.heap.size + 1) w.heap.size wr v7 (l.take k) ∧ Below (w9.heap.size + 1) (w9.alloc (.cells #[.int .i64 cc, .int .i64 ln2, .int .i64 co2] TF)) wr)
      case atStart => exact ⟨0, by omega, rfl, OwnV.nil _ _ _, Below.refl _ _⟩
      case round =>
        obtain ⟨k, hk, rfl, ho, hb⟩ := hrel
        obtain ⟨vs, ho1, ho2⟩ := ho
        have hkle : k ≤ l.length := by omega
        have HTL := Lib.hid (show (l.take k).length = k by rw [List.length_take]; omega)
        rw [HTL.out] at ho1
        obtain ⟨a7, c7, rfl⟩ := own_slice ho1
        have HK := Lib.hid hk
        have HO1 := Lib.hid ho1
        have HO2 := Lib.hid ho2
        have HB := Lib.hid hb
        have HZB := Lib.hid (show w9.heap.size + 1 ≤ wr.heap.size by have := hb.size; have := HZ9.out; omega)
        have HBW := Lib.hid (HBw9.out.trans (hb.mono (by have := HB9.out.size; omega)))
        clear hk ho1 ho2 hb
        by_cases hlt : k < l.length
        · have hlt' : (k : Int) < l.length := by omega
          have hx := (HRD.out.below HBW.out (fun b h => h)) k l[k] (List.getElem?_eq_getElem hlt)
          have HT := Lib.hid (show l.take (k + 1) = l.take k ++ [l[k]] by rw [List.take_add_one, List.getElem?_eq_getElem hlt]; rfl)
          generalize l[k] = x at hx HT
          obtain ⟨ad, bp, dp, bc, dc, ln3, co3, rfl, hz, x0, x1, x2, x3, x4, hs, hps, hcs⟩ := hx
          have HS := Lib.hid hs
          have HPS := Lib.hid hps
          have HCS := Lib.hid hcs
          clear hs hps hcs
          have HO3 := HO1.out
          have hz9 := HZB.out
          have hk30 : k ≤ 30 := by omega
          go_wp2_with (at_builtin; refine wpList_append_own _ rfl _ _ 22 rfl (w9.heap.size + 1) TD i0 _ 5 80 Try.underlying22 hi0 hi1 hi2 hi3 rfl (by decide) _ _ _ rfl (HO3.alloc _) ⟨wr.heap.size, 0, none⟩ 1 1 [.string x.name, .slice bp x.params.length dp, .slice bc x.cons.length dc, .int .i64 ln3, .int .i64 co3] rfl rfl (news_new wr #[.string x.name, .slice bp x.params.length dp, .slice bc x.cons.length dc, .int .i64 ln3, .int .i64 co3] TD) (fun u hu => by simp only [List.mem_cons, List.not_mem_nil, or_false] at hu; rcases hu with rfl | rfl | rfl | rfl | rfl <;> rfl) (by unfold maxLen; omega) (by omega) (by simp; omega) ?_)
          intro v7 w6 hown hgrow _
          have HB6 := Lib.hid ((HB.out.alloc (by have := HZ9.out; omega) (.cells #[.string x.name, .slice bp x.params.length dp, .slice bc x.cons.length dc, .int .i64 ln3, .int .i64 co3] TD)).grown hgrow (by simp; have := HZ9.out; omega) (fun q hq => (HO1.out.lt q hq).1))
          have HO6 := Lib.hid (show OwnV (w9.heap.size + 1) w.heap.size w6 v7 (l.take (k + 1)) from ⟨_, by rw [HT.out, List.length_append, HTL.out]; exact hown, by
            rw [HT.out]
            have hb' : Below w.heap.size wr w6 := ((((Below.refl wr.heap.size wr).alloc (Nat.le_refl _) _).mono HBW.out.size).grown hgrow (by simp; exact Nat.le_succ_of_le HBW.out.size) (fun q hq => Nat.le_trans (Nat.le_succ_of_le HB9.out.size) (HO1.out.lt q hq).1))
            exact (RowV.snoc HS.out HPS.out HCS.out HO2.out).below hb' (fun b h => h)⟩)
          clear hown hgrow
          go_wp2_with fail
          go_roundg (l.length - (k + 1))
          case measure => have := HK.out; omega
          case rel => exact ⟨k + 1, by have := HK.out; omega, by go_num, HO6.out, HB6.out⟩
        · have hge : ¬ (k : Int) < l.length := by omega
          have hkn : k = l.length := by omega
          subst hkn
          have HXr := Lib.hid (HX9.out.below HB.out (by have := HX9.out.lt; have := HZ9.out; omega))
          obtain ⟨x0, x1, x2, x3, x4, _⟩ := HXr.out.cells5
          have hz9 := HZB.out
          have HO3 := HO1.out
          go_wp2_with (at_builtin; refine wpList_append_own _ rfl _ _ 22 rfl (w9.heap.size + 1) TD i0 _ 5 80 Try.underlying22 hi0 hi1 hi2 hi3 rfl (by decide) _ _ _ rfl (HO3.alloc _) ⟨wr.heap.size, 0, none⟩ 1 1 [.string z.name, .slice ap z.params.length cp, .slice ac z.cons.length cq, .int .i64 ln, .int .i64 co] rfl rfl (news_new wr #[.string z.name, .slice ap z.params.length cp, .slice ac z.cons.length cq, .int .i64 ln, .int .i64 co] TD) (fun u hu => by simp only [List.mem_cons, List.not_mem_nil, or_false] at hu; rcases hu with rfl | rfl | rfl | rfl | rfl <;> rfl) (by unfold maxLen; omega) (by omega) (by simp; omega) ?_)
          intro v7 w6 hown hgrow _
          have HBt6 := Lib.hid ((HB.out.alloc (by have := HZ9.out; omega) (.cells #[.string z.name, .slice ap z.params.length cp, .slice ac z.cons.length cq, .int .i64 ln, .int .i64 co] TD)).grown hgrow (by simp; have := HZ9.out; omega) (fun q hq => (HO1.out.lt q hq).1))
          have HB6 := Lib.hid (HBw9.out.trans (HBt6.out.mono (Nat.le_succ_of_le HB9.out.size)))
          have HO6 := Lib.hid (show OwnV (w9.heap.size + 1) w.heap.size w6 v7 (l ++ [z]) from ⟨_, by rw [List.length_append]; exact hown, by
            have hb' : Below w.heap.size wr w6 := ((((Below.refl wr.heap.size wr).alloc (Nat.le_refl _) _).mono HBW.out.size).grown hgrow (by simp; exact Nat.le_succ_of_le HBW.out.size) (fun q hq => Nat.le_trans (Nat.le_succ_of_le HB9.out.size) (HO1.out.lt q hq).1))
            have h2 := HO2.out
            rw [List.take_length] at h2
            exact (RowV.snoc HQ1.out (HQ2.out.below HBW.out (fun b h => h)) (HQ3.out.below HBW.out (fun b h => h)) h2).below hb' (fun b h => h)⟩)
          have HXb := Lib.hid (HX9.out.below HBt6.out (by have := HX9.out.lt; have := HZ9.out; omega))
          have HXf := Lib.hid (HX6.out.below HBt6.out (Nat.lt_succ_self _))
          obtain ⟨a6, c6, rfl⟩ := own_slice hown
          have HNW2 := Lib.hid (new_any (l := l ++ [z]) (c0 := c6) w6 (HO6.out.reads HB6.out.size) (by simp; omega) (fun d hd => by
            rcases List.mem_append.1 hd with h | h
            · have := HC30.out d h; omega
            · have e : d = z := by simpa using h
              rw [e]; have := HZ30.out; omega))
          rw [List.length_append, List.length_singleton] at HNW2
          clear hown hgrow x0 x1 x2 x3 x4 HXr
          go_wp2_with fail
          refine HNW2.out.mono ?_
          rintro e w5 ⟨v2, cc2, ln3, co3, rfl, hb5, hor2⟩
          have HXb5 := Lib.hid ((HXb.out.below hb5 HXb.out.lt).alloc (.cells #[.int .i64 cc2, .int .i64 ln3, .int .i64 co3] TF))
          have HXf5 := Lib.hid ((HXf.out.below hb5 HXf.out.lt).alloc (.cells #[.int .i64 cc2, .int .i64 ln3, .int .i64 co3] TF))
          have HXg5 := Lib.hid (Box.new w5 #[.int .i64 cc2, .int .i64 ln3, .int .i64 co3] TF)
          have HB5a := Lib.hid ((Below.refl w5.heap.size w5).alloc (Nat.le_refl _) (.cells #[.int .i64 cc2, .int .i64 ln3, .int .i64 co3] TF))
          have HB5 := Lib.hid (HB6.out.trans (hb5.mono HB6.out.size))
          have HBK := Lib.hid (HB5.out.trans (HB5a.out.mono HB5.out.size))
          have HBt5 := Lib.hid (((HB9a.out.trans (HBt6.out.mono (Nat.le_succ _))).trans (hb5.mono (Nat.le_trans (Nat.le_of_lt HXf.out.lt) (Nat.le_refl _)))).trans (HB5a.out.mono (Nat.le_trans (Nat.le_of_lt HXf.out.lt) hb5.size)))
          clear hb5
          obtain ⟨f0, f1, f2, _⟩ := Box.cells3 HXf5.out
          obtain ⟨g0, g1, g2, _⟩ := Box.cells3 HXg5.out
          rcases HOR.out with ⟨rfl, hc8, _⟩ | ⟨rfl, rfl, rfl, tb, m1, m2, nn, rfl, ht⟩
          · have qa : (cc == 0) = false := by simpa using hc8
            rcases hor2 with ⟨rfl, hc9, _⟩ | ⟨rfl, rfl, rfl, tb2, m12, m22, nn2, rfl, ht2⟩
            · have qb : (cc2 == 0) = false := by simpa using hc9
              go_wp2_with fail
              refine (known_any _).mono ?_
              rintro e wl ⟨rfl, hbl⟩
              have HBL := Lib.hid (HBK.out.trans (hbl.mono HBK.out.size))
              clear hbl
              go_wp2_with fail
              go_ret
              exact ⟨rfl, HBL.out⟩
            · clear ht2
              go_wp2_with fail
              refine (known_any _).mono ?_
              rintro e wl ⟨rfl, hbl⟩
              have HBL := Lib.hid (HBK.out.trans (hbl.mono HBK.out.size))
              clear hbl
              go_wp2_with fail
              go_ret
              exact ⟨rfl, HBL.out⟩
          · rcases hor2 with ⟨rfl, hc9, _⟩ | ⟨rfl, rfl, rfl, tb2, m12, m22, nn2, rfl, ht2⟩
            · have qb : (cc2 == 0) = false := by simpa using hc9
              clear ht
              go_wp2_with fail
              refine (known_any _).mono ?_
              rintro e wl ⟨rfl, hbl⟩
              have HBL := Lib.hid (HBK.out.trans (hbl.mono HBK.out.size))
              clear hbl
              go_wp2_with fail
              go_ret
              exact ⟨rfl, HBL.out⟩
            · have HR1 := Lib.hid (ht.reads.below HBt5.out)
              have HR2 := Lib.hid (ht2.reads.below HB5a.out)
              have HCL1 := Lib.hid (show (consOf l).length ≤ 100000 from Nat.le_trans (consOf_len fun d hd => by have := HC30.out d hd; omega) (by omega))
              have hcd := consD_len z
              have hz30 := HZ30.out.1
              have hcs2 := consOf_snoc l z
              rw [hcs2] at HR2
              clear ht ht2 hcs2
              generalize consOf l = cs at HR1 HR2 HCL1
              have hcl := HCL1.out
              have HLN := Lib.hid (show (cs ++ consD z).length = cs.length + z.cons.length by rw [List.length_append, hcd])
              have HA1 := Lib.hid (all_any _ HR1.out (by have := HBt5.out.size; omega) (by omega))
              go_wp2_with fail
              refine HA1.out.mono ?_
              rintro e w3 ⟨a3, c3, rfl, ho3, hb3⟩
              have HRC3 := Lib.hid (show RdC (· < w3.heap.size) w3 a3 cs from ho3.reads.frame (fun _ _ => rfl) (fun b hZ => by
                rcases hZ.2 with h | h
                · exact h.lt
                · exact h.lt))
              have HB3 := Lib.hid (HB5a.out.trans (hb3.mono HB5a.out.size))
              have HX3 := Lib.hid (HXb5.out.below hb3 HXb5.out.lt)
              have HA2 := Lib.hid (all_any w3 (HR2.out.below (hb3.mono HB5a.out.size)) HB3.out.size (by rw [HLN.out]; omega))
              have HK3 := Lib.hid (HBK.out.trans (hb3.mono HBK.out.size))
              clear ho3 hb3 HA1
              go_wp2_with fail
              refine HA2.out.mono ?_
              rintro e w4 ⟨a4, c4, he, ho4, hb4⟩
              rw [HLN.out] at he
              subst he
              have HRC4 := Lib.hid (show RdC (· < w4.heap.size) w4 a4 cs from RdC.prefix (m := consD z) (ho4.reads.frame (fun _ _ => rfl) (fun b hZ => by
                rcases hZ.2 with h | h
                · exact h.lt
                · exact h.lt)))
              have HRC34 := Lib.hid (show RdC (· < w4.heap.size) w4 a3 cs from (HRC3.out.below hb4 (fun b h => h)).frame (fun _ _ => rfl) (fun b h => Nat.lt_of_lt_of_le h hb4.size))
              have HCAP := Lib.hid (show cs.length ≤ c4 from by
                obtain ⟨vs, h1, _⟩ := ho4
                have := (own_cap h1).1
                rw [HLN.out] at this
                omega)
              have HX4 := Lib.hid (HX3.out.below hb4 HX3.out.lt)
              have HK4 := Lib.hid (HK3.out.trans (hb4.mono HK3.out.size))
              obtain ⟨y0, y1, y2, y3, y4, _⟩ := HX4.out.cells5
              have hw1 : IntKind.i64.wrap ((cs.length : Int) + (z.cons.length : Int)) = (cs.length : Int) + (z.cons.length : Int) := (IntWalk.i64_left _).trans (IntWalk.wrap64_in _ (by omega))
              have hsl := slice_front (a := a4) (n := cs.length + z.cons.length) HCAP.out
              have HSM := Lib.hid (samec_any (a := a4) (b := a3) (c := c4) (d := c3) w4 HRC4.out HRC34.out (by omega))
              clear ho4 hb4 HA2
              go_wp2_with fail
              refine HSM.out.mono ?_
              rintro e wm ⟨rfl, hbm⟩
              have HBK := Lib.hid (HK4.out.trans (hbm.mono HK4.out.size))
              clear hbm
              go_wp2_with fail
              refine (known_any _).mono ?_
              rintro e wl ⟨rfl, hbl⟩
              have HBL := Lib.hid (HBK.out.trans (hbl.mono HBK.out.size))
              clear hbl
              go_wp2_with fail
              go_ret
              exact ⟨rfl, HBL.out⟩
end Go.Proofs.Ytgmgnnmmapdikaa.DeclMore
