/-
  The walk of the law changelinglaw08.DeclFinds: each constructor is found by its name, and at its place among its data type's.
-/
import Derived.Test.YtgmgnnmmapdikaaDcU
import Derived.Test.YtgmgnnmmapdikaaDcArgD
namespace Go.Proofs.Ytgmgnnmmapdikaa.DeclFinds
open Go.RowKit Mm Tm Mv Dc Go.Maps Go.ChangeMaps Go.MapKept Go.WideMaps
set_option linter.unusedVariables false
set_option linter.unusedSimpArgs false
theorem sizeC (W : World) : (sizeOf (Try.prog.elem 33)).run Try.prog W = .ok 5 W := by kernel_rfl
theorem slice_one {ad : Addr} {n c3 k : Nat} (hc : n ≤ c3) (hk : k < n) (W : World) : (Instr.slice 33 (.slice (some ad) n c3) (some (.int .i64 (k : Int))) (some (.int .i64 ((k : Int) + 1))) none).run Try.prog W = .ok (.slice (some (ad.add (k * 5))) 1 (c3 - k)) W := by
  have hck : ¬ c3 = k := by omega
  have e1 : ((k : Int) + 1).toNat = k + 1 := by omega
  rw [run_slice_lh (P := Try.prog) (w := W) 33 (some ad) n c3 (by kernel_rfl) .i64 .i64 (k : Int) ((k : Int) + 1) (by omega) (by omega) (by omega), sizeC]
  simp only [Result.andThen, sliced, Int.toNat_natCast, e1, if_neg hck, Option.map_some]
  rw [show k + 1 - k = 1 by omega]
set_option maxRecDepth 100000 in
set_option maxHeartbeats 8000000 in
theorem law (b : Option Addr) (n c : Nat) (hn : n ≤ 9223372036854775807) (l : List DataS) (w : World) (hr : RowD w w.heap.size b n l) :
    Calls Try.prog 3 #[.slice b n c] w fun e w' => e = .returned (.bool true) ∧ Below w.heap.size w w' := by
  obtain ⟨rfl, hrd, hsz⟩ := hr
  have HRD := Lib.hid hrd
  have HSZ := Lib.hid hsz
  clear hrd hsz
  have HF := Lib.hid (few_any (c := c) w HRD.out hn HSZ.out)
  go_enter Try.func3, Try.ntmps3
  go_wp2_with fail
  refine HF.out.mono ?_
  rintro e w7 ⟨t, rfl, rfl, hfew⟩
  have HFEW := Lib.hid hfew
  clear hfew HF
  cases t with
  | false =>
    go_wp2_with fail
    refine (known_any w7).mono ?_
    rintro e w9 ⟨rfl, hb9⟩
    have HB9 := Lib.hid hb9
    clear hb9
    go_wp2_with fail
    go_ret
    exact ⟨rfl, HB9.out⟩
  | true =>
    obtain ⟨hf1, hf2⟩ := HFEW.out rfl
    have HNW := Lib.hid (new_any (c0 := c) w7 HRD.out (by omega) (fun d hd => by have := hf2 d hd; omega))
    have HCB := Lib.hid (show ∀ i, (consOf (l.take i)).length ≤ 1000000000 from fun i => Nat.le_trans (consOf_len fun d hd => by have := hf2 d (List.mem_of_mem_take hd); omega) (by rw [List.length_take]; have : min i l.length ≤ l.length := Nat.min_le_right _ _; omega))
    have HC30 := Lib.hid hf2
    clear hf2
    go_wp2_with fail
    refine HNW.out.mono ?_
    rintro e w8 ⟨v, cc, ln, co, rfl, hb8, hor⟩
    have HB8 := Lib.hid hb8
    clear hb8 HNW
    rcases hor with ⟨rfl, hc8, _⟩ | ⟨rfl, rfl, rfl, tb, m1, m2, nn, rfl, ht⟩
    · have HBc := Lib.hid (HB8.out.alloc HB8.out.size (.cells #[.int .i64 cc, .int .i64 ln, .int .i64 co] TF))
      have q3 : (cc != 0) = true := by simpa using hc8
      have HX := Lib.hid (Box.new w8 #[.int .i64 cc, .int .i64 ln, .int .i64 co] TF)
      obtain ⟨x0, x1, x2, _⟩ := Box.cells3 HX.out
      clear hc8
      go_wp2_with fail
      refine (known_any _).mono ?_
      rintro e w9 ⟨rfl, hb9⟩
      have HB9 := Lib.hid (HBc.out.trans (hb9.mono HBc.out.size))
      clear hb9
      go_wp2_with fail
      go_ret
      exact ⟨rfl, HB9.out⟩
    · have HR8 := Lib.hid ht.reads
      have HTG := Lib.hid (show Tags (consOf l) by have := tags_of ht.dnd l.length (Nat.le_refl _); rwa [List.take_length] at this)
      have HOF := Lib.hid ht.of
      have HDS := Lib.hid ht.dsz
      obtain ⟨f, hf⟩ : ∃ f : Nat → Nat, ∀ k, f k = (consOf (l.take k)).length := ⟨_, fun _ => rfl⟩
      have HF0 := Lib.hid (show f 0 = 2 by rw [hf]; rfl)
      have HF1 := Lib.hid (show ∀ k (h : k < l.length), f (k + 1) = f k + l[k].cons.length from fun k h => by rw [hf, hf]; exact consOf_step h)
      have HFN := Lib.hid (show f l.length = (consOf l).length by rw [hf, List.take_length])
      have HFB := Lib.hid (show ∀ k, f k ≤ 1000000000 from fun k => by rw [hf]; exact HCB.out k)
      clear ht hf HCB
      generalize consOf l = cs at HR8 HTG HOF HFN
      have HCL := Lib.hid (show cs.length ≤ 1000000000 by rw [← HFN.out]; exact HFB.out _)
      have HBc := Lib.hid ((Below.refl w8.heap.size w8).alloc (Nat.le_refl _) (.cells #[.int .i64 0, .int .i64 0, .int .i64 0] TF))
      have HA1 := Lib.hid (all_any _ (HR8.out.below HBc.out) (by simp) HCL.out)
      go_wp2_with fail
      refine HA1.out.mono ?_
      rintro e w3 ⟨a3, c3, rfl, ho3, hb3⟩
      have HB3 := Lib.hid (HBc.out.trans (hb3.mono (by simp)))
      have HCAP := Lib.hid (show cs.length ≤ c3 from by obtain ⟨vs, h1, _⟩ := ho3; exact (own_cap h1).1)
      have HRC := Lib.hid (show RdC (· < w3.heap.size) w3 a3 cs from ho3.reads.frame (fun _ _ => rfl) (fun b hZ => by
        rcases hZ.2 with h | h
        · exact h.lt
        · exact h.lt))
      have HRD3 := Lib.hid ((HRD.out.below (HB8.out.trans (HB3.out.mono HB8.out.size)) (fun b h => h)))
      clear ho3 hb3
      go_wp2_with fail
      go_loopg [6, 7] l.length (fun d v6 v7 wr => ∃ k : Nat, k + d = l.length ∧ v6 = .int .i64 (f k : Nat) ∧ v7 = .int .i64 k ∧ w3 = wr)
      case atStart => exact ⟨0, by omega, by rw [HF0.out]; rfl, rfl, rfl⟩
      case round =>
        obtain ⟨k, hk, rfl, rfl, rfl⟩ := hrel
        have HK := Lib.hid hk
        have hkle : k ≤ l.length := by omega
        clear hk
        by_cases hlt : k < l.length
        · have hlt' : (k : Int) < l.length := by omega
          have hx := HRD3.out k l[k] (List.getElem?_eq_getElem hlt)
          have hc30 := (HC30.out _ (List.getElem_mem hlt)).1
          have HFK := Lib.hid (HF1.out k hlt)
          have hfb := HFB.out k
          generalize l[k] = x at hx hc30 HFK
          obtain ⟨ad, ap, cp, ac, cq, ln2, co2, rfl, hz, x0, x1, x2, x3, x4, _⟩ := hx
          go_wp2_with fail
          go_roundg (l.length - (k + 1))
          case measure => have := HK.out; omega
          case rel => exact ⟨k + 1, by have := HK.out; omega, by rw [HFK.out]; go_num, by go_num, rfl⟩
        · have hge : ¬ (k : Int) < l.length := by omega
          have hkn : k = l.length := by omega
          subst hkn
          have hfn := HFN.out
          go_wp2_with fail
          go_loopg [8] cs.length (fun d v wr => ∃ k : Nat, k + d = cs.length ∧ v = .int .i64 k ∧ Below w3.heap.size w3 wr)
          case atStart => exact ⟨0, by omega, rfl, Below.refl _ _⟩
          case round =>
            obtain ⟨k, hk, rfl, hb⟩ := hrel
            have HK2 := Lib.hid hk
            have HB := Lib.hid hb
            have hkle2 : k ≤ cs.length := by omega
            have hcl := HCL.out
            have hzB := hb.size
            clear hk hb
            by_cases hlt : k < cs.length
            · have hlt' : (k : Int) < cs.length := by omega
              have hcp := HCAP.out
              have hgx := List.getElem?_eq_getElem hlt
              have hx := (HRC.out k cs[k] hgx).frame (Z' := (· < w3.heap.size)) (fun _ _ => rfl) (fun _ h => h)
              generalize cs[k] = x at hx hgx
              obtain ⟨kk, htag, hkk, hgk⟩ := tag_get HTG.out hgx
              obtain ⟨d, hd, hdx⟩ := HOF.out x (List.mem_of_getElem? hgx)
              have HD := Lib.hid hd
              have HDX := Lib.hid hdx
              have HGK := Lib.hid hgk
              have HGX := Lib.hid hgx
              have HX := Lib.hid hx
              obtain ⟨ad, a2, c2, rfl, hz, x0, x1, x2, x3, x4, hs, hf, hrd⟩ := hx
              have HFL := Lib.hid hf
              have HS := Lib.hid hs
              have HTG2 := Lib.hid htag
              clear hrd hf hs hd hdx hgk hgx htag
              have qz : (ad.add (k * 5)).block < w3.heap.size := by rw [add_block]; exact hz
              have HXr := Lib.hid (HX.out.frame (w' := wr) (Z' := (· < w3.heap.size)) (fun ad hZ => HB.out.cell hZ) (fun _ h => h))
              have y0 := (HB.out.cell (p := ad.add (k * 5)) qz).trans x0
              have y1 := (HB.out.cell (p := ⟨(ad.add (k * 5)).block, (ad.add (k * 5)).off + 1, none⟩) qz).trans x1
              have HT3 := Lib.hid (HR8.out.below HB3.out)
              have HZ3 := Lib.hid HB3.out.size
              have HCN := Lib.hid (con_any wr (HT3.out.below (HB.out.mono HZ3.out)) (by have := HZ3.out; omega) (List.mem_of_getElem? HGX.out))
              clear x0 x1 x2 x3 x4
              go_wp2_with fail
              refine HCN.out.mono ?_
              rintro e w4 ⟨a4, c4, rfl, hr4, hb4⟩
              have HBox := Lib.hid (Box.new w4 #[.string x.name, .string x.data, .int .i64 x.tag, .int .i64 x.params, .slice a4 x.fields.length c4] TC)
              have HBa := Lib.hid ((Below.refl w4.heap.size w4).alloc (Nat.le_refl _) (.cells #[.string x.name, .string x.data, .int .i64 x.tag, .int .i64 x.params, .slice a4 x.fields.length c4] TC))
              have HB4 := Lib.hid (HB.out.trans (hb4.mono hzB))
              have HB4a := Lib.hid (HB4.out.trans (HBa.out.mono HB4.out.size))
              have HR4 := Lib.hid (hr4.below HBa.out (fun b h => h.2.lt))
              have z1 := (hb4.cell (p := ⟨(ad.add (k * 5)).block, (ad.add (k * 5)).off + 1, none⟩) (Nat.lt_of_lt_of_le qz hzB)).trans y1
              have HCO := Lib.hid (consof_any (d := d) (w4.alloc (.cells #[.string x.name, .string x.data, .int .i64 x.tag, .int .i64 x.params, .slice a4 x.fields.length c4] TC)) (HT3.out.below (HB4a.out.mono HZ3.out)) (by have := HZ3.out; have := HB4a.out.size; omega) HCL.out HD.out (HDS.out _ HD.out))
              rw [HDX.out] at HCO
              have za : (ad.add (k * 5)).block < w4.heap.size := Nat.lt_of_lt_of_le qz HB4.out.size
              clear hr4 hb4 HCN
              go_wp2_with fail
              refine HCO.out.mono ?_
              rintro e w5 ⟨a5, c5, rfl, ho5, hb5⟩
              have HB5 := Lib.hid hb5
              have HX5 := Lib.hid (HBox.out.below hb5 (by simp))
              have HBw5 := Lib.hid (HB4a.out.trans (hb5.mono HB4a.out.size))
              obtain ⟨bd, b2, d2, rfl, hzb, k0, k1, k2, k3, k4, _⟩ := ho5.reads kk x HGK.out
              have qb : (bd.add (kk * 5)).block < w5.heap.size := by
                rw [add_block]
                rcases hzb.2 with h | h
                · exact h.lt
                · exact h.lt
              have zc := Nat.lt_of_lt_of_le za (show w4.heap.size ≤ w5.heap.size by have := hb5.size; simp at this; omega)
              have zd : w4.heap.size < w5.heap.size := HX5.out.lt
              have HBZ := Lib.hid (show ∀ wz : World, Below w5.heap.size w5 wz → ∀ ad : Addr, ad.block < w3.heap.size → wz.cell? ad = wr.cell? ad from fun wz hbz ad hZ => by
                have q5 := HBw5.out.size
                rw [hbz.cell (p := ad) (Nat.lt_of_lt_of_le hZ q5), HBw5.out.cell (p := ad) hZ, HB.out.cell (p := ad) hZ])
              have HSM := Lib.hid (show ∀ (wz : World) (g : Nat) (c6 d6 : Nat), Below w5.heap.size w5 wz → Box wz g TC #[.string x.name, .string x.data, .int .i64 x.tag, .int .i64 x.params, .slice a4 x.fields.length c4] → Calls Try.prog 12 #[.slice (some ⟨g, 0, none⟩) 1 c6, .slice (some (ad.add (k * 5))) 1 d6] wz (TrueBelow wz) from fun wz g c6 d6 hbz hbx =>
                samec_any (l := [x]) wz (Box.oneC hbx HS.out HFL.out (((HR4.out.below hb5 (fun b h => by have := h.2.lt; simp; omega)).below hbz (fun b h => Nat.lt_of_lt_of_le h.2.lt (Nat.le_trans (by simp) hb5.size))).mono fun b h => Nat.lt_of_lt_of_le h.2.lt (Nat.le_trans (by simp) (Nat.le_trans hb5.size hbz.size))))
                  (CAt.one (CAt.frame (w := wr) (w' := wz) (Z := (· < w3.heap.size)) (Z' := (· < wz.heap.size)) HXr.out (fun ad hZ => HBZ.out wz hbz ad hZ) (fun b h => Nat.lt_of_lt_of_le h (Nat.le_trans HBw5.out.size hbz.size)))) (by simp))
              obtain ⟨p0, p1, p2, p3, p4, _⟩ := HX5.out.cells5
              have htg : x.tag = (kk : Int) := HTG2.out
              have hkk' : (kk : Int) < (ofD cs x.data).length := by omega
              have hkn1 : ¬ ((ofD cs x.data).length : Int) ≤ kk := by omega
              have hkn2 : ¬ (kk : Int) ≥ (ofD cs x.data).length := by omega
              have hkn3 : ¬ (ofD cs x.data).length ≤ kk := by omega
              clear ho5 hb5 HCO k1 k2 k3 k4 y0 y1 z1
              go_wp2_with fail
              have hck : ¬ c3 = k := by omega
              have hk1 : (k : Int) + 1 ≤ c3 := by omega
              have hk2 : (k : Int) ≤ c3 := by omega
              have hw1 : IntKind.i64.wrap ((k : Int) + 1) = (k : Int) + 1 := (IntWalk.i64_left _).trans (IntWalk.wrap64_in _ (by omega))
              have hsl := slice_one (ad := ad) (n := cs.length) (c3 := c3) (k := k) hcp hlt
              have HBz5 := Lib.hid ((((Below.refl w5.heap.size w5).alloc (Nat.le_refl _) (.cells #[.string x.name, .string x.data, .int .i64 (kk : Int), .int .i64 x.params, .slice a4 x.fields.length c4] TC))).drew)
              have HSZ2 := Lib.hid (HSM.out (w5.alloc (.cells #[.string x.name, .string x.data, .int .i64 (kk : Int), .int .i64 x.params, .slice a4 x.fields.length c4] TC)).drew w5.heap.size 1 (c3 - k) HBz5.out (by rw [htg]; exact Box.new w5 _ TC))
              go_region_held3 (fun w' => w'.cell? ⟨w4.heap.size, 0, none⟩ = some (.string x.name) ∧ w'.cell? ⟨w4.heap.size, 1, none⟩ = some (.string x.data) ∧ w'.cell? ⟨w4.heap.size, 2, none⟩ = some (.int .i64 kk) ∧ w'.cell? ⟨w4.heap.size, 3, none⟩ = some (.int .i64 x.params) ∧ w'.cell? ⟨w4.heap.size, 4, none⟩ = some (.slice a4 x.fields.length c4) ∧ w'.cell? (bd.add (kk * 5)) = some (.string x.name))
                (first
                  | exact ⟨p0, p1, p2, p3, p4, k0⟩
                  | exact ⟨g0, g1, g2, g3, g4, g5⟩
                  | go_keep)
                (first
                  | (go_at_call 12; refine HSZ2.out.mono ?_; rintro e w6 ⟨rfl, hb6⟩; replace hb6 : Below w5.heap.size w5 w6 := HBz5.out.trans (hb6.mono HBz5.out.size); have g0 := (hb6.cell (p := ⟨w4.heap.size, 0, none⟩) zd).trans p0; have g1 := (hb6.cell (p := ⟨w4.heap.size, 1, none⟩) zd).trans p1; have g2 := (hb6.cell (p := ⟨w4.heap.size, 2, none⟩) zd).trans p2; have g3 := (hb6.cell (p := ⟨w4.heap.size, 3, none⟩) zd).trans p3; have g4 := (hb6.cell (p := ⟨w4.heap.size, 4, none⟩) zd).trans p4; have g5 := (hb6.cell (p := bd.add (kk * 5)) qb).trans k0))
              have HB6 := Lib.hid (HBw5.out.trans (hb6.mono HBw5.out.size))
              clear hb6 g0 g1 g2 g3 g4 g5
              go_wp2_with fail
              go_roundg (cs.length - (k + 1))
              case measure => have := HK2.out; omega
              case rel => exact ⟨k + 1, by have := HK2.out; omega, by go_num, HB6.out⟩
            · have hge : ¬ (k : Int) < cs.length := by omega
              go_wp2_with fail
              refine (known_any _).mono ?_
              rintro e w9 ⟨rfl, hb9⟩
              have HB9 := Lib.hid ((HB8.out.trans (HB3.out.mono HB8.out.size)).trans ((HB.out.trans (hb9.mono hzB)).mono (HB8.out.trans (HB3.out.mono HB8.out.size)).size))
              clear hb9
              go_wp2_with fail
              go_ret
              exact ⟨rfl, HB9.out⟩
end Go.Proofs.Ytgmgnnmmapdikaa.DeclFinds
