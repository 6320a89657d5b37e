/-
  The walk of 'changelinglaw05.FixResolves'.
-/
import Derived.Test.YtlhppkaehoppnaaFixRefB
namespace Go.Proofs.Ytlhppkaehoppnaa.Fx
open Go.RowKit Fm Mm Nm
set_option linter.unusedVariables false

open Classical in
set_option maxRecDepth 100000 in
set_option maxHeartbeats 4000000 in
theorem rresolve_any (v : Option Addr) (n cap : Nat) (r : Row) (hn : n ≤ 9223372036854775807) (w : World) (hr : Reads w w.heap.size v n r) :
    Calls Try.prog 10 #[.slice v n cap] w (ResPost r n w) := by
  by_cases hlong : 1024 < n
  · have d0 : decide ((1024 : Int) < n) = true := decide_eq_true (by omega)
    have HR := Lib.hid (show Res r.A r.L n (fun _ => 0) (fun _ => 0) 0 2 from ⟨.inl ⟨rfl, rfl, hlong⟩⟩)
    clear hr
    go_enter Try.func10, Try.ntmps10
    go_wp2
    go_ret3
    exact ⟨_, _, _, 0, 2, rfl, HR.out, (fun h => absurd h (by decide)), (fun _ => rfl), Below.refl _ _⟩
  · have hn4 : n ≤ 1024 := by omega
    have d0 : decide ((1024 : Int) < n) = false := decide_eq_false (by omega)
    have HRD := Lib.hid hr
    clear hr
    go_enter Try.func10, Try.ntmps10
    go_wp2_with fail
    go_loopg [5] n (fun j i wr => ∃ k : Nat, j + k = n ∧ i = .int .i64 k ∧ (∀ x, x < k → Fine r.A r.L x) ∧ Below w.heap.size w wr)
    case atStart => exact ⟨0, rfl, rfl, (fun x h => absurd h (by omega)), Below.refl _ _⟩
    case round =>
      obtain ⟨k, hk, rfl, hf, hbw⟩ := hrel
      have HBW := Lib.hid hbw
      have HK := Lib.hid hk
      have HF := Lib.hid hf
      have hle : k ≤ n := by omega
      clear hbw hk hf
      by_cases hlt : k < n
      · have hlt' : (k : Int) < n := by omega
        obtain ⟨ad, rfl, had, c0, c1, c2, c3, c4⟩ := (HRD.out.below HBW.out (Nat.le_refl _)) k hlt
        have hz := HBW.out.size
        by_cases hfk : 0 ≤ r.A k ∧ r.A k ≤ 2 ∧ 0 ≤ r.L k ∧ r.L k ≤ 9
        · have HFK := Lib.hid hfk
          clear hfk
          go_wp2_with fail
          refine (right_any (fineB_yes HFK.out) _ _ _ _).mono ?_
          rintro e w2 ⟨rfl, hb2⟩
          have HB2 := Lib.hid (HBW.out.trans (hb2.mono hz))
          clear hb2 c0 c1 c2 c3 c4
          go_wp2
          go_roundg (n - (k + 1))
          case measure => have := HK.out; omega
          case rel => exact ⟨k + 1, by have := HK.out; omega, by go_num, (fun x hx => by
            by_cases e : x = k
            · rw [e]; exact HFK.out
            · exact HF.out x (by omega)), HB2.out⟩
        · have HFK := Lib.hid hfk
          clear hfk
          have HR := Lib.hid (show Res r.A r.L n (fun _ => 0) (fun _ => 0) k 1 from ⟨.inr (.inl ⟨rfl, hn4, hlt, HFK.out, HF.out⟩)⟩)
          go_wp2_with fail
          refine (right_any (fineB_no HFK.out) _ _ _ _).mono ?_
          rintro e w2 ⟨rfl, hb2⟩
          have HB2 := Lib.hid (HBW.out.trans (hb2.mono hz))
          clear hb2 c0 c1 c2 c3 c4
          go_wp2
          go_ret3
          exact ⟨_, _, _, k, 1, rfl, HR.out, (fun h => absurd h (by decide)), (fun _ => rfl), HB2.out⟩
      · have hke : k = n := by omega
        subst hke
        have HFA := Lib.hid HF.out
        obtain ⟨wo, rfl⟩ : ∃ wo : World, wo = wr := ⟨_, rfl⟩
        clear HF HK
        go_wp2_with fail
        go_loopg [6] k (fun j i wr => ∃ q : Nat, j + q = k ∧ i = .int .i64 q ∧ (∀ x, x < q → ¬ Clash r.A r.L x) ∧ Below w.heap.size w wr)
        case atStart => exact ⟨0, by omega, rfl, (fun x h => absurd h (by omega)), HBW.out⟩
        case round =>
          obtain ⟨q, hq, rfl, hc, hbq⟩ := hrel
          have HBQ := Lib.hid hbq
          have HQ := Lib.hid hq
          have HC := Lib.hid hc
          have hqk : q ≤ k := by omega
          have zq := hbq.size
          clear hbq hq hc
          by_cases hlt2 : q < k
          · have hlt3 : (q : Int) < k := by omega
            by_cases hcl : Clash r.A r.L q
            · have HCL := Lib.hid hcl
              have HR := Lib.hid (show Res r.A r.L k (fun _ => 0) (fun _ => 0) q 50 from ⟨.inr (.inr (.inl ⟨rfl, hn4, hlt2, HFA.out, hcl, HC.out⟩))⟩)
              clear hcl
              go_wp2_with fail
              refine (clashes_any (rb := true) v k cap hn4 r q hlt2 HFA.out _ ((HRD.out.below HBQ.out (Nat.le_refl _)).mono zq) (by simp [HCL.out])).mono ?_
              rintro e w2 ⟨rfl, hb2⟩
              have HB2 := Lib.hid (HBQ.out.trans (hb2.mono zq))
              clear hb2
              go_wp2
              go_ret3
              exact ⟨_, _, _, q, 50, rfl, HR.out, (fun h => absurd h (by decide)), (fun _ => rfl), HB2.out⟩
            · have HCL := Lib.hid hcl
              clear hcl
              go_wp2_with fail
              refine (clashes_any (rb := false) v k cap hn4 r q hlt2 HFA.out _ ((HRD.out.below HBQ.out (Nat.le_refl _)).mono zq) (by simp [HCL.out])).mono ?_
              rintro e w2 ⟨rfl, hb2⟩
              have HB2 := Lib.hid (HBQ.out.trans (hb2.mono zq))
              clear hb2
              go_wp2
              go_roundg (k - (q + 1))
              case measure => have := HQ.out; omega
              case rel => exact ⟨q + 1, by have := HQ.out; omega, by go_num, (fun x hx => by
                by_cases e : x = q
                · rw [e]; exact HCL.out
                · exact HC.out x (by omega)), HB2.out⟩
          · have hqe : q = k := by omega
            subst hqe
            have HG := Lib.hid (show Fm.Good r.A r.L q from ⟨HFA.out, HC.out⟩)
            obtain ⟨i0, hi, hz0, hz1, hz2⟩ := info_parts Tspan
            clear HC
            go_wp2_with (first | (at_make; refine wpList_make_full _ rfl _ _ 23 rfl w.heap.size 39 i0 _ 2 Try.underlying23 hi hz0 hz1 _ _ _ _ q rfl rfl rfl rfl ?b2 ?b3 ?b4 ?_))
            case b2 => rw [hz2]; omega
            case b3 => unfold maxLen; omega
            case b4 => exact zq
            intro w2 hown hgrow
            rw [spans_made] at hown
            have HS := Lib.hid hown
            have HB2 := Lib.hid (HBQ.out.grown hgrow zq (fun k h => by cases h))
            have z2 := HB2.out.size
            clear hown hgrow
            go_wp2_with fail
            refine (spans_any v q cap hn4 r HG.out w.heap.size wr.heap.size q q 0 q _ _ w2 (by omega) (by omega) (Nat.le_refl _) (cl_all _ _ _) (HRD.out.below HB2.out (Nat.le_refl _)) z2 HS.out).mono ?_
            rintro e w3 ⟨rfl, G, U, hog, hin, _, hb3⟩
            have HOG := Lib.hid hog
            have HIN := Lib.hid hin
            have HB3 := Lib.hid (HB2.out.trans hb3)
            clear hog hin hb3
            go_wp2
            go_ret3
            exact ⟨_, G, U, 0, 0, rfl, ⟨.inr (.inr (.inr ⟨rfl, rfl, hn4, HG.out, fun k hk => HIN.out k (by omega) hk⟩))⟩, (fun _ => HOG.out), (fun h => absurd rfl h), HB3.out⟩
set_option maxHeartbeats 2000000 in
theorem resolves_law (b : Option Addr) (n c : Nat) (hn : n ≤ 9223372036854775807) (r : Row) (w : World) (hr : Reads w w.heap.size b n r) :
    Calls Try.prog 3 #[.slice b n c] w fun e w' => e = .returned (.bool true) ∧ Below w.heap.size w w' := by
  have HR := Lib.hid hr
  clear hr
  go_enter Try.func3, Try.ntmps3
  go_wp2_with fail
  refine (resolve_any b n c r hn _ HR.out).mono ?_
  rintro x w1 ⟨v, F, T, i, e, rfl, hd, ho, hz, hb⟩
  have HB1 := Lib.hid hb
  have HD := Lib.hid hd
  have HO := Lib.hid ho
  have HZ := Lib.hid hz
  have z1 := hb.size
  clear hd ho hz hb
  go_wp2_with fail
  refine (rresolve_any b n c r hn _ ((HR.out.below HB1.out (Nat.le_refl _)).mono z1)).mono ?_
  rintro x w2 ⟨v2, G, U, i2, e2, rfl, hd2, ho2, hz2, hb2⟩
  obtain ⟨rfl, rfl, hs⟩ := res_same HD.out hd2
  have HB2 := Lib.hid (HB1.out.trans (hb2.mono z1))
  have z2 := HB2.out.size
  have hsh : ∃ m F' T', m ≤ 1000000000 ∧ ShowsS w2 v m F' T' ∧ ShowsS w2 v2 m F' T' := by
    by_cases he : e = 0
    · have hn4 : n ≤ 1024 := by
        rcases HD.out.out with ⟨h, _⟩ | ⟨h, _⟩ | ⟨h, _⟩ | ⟨_, _, h, _⟩ <;> omega
      exact ⟨n, F, T, by omega, (shows_of (HO.out he)).below hb2, (shows_of (ho2 he)).ext fun k hk => ⟨(hs he k hk).1.symm, (hs he k hk).2.symm⟩⟩
    · rw [HZ.out he, hz2 he]
      exact ⟨0, F, T, by omega, ⟨_, _, rfl, fun i hi => absurd hi (by omega)⟩, ⟨_, _, rfl, fun i hi => absurd hi (by omega)⟩⟩
  obtain ⟨m, F', T', hm, hs1, hs2⟩ := hsh
  have HS1 := Lib.hid hs1
  have HS2 := Lib.hid hs2
  clear hd2 ho2 hz2 hb2 hs hs1 hs2
  go_wp2_with fail
  refine (same_yes hm _ HS1.out HS2.out).mono ?_
  rintro x w3 ⟨rfl, hb3⟩
  have HB3 := Lib.hid (HB2.out.trans (hb3.mono z2))
  have z3 := HB3.out.size
  clear hb3
  go_wp2_with fail
  refine (known_any _).mono ?_
  rintro x w4 ⟨rfl, hb4⟩
  have HB4 := Lib.hid (HB3.out.trans (hb4.mono z3))
  clear hb4
  go_wp2
  go_returns
  exact ⟨rfl, HB4.out⟩
end Go.Proofs.Ytlhppkaehoppnaa.Fx
namespace Go.Proofs.Ytlhppkaehoppnaa.FixResolves
open Go.RowKit Fx
theorem law (b : Option Addr) (n c : Nat) (hn : n ≤ 9223372036854775807) (r : Row) (w : World) (hr : Reads w w.heap.size b n r) :
    Calls Try.prog 3 #[.slice b n c] w fun e w' => e = .returned (.bool true) ∧ Below w.heap.size w w' := resolves_law b n c hn r w hr
end Go.Proofs.Ytlhppkaehoppnaa.FixResolves
