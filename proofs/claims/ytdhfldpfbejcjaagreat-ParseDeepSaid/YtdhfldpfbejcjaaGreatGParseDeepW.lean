/-
  THE LAW ParseDeep: as many brackets as a source may have are gone into, and count for nothing.
-/
import Derived.Test.YtdhfldpfbejcjaaGreatGV
import Derived.Test.YtdhfldpfbejcjaaGreatGW
import Derived.Test.YtdhfldpfbejcjaaGreatGXe

namespace Go.Proofs.YtdhfldpfbejcjaaGreat.ParseDeep
open Go.RowKit Mm Tm Pm Pa
set_option linter.unusedVariables false
set_option linter.unusedSimpArgs false
theorem toB_app (a b : List UInt8) : toB a ++ toB b = toB (a ++ b) := by
  apply ByteArray.ext
  simp [toB, ByteArray.data_append]
theorem src_is (n : Nat) : toB (List.replicate n 40) ++ (⟨#[120]⟩ : ByteArray) ++ toB (List.replicate n 41) = toB (srcL n) := by
  rw [show (⟨#[120]⟩ : ByteArray) = toB [120] from rfl, toB_app, toB_app]
  congr 1
  unfold srcL
  apply List.ext_getElem?
  intro i
  rw [List.getElem?_map]
  by_cases h1 : i < n
  · rw [List.getElem?_append_left (by simp; omega), List.getElem?_append_left (by simpa using h1), List.getElem?_replicate, if_pos h1, List.getElem?_range (by omega)]
    unfold byteL
    simp [h1]
  · by_cases h2 : i = n
    · subst h2
      rw [List.getElem?_append_left (by simp), List.getElem?_append_right (by simp), List.getElem?_range (by omega)]
      unfold byteL
      simp
    · rw [List.getElem?_append_right (by simp; omega)]
      by_cases h3 : i < 2 * n + 1
      · rw [List.getElem?_replicate, if_pos (by simp; omega), List.getElem?_range h3]
        unfold byteL
        simp [h1, h2]
      · rw [List.getElem?_eq_none (by simp; omega), List.getElem?_eq_none (by simp; omega)]
        rfl
theorem srcOk_deep {n : Nat} (hn : n ≤ 1000) : SrcOk (toB (srcL n)) (tB :: restL n) where
  size := by show (srcL n).toArray.size ≤ _; rw [List.size_toArray, srcL_len]; omega
  lex := by show (Lx.lexed (srcL n)).err = 0; rw [lexed_deep hn]
  few := by show (Lx.lexed (srcL n)).toks.length ≤ _; rw [lexed_deep hn]; simp; omega
  laid := laidTk_deep hn
  len := by rw [List.length_cons, restL_len]; omega
  txt := by
    intro t ht
    rcases List.mem_cons.1 ht with rfl | ht
    · decide
    · unfold restL at ht
      rcases List.mem_append.1 ht with ht | ht
      · obtain ⟨k, _, rfl⟩ := List.mem_map.1 ht
        unfold tkL
        split
        · show 1 ≤ _; omega
        · split <;> (show 1 ≤ _; omega)
      · rw [List.mem_singleton] at ht
        subst ht
        show 1 ≤ _
        omega
theorem mB (n : Nat) : ((pp0 (tB :: restL n)).mark "{").2 = st n 0 (1, 1) := by
  unfold Pp.mark
  have h : isMark (pp0 (tB :: restL n)).next "{" = true := by
    show isMark tB "{" = true
    kernel_rfl
  dsimp only
  rw [if_pos h]
  rfl
def endL (n : Nat) : Pp := ⟨[], (1, ((2 * n : Nat) : Int) + 1), [], 0, (0, 0)⟩
theorem mE (n : Nat) (a : Int × Int) : ((st n (2 * n + 1) a).mark "}").2 = endL n := by
  unfold Pp.mark
  dsimp only
  rw [st_end, if_pos (mE4 n)]
  unfold st Pp.take
  dsimp only
  rw [rest_end]
  rfl
theorem read_deep (n : Nat) : Pa.expr (3 * n + 3) ((pp0 (tB :: restL n)).mark "{").2 = some (ltL n n, st n (2 * n + 1) (1, ((n + n : Nat) : Int) + 1)) := by
  rw [mB]
  have h := expr_deep (n := n) n (Nat.le_refl _) 0 (1, 1)
  rw [Nat.sub_self, show 0 + 3 * n + 3 = 3 * n + 3 by omega, show n + 1 + n = 2 * n + 1 by omega] at h
  exact h
theorem xL_cells {Z : Nat → Prop} {w : World} {n : Nat} {kd : Int} {nm : List UInt8} {m : Int} {a1 : Option Addr} {n1 c1 : Nat} {a2 : Option Addr} {n2 c2 : Nat} {a3 : Option Addr} {n3 c3 : Nat} {a4 : Option Addr} {n4 c4 : Nat} {ln col : Int} (h : ExI Z w (xL n) kd nm m a1 n1 c1 a2 n2 c2 a3 n3 c3 a4 n4 c4 ln col) : kd = 1 ∧ nm = [120] ∧ ln = 1 ∧ col = (n : Int) + 1 := by
  have e := h.at_
  injection e with e1 e2
  have h := h.ev
  unfold xL at h
  generalize hL : [Value.int .i64 kd, .string (toB nm), .int .i64 m, .slice a1 n1 c1, .slice a2 n2 c2, .slice a3 n3 c3, .slice a4 n4 c4, .int .i64 ln, .int .i64 col] = L at h
  cases h with
  | ex =>
    injection hL with q1 hL
    injection hL with q2 hL
    injection q1 with _ q1
    injection q2 with q2
    exact ⟨q1, toB_eq q2, e1.symm, e2.symm⟩
theorem toB_size (l : List UInt8) : (toB l).size = l.length := by show l.toArray.size = _; simp
set_option maxRecDepth 100000 in
set_option maxHeartbeats 8000000 in
theorem law (x : Int) (h1 : -9223372036854775808 ≤ x) (h2 : x ≤ 9223372036854775807) (w : World) : Calls Tryz.prog 6 #[.int .i64 x] w fun e w' => e = .returned (.bool true) ∧ Below w.heap.size w w' := by
  by_cases hx0 : x < 0
  · have HK := Lib.hid (known_any w)
    go_enter Tryz.func6, Tryz.ntmps6
    go_wp2_with fail
    refine HK.out.mono ?_
    rintro e w1 ⟨rfl, hb⟩
    have HB := Lib.hid hb
    clear hb
    go_wp2_with fail
    go_ret
    exact ⟨rfl, HB.out⟩
  · by_cases hx1 : 1000 < x
    · have HK := Lib.hid (known_any w)
      go_enter Tryz.func6, Tryz.ntmps6
      go_wp2_with fail
      refine HK.out.mono ?_
      rintro e w1 ⟨rfl, hb⟩
      have HB := Lib.hid hb
      clear hb
      go_wp2_with fail
      go_ret
      exact ⟨rfl, HB.out⟩
    · obtain ⟨n, rfl⟩ : ∃ n : Nat, x = (n : Int) := ⟨x.toNat, by omega⟩
      have hn : n ≤ 1000 := by omega
      have HEX := Lib.hid (exprC_ok (d := 3 * n + 3) (d2 := 3 * n + 4) (s := toB (srcL n)) (af := none) (cf := 0) (fixes := []) (p3 := endL n) w (RowZ.nil _ _ _ _) (Nat.zero_le _) (srcOk_deep hn) (read_deep n) (mE n _) rfl rfl (grow_deep (n := n) (f := ((endL n).err, (endL n).at_.1, (endL n).at_.2)) rfl n) rfl)
      have hxa : decide ((n : Int) < 0) = false := decide_eq_false hx0
      have hxb : decide ((1000 : Int) < n) = false := decide_eq_false hx1
      have hx2 : ¬ (1000 : Int) < n := hx1
      have hx3 : (n : Int) ≤ 1000 := by omega
      have hx4 : (0 : Int) ≤ n := by omega
      clear h1 h2
      go_enter Tryz.func6, Tryz.ntmps6
      go_wp2_with fail
      go_loopg [3, 4, 5] n (fun dd v3 v4 v5 wr => ∃ k : Nat, k + dd = n ∧ v3 = .string (toB (List.replicate k 40)) ∧ v4 = .string (toB (List.replicate k 41)) ∧ v5 = .int .i64 k ∧ wr = w)
      case atStart => exact ⟨0, by omega, rfl, rfl, rfl, rfl⟩
      case round =>
        obtain ⟨k, hk, rfl, rfl, rfl, rfl⟩ := hrel
        by_cases hlt : k < n
        · have hlt' : (k : Int) < n := by omega
          have HSa := Lib.hid (show toB (List.replicate k 40) ++ (⟨#[40]⟩ : ByteArray) = toB (List.replicate (k + 1) 40) by rw [show (⟨#[40]⟩ : ByteArray) = toB [40] from rfl, toB_app, List.replicate_succ'])
          have HSb := Lib.hid (show toB (List.replicate k 41) ++ (⟨#[41]⟩ : ByteArray) = toB (List.replicate (k + 1) 41) by rw [show (⟨#[41]⟩ : ByteArray) = toB [41] from rfl, toB_app, List.replicate_succ'])
          have HK := Lib.hid hk
          have hkn : k ≤ 1000 := by omega
          have hz1 : (toB (List.replicate k 40)).size ≤ 1000 := by rw [toB_size, List.length_replicate]; omega
          have hz2 : (toB (List.replicate k 41)).size ≤ 1000 := by rw [toB_size, List.length_replicate]; omega
          clear hk
          go_wp2_with fail
          go_roundg (n - (k + 1))
          case measure => have := HK.out; omega
          case rel => exact ⟨k + 1, by have := HK.out; omega, by rw [← HSa.out], by rw [← HSb.out], by go_num, rfl⟩
        · have hge : ¬ (k : Int) < n := by omega
          have hkn : k = n := by omega
          subst hkn
          obtain ⟨S, hS⟩ : ∃ S, toB (srcL k) = S := ⟨_, rfl⟩
          have hsrc := src_is k
          rw [hS] at hsrc
          have HEX2 := HEX.out
          rw [hS] at HEX2
          have HE3 := Lib.hid HEX2
          have HTK := Lib.hid (show ∀ W, Calls Tryz.prog 23 #[.string S] W (fun e w' => ∃ a c, e = .returned (.tuple #[.slice a (2 * k + 1) c, .agg #[.int .i64 0, .int .i64 0, .int .i64 0]]) ∧ Below W.heap.size W w') from fun W => by
            rw [← hS]
            refine (Lx.rtokens_any (toB (srcL k)) (srcOk_deep hn).size W).mono ?_
            rintro e w' ⟨v, he, ho, hb⟩
            have hl : Lx.lexed (toB (srcL k)).data.toList = _ := lexed_deep hn
            rw [hl] at he ho
            obtain ⟨a, c, rfl⟩ := own_slice ho
            have hlen : ((List.range (2 * k + 1)).map (tokL k)).length = 2 * k + 1 := by simp
            exact ⟨a, c, by rw [he]; dsimp only; rw [hlen], hb⟩)
          have hz1 : (toB (List.replicate k 40)).size ≤ 1000 := by rw [toB_size, List.length_replicate]; omega
          have hz2 : (toB (List.replicate k 41)).size ≤ 1000 := by rw [toB_size, List.length_replicate]; omega
          have hz3 : (toB (List.replicate k 40) ++ (⟨#[120]⟩ : ByteArray)).size ≤ 1001 := by rw [show (⟨#[120]⟩ : ByteArray) = toB [120] from rfl, toB_app, toB_size, List.length_append, List.length_replicate]; simp; omega
          clear HEX2 hk hS
          go_wp2_with fail
          refine HE3.out.mono ?_
          rintro e w1 ⟨kdq, nmq, nq, a1q, n1q, c1q, a2q, n2q, c2q, a3q, n3q, c3q, a4q, n4q, c4q, lnq, colq, rfl, hx, hb1⟩
          obtain ⟨rfl, rfl, rfl, rfl⟩ := xL_cells hx
          obtain ⟨W2, hW2⟩ : ∃ W2, (w1.alloc (.cells (exV 1 [120] nq a1q n1q c1q a2q n2q c2q a3q n3q c3q a4q n4q c4q 1 ((k : Int) + 1)) TEx)).alloc (.cells #[.int .i64 0, .int .i64 0, .int .i64 0] TFa) = W2 := ⟨_, rfl⟩
          have hb2 : Below w1.heap.size w1 W2 := by rw [← hW2]; exact ((Below.refl _ _).alloc (Nat.le_refl _) _).alloc (by simp) _
          have hE2 : Box W2 w1.heap.size TEx (exV 1 [120] nq a1q n1q c1q a2q n2q c2q a3q n3q c3q a4q n4q c4q 1 ((k : Int) + 1)) := by rw [← hW2]; exact (Box.new w1 _ _).alloc _
          have hF2 : Box W2 (w1.heap.size + 1) TFa #[.int .i64 0, .int .i64 0, .int .i64 0] := by rw [← hW2]; exact Box.at_ _ _ (by simp)
          have HW2 := Lib.hid hW2
          have HE2 := Lib.hid hE2
          have HF2 := Lib.hid hF2
          have HB2 := Lib.hid (hb1.trans (hb2.mono hb1.size))
          clear hx hb1 hb2 hE2 hF2 hW2
          go_wp2_with fail
          rw [HW2.out]
          refine (HTK.out W2).mono ?_
          rintro e w3 ⟨a, c, rfl, hb3⟩
          obtain ⟨W4, hW4⟩ : ∃ W4, w3.alloc (.cells #[.int .i64 0, .int .i64 0, .int .i64 0] TFa) = W4 := ⟨_, rfl⟩
          have hb4 : Below W2.heap.size W2 W4 := by rw [← hW4]; exact hb3.alloc hb3.size _
          have hE4 := HE2.out.below hb4 HE2.out.lt
          have hF4 := HF2.out.below hb4 HF2.out.lt
          obtain ⟨y0, y1, y2, y3, y4, y5, y6, y7, y8⟩ := cells9 hE4
          have ly := hE4.lt
          have z0 := hF4.cell 0
          have lz := hF4.lt
          have HB4 := Lib.hid (HB2.out.trans (hb4.mono HB2.out.size))
          have HKN := Lib.hid (known_any W4)
          have HW4 := Lib.hid hW4
          have qn : ((toB [120]).toList == [120]) = true := by rw [toB_toList]; rfl
          clear hb3 hb4 hE4 hF4 hW4
          go_upto_region 11 with fail
          rw [HW4.out]
          go_wp2_with fail
          refine HKN.out.mono ?_
          rintro e w5 ⟨rfl, hb5⟩
          have HB5 := Lib.hid (HB4.out.trans (hb5.mono HB4.out.size))
          clear hb5
          go_wp2_with fail
          go_ret
          exact ⟨rfl, HB5.out⟩
end Go.Proofs.YtdhfldpfbejcjaaGreat.ParseDeep
