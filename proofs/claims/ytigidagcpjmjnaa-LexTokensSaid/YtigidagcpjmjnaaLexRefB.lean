/-
  CONTRACTS of the document's own layer lex: blanks, and how long a token is.
-/
import Derived.Test.YtigidagcpjmjnaaLexRefA
namespace Go.Proofs.Ytigidagcpjmjnaa.Lx
open Go.RowKit Pl Ar Dg Pa
set_option linter.unusedVariables false
set_option linter.unusedSimpArgs false

def innerP (n : Int) : Prop := n = 2 ∨ n = 3 ∨ n = 4 ∨ n = 5
instance (n : Int) : Decidable (innerP n) := by unfold innerP; infer_instance
theorem cls_is {f : Nat} {n : Int} {q : Bool} {c : Nat} {w : World} (hq : decide (cls c = n) = q) (g : Calls Try.prog f #[.int .u8 c] w fun e w' => e = .returned (.bool (decide (cls c = n))) ∧ w = w') :
    Calls Try.prog f #[.int .u8 c] w fun e w' => e = .returned (.bool q) ∧ w = w' := by rw [← hq]; exact g
theorem inner_any (c : Nat) (h : c < 256) (w : World) : Calls Try.prog 38 #[.int .u8 c] w fun e w' => e = .returned (.bool (decide (innerP (cls c)))) ∧ w = w' := by
  obtain ⟨q, hq⟩ : ∃ q, decide (innerP (cls c)) = q := ⟨_, rfl⟩
  rw [hq]
  obtain ⟨q2, h2⟩ : ∃ q, decide (cls c = 2) = q := ⟨_, rfl⟩
  obtain ⟨q3, h3⟩ : ∃ q, decide (cls c = 3) = q := ⟨_, rfl⟩
  obtain ⟨q4, h4⟩ : ∃ q, decide (cls c = 4) = q := ⟨_, rfl⟩
  obtain ⟨q5, h5⟩ : ∃ q, ((c : Int) == 39) = q := ⟨_, rfl⟩
  have HQ := Lib.hid (show (q2 || q3 || q4 || q5) = q by
    rw [← hq, ← h2, ← h3, ← h4, ← h5]
    rw [Bool.eq_iff_iff]
    simp only [Bool.or_eq_true, decide_eq_true_iff, beq_iff_eq]
    unfold innerP
    have := cls5 (c := c)
    omega)
  have H2 := Lib.hid h2
  have H3 := Lib.hid h3
  have H4 := Lib.hid h4
  clear hq h2 h3 h4
  cases q2
  · cases q3
    · cases q4
      · go_enter Try.func38, Try.ntmps38
        go_wp2_with fail
        refine (cls_is H2.out (small_any c h _)).mono ?_
        rintro e w' ⟨rfl, rfl⟩
        go_wp2_with fail
        refine (cls_is H3.out (large_any c h _)).mono ?_
        rintro e w' ⟨rfl, rfl⟩
        go_wp2_with fail
        refine (cls_is H4.out (digit_any c h _)).mono ?_
        rintro e w' ⟨rfl, rfl⟩
        go_wp2
        go_ret
        exact isB (by have := HQ.out; simpa using this)
      · obtain rfl : true = q := by have := HQ.out; simpa using this
        go_enter Try.func38, Try.ntmps38
        go_wp2_with fail
        refine (cls_is H2.out (small_any c h _)).mono ?_
        rintro e w' ⟨rfl, rfl⟩
        go_wp2_with fail
        refine (cls_is H3.out (large_any c h _)).mono ?_
        rintro e w' ⟨rfl, rfl⟩
        go_wp2_with fail
        refine (cls_is H4.out (digit_any c h _)).mono ?_
        rintro e w' ⟨rfl, rfl⟩
        go_wp2
        go_ret
        exact isB rfl
    · obtain rfl : true = q := by have := HQ.out; simpa using this
      go_enter Try.func38, Try.ntmps38
      go_wp2_with fail
      refine (cls_is H2.out (small_any c h _)).mono ?_
      rintro e w' ⟨rfl, rfl⟩
      go_wp2_with fail
      refine (cls_is H3.out (large_any c h _)).mono ?_
      rintro e w' ⟨rfl, rfl⟩
      go_wp2
      go_ret
      exact isB rfl
  · obtain rfl : true = q := by have := HQ.out; simpa using this
    go_enter Try.func38, Try.ntmps38
    go_wp2_with fail
    refine (cls_is H2.out (small_any c h _)).mono ?_
    rintro e w' ⟨rfl, rfl⟩
    go_wp2
    go_ret
    exact isB rfl
/-- all the blanks that a text begins with; in a remark -/
def bl (rm : Bool) : List UInt8 → Nat
  | [] => 0
  | c :: r => if rm = true then (if c = 10 then 1 + bl false r else 1 + bl true r) else if c = 32 ∨ c = 10 then 1 + bl false r else if c = 45 ∧ r.head? = some 45 then 1 + bl true r else 0
theorem bl_le (rm : Bool) (l : List UInt8) : bl rm l ≤ l.length := by
  induction l generalizing rm with
  | nil => exact Nat.le_refl _
  | cons c r ih => unfold bl; have := ih true; have := ih false; (repeat' split) <;> simp <;> omega
theorem bl_space {c : UInt8} {r : List UInt8} (h : c = 32 ∨ c = 10) : bl false (c :: r) = 1 + bl false r := by
  conv => lhs; unfold bl
  rw [if_neg (by decide), if_pos h]
theorem byte_u8 {s : ByteArray} {k : Nat} {h : k < s.size} {n : Nat} (hn : n < 256) : s[k] = UInt8.ofNat n ↔ s[k].toNat = n := by
  constructor
  · intro e; rw [e, UInt8.toNat_ofNat']; exact Nat.mod_eq_of_lt hn
  · intro e; rw [← e]; simp
set_option maxHeartbeats 2000000 in
theorem blank_any (s : ByteArray) (hs : s.size ≤ 1000000000) (w : World) : Calls Try.prog 22 #[.string s] w fun e w' => e = .returned (.int .i64 (bl false s.data.toList : Nat)) ∧ w = w' := by
  obtain ⟨B, hB⟩ : ∃ B, bl false s.data.toList = B := ⟨_, rfl⟩
  rw [hB]
  have HB := Lib.hid hB
  clear hB
  go_enter Try.func22, Try.ntmps22
  go_wp2_with fail
  go_loop [3] (fun i => ∃ k : Nat, k ≤ s.size ∧ i = .int .i64 k ∧ B = k + bl false (s.data.toList.drop k)) (fun i => s.size - (intOf i).toNat)
  case atStart => exact ⟨0, by omega, rfl, by rw [List.drop_zero, HB.out]; omega⟩
  case round =>
    obtain ⟨k, hk, rfl, hy⟩ := hrel
    have HY := Lib.hid hy
    clear hy
    by_cases hlt : k < s.size
    · have hlt' : (k : Int) < s.size := by omega
      have HD := Lib.hid (drop_cons hlt)
      by_cases h32 : s[k].toNat = 32 ∨ s[k].toNat = 10
      · have HY2 := Lib.hid (show B = (k + 1) + bl false (s.data.toList.drop (k + 1)) by
          have : s[k] = 32 ∨ s[k] = 10 := h32.imp (byte_u8 (n := 32) (by decide)).2 (byte_u8 (n := 10) (by decide)).2
          rw [HY.out, HD.out, bl_space this]
          omega)
        rcases h32 with h | h
        · have d1 : ((s[k].toNat : Int) == 32) = true := beq_iff_eq.2 (by omega)
          clear h
          go_wp2
          go_round
          case rel => exact ⟨k + 1, by omega, by go_num, HY2.out⟩
          case measure => simp [intOf]; omega
        · have d1 : ((s[k].toNat : Int) == 32) = false := beq_eq_false_iff_ne.2 (by omega)
          have d2 : ((s[k].toNat : Int) == 10) = true := beq_iff_eq.2 (by omega)
          clear h
          go_wp2
          go_round
          case rel => exact ⟨k + 1, by omega, by go_num, HY2.out⟩
          case measure => simp [intOf]; omega
      · have d1 : ((s[k].toNat : Int) == 32) = false := beq_eq_false_iff_ne.2 (by omega)
        have d2 : ((s[k].toNat : Int) == 10) = false := beq_eq_false_iff_ne.2 (by omega)
        have hne : ¬ (s[k] = 32 ∨ s[k] = 10) := fun h => h32 (h.imp (byte_u8 (n := 32) (by decide)).1 (byte_u8 (n := 10) (by decide)).1)
        by_cases hrem : s[k].toNat = 45 ∧ ∃ h1 : k + 1 < s.size, s[k + 1].toNat = 45
        · obtain ⟨h45, h1, h452⟩ := hrem
          have d3 : ((s[k].toNat : Int) == 45) = true := beq_iff_eq.2 (by omega)
          have d4 : ((s[k + 1].toNat : Int) == 45) = true := beq_iff_eq.2 (by omega)
          have h1' : (k : Int) + 1 < s.size := by omega
          have HY2 := Lib.hid (show B = k + bl true (s.data.toList.drop k) by
            rw [HY.out, HD.out]
            have e1 := (byte_u8 (s := s) (h := hlt) (n := 45) (by decide)).2 h45
            have e2 := (byte_u8 (s := s) (h := h1) (n := 45) (by decide)).2 h452
            rw [drop_cons h1]
            have hne10 : ¬ s[k] = 10 := fun h => hne (.inr h)
            conv => lhs; unfold bl
            conv => rhs; unfold bl
            rw [if_neg (by decide), if_neg hne, if_pos ⟨e1, by rw [e2]; rfl⟩, if_pos rfl, if_neg hne10])
          have HN10 := Lib.hid (show ¬ s[k].toNat = 10 by omega)
          clear h45 h452 h32 hne
          go_wp2_with fail
          go_loop [3] (fun i => ∃ x : Nat, x ≤ s.size ∧ k ≤ x ∧ i = .int .i64 x ∧ B = x + bl true (s.data.toList.drop x)) (fun i => s.size - (intOf i).toNat)
          case atStart => exact ⟨k, by omega, by omega, rfl, HY2.out⟩
          case round =>
            obtain ⟨x, hx, hkx, rfl, hy⟩ := hrel
            have HZ := Lib.hid hy
            clear hy d1 d2 d3 d4
            by_cases hxl : x < s.size
            · have hxl' : (x : Int) < s.size := by omega
              have HDX := Lib.hid (drop_cons hxl)
              by_cases h10 : s[x].toNat = 10
              · have d5 : ((s[x].toNat : Int) != 10) = false := by simp; omega
                have hkx2 : k < x := by
                  apply Classical.byContradiction
                  intro h
                  obtain rfl : x = k := by omega
                  exact HN10.out h10
                have HZ2 := Lib.hid (show B = x + bl false (s.data.toList.drop x) by
                  rw [HZ.out, HDX.out]
                  have e1 : s[x] = (10 : UInt8) := (byte_u8 (s := s) (h := hxl) (n := 10) (by decide)).2 h10
                  conv => lhs; unfold bl
                  conv => rhs; unfold bl
                  rw [if_pos rfl, if_pos e1, if_neg (by decide), if_pos (.inr e1)])
                clear h10
                go_wp2
                go_round
                case rel => exact ⟨x, hx, rfl, HZ2.out⟩
                case measure => simp [intOf]; omega
              · have d5 : ((s[x].toNat : Int) != 10) = true := by simp; omega
                have HZ2 := Lib.hid (show B = (x + 1) + bl true (s.data.toList.drop (x + 1)) by
                  rw [HZ.out, HDX.out]
                  have e1 : ¬ s[x] = 10 := fun h => h10 ((byte_u8 (n := 10) (by decide)).1 h)
                  conv => lhs; unfold bl
                  rw [if_pos rfl, if_neg e1]
                  omega)
                clear h10
                go_wp2
                go_round
                case rel => exact ⟨x + 1, by omega, by omega, by go_num, HZ2.out⟩
                case measure => simp [intOf]; omega
            · have hxe : x = s.size := by omega
              subst hxe
              have HZ2 := Lib.hid (show B = s.size + bl false (s.data.toList.drop s.size) by
                rw [HZ.out, drop_end (by omega)]; rfl)
              go_wp2
              go_round
              case rel => exact ⟨s.size, by omega, rfl, HZ2.out⟩
              case measure => simp [intOf]; omega
        · have HF := Lib.hid (show B = k by
            rw [HY.out, HD.out]
            unfold bl
            rw [if_neg (by decide), if_neg hne, if_neg]
            · rfl
            · rintro ⟨e1, e2⟩
              refine hrem ⟨(byte_u8 (n := 45) (by decide)).1 e1, ?_⟩
              by_cases h1 : k + 1 < s.size
              · rw [drop_cons h1] at e2
                exact ⟨h1, (byte_u8 (n := 45) (by decide)).1 (by simpa using e2)⟩
              · rw [drop_end h1] at e2
                simp at e2)
          by_cases h45 : s[k].toNat = 45
          · have d3 : ((s[k].toNat : Int) == 45) = true := beq_iff_eq.2 (by omega)
            by_cases h1 : k + 1 < s.size
            · have h1' : (k : Int) + 1 < s.size := by omega
              have d4 : ((s[k + 1].toNat : Int) == 45) = false := beq_eq_false_iff_ne.2 (fun h => hrem ⟨h45, h1, by omega⟩)
              clear hrem h45 h32 hne
              go_wp2
              go_ret
              exact ⟨by rw [HF.out]; rfl, rfl⟩
            · have h1' : ¬ (k : Int) + 1 < s.size := by omega
              clear hrem h45 h32 hne
              go_wp2
              go_ret
              exact ⟨by rw [HF.out]; rfl, rfl⟩
          · have d3 : ((s[k].toNat : Int) == 45) = false := beq_eq_false_iff_ne.2 (by omega)
            clear hrem h45 h32 hne
            go_wp2
            go_ret
            exact ⟨by rw [HF.out]; rfl, rfl⟩
    · have hke : k = s.size := by omega
      subst hke
      have HF := Lib.hid (show B = s.size by rw [HY.out, drop_end (by omega)]; rfl)
      go_wp2
      go_ret
      exact ⟨by rw [HF.out]; rfl, rfl⟩
end Go.Proofs.Ytigidagcpjmjnaa.Lx
