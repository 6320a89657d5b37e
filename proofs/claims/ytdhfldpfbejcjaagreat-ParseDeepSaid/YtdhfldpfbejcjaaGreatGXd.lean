/-
  CONTRACTS of the document's own layer lex: classes of bytes, blanks, lengths.
-/
import Derived.Test.YtdhfldpfbejcjaaGreatGXb
import Derived.Test.YtdhfldpfbejcjaaGreatGXc

namespace Go.Proofs.YtdhfldpfbejcjaaGreat.Lx
open Go.RowKit Pl Ar Dg Pa
set_option linter.unusedVariables false
set_option linter.unusedSimpArgs false

theorem isB {b q : Bool} {w : World} (h : b = q) : (Ending.returned (.bool b) = .returned (.bool q)) ∧ w = w := ⟨by rw [h], rfl⟩
theorem cls2 {c : Nat} : cls c = 2 ↔ (97 ≤ c ∧ c ≤ 122) ∨ c = 95 := by unfold cls; (repeat' split) <;> omega
theorem cls3 {c : Nat} : cls c = 3 ↔ (65 ≤ c ∧ c ≤ 90) := by unfold cls; (repeat' split) <;> omega
theorem cls4 {c : Nat} : cls c = 4 ↔ (48 ≤ c ∧ c ≤ 57) := by unfold cls; (repeat' split) <;> omega
theorem cls5 {c : Nat} : cls c = 5 ↔ c = 39 := by unfold cls; (repeat' split) <;> omega
theorem cls6 {c : Nat} : cls c = 6 ↔ c = 40 ∨ c = 41 ∨ c = 123 ∨ c = 125 ∨ c = 59 ∨ c = 92 := by unfold cls; (repeat' split) <;> omega
theorem cls7 {c : Nat} : cls c = 7 ↔ c = 33 ∨ c = 35 ∨ c = 36 ∨ c = 37 ∨ c = 38 ∨ c = 42 ∨ c = 43 ∨ c = 46 ∨ c = 47 ∨ c = 58 ∨ c = 60 ∨ c = 61 ∨ c = 62 ∨ c = 63 ∨ c = 64 ∨ c = 94 ∨ c = 124 ∨ c = 126 ∨ c = 45 := by
  unfold cls; (repeat' split) <;> omega
theorem small_any (c : Nat) (h : c < 256) (w : World) : Calls Tryz.prog 87 #[.int .u8 c] w fun e w' => e = .returned (.bool (decide (cls c = 2))) ∧ w = w' := by
  obtain ⟨q, hq⟩ : ∃ q, decide (cls c = 2) = q := ⟨_, rfl⟩
  rw [hq]
  rw [show decide (cls c = 2) = decide ((97 ≤ c ∧ c ≤ 122) ∨ c = 95) from decide_eq_decide.2 cls2] at hq
  by_cases h1 : 97 ≤ c
  · have d1 : decide ((97 : Int) ≤ c) = true := decide_eq_true (by omega)
    by_cases h2 : c ≤ 122
    · have d2 : decide ((c : Int) ≤ 122) = true := decide_eq_true (by omega)
      obtain rfl : true = q := by rw [← hq]; exact (decide_eq_true (by omega)).symm
      clear hq h1 h2
      go_enter Tryz.func87, Tryz.ntmps87
      go_wp2
      go_ret
      exact isB rfl
    · have d2 : decide ((c : Int) ≤ 122) = false := decide_eq_false (by omega)
      have d3 : ((c : Int) == 95) = false := beq_eq_false_iff_ne.2 (by omega)
      obtain rfl : false = q := by rw [← hq]; exact (decide_eq_false (by omega)).symm
      clear hq h1 h2
      go_enter Tryz.func87, Tryz.ntmps87
      go_wp2
      go_ret
      exact isB rfl
  · have d1 : decide ((97 : Int) ≤ c) = false := decide_eq_false (by omega)
    by_cases h3 : c = 95
    · have d3 : ((c : Int) == 95) = true := beq_iff_eq.2 (by omega)
      obtain rfl : true = q := by rw [← hq]; exact (decide_eq_true (by omega)).symm
      clear hq h1 h3
      go_enter Tryz.func87, Tryz.ntmps87
      go_wp2
      go_ret
      exact isB rfl
    · have d3 : ((c : Int) == 95) = false := beq_eq_false_iff_ne.2 (by omega)
      obtain rfl : false = q := by rw [← hq]; exact (decide_eq_false (by omega)).symm
      clear hq h1 h3
      go_enter Tryz.func87, Tryz.ntmps87
      go_wp2
      go_ret
      exact isB rfl
theorem large_any (c : Nat) (h : c < 256) (w : World) : Calls Tryz.prog 88 #[.int .u8 c] w fun e w' => e = .returned (.bool (decide (cls c = 3))) ∧ w = w' := by
  obtain ⟨q, hq⟩ : ∃ q, decide (cls c = 3) = q := ⟨_, rfl⟩
  rw [hq]
  rw [show decide (cls c = 3) = decide (65 ≤ c ∧ c ≤ 90) from decide_eq_decide.2 cls3] at hq
  by_cases h1 : 65 ≤ c
  · have d1 : decide ((65 : Int) ≤ c) = true := decide_eq_true (by omega)
    obtain ⟨q2, hq2⟩ : ∃ q2, decide ((c : Int) ≤ 90) = q2 := ⟨_, rfl⟩
    have HQ := Lib.hid (show q2 = q by rw [← hq, ← hq2]; exact decide_eq_decide.2 (by omega))
    clear hq h1
    go_enter Tryz.func88, Tryz.ntmps88
    go_wp2
    go_ret
    exact isB HQ.out
  · have d1 : decide ((65 : Int) ≤ c) = false := decide_eq_false (by omega)
    obtain rfl : false = q := by rw [← hq]; exact (decide_eq_false (by omega)).symm
    clear hq h1
    go_enter Tryz.func88, Tryz.ntmps88
    go_wp2
    go_ret
    exact isB rfl
theorem digit_any (c : Nat) (h : c < 256) (w : World) : Calls Tryz.prog 90 #[.int .u8 c] w fun e w' => e = .returned (.bool (decide (cls c = 4))) ∧ w = w' := by
  obtain ⟨q, hq⟩ : ∃ q, decide (cls c = 4) = q := ⟨_, rfl⟩
  rw [hq]
  rw [show decide (cls c = 4) = decide (48 ≤ c ∧ c ≤ 57) from decide_eq_decide.2 cls4] at hq
  by_cases h1 : 48 ≤ c
  · have d1 : decide ((48 : Int) ≤ c) = true := decide_eq_true (by omega)
    obtain ⟨q2, hq2⟩ : ∃ q2, decide ((c : Int) ≤ 57) = q2 := ⟨_, rfl⟩
    have HQ := Lib.hid (show q2 = q by rw [← hq, ← hq2]; exact decide_eq_decide.2 (by omega))
    clear hq h1
    go_enter Tryz.func90, Tryz.ntmps90
    go_wp2
    go_ret
    exact isB HQ.out
  · have d1 : decide ((48 : Int) ≤ c) = false := decide_eq_false (by omega)
    obtain rfl : false = q := by rw [← hq]; exact (decide_eq_false (by omega)).symm
    clear hq h1
    go_enter Tryz.func90, Tryz.ntmps90
    go_wp2
    go_ret
    exact isB rfl
theorem in_any {q : Bool} (c : Nat) (h : c < 256) (s : ByteArray) (hs : s.size ≤ 1000000000) (hq : q = true ↔ ∃ x, x ∈ s.data.toList ∧ x.toNat = c) (w : World) :
    Calls Tryz.prog 86 #[.int .u8 c, .string s] w fun e w' => e = .returned (.bool q) ∧ w = w' := by
  have HQ := Lib.hid hq
  clear hq
  go_enter Tryz.func86, Tryz.ntmps86
  go_wp2_with fail
  go_loop [5] (fun i => ∃ k : Nat, k ≤ s.size ∧ i = .int .i64 k ∧ ∀ x, x ∈ s.data.toList.take k → ¬ x.toNat = c) (fun i => s.size - (intOf i).toNat)
  case atStart => exact ⟨0, by omega, rfl, fun x hx => by simp at hx⟩
  case round =>
    obtain ⟨k, hk, rfl, hy⟩ := hrel
    have HY := Lib.hid hy
    clear hy
    by_cases hlt : k < s.size
    · have hlt' : (k : Int) < s.size := by omega
      have hts : s.data.toList.take (k + 1) = s.data.toList.take k ++ [s[k]] := by
        rw [List.take_succ_eq_append_getElem (by rw [← Lib.size_eq]; exact hlt)]; rfl
      have HTS := Lib.hid hts
      clear hts
      by_cases he : s[k].toNat = c
      · have d1 : ((s[k].toNat : Int) == (c : Int)) = true := beq_iff_eq.2 (by omega)
        obtain rfl : q = true := HQ.out.2 ⟨s[k], List.mem_of_mem_take (i := k + 1) (by rw [HTS.out]; simp), he⟩
        clear he
        go_wp2
        go_ret
        exact ⟨rfl, rfl⟩
      · have d1 : ((s[k].toNat : Int) == (c : Int)) = false := beq_eq_false_iff_ne.2 (by omega)
        have HY2 := Lib.hid (show ∀ x, x ∈ s.data.toList.take (k + 1) → ¬ x.toNat = c from fun x hx => by
          rw [HTS.out] at hx
          rcases List.mem_append.1 hx with hx | hx
          · exact HY.out x hx
          · obtain rfl : x = s[k] := by simpa using hx
            exact he)
        clear he
        go_wp2
        go_round
        case rel => exact ⟨k + 1, by omega, by go_num, HY2.out⟩
        case measure => simp [intOf]; omega
    · have hqf : q = false := by
        rw [Bool.eq_false_iff]
        intro h1
        obtain ⟨x, hx, hxc⟩ := HQ.out.1 h1
        exact HY.out x (by rw [List.take_of_length_le (by rw [← Lib.size_eq]; omega)]; exact hx) hxc
      subst hqf
      go_wp2
      go_ret
      exact ⟨rfl, rfl⟩
theorem sign_any (c : Nat) (h : c < 256) (w : World) : Calls Tryz.prog 91 #[.int .u8 c] w fun e w' => e = .returned (.bool (decide (cls c = 7))) ∧ w = w' := by
  go_enter Tryz.func91, Tryz.ntmps91
  go_wp2_with fail
  refine (in_any (q := decide (cls c = 7)) c h _ (by decide) (by rw [decide_eq_true_iff, cls7]; simp; omega) _).mono ?_
  rintro e w' ⟨rfl, rfl⟩
  go_wp2
  go_ret
  exact ⟨rfl, rfl⟩
end Go.Proofs.YtdhfldpfbejcjaaGreat.Lx
/-
  CONTRACTS of the document's own layer lex: blanks, and how long a token is.
-/
namespace Go.Proofs.YtdhfldpfbejcjaaGreat.Lx
open Go.RowKit Pl Ar Dg Pa
set_option linter.unusedVariables false
set_option linter.unusedSimpArgs false

def innerP (n : Int) : Prop := n = 2 ∨ n = 3 ∨ n = 4 ∨ n = 5
instance (n : Int) : Decidable (innerP n) := by unfold innerP; infer_instance
theorem cls_is {f : Nat} {n : Int} {q : Bool} {c : Nat} {w : World} (hq : decide (cls c = n) = q) (g : Calls Tryz.prog f #[.int .u8 c] w fun e w' => e = .returned (.bool (decide (cls c = n))) ∧ w = w') :
    Calls Tryz.prog f #[.int .u8 c] w fun e w' => e = .returned (.bool q) ∧ w = w' := by rw [← hq]; exact g
theorem inner_any (c : Nat) (h : c < 256) (w : World) : Calls Tryz.prog 89 #[.int .u8 c] w fun e w' => e = .returned (.bool (decide (innerP (cls c)))) ∧ w = w' := by
  obtain ⟨q, hq⟩ : ∃ q, decide (innerP (cls c)) = q := ⟨_, rfl⟩
  rw [hq]
  obtain ⟨q2, h2⟩ : ∃ q, decide (cls c = 2) = q := ⟨_, rfl⟩
  obtain ⟨q3, h3⟩ : ∃ q, decide (cls c = 3) = q := ⟨_, rfl⟩
  obtain ⟨q4, h4⟩ : ∃ q, decide (cls c = 4) = q := ⟨_, rfl⟩
  obtain ⟨q5, h5⟩ : ∃ q, ((c : Int) == 39) = q := ⟨_, rfl⟩
  have HQ := Lib.hid (show (q2 || q3 || q4 || q5) = q by
    rw [← hq, ← h2, ← h3, ← h4, ← h5]
    rw [Bool.eq_iff_iff]
    simp only [Bool.or_eq_true, decide_eq_true_iff, beq_iff_eq]
    unfold innerP
    have := cls5 (c := c)
    omega)
  have H2 := Lib.hid h2
  have H3 := Lib.hid h3
  have H4 := Lib.hid h4
  clear hq h2 h3 h4
  cases q2
  · cases q3
    · cases q4
      · go_enter Tryz.func89, Tryz.ntmps89
        go_wp2_with fail
        refine (cls_is H2.out (small_any c h _)).mono ?_
        rintro e w' ⟨rfl, rfl⟩
        go_wp2_with fail
        refine (cls_is H3.out (large_any c h _)).mono ?_
        rintro e w' ⟨rfl, rfl⟩
        go_wp2_with fail
        refine (cls_is H4.out (digit_any c h _)).mono ?_
        rintro e w' ⟨rfl, rfl⟩
        go_wp2
        go_ret
        exact isB (by have := HQ.out; simpa using this)
      · obtain rfl : true = q := by have := HQ.out; simpa using this
        go_enter Tryz.func89, Tryz.ntmps89
        go_wp2_with fail
        refine (cls_is H2.out (small_any c h _)).mono ?_
        rintro e w' ⟨rfl, rfl⟩
        go_wp2_with fail
        refine (cls_is H3.out (large_any c h _)).mono ?_
        rintro e w' ⟨rfl, rfl⟩
        go_wp2_with fail
        refine (cls_is H4.out (digit_any c h _)).mono ?_
        rintro e w' ⟨rfl, rfl⟩
        go_wp2
        go_ret
        exact isB rfl
    · obtain rfl : true = q := by have := HQ.out; simpa using this
      go_enter Tryz.func89, Tryz.ntmps89
      go_wp2_with fail
      refine (cls_is H2.out (small_any c h _)).mono ?_
      rintro e w' ⟨rfl, rfl⟩
      go_wp2_with fail
      refine (cls_is H3.out (large_any c h _)).mono ?_
      rintro e w' ⟨rfl, rfl⟩
      go_wp2
      go_ret
      exact isB rfl
  · obtain rfl : true = q := by have := HQ.out; simpa using this
    go_enter Tryz.func89, Tryz.ntmps89
    go_wp2_with fail
    refine (cls_is H2.out (small_any c h _)).mono ?_
    rintro e w' ⟨rfl, rfl⟩
    go_wp2
    go_ret
    exact isB rfl
/-- all the blanks that a text begins with; in a remark -/
def bl (rm : Bool) : List UInt8 → Nat
  | [] => 0
  | c :: r => if rm = true then (if c = 10 then 1 + bl false r else 1 + bl true r) else if c = 32 ∨ c = 10 then 1 + bl false r else if c = 45 ∧ r.head? = some 45 then 1 + bl true r else 0
theorem bl_le (rm : Bool) (l : List UInt8) : bl rm l ≤ l.length := by
  induction l generalizing rm with
  | nil => exact Nat.le_refl _
  | cons c r ih => unfold bl; have := ih true; have := ih false; (repeat' split) <;> simp <;> omega
theorem bl_space {c : UInt8} {r : List UInt8} (h : c = 32 ∨ c = 10) : bl false (c :: r) = 1 + bl false r := by
  conv => lhs; unfold bl
  rw [if_neg (by decide), if_pos h]
theorem byte_u8 {s : ByteArray} {k : Nat} {h : k < s.size} {n : Nat} (hn : n < 256) : s[k] = UInt8.ofNat n ↔ s[k].toNat = n := by
  constructor
  · intro e; rw [e, UInt8.toNat_ofNat']; exact Nat.mod_eq_of_lt hn
  · intro e; rw [← e]; simp
set_option maxHeartbeats 2000000 in
theorem blank_any (s : ByteArray) (hs : s.size ≤ 1000000000) (w : World) : Calls Tryz.prog 52 #[.string s] w fun e w' => e = .returned (.int .i64 (bl false s.data.toList : Nat)) ∧ w = w' := by
  obtain ⟨B, hB⟩ : ∃ B, bl false s.data.toList = B := ⟨_, rfl⟩
  rw [hB]
  have HB := Lib.hid hB
  clear hB
  go_enter Tryz.func52, Tryz.ntmps52
  go_wp2_with fail
  go_loop [3] (fun i => ∃ k : Nat, k ≤ s.size ∧ i = .int .i64 k ∧ B = k + bl false (s.data.toList.drop k)) (fun i => s.size - (intOf i).toNat)
  case atStart => exact ⟨0, by omega, rfl, by rw [List.drop_zero, HB.out]; omega⟩
  case round =>
    obtain ⟨k, hk, rfl, hy⟩ := hrel
    have HY := Lib.hid hy
    clear hy
    by_cases hlt : k < s.size
    · have hlt' : (k : Int) < s.size := by omega
      have HD := Lib.hid (drop_cons hlt)
      by_cases h32 : s[k].toNat = 32 ∨ s[k].toNat = 10
      · have HY2 := Lib.hid (show B = (k + 1) + bl false (s.data.toList.drop (k + 1)) by
          have : s[k] = 32 ∨ s[k] = 10 := h32.imp (byte_u8 (n := 32) (by decide)).2 (byte_u8 (n := 10) (by decide)).2
          rw [HY.out, HD.out, bl_space this]
          omega)
        rcases h32 with h | h
        · have d1 : ((s[k].toNat : Int) == 32) = true := beq_iff_eq.2 (by omega)
          clear h
          go_wp2
          go_round
          case rel => exact ⟨k + 1, by omega, by go_num, HY2.out⟩
          case measure => simp [intOf]; omega
        · have d1 : ((s[k].toNat : Int) == 32) = false := beq_eq_false_iff_ne.2 (by omega)
          have d2 : ((s[k].toNat : Int) == 10) = true := beq_iff_eq.2 (by omega)
          clear h
          go_wp2
          go_round
          case rel => exact ⟨k + 1, by omega, by go_num, HY2.out⟩
          case measure => simp [intOf]; omega
      · have d1 : ((s[k].toNat : Int) == 32) = false := beq_eq_false_iff_ne.2 (by omega)
        have d2 : ((s[k].toNat : Int) == 10) = false := beq_eq_false_iff_ne.2 (by omega)
        have hne : ¬ (s[k] = 32 ∨ s[k] = 10) := fun h => h32 (h.imp (byte_u8 (n := 32) (by decide)).1 (byte_u8 (n := 10) (by decide)).1)
        by_cases hrem : s[k].toNat = 45 ∧ ∃ h1 : k + 1 < s.size, s[k + 1].toNat = 45
        · obtain ⟨h45, h1, h452⟩ := hrem
          have d3 : ((s[k].toNat : Int) == 45) = true := beq_iff_eq.2 (by omega)
          have d4 : ((s[k + 1].toNat : Int) == 45) = true := beq_iff_eq.2 (by omega)
          have h1' : (k : Int) + 1 < s.size := by omega
          have HY2 := Lib.hid (show B = k + bl true (s.data.toList.drop k) by
            rw [HY.out, HD.out]
            have e1 := (byte_u8 (s := s) (h := hlt) (n := 45) (by decide)).2 h45
            have e2 := (byte_u8 (s := s) (h := h1) (n := 45) (by decide)).2 h452
            rw [drop_cons h1]
            have hne10 : ¬ s[k] = 10 := fun h => hne (.inr h)
            conv => lhs; unfold bl
            conv => rhs; unfold bl
            rw [if_neg (by decide), if_neg hne, if_pos ⟨e1, by rw [e2]; rfl⟩, if_pos rfl, if_neg hne10])
          have HN10 := Lib.hid (show ¬ s[k].toNat = 10 by omega)
          clear h45 h452 h32 hne
          go_wp2_with fail
          go_loop [3] (fun i => ∃ x : Nat, x ≤ s.size ∧ k ≤ x ∧ i = .int .i64 x ∧ B = x + bl true (s.data.toList.drop x)) (fun i => s.size - (intOf i).toNat)
          case atStart => exact ⟨k, by omega, by omega, rfl, HY2.out⟩
          case round =>
            obtain ⟨x, hx, hkx, rfl, hy⟩ := hrel
            have HZ := Lib.hid hy
            clear hy d1 d2 d3 d4
            by_cases hxl : x < s.size
            · have hxl' : (x : Int) < s.size := by omega
              have HDX := Lib.hid (drop_cons hxl)
              by_cases h10 : s[x].toNat = 10
              · have d5 : ((s[x].toNat : Int) != 10) = false := by simp; omega
                have hkx2 : k < x := by
                  apply Classical.byContradiction
                  intro h
                  obtain rfl : x = k := by omega
                  exact HN10.out h10
                have HZ2 := Lib.hid (show B = x + bl false (s.data.toList.drop x) by
                  rw [HZ.out, HDX.out]
                  have e1 : s[x] = (10 : UInt8) := (byte_u8 (s := s) (h := hxl) (n := 10) (by decide)).2 h10
                  conv => lhs; unfold bl
                  conv => rhs; unfold bl
                  rw [if_pos rfl, if_pos e1, if_neg (by decide), if_pos (.inr e1)])
                clear h10
                go_wp2
                go_round
                case rel => exact ⟨x, hx, rfl, HZ2.out⟩
                case measure => simp [intOf]; omega
              · have d5 : ((s[x].toNat : Int) != 10) = true := by simp; omega
                have HZ2 := Lib.hid (show B = (x + 1) + bl true (s.data.toList.drop (x + 1)) by
                  rw [HZ.out, HDX.out]
                  have e1 : ¬ s[x] = 10 := fun h => h10 ((byte_u8 (n := 10) (by decide)).1 h)
                  conv => lhs; unfold bl
                  rw [if_pos rfl, if_neg e1]
                  omega)
                clear h10
                go_wp2
                go_round
                case rel => exact ⟨x + 1, by omega, by omega, by go_num, HZ2.out⟩
                case measure => simp [intOf]; omega
            · have hxe : x = s.size := by omega
              subst hxe
              have HZ2 := Lib.hid (show B = s.size + bl false (s.data.toList.drop s.size) by
                rw [HZ.out, drop_end (by omega)]; rfl)
              go_wp2
              go_round
              case rel => exact ⟨s.size, by omega, rfl, HZ2.out⟩
              case measure => simp [intOf]; omega
        · have HF := Lib.hid (show B = k by
            rw [HY.out, HD.out]
            unfold bl
            rw [if_neg (by decide), if_neg hne, if_neg]
            · rfl
            · rintro ⟨e1, e2⟩
              refine hrem ⟨(byte_u8 (n := 45) (by decide)).1 e1, ?_⟩
              by_cases h1 : k + 1 < s.size
              · rw [drop_cons h1] at e2
                exact ⟨h1, (byte_u8 (n := 45) (by decide)).1 (by simpa using e2)⟩
              · rw [drop_end h1] at e2
                simp at e2)
          by_cases h45 : s[k].toNat = 45
          · have d3 : ((s[k].toNat : Int) == 45) = true := beq_iff_eq.2 (by omega)
            by_cases h1 : k + 1 < s.size
            · have h1' : (k : Int) + 1 < s.size := by omega
              have d4 : ((s[k + 1].toNat : Int) == 45) = false := beq_eq_false_iff_ne.2 (fun h => hrem ⟨h45, h1, by omega⟩)
              clear hrem h45 h32 hne
              go_wp2
              go_ret
              exact ⟨by rw [HF.out]; rfl, rfl⟩
            · have h1' : ¬ (k : Int) + 1 < s.size := by omega
              clear hrem h45 h32 hne
              go_wp2
              go_ret
              exact ⟨by rw [HF.out]; rfl, rfl⟩
          · have d3 : ((s[k].toNat : Int) == 45) = false := beq_eq_false_iff_ne.2 (by omega)
            clear hrem h45 h32 hne
            go_wp2
            go_ret
            exact ⟨by rw [HF.out]; rfl, rfl⟩
    · have hke : k = s.size := by omega
      subst hke
      have HF := Lib.hid (show B = s.size by rw [HY.out, drop_end (by omega)]; rfl)
      go_wp2
      go_ret
      exact ⟨by rw [HF.out]; rfl, rfl⟩
end Go.Proofs.YtdhfldpfbejcjaaGreat.Lx
/-
  CONTRACTS of the document's own layer lex: how long the first token is; its kind; its number.
-/
namespace Go.Proofs.YtdhfldpfbejcjaaGreat.Lx
open Go.RowKit Pl Ar Dg Pa
set_option linter.unusedVariables false
set_option linter.unusedSimpArgs false
theorem mark_any {q : Bool} (c : Nat) (h : c < 256) (hq : decide (cls c = 6) = q) (w : World) : Calls Tryz.prog 86 #[.int .u8 c, .string ⟨#[40, 41, 123, 125, 59, 92]⟩] w fun e w' => e = .returned (.bool q) ∧ w = w' := by
  rw [← hq]
  exact in_any (q := decide (cls c = 6)) c h _ (by decide) (by rw [decide_eq_true_iff, cls6]; simp; omega) w
theorem inner_is {c : Nat} {q : Bool} (h : c < 256) (hq : decide (innerP (cls c)) = q) (w : World) : Calls Tryz.prog 89 #[.int .u8 c] w fun e w' => e = .returned (.bool q) ∧ w = w' := by rw [← hq]; exact inner_any c h w
/-- how many bytes the first token has, 0: none begins -/
def lenOf (l : List UInt8) : Nat := if hcls l = 0 ∨ hcls l = 1 ∨ hcls l = 5 then 0 else endLen l (hcls l)
def LenPost (l : List UInt8) (w : World) (e : Ending) (w' : World) : Prop := e = .returned (.int .i64 (lenOf l : Nat)) ∧ w = w'
theorem lenPost {l : List UInt8} {n : Nat} {w : World} (h : lenOf l = n) : LenPost l w (.returned (.int .i64 (n : Int))) w := by unfold LenPost; rw [h]; exact ⟨rfl, rfl⟩

set_option maxHeartbeats 4000000 in
theorem length_0 (s : ByteArray) (h0 : 0 < s.size) (hs : s.size ≤ 1000000000) (hcl : cls s[0].toNat = 0) (w : World) : Calls Tryz.prog 53 #[.string s] w (LenPost s.data.toList w) := by
  have hb := UInt8.toNat_lt s[0]
  have HC := Lib.hid hcl
  have HH := Lib.hid (show hcls s.data.toList = 0 by rw [hcls_get h0]; exact hcl)
  have h0' : (0 : Int) < s.size := by omega
  clear hcl
  go_enter Tryz.func53, Tryz.ntmps53
  go_wp2_with fail
  refine (mark_any (q := false) _ hb (by rw [HC.out]; decide) _).mono ?_
  rintro e w' ⟨rfl, rfl⟩
  go_wp2_with fail
  refine (cls_is (q := false) (by rw [HC.out]; decide) (small_any _ hb _)).mono ?_
  rintro e w' ⟨rfl, rfl⟩
  go_wp2_with fail
  refine (cls_is (q := false) (by rw [HC.out]; decide) (large_any _ hb _)).mono ?_
  rintro e w' ⟨rfl, rfl⟩
  go_wp2_with fail
  refine (cls_is (q := false) (by rw [HC.out]; decide) (digit_any _ hb _)).mono ?_
  rintro e w' ⟨rfl, rfl⟩
  go_wp2_with fail
  refine (cls_is (q := false) (by rw [HC.out]; decide) (sign_any _ hb _)).mono ?_
  rintro e w' ⟨rfl, rfl⟩
  go_wp2
  go_ret
  exact lenPost (by unfold lenOf; rw [HH.out, if_pos (by decide)])
set_option maxHeartbeats 4000000 in
theorem length_1 (s : ByteArray) (h0 : 0 < s.size) (hs : s.size ≤ 1000000000) (hcl : cls s[0].toNat = 1) (w : World) : Calls Tryz.prog 53 #[.string s] w (LenPost s.data.toList w) := by
  have hb := UInt8.toNat_lt s[0]
  have HC := Lib.hid hcl
  have HH := Lib.hid (show hcls s.data.toList = 1 by rw [hcls_get h0]; exact hcl)
  have h0' : (0 : Int) < s.size := by omega
  clear hcl
  go_enter Tryz.func53, Tryz.ntmps53
  go_wp2_with fail
  refine (mark_any (q := false) _ hb (by rw [HC.out]; decide) _).mono ?_
  rintro e w' ⟨rfl, rfl⟩
  go_wp2_with fail
  refine (cls_is (q := false) (by rw [HC.out]; decide) (small_any _ hb _)).mono ?_
  rintro e w' ⟨rfl, rfl⟩
  go_wp2_with fail
  refine (cls_is (q := false) (by rw [HC.out]; decide) (large_any _ hb _)).mono ?_
  rintro e w' ⟨rfl, rfl⟩
  go_wp2_with fail
  refine (cls_is (q := false) (by rw [HC.out]; decide) (digit_any _ hb _)).mono ?_
  rintro e w' ⟨rfl, rfl⟩
  go_wp2_with fail
  refine (cls_is (q := false) (by rw [HC.out]; decide) (sign_any _ hb _)).mono ?_
  rintro e w' ⟨rfl, rfl⟩
  go_wp2
  go_ret
  exact lenPost (by unfold lenOf; rw [HH.out, if_pos (by decide)])
set_option maxHeartbeats 4000000 in
theorem length_2 (s : ByteArray) (h0 : 0 < s.size) (hs : s.size ≤ 1000000000) (hcl : cls s[0].toNat = 2) (w : World) : Calls Tryz.prog 53 #[.string s] w (LenPost s.data.toList w) := by
  have hb := UInt8.toNat_lt s[0]
  have HC := Lib.hid hcl
  have HH := Lib.hid (show hcls s.data.toList = 2 by rw [hcls_get h0]; exact hcl)
  have h0' : (0 : Int) < s.size := by omega
  clear hcl
  go_enter Tryz.func53, Tryz.ntmps53
  go_wp2_with fail
  refine (mark_any (q := false) _ hb (by rw [HC.out]; decide) _).mono ?_
  rintro e w' ⟨rfl, rfl⟩
  go_wp2_with fail
  refine (cls_is (q := true) (by rw [HC.out]; decide) (small_any _ hb _)).mono ?_
  rintro e w' ⟨rfl, rfl⟩
  go_wp2_with fail
  go_loop [3] (fun i => ∃ k : Nat, 1 ≤ k ∧ k ≤ s.size ∧ i = .int .i64 k ∧ endLen s.data.toList 2 = k + runR 2 (s.data.toList.drop k)) (fun i => s.size - (intOf i).toNat)
  case atStart => exact ⟨1, by omega, by omega, rfl, rfl⟩
  case round =>
    obtain ⟨k, h1, hle, rfl, hg⟩ := hrel
    have HG := Lib.hid hg
    clear hg
    by_cases hlt : k < s.size
    · have hlt' : (k : Int) < s.size := by omega
      have hbk := UInt8.toNat_lt s[k]
      have HD := Lib.hid (drop_cons hlt)
      rcases cls_cases s[k].toNat with hc | hc | hc | hc | hc | hc | hc | hc
      · have HCK := Lib.hid hc
        have HF := Lib.hid (show lenOf s.data.toList = k by unfold lenOf; rw [HH.out, if_neg (by decide), HG.out, HD.out, run_no (by rw [hc]; decide)]; omega)
        clear hc
        go_wp2_with fail
        refine (inner_is (q := false) hbk (by rw [HCK.out]; decide) _).mono ?_
        rintro e w' ⟨rfl, rfl⟩
        go_wp2
        go_ret
        exact lenPost HF.out
      · have HCK := Lib.hid hc
        have HF := Lib.hid (show lenOf s.data.toList = k by unfold lenOf; rw [HH.out, if_neg (by decide), HG.out, HD.out, run_no (by rw [hc]; decide)]; omega)
        clear hc
        go_wp2_with fail
        refine (inner_is (q := false) hbk (by rw [HCK.out]; decide) _).mono ?_
        rintro e w' ⟨rfl, rfl⟩
        go_wp2
        go_ret
        exact lenPost HF.out
      · have HCK := Lib.hid hc
        have HN := Lib.hid (show endLen s.data.toList 2 = (k + 1 : Nat) + runR 2 (s.data.toList.drop (k + 1)) by rw [HG.out, HD.out, run_yes (by rw [hc]; decide)]; omega)
        clear hc
        go_wp2_with fail
        refine (inner_is (q := true) hbk (by rw [HCK.out]; decide) _).mono ?_
        rintro e w' ⟨rfl, rfl⟩
        go_wp2
        go_round
        case rel => exact ⟨k + 1, by omega, by omega, by go_num, HN.out⟩
        case measure => simp [intOf]; omega
      · have HCK := Lib.hid hc
        have HN := Lib.hid (show endLen s.data.toList 2 = (k + 1 : Nat) + runR 2 (s.data.toList.drop (k + 1)) by rw [HG.out, HD.out, run_yes (by rw [hc]; decide)]; omega)
        clear hc
        go_wp2_with fail
        refine (inner_is (q := true) hbk (by rw [HCK.out]; decide) _).mono ?_
        rintro e w' ⟨rfl, rfl⟩
        go_wp2
        go_round
        case rel => exact ⟨k + 1, by omega, by omega, by go_num, HN.out⟩
        case measure => simp [intOf]; omega
      · have HCK := Lib.hid hc
        have HN := Lib.hid (show endLen s.data.toList 2 = (k + 1 : Nat) + runR 2 (s.data.toList.drop (k + 1)) by rw [HG.out, HD.out, run_yes (by rw [hc]; decide)]; omega)
        clear hc
        go_wp2_with fail
        refine (inner_is (q := true) hbk (by rw [HCK.out]; decide) _).mono ?_
        rintro e w' ⟨rfl, rfl⟩
        go_wp2
        go_round
        case rel => exact ⟨k + 1, by omega, by omega, by go_num, HN.out⟩
        case measure => simp [intOf]; omega
      · have HCK := Lib.hid hc
        have HN := Lib.hid (show endLen s.data.toList 2 = (k + 1 : Nat) + runR 2 (s.data.toList.drop (k + 1)) by rw [HG.out, HD.out, run_yes (by rw [hc]; decide)]; omega)
        clear hc
        go_wp2_with fail
        refine (inner_is (q := true) hbk (by rw [HCK.out]; decide) _).mono ?_
        rintro e w' ⟨rfl, rfl⟩
        go_wp2
        go_round
        case rel => exact ⟨k + 1, by omega, by omega, by go_num, HN.out⟩
        case measure => simp [intOf]; omega
      · have HCK := Lib.hid hc
        have HF := Lib.hid (show lenOf s.data.toList = k by unfold lenOf; rw [HH.out, if_neg (by decide), HG.out, HD.out, run_no (by rw [hc]; decide)]; omega)
        clear hc
        go_wp2_with fail
        refine (inner_is (q := false) hbk (by rw [HCK.out]; decide) _).mono ?_
        rintro e w' ⟨rfl, rfl⟩
        go_wp2
        go_ret
        exact lenPost HF.out
      · have HCK := Lib.hid hc
        have HF := Lib.hid (show lenOf s.data.toList = k by unfold lenOf; rw [HH.out, if_neg (by decide), HG.out, HD.out, run_no (by rw [hc]; decide)]; omega)
        clear hc
        go_wp2_with fail
        refine (inner_is (q := false) hbk (by rw [HCK.out]; decide) _).mono ?_
        rintro e w' ⟨rfl, rfl⟩
        go_wp2
        go_ret
        exact lenPost HF.out
    · have HF := Lib.hid (show lenOf s.data.toList = k by unfold lenOf; rw [HH.out, if_neg (by decide), HG.out, drop_end hlt]; rfl)
      have hlt' : ¬ (k : Int) < s.size := by omega
      go_wp2
      go_ret
      exact lenPost HF.out
set_option maxHeartbeats 4000000 in
theorem length_3 (s : ByteArray) (h0 : 0 < s.size) (hs : s.size ≤ 1000000000) (hcl : cls s[0].toNat = 3) (w : World) : Calls Tryz.prog 53 #[.string s] w (LenPost s.data.toList w) := by
  have hb := UInt8.toNat_lt s[0]
  have HC := Lib.hid hcl
  have HH := Lib.hid (show hcls s.data.toList = 3 by rw [hcls_get h0]; exact hcl)
  have h0' : (0 : Int) < s.size := by omega
  clear hcl
  go_enter Tryz.func53, Tryz.ntmps53
  go_wp2_with fail
  refine (mark_any (q := false) _ hb (by rw [HC.out]; decide) _).mono ?_
  rintro e w' ⟨rfl, rfl⟩
  go_wp2_with fail
  refine (cls_is (q := false) (by rw [HC.out]; decide) (small_any _ hb _)).mono ?_
  rintro e w' ⟨rfl, rfl⟩
  go_wp2_with fail
  refine (cls_is (q := true) (by rw [HC.out]; decide) (large_any _ hb _)).mono ?_
  rintro e w' ⟨rfl, rfl⟩
  go_wp2_with fail
  go_loop [3] (fun i => ∃ k : Nat, 1 ≤ k ∧ k ≤ s.size ∧ i = .int .i64 k ∧ endLen s.data.toList 3 = k + runR 3 (s.data.toList.drop k)) (fun i => s.size - (intOf i).toNat)
  case atStart => exact ⟨1, by omega, by omega, rfl, rfl⟩
  case round =>
    obtain ⟨k, h1, hle, rfl, hg⟩ := hrel
    have HG := Lib.hid hg
    clear hg
    by_cases hlt : k < s.size
    · have hlt' : (k : Int) < s.size := by omega
      have hbk := UInt8.toNat_lt s[k]
      have HD := Lib.hid (drop_cons hlt)
      rcases cls_cases s[k].toNat with hc | hc | hc | hc | hc | hc | hc | hc
      · have HCK := Lib.hid hc
        have HF := Lib.hid (show lenOf s.data.toList = k by unfold lenOf; rw [HH.out, if_neg (by decide), HG.out, HD.out, run_no (by rw [hc]; decide)]; omega)
        clear hc
        go_wp2_with fail
        refine (inner_is (q := false) hbk (by rw [HCK.out]; decide) _).mono ?_
        rintro e w' ⟨rfl, rfl⟩
        go_wp2
        go_ret
        exact lenPost HF.out
      · have HCK := Lib.hid hc
        have HF := Lib.hid (show lenOf s.data.toList = k by unfold lenOf; rw [HH.out, if_neg (by decide), HG.out, HD.out, run_no (by rw [hc]; decide)]; omega)
        clear hc
        go_wp2_with fail
        refine (inner_is (q := false) hbk (by rw [HCK.out]; decide) _).mono ?_
        rintro e w' ⟨rfl, rfl⟩
        go_wp2
        go_ret
        exact lenPost HF.out
      · have HCK := Lib.hid hc
        have HN := Lib.hid (show endLen s.data.toList 3 = (k + 1 : Nat) + runR 3 (s.data.toList.drop (k + 1)) by rw [HG.out, HD.out, run_yes (by rw [hc]; decide)]; omega)
        clear hc
        go_wp2_with fail
        refine (inner_is (q := true) hbk (by rw [HCK.out]; decide) _).mono ?_
        rintro e w' ⟨rfl, rfl⟩
        go_wp2
        go_round
        case rel => exact ⟨k + 1, by omega, by omega, by go_num, HN.out⟩
        case measure => simp [intOf]; omega
      · have HCK := Lib.hid hc
        have HN := Lib.hid (show endLen s.data.toList 3 = (k + 1 : Nat) + runR 3 (s.data.toList.drop (k + 1)) by rw [HG.out, HD.out, run_yes (by rw [hc]; decide)]; omega)
        clear hc
        go_wp2_with fail
        refine (inner_is (q := true) hbk (by rw [HCK.out]; decide) _).mono ?_
        rintro e w' ⟨rfl, rfl⟩
        go_wp2
        go_round
        case rel => exact ⟨k + 1, by omega, by omega, by go_num, HN.out⟩
        case measure => simp [intOf]; omega
      · have HCK := Lib.hid hc
        have HN := Lib.hid (show endLen s.data.toList 3 = (k + 1 : Nat) + runR 3 (s.data.toList.drop (k + 1)) by rw [HG.out, HD.out, run_yes (by rw [hc]; decide)]; omega)
        clear hc
        go_wp2_with fail
        refine (inner_is (q := true) hbk (by rw [HCK.out]; decide) _).mono ?_
        rintro e w' ⟨rfl, rfl⟩
        go_wp2
        go_round
        case rel => exact ⟨k + 1, by omega, by omega, by go_num, HN.out⟩
        case measure => simp [intOf]; omega
      · have HCK := Lib.hid hc
        have HN := Lib.hid (show endLen s.data.toList 3 = (k + 1 : Nat) + runR 3 (s.data.toList.drop (k + 1)) by rw [HG.out, HD.out, run_yes (by rw [hc]; decide)]; omega)
        clear hc
        go_wp2_with fail
        refine (inner_is (q := true) hbk (by rw [HCK.out]; decide) _).mono ?_
        rintro e w' ⟨rfl, rfl⟩
        go_wp2
        go_round
        case rel => exact ⟨k + 1, by omega, by omega, by go_num, HN.out⟩
        case measure => simp [intOf]; omega
      · have HCK := Lib.hid hc
        have HF := Lib.hid (show lenOf s.data.toList = k by unfold lenOf; rw [HH.out, if_neg (by decide), HG.out, HD.out, run_no (by rw [hc]; decide)]; omega)
        clear hc
        go_wp2_with fail
        refine (inner_is (q := false) hbk (by rw [HCK.out]; decide) _).mono ?_
        rintro e w' ⟨rfl, rfl⟩
        go_wp2
        go_ret
        exact lenPost HF.out
      · have HCK := Lib.hid hc
        have HF := Lib.hid (show lenOf s.data.toList = k by unfold lenOf; rw [HH.out, if_neg (by decide), HG.out, HD.out, run_no (by rw [hc]; decide)]; omega)
        clear hc
        go_wp2_with fail
        refine (inner_is (q := false) hbk (by rw [HCK.out]; decide) _).mono ?_
        rintro e w' ⟨rfl, rfl⟩
        go_wp2
        go_ret
        exact lenPost HF.out
    · have HF := Lib.hid (show lenOf s.data.toList = k by unfold lenOf; rw [HH.out, if_neg (by decide), HG.out, drop_end hlt]; rfl)
      have hlt' : ¬ (k : Int) < s.size := by omega
      go_wp2
      go_ret
      exact lenPost HF.out
set_option maxHeartbeats 4000000 in
theorem length_4 (s : ByteArray) (h0 : 0 < s.size) (hs : s.size ≤ 1000000000) (hcl : cls s[0].toNat = 4) (w : World) : Calls Tryz.prog 53 #[.string s] w (LenPost s.data.toList w) := by
  have hb := UInt8.toNat_lt s[0]
  have HC := Lib.hid hcl
  have HH := Lib.hid (show hcls s.data.toList = 4 by rw [hcls_get h0]; exact hcl)
  have h0' : (0 : Int) < s.size := by omega
  clear hcl
  go_enter Tryz.func53, Tryz.ntmps53
  go_wp2_with fail
  refine (mark_any (q := false) _ hb (by rw [HC.out]; decide) _).mono ?_
  rintro e w' ⟨rfl, rfl⟩
  go_wp2_with fail
  refine (cls_is (q := false) (by rw [HC.out]; decide) (small_any _ hb _)).mono ?_
  rintro e w' ⟨rfl, rfl⟩
  go_wp2_with fail
  refine (cls_is (q := false) (by rw [HC.out]; decide) (large_any _ hb _)).mono ?_
  rintro e w' ⟨rfl, rfl⟩
  go_wp2_with fail
  refine (cls_is (q := true) (by rw [HC.out]; decide) (digit_any _ hb _)).mono ?_
  rintro e w' ⟨rfl, rfl⟩
  go_wp2_with fail
  go_loop [3] (fun i => ∃ k : Nat, 1 ≤ k ∧ k ≤ s.size ∧ i = .int .i64 k ∧ endLen s.data.toList 4 = k + runR 4 (s.data.toList.drop k)) (fun i => s.size - (intOf i).toNat)
  case atStart => exact ⟨1, by omega, by omega, rfl, rfl⟩
  case round =>
    obtain ⟨k, h1, hle, rfl, hg⟩ := hrel
    have HG := Lib.hid hg
    clear hg
    by_cases hlt : k < s.size
    · have hlt' : (k : Int) < s.size := by omega
      have hbk := UInt8.toNat_lt s[k]
      have HD := Lib.hid (drop_cons hlt)
      rcases cls_cases s[k].toNat with hc | hc | hc | hc | hc | hc | hc | hc
      · have HCK := Lib.hid hc
        have HF := Lib.hid (show lenOf s.data.toList = k by unfold lenOf; rw [HH.out, if_neg (by decide), HG.out, HD.out, run_no (by rw [hc]; decide)]; omega)
        clear hc
        go_wp2_with fail
        refine (cls_is (q := false) (by rw [HCK.out]; decide) (digit_any _ hbk _)).mono ?_
        rintro e w' ⟨rfl, rfl⟩
        go_wp2
        go_ret
        exact lenPost HF.out
      · have HCK := Lib.hid hc
        have HF := Lib.hid (show lenOf s.data.toList = k by unfold lenOf; rw [HH.out, if_neg (by decide), HG.out, HD.out, run_no (by rw [hc]; decide)]; omega)
        clear hc
        go_wp2_with fail
        refine (cls_is (q := false) (by rw [HCK.out]; decide) (digit_any _ hbk _)).mono ?_
        rintro e w' ⟨rfl, rfl⟩
        go_wp2
        go_ret
        exact lenPost HF.out
      · have HCK := Lib.hid hc
        have HF := Lib.hid (show lenOf s.data.toList = k by unfold lenOf; rw [HH.out, if_neg (by decide), HG.out, HD.out, run_no (by rw [hc]; decide)]; omega)
        clear hc
        go_wp2_with fail
        refine (cls_is (q := false) (by rw [HCK.out]; decide) (digit_any _ hbk _)).mono ?_
        rintro e w' ⟨rfl, rfl⟩
        go_wp2
        go_ret
        exact lenPost HF.out
      · have HCK := Lib.hid hc
        have HF := Lib.hid (show lenOf s.data.toList = k by unfold lenOf; rw [HH.out, if_neg (by decide), HG.out, HD.out, run_no (by rw [hc]; decide)]; omega)
        clear hc
        go_wp2_with fail
        refine (cls_is (q := false) (by rw [HCK.out]; decide) (digit_any _ hbk _)).mono ?_
        rintro e w' ⟨rfl, rfl⟩
        go_wp2
        go_ret
        exact lenPost HF.out
      · have HCK := Lib.hid hc
        have HN := Lib.hid (show endLen s.data.toList 4 = (k + 1 : Nat) + runR 4 (s.data.toList.drop (k + 1)) by rw [HG.out, HD.out, run_yes (by rw [hc]; decide)]; omega)
        clear hc
        go_wp2_with fail
        refine (cls_is (q := true) (by rw [HCK.out]; decide) (digit_any _ hbk _)).mono ?_
        rintro e w' ⟨rfl, rfl⟩
        go_wp2
        go_round
        case rel => exact ⟨k + 1, by omega, by omega, by go_num, HN.out⟩
        case measure => simp [intOf]; omega
      · have HCK := Lib.hid hc
        have HF := Lib.hid (show lenOf s.data.toList = k by unfold lenOf; rw [HH.out, if_neg (by decide), HG.out, HD.out, run_no (by rw [hc]; decide)]; omega)
        clear hc
        go_wp2_with fail
        refine (cls_is (q := false) (by rw [HCK.out]; decide) (digit_any _ hbk _)).mono ?_
        rintro e w' ⟨rfl, rfl⟩
        go_wp2
        go_ret
        exact lenPost HF.out
      · have HCK := Lib.hid hc
        have HF := Lib.hid (show lenOf s.data.toList = k by unfold lenOf; rw [HH.out, if_neg (by decide), HG.out, HD.out, run_no (by rw [hc]; decide)]; omega)
        clear hc
        go_wp2_with fail
        refine (cls_is (q := false) (by rw [HCK.out]; decide) (digit_any _ hbk _)).mono ?_
        rintro e w' ⟨rfl, rfl⟩
        go_wp2
        go_ret
        exact lenPost HF.out
      · have HCK := Lib.hid hc
        have HF := Lib.hid (show lenOf s.data.toList = k by unfold lenOf; rw [HH.out, if_neg (by decide), HG.out, HD.out, run_no (by rw [hc]; decide)]; omega)
        clear hc
        go_wp2_with fail
        refine (cls_is (q := false) (by rw [HCK.out]; decide) (digit_any _ hbk _)).mono ?_
        rintro e w' ⟨rfl, rfl⟩
        go_wp2
        go_ret
        exact lenPost HF.out
    · have HF := Lib.hid (show lenOf s.data.toList = k by unfold lenOf; rw [HH.out, if_neg (by decide), HG.out, drop_end hlt]; rfl)
      have hlt' : ¬ (k : Int) < s.size := by omega
      go_wp2
      go_ret
      exact lenPost HF.out
set_option maxHeartbeats 4000000 in
theorem length_5 (s : ByteArray) (h0 : 0 < s.size) (hs : s.size ≤ 1000000000) (hcl : cls s[0].toNat = 5) (w : World) : Calls Tryz.prog 53 #[.string s] w (LenPost s.data.toList w) := by
  have hb := UInt8.toNat_lt s[0]
  have HC := Lib.hid hcl
  have HH := Lib.hid (show hcls s.data.toList = 5 by rw [hcls_get h0]; exact hcl)
  have h0' : (0 : Int) < s.size := by omega
  clear hcl
  go_enter Tryz.func53, Tryz.ntmps53
  go_wp2_with fail
  refine (mark_any (q := false) _ hb (by rw [HC.out]; decide) _).mono ?_
  rintro e w' ⟨rfl, rfl⟩
  go_wp2_with fail
  refine (cls_is (q := false) (by rw [HC.out]; decide) (small_any _ hb _)).mono ?_
  rintro e w' ⟨rfl, rfl⟩
  go_wp2_with fail
  refine (cls_is (q := false) (by rw [HC.out]; decide) (large_any _ hb _)).mono ?_
  rintro e w' ⟨rfl, rfl⟩
  go_wp2_with fail
  refine (cls_is (q := false) (by rw [HC.out]; decide) (digit_any _ hb _)).mono ?_
  rintro e w' ⟨rfl, rfl⟩
  go_wp2_with fail
  refine (cls_is (q := false) (by rw [HC.out]; decide) (sign_any _ hb _)).mono ?_
  rintro e w' ⟨rfl, rfl⟩
  go_wp2
  go_ret
  exact lenPost (by unfold lenOf; rw [HH.out, if_pos (by decide)])
set_option maxHeartbeats 4000000 in
theorem length_6 (s : ByteArray) (h0 : 0 < s.size) (hs : s.size ≤ 1000000000) (hcl : cls s[0].toNat = 6) (w : World) : Calls Tryz.prog 53 #[.string s] w (LenPost s.data.toList w) := by
  have hb := UInt8.toNat_lt s[0]
  have HC := Lib.hid hcl
  have HH := Lib.hid (show hcls s.data.toList = 6 by rw [hcls_get h0]; exact hcl)
  have h0' : (0 : Int) < s.size := by omega
  clear hcl
  go_enter Tryz.func53, Tryz.ntmps53
  go_wp2_with fail
  refine (mark_any (q := true) _ hb (by rw [HC.out]; decide) _).mono ?_
  rintro e w' ⟨rfl, rfl⟩
  go_wp2
  go_ret
  refine lenPost ?_
  unfold lenOf endLen
  rw [HH.out, if_neg (by decide)]
  cases h : s.data.toList.drop 1 with
  | nil => rfl
  | cons x r => rw [run_no]; rcases cls_cases x.toNat with h | h | h | h | h | h | h | h <;> (rw [h]; decide)
set_option maxHeartbeats 4000000 in
theorem length_7 (s : ByteArray) (h0 : 0 < s.size) (hs : s.size ≤ 1000000000) (hcl : cls s[0].toNat = 7) (w : World) : Calls Tryz.prog 53 #[.string s] w (LenPost s.data.toList w) := by
  have hb := UInt8.toNat_lt s[0]
  have HC := Lib.hid hcl
  have HH := Lib.hid (show hcls s.data.toList = 7 by rw [hcls_get h0]; exact hcl)
  have h0' : (0 : Int) < s.size := by omega
  clear hcl
  go_enter Tryz.func53, Tryz.ntmps53
  go_wp2_with fail
  refine (mark_any (q := false) _ hb (by rw [HC.out]; decide) _).mono ?_
  rintro e w' ⟨rfl, rfl⟩
  go_wp2_with fail
  refine (cls_is (q := false) (by rw [HC.out]; decide) (small_any _ hb _)).mono ?_
  rintro e w' ⟨rfl, rfl⟩
  go_wp2_with fail
  refine (cls_is (q := false) (by rw [HC.out]; decide) (large_any _ hb _)).mono ?_
  rintro e w' ⟨rfl, rfl⟩
  go_wp2_with fail
  refine (cls_is (q := false) (by rw [HC.out]; decide) (digit_any _ hb _)).mono ?_
  rintro e w' ⟨rfl, rfl⟩
  go_wp2_with fail
  refine (cls_is (q := true) (by rw [HC.out]; decide) (sign_any _ hb _)).mono ?_
  rintro e w' ⟨rfl, rfl⟩
  go_wp2_with fail
  go_loop [3] (fun i => ∃ k : Nat, 1 ≤ k ∧ k ≤ s.size ∧ i = .int .i64 k ∧ endLen s.data.toList 7 = k + runR 7 (s.data.toList.drop k)) (fun i => s.size - (intOf i).toNat)
  case atStart => exact ⟨1, by omega, by omega, rfl, rfl⟩
  case round =>
    obtain ⟨k, h1, hle, rfl, hg⟩ := hrel
    have HG := Lib.hid hg
    clear hg
    by_cases hlt : k < s.size
    · have hlt' : (k : Int) < s.size := by omega
      have hbk := UInt8.toNat_lt s[k]
      have HD := Lib.hid (drop_cons hlt)
      rcases cls_cases s[k].toNat with hc | hc | hc | hc | hc | hc | hc | hc
      · have HCK := Lib.hid hc
        have HF := Lib.hid (show lenOf s.data.toList = k by unfold lenOf; rw [HH.out, if_neg (by decide), HG.out, HD.out, run_no (by rw [hc]; decide)]; omega)
        clear hc
        go_wp2_with fail
        refine (cls_is (q := false) (by rw [HCK.out]; decide) (sign_any _ hbk _)).mono ?_
        rintro e w' ⟨rfl, rfl⟩
        go_wp2
        go_ret
        exact lenPost HF.out
      · have HCK := Lib.hid hc
        have HF := Lib.hid (show lenOf s.data.toList = k by unfold lenOf; rw [HH.out, if_neg (by decide), HG.out, HD.out, run_no (by rw [hc]; decide)]; omega)
        clear hc
        go_wp2_with fail
        refine (cls_is (q := false) (by rw [HCK.out]; decide) (sign_any _ hbk _)).mono ?_
        rintro e w' ⟨rfl, rfl⟩
        go_wp2
        go_ret
        exact lenPost HF.out
      · have HCK := Lib.hid hc
        have HF := Lib.hid (show lenOf s.data.toList = k by unfold lenOf; rw [HH.out, if_neg (by decide), HG.out, HD.out, run_no (by rw [hc]; decide)]; omega)
        clear hc
        go_wp2_with fail
        refine (cls_is (q := false) (by rw [HCK.out]; decide) (sign_any _ hbk _)).mono ?_
        rintro e w' ⟨rfl, rfl⟩
        go_wp2
        go_ret
        exact lenPost HF.out
      · have HCK := Lib.hid hc
        have HF := Lib.hid (show lenOf s.data.toList = k by unfold lenOf; rw [HH.out, if_neg (by decide), HG.out, HD.out, run_no (by rw [hc]; decide)]; omega)
        clear hc
        go_wp2_with fail
        refine (cls_is (q := false) (by rw [HCK.out]; decide) (sign_any _ hbk _)).mono ?_
        rintro e w' ⟨rfl, rfl⟩
        go_wp2
        go_ret
        exact lenPost HF.out
      · have HCK := Lib.hid hc
        have HF := Lib.hid (show lenOf s.data.toList = k by unfold lenOf; rw [HH.out, if_neg (by decide), HG.out, HD.out, run_no (by rw [hc]; decide)]; omega)
        clear hc
        go_wp2_with fail
        refine (cls_is (q := false) (by rw [HCK.out]; decide) (sign_any _ hbk _)).mono ?_
        rintro e w' ⟨rfl, rfl⟩
        go_wp2
        go_ret
        exact lenPost HF.out
      · have HCK := Lib.hid hc
        have HF := Lib.hid (show lenOf s.data.toList = k by unfold lenOf; rw [HH.out, if_neg (by decide), HG.out, HD.out, run_no (by rw [hc]; decide)]; omega)
        clear hc
        go_wp2_with fail
        refine (cls_is (q := false) (by rw [HCK.out]; decide) (sign_any _ hbk _)).mono ?_
        rintro e w' ⟨rfl, rfl⟩
        go_wp2
        go_ret
        exact lenPost HF.out
      · have HCK := Lib.hid hc
        have HF := Lib.hid (show lenOf s.data.toList = k by unfold lenOf; rw [HH.out, if_neg (by decide), HG.out, HD.out, run_no (by rw [hc]; decide)]; omega)
        clear hc
        go_wp2_with fail
        refine (cls_is (q := false) (by rw [HCK.out]; decide) (sign_any _ hbk _)).mono ?_
        rintro e w' ⟨rfl, rfl⟩
        go_wp2
        go_ret
        exact lenPost HF.out
      · have HCK := Lib.hid hc
        have HN := Lib.hid (show endLen s.data.toList 7 = (k + 1 : Nat) + runR 7 (s.data.toList.drop (k + 1)) by rw [HG.out, HD.out, run_yes (by rw [hc]; decide)]; omega)
        clear hc
        go_wp2_with fail
        refine (cls_is (q := true) (by rw [HCK.out]; decide) (sign_any _ hbk _)).mono ?_
        rintro e w' ⟨rfl, rfl⟩
        go_wp2
        go_round
        case rel => exact ⟨k + 1, by omega, by omega, by go_num, HN.out⟩
        case measure => simp [intOf]; omega
    · have HF := Lib.hid (show lenOf s.data.toList = k by unfold lenOf; rw [HH.out, if_neg (by decide), HG.out, drop_end hlt]; rfl)
      have hlt' : ¬ (k : Int) < s.size := by omega
      go_wp2
      go_ret
      exact lenPost HF.out
theorem length_any (s : ByteArray) (h0 : 0 < s.size) (hs : s.size ≤ 1000000000) (w : World) : Calls Tryz.prog 53 #[.string s] w (LenPost s.data.toList w) := by
  rcases cls_cases s[0].toNat with h | h | h | h | h | h | h | h
  · exact length_0 s h0 hs h w
  · exact length_1 s h0 hs h w
  · exact length_2 s h0 hs h w
  · exact length_3 s h0 hs h w
  · exact length_4 s h0 hs h w
  · exact length_5 s h0 hs h w
  · exact length_6 s h0 hs h w
  · exact length_7 s h0 hs h w
end Go.Proofs.YtdhfldpfbejcjaaGreat.Lx
