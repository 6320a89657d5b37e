/-
  CONTRACTS of the document's own layer lex: its keywords.
-/
import Derived.Test.YtigidagcpjmjnaaLexRefC
namespace Go.Proofs.Ytigidagcpjmjnaa.Lx
open Go.RowKit Pl Ar Dg Pa
set_option linter.unusedVariables false
set_option linter.unusedSimpArgs false
abbrev wordsV : Obj := Obj.cells #[.string ⟨#[100, 97, 116, 97]⟩, .string ⟨#[105, 110, 102, 105, 120, 108]⟩, .string ⟨#[105, 110, 102, 105, 120, 114]⟩, .string ⟨#[105, 110, 102, 105, 120]⟩, .string ⟨#[108, 101, 116]⟩, .string ⟨#[105, 110]⟩, .string ⟨#[99, 97, 115, 101]⟩, .string ⟨#[111, 102]⟩, .string ⟨#[105, 102]⟩, .string ⟨#[116, 104, 101, 110]⟩, .string ⟨#[101, 108, 115, 101]⟩] 9
theorem words_any (w : World) : Calls Try.prog 42 #[] w fun e w' => e = .returned (.slice (some ⟨w.heap.size, 0, none⟩) 11 11) ∧ w' = w.alloc wordsV := by
  go_enter Try.func42, Try.ntmps42
  go_wp2
  go_ret
  exact ⟨rfl, rfl⟩
/-- a row of texts in memory -/
def Texts (w : World) (g : Nat) (ws : List (List UInt8)) : Prop := ∀ k (hk : k < ws.length), w.cell? ⟨g, k, none⟩ = some (.string ⟨ws[k].toArray⟩)
theorem words_texts (w : World) : Texts (w.alloc wordsV) w.heap.size words := by
  intro k hk
  have hk' : k < 11 := hk
  have e : k = 0 ∨ k = 1 ∨ k = 2 ∨ k = 3 ∨ k = 4 ∨ k = 5 ∨ k = 6 ∨ k = 7 ∨ k = 8 ∨ k = 9 ∨ k = 10 := by omega
  rcases e with rfl | rfl | rfl | rfl | rfl | rfl | rfl | rfl | rfl | rfl | rfl <;> simp [go_sem, words]
theorem mem_take {α} {a : List α} {k : Nat} (h : k < a.length) {x : α} : x ∈ a.take (k + 1) ↔ x ∈ a.take k ∨ x = a[k] := by
  rw [List.take_succ_eq_append_getElem h, List.mem_append, List.mem_singleton]
set_option maxHeartbeats 1000000 in
theorem has_any {q : Bool} (w : World) (g c : Nat) (ws : List (List UInt8)) (hn : ws.length ≤ 1000000000) (hw : Texts w g ws) (s : ByteArray) (hq : ws.contains s.data.toList = q) :
    Calls Try.prog 41 #[.slice (some ⟨g, 0, none⟩) ws.length c, .string s] w fun e w' => e = .returned (.bool q) ∧ ∃ k, w' = w.drewN k := by
  have HW := Lib.hid hw
  have HQ := Lib.hid hq
  obtain ⟨n, hnn⟩ : ∃ n, ws.length = n := ⟨_, rfl⟩
  rw [hnn]
  rw [hnn] at hn
  have HN := Lib.hid hnn
  clear hw hq hnn
  go_enter Try.func41, Try.ntmps41
  go_wp2_with fail
  go_loopw [5] (fun i wr => ∃ k m : Nat, k ≤ n ∧ i = .int .i64 k ∧ wr = w.drewN m ∧ ∀ x, x ∈ ws.take k → ¬ x = s.data.toList) (fun i _ => n - (intOf i).toNat)
  case atStart => exact ⟨0, 0, by omega, rfl, rfl, by intro x hx; simp at hx⟩
  case round =>
    obtain ⟨k, m, hk, rfl, rfl, hy⟩ := hrel
    have HY := Lib.hid hy
    clear hy
    by_cases hlt : k < n
    · have hk2 : k < ws.length := by rw [HN.out]; exact hlt
      have hlt' : (k : Int) < n := by omega
      obtain ⟨t, ht⟩ : ∃ t : ByteArray, (⟨ws[k].toArray⟩ : ByteArray) = t := ⟨_, rfl⟩
      have p0 := HW.out k hk2
      rw [ht] at p0
      have htl : t.toList = ws[k] := by rw [Lib.toList_data, ← ht]
      by_cases he : ws[k] = s.data.toList
      · have d1 : (t.toList == s.toList) = true := by rw [htl, Lib.toList_data, he]; exact beq_self_eq_true _
        obtain rfl : true = q := by rw [← HQ.out]; exact (List.contains_iff_mem.2 (he ▸ List.getElem_mem hk2)).symm
        clear he ht htl
        go_wp2
        go_ret
        exact ⟨rfl, _, rfl⟩
      · have d1 : (t.toList == s.toList) = false := by rw [htl, Lib.toList_data]; exact beq_eq_false_iff_ne.2 he
        have HY2 := Lib.hid (show ∀ x, x ∈ ws.take (k + 1) → ¬ x = s.data.toList from fun x hx => by
          rcases (mem_take hk2).1 hx with h | rfl
          · exact HY.out x h
          · exact he)
        clear he ht htl
        go_wp2
        go_roundw
        case rel => exact ⟨k + 1, m, by omega, by go_num, rfl, HY2.out⟩
        case measure => simp [intOf]; omega
    · have hqf : q = false := by
        rw [Bool.eq_false_iff]
        intro h
        rw [← HQ.out] at h
        exact HY.out _ (by rw [List.take_of_length_le (by rw [HN.out]; omega)]; exact List.contains_iff_mem.1 h) rfl
      subst hqf
      have hlt' : ¬ (k : Int) < n := by omega
      go_wp2
      go_ret
      exact ⟨rfl, _, rfl⟩
theorem number_any (s : ByteArray) (hs : s.size ≤ 9223372036854775807) (w : World) : Calls Try.prog 27 #[.string s] w fun e w' => e = .returned (.tuple #[.int .i64 (wholeOf s.data.toList).1, .int .i64 (wholeOf s.data.toList).2]) ∧ ∃ k, w' = w.drewN k := by
  obtain ⟨⟨r, f⟩, hr⟩ : ∃ p, wholeOf s.data.toList = p := ⟨_, rfl⟩
  rw [hr]
  by_cases hb : s.data.toList = beyond
  · have hw : wholeOf s.data.toList = (-9223372036854775808, 0) := by unfold wholeOf; rw [if_pos hb]
    rw [hw] at hr
    injection hr with h1 h2
    subst h1 h2
    obtain rfl := is_text hb
    clear hb hw
    go_enter Try.func27, Try.ntmps27
    go_wp2
    go_returns
    exact ⟨rfl, 0, rfl⟩
  · have hw : wholeOf s.data.toList = prs s.data.toList := by unfold wholeOf; rw [if_neg hb]
    have hb2 : (s.toList == [57, 50, 50, 51, 51, 55, 50, 48, 51, 54, 56, 53, 52, 55, 55, 53, 56, 48, 56]) = false := by rw [Lib.toList_data]; exact beq_eq_false_iff_ne.2 hb
    rw [hw] at hr
    have HR := Lib.hid hr
    clear hb hw hr
    go_enter Try.func27, Try.ntmps27
    go_wp2_with fail
    refine (Rp.rparse_any s hs _).mono ?_
    unfold Rp.RparsePost
    rw [HR.out]
    rintro e w' ⟨rfl, k, rfl⟩
    go_wp2
    go_returns
    exact ⟨rfl, k, rfl⟩
end Go.Proofs.Ytigidagcpjmjnaa.Lx
