/-
  The document's 'Offset' (ref02), for every source and every place.
-/
import Derived.Test.YtigidagcpjmjnaaLexPlain2
namespace Go.Proofs.Ytigidagcpjmjnaa.Lx
open Go.RowKit Pl Ar Dg Pa
set_option linter.unusedVariables false

theorem offF_yes {q p : Int × Int} {c : UInt8} {r : List UInt8} (h : p = q) : offF q p (c :: r) = 0 := by
  show (if p = q then 0 else _) = 0
  rw [if_pos h]
theorem offF_no {q p : Int × Int} {c : UInt8} {r : List UInt8} (h : ¬ p = q) : offF q p (c :: r) = offF q (plStep p c) r + 1 := by
  show (if p = q then 0 else _) = _
  rw [if_neg h]
set_option maxHeartbeats 2000000 in
theorem offset_any (ql qc : Int) (s : ByteArray) (hs : s.size ≤ 1000000000) (w : World) : Calls Try.prog 14 #[.string s, posV ql qc] w fun e w' => e = .returned (.int .i64 (offF (ql, qc) (1, 1) s.data.toList : Nat)) ∧ Below w.heap.size w w' := by
  obtain ⟨n, hn⟩ : ∃ n, offF (ql, qc) (1, 1) s.data.toList = n := ⟨_, rfl⟩
  rw [hn]
  have HN0 := Lib.hid hn
  clear hn
  go_enter Try.func14, Try.ntmps14
  go_wp2
  go_loopg [5, 6, 7] (s.size) (fun j a b i wr => ∃ (k : Nat) (ln col : Int), j + k = s.size ∧ i = .int .i64 k ∧ a = .int .i64 ln ∧ b = .int .i64 col ∧ 0 ≤ ln ∧ ln ≤ k + 1 ∧ 0 ≤ col ∧ col ≤ k + 1 ∧ n = k + offF (ql, qc) (ln, col) (s.data.toList.drop k) ∧ wr = w.alloc (Obj.cells #[.int .i64 ql, .int .i64 qc] 25))
  case atStart => exact ⟨0, 1, 1, rfl, rfl, rfl, rfl, by omega, by omega, by omega, by omega, by rw [List.drop_zero, Nat.zero_add]; exact HN0.out.symm, rfl⟩
  case round =>
    obtain ⟨k, ln, col, hk, rfl, rfl, rfl, l0, l1, c0, c1, hg, rfl⟩ := hrel
    have HK := Lib.hid hk
    have HG := Lib.hid hg
    have hle : k ≤ s.size := by omega
    clear hk hg
    by_cases hlt : k < s.size
    · have hb := UInt8.toNat_lt s[k]
      have HD := Lib.hid (drop_cons hlt)
      by_cases he : ln = ql ∧ col = qc
      · have d1 : (ln == ql) = true := beq_iff_eq.2 he.1
        have d2 : (col == qc) = true := beq_iff_eq.2 he.2
        have HF := Lib.hid (show n = k by rw [HG.out, HD.out, offF_yes (by rw [he.1, he.2])]; rfl)
        clear he
        go_wp2
        (try rw [Exit.noGoto_ret])
        go_ret
        exact ⟨by rw [HF.out]; rfl, by go_grown⟩
      · have HS := Lib.hid (show n = k + (offF (ql, qc) (plStep (ln, col) s[k]) (s.data.toList.drop (k + 1)) + 1) by
          rw [HG.out, HD.out, offF_no (fun e => he ⟨congrArg Prod.fst e, congrArg Prod.snd e⟩)])
        have hl : (ln == ql) = false ∨ (ln == ql) = true ∧ (col == qc) = false := by
          by_cases h1 : ln = ql
          · exact Or.inr ⟨beq_iff_eq.2 h1, beq_eq_false_iff_ne.2 fun h2 => he ⟨h1, h2⟩⟩
          · exact Or.inl (beq_eq_false_iff_ne.2 h1)
        clear he
        by_cases c10 : s[k].toNat = 10
        · have d10 : ((s[k].toNat : Int) == 10) = true := beq_iff_eq.2 (by omega)
          have HT := Lib.hid (show n = (k + 1 : Nat) + offF (ql, qc) (ln + 1, 1) (s.data.toList.drop (k + 1)) by
            have e : plStep (ln, col) s[k] = (ln + 1, 1) := by unfold plStep; rw [if_pos (UInt8.toNat_inj.1 c10)]
            rw [HS.out, e]; omega)
          clear c10
          rcases hl with h1 | ⟨h1, h2⟩
          · go_wp2
            go_roundg (s.size - (k + 1))
            case measure => have := HK.out; omega
            case rel => exact ⟨k + 1, ln + 1, 1, by omega, by go_num, by go_num, rfl, by omega, by omega, by omega, by omega, HT.out, rfl⟩
          · go_wp2
            go_roundg (s.size - (k + 1))
            case measure => have := HK.out; omega
            case rel => exact ⟨k + 1, ln + 1, 1, by omega, by go_num, by go_num, rfl, by omega, by omega, by omega, by omega, HT.out, rfl⟩
        · have d10 : ((s[k].toNat : Int) == 10) = false := beq_eq_false_iff_ne.2 (by omega)
          have HT := Lib.hid (show n = (k + 1 : Nat) + offF (ql, qc) (ln, col + 1) (s.data.toList.drop (k + 1)) by
            have e : plStep (ln, col) s[k] = (ln, col + 1) := by unfold plStep; rw [if_neg (fun e => c10 (by rw [e]; rfl))]
            rw [HS.out, e]; omega)
          clear c10
          rcases hl with h1 | ⟨h1, h2⟩
          · go_wp2
            go_roundg (s.size - (k + 1))
            case measure => have := HK.out; omega
            case rel => exact ⟨k + 1, ln, col + 1, by omega, by go_num, rfl, by go_num, by omega, by omega, by omega, by omega, HT.out, rfl⟩
          · go_wp2
            go_roundg (s.size - (k + 1))
            case measure => have := HK.out; omega
            case rel => exact ⟨k + 1, ln, col + 1, by omega, by go_num, rfl, by go_num, by omega, by omega, by omega, by omega, HT.out, rfl⟩
    · have HF := Lib.hid (show n = k by rw [HG.out, drop_end hlt]; rfl)
      have hke : k = s.size := by omega
      go_wp2
      (try rw [Exit.noGoto_ret])
      go_ret
      exact ⟨by rw [HF.out, hke]; rfl, by go_grown⟩
end Go.Proofs.Ytigidagcpjmjnaa.Lx
