/-
  The walk of 'changelinglaw02.LexBlanks', whole.
-/
import Derived.Test.YtigidagcpjmjnaaLexBlanksB
import Derived.Test.YtigidagcpjmjnaaLexBlanksC
namespace Go.Proofs.Ytigidagcpjmjnaa.LexBlanks
open Go.RowKit Lx
set_option linter.unusedVariables false
theorem law (s : ByteArray) (hs : s.size ≤ 9223372036854775807) (which : Int) (h1 : -9223372036854775808 ≤ which) (h2 : which ≤ 9223372036854775807) (kind : Int) (h3 : -9223372036854775808 ≤ kind) (h4 : kind ≤ 9223372036854775807) (w : World) : Calls Try.prog 6 #[.string s, .int .i64 which, .int .i64 kind] w fun e w' => e = .returned (.bool true) ∧ Below w.heap.size w w' := by
  obtain ⟨r, hr⟩ : ∃ r, lexed s.data.toList = r := ⟨_, rfl⟩
  by_cases ht : r.toks = []
  · exact blanks_none s hs which kind r hr ht w
  have he : r.err = 0 := by
    have := lexed_none s.data.toList
    rw [hr] at this
    exact Classical.byContradiction fun h => ht (this h)
  have hn : 0 < r.toks.length := List.length_pos_iff.2 ht
  by_cases hw : which < 0 ∨ (r.toks.length : Int) ≤ which
  · exact blanks_out s hs which kind r hr he _ rfl hn hw w
  obtain ⟨m, rfl⟩ := Int.eq_ofNat_of_zero_le (show 0 ≤ which by omega)
  by_cases hk1 : kind = 1
  · exact blanks_line s hs m kind hk1 r hr he _ rfl (by omega) w
  by_cases hk2 : kind = 2
  · exact blanks_rem s hs m kind hk2 r hr he _ rfl (by omega) w
  · exact blanks_one s hs m kind hk1 hk2 r hr he _ rfl (by omega) w
end Go.Proofs.Ytigidagcpjmjnaa.LexBlanks
