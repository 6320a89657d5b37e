/-
  CONTRACTS of layer spool, of texts: what a spool tells; whether New gave it; how one is closed.
-/
import Derived.Test.YtggeafmbemmbpaaChecked
import Derived.Test.YtggeafmbemmbpaaKept
import Derived.Handy
import Derived.WalkSpells
import Derived.WalkLawsBesides
import Derived.Outline
import Derived.LaidEqlPtr
namespace Go.Proofs.Ytggeafmbemmbpaa.Ss
open Go.RowKit Go.Conc Mm Ln Sp
set_option linter.unusedVariables false
set_option linter.unusedSimpArgs false
abbrev TI : TypeId := 67

abbrev PI : TypeId := 50
theorem TTI : (Try.prog.info? 67).map (fun i => (i.zero, i.size, i.bytes)) = some (some (.agg #[.chan none, .bool false, .pointer none]), 3, 24) := by kernel_rfl
theorem eql_nil_left {P : Program} (w : World) {tp te : TypeId} (a : Addr) (hp : P.underlying tp = some (.pointer te)) : (binOp .eql tp (.pointer none) (.pointer (some a))).run P w = .ok (.bool false) w := by
  have h : ∀ d : Nat, (Op.equalIn (d + 1) tp (.pointer none) (.pointer (some a))).run P w = .ok false w := fun d => by
    simp [Op.equalIn, run_underlying hp]
  simp only [binOp]
  simp [Op.equal, Op.maxDepth, h 9999]
theorem _root_.Go.Proofs.Ytggeafmbemmbpaa.Sp.Spool.cellz {w : World} {T : TypeId} {p c room : Nat} {buf : List Value} {shut : Bool} (h : Spool w T p c room buf shut) :
    w.cell? ⟨p, 0, none⟩ = some (.chan (some c)) ∧ w.cell? ⟨p, 1, none⟩ = some (.bool shut) ∧ w.cell? ⟨p, 2, none⟩ = some (.pointer (some ⟨p, 0, none⟩)) :=
  ⟨h.box.cell 0, h.box.cell 1, h.box.cell 2⟩
theorem given_any {p c room : Nat} {buf : List Value} {shut : Bool} (w : World) (h : Spool w TI p c room buf shut) : Calls Try.prog 32 #[.pointer (some ⟨p, 0, none⟩)] w fun e w' => e = .returned (.bool true) ∧ w = w' := by
  obtain ⟨h0, h1, h2⟩ := h.cellz
  clear h
  obtain ⟨i0, hi, hz0, hz1, hz2'⟩ := info_parts TTI
  have he := run_eql_ptr_same (P := Try.prog) w ⟨p, 0, none⟩ Try.underlying50 hi
  go_enter Try.func32, Try.ntmps32
  go_wp2
  all_goals (go_ret; exact ⟨rfl, rfl⟩)
theorem open_any {p c room : Nat} {buf : List Value} {shut : Bool} (w : World) (h : Spool w TI p c room buf shut) : Calls Try.prog 31 #[.pointer (some ⟨p, 0, none⟩)] w fun e w' => e = .returned (.bool (!shut)) ∧ w = w' := by
  have hg := given_any w h
  obtain ⟨h0, h1, h2⟩ := h.cellz
  clear h
  go_enter Try.func31, Try.ntmps31
  go_wp2_with (go_at_call 32; refine hg.mono ?_; rintro e w' ⟨rfl, rfl⟩)
  all_goals (go_ret; exact ⟨rfl, rfl⟩)
theorem len_any {p c room : Nat} {buf : List Value} {shut : Bool} (w : World) (h : Spool w TI p c room buf shut) : Calls Try.prog 24 #[.pointer (some ⟨p, 0, none⟩)] w fun e w' => e = .returned (.int .i64 buf.length) ∧ w = w' := by
  have hg := given_any w h
  obtain ⟨h0, h1, h2⟩ := h.cellz
  obtain ⟨s, r, hc⟩ := h.chan
  have hlen := fun ty => run_len_chan (P := Try.prog) 65 ty Try.underlying65 hc
  clear h hc
  go_enter Try.func24, Try.ntmps24
  go_wp2_with (go_at_call 32; refine hg.mono ?_; rintro e w' ⟨rfl, rfl⟩)
  all_goals (go_ret; exact ⟨by simp [goInt], rfl⟩)
end Go.Proofs.Ytggeafmbemmbpaa.Ss
