/-
  CONTRACTS of layer spool, of numbers: what a spool tells; whether New gave it; how one is closed.
-/
import Derived.Test.YtolfldjiejeboaaChecked
import Derived.Test.YtolfldjiejeboaaKept
import Derived.Handy
import Derived.WalkSpells
import Derived.WalkLawsBesides
import Derived.Outline
import Derived.LaidEqlPtr
namespace Go.Proofs.Ytolfldjiejeboaa.Sp
open Go.RowKit Go.Conc Mm Ln
set_option linter.unusedVariables false
set_option linter.unusedSimpArgs false
abbrev TI : TypeId := 61

abbrev PI : TypeId := 23
theorem TTI : (Try.prog.info? 61).map (fun i => (i.zero, i.size, i.bytes)) = some (some (.agg #[.chan none, .bool false, .pointer none]), 3, 24) := by kernel_rfl
theorem eql_nil_left {P : Program} (w : World) {tp te : TypeId} (a : Addr) (hp : P.underlying tp = some (.pointer te)) : (binOp .eql tp (.pointer none) (.pointer (some a))).run P w = .ok (.bool false) w := by
  have h : ∀ d : Nat, (Op.equalIn (d + 1) tp (.pointer none) (.pointer (some a))).run P w = .ok false w := fun d => by
    simp [Op.equalIn, run_underlying hp]
  simp only [binOp]
  simp [Op.equal, Op.maxDepth, h 9999]
theorem Spool.cells {w : World} {T : TypeId} {p c room : Nat} {buf : List Value} {shut : Bool} (h : Spool w T p c room buf shut) :
    w.cell? ⟨p, 0, none⟩ = some (.chan (some c)) ∧ w.cell? ⟨p, 1, none⟩ = some (.bool shut) ∧ w.cell? ⟨p, 2, none⟩ = some (.pointer (some ⟨p, 0, none⟩)) :=
  ⟨h.box.cell 0, h.box.cell 1, h.box.cell 2⟩
theorem given_any {p c room : Nat} {buf : List Value} {shut : Bool} (w : World) (h : Spool w TI p c room buf shut) : Calls Try.prog 30 #[.pointer (some ⟨p, 0, none⟩)] w fun e w' => e = .returned (.bool true) ∧ w = w' := by
  obtain ⟨h0, h1, h2⟩ := h.cells
  clear h
  obtain ⟨i0, hi, hz0, hz1, hz2'⟩ := info_parts TTI
  have he := run_eql_ptr_same (P := Try.prog) w ⟨p, 0, none⟩ Try.underlying23 hi
  go_enter Try.func30, Try.ntmps30
  go_wp2
  all_goals (go_ret; exact ⟨rfl, rfl⟩)
theorem given_nil (w : World) : Calls Try.prog 30 #[.pointer none] w fun e w' => e = .returned (.bool false) ∧ w = w' := by
  go_enter Try.func30, Try.ntmps30
  go_wp2
  all_goals (go_ret; exact ⟨rfl, rfl⟩)
theorem given_none (p : Nat) (w : World) (h2 : w.cell? ⟨p, 2, none⟩ = some (.pointer none)) : Calls Try.prog 30 #[.pointer (some ⟨p, 0, none⟩)] w fun e w' => e = .returned (.bool false) ∧ w = w' := by
  have he := eql_nil_left (P := Try.prog) w ⟨p, 0, none⟩ Try.underlying23
  go_enter Try.func30, Try.ntmps30
  go_wp2
  all_goals (go_ret; exact ⟨rfl, rfl⟩)
theorem open_any {p c room : Nat} {buf : List Value} {shut : Bool} (w : World) (h : Spool w TI p c room buf shut) : Calls Try.prog 28 #[.pointer (some ⟨p, 0, none⟩)] w fun e w' => e = .returned (.bool (!shut)) ∧ w = w' := by
  have hg := given_any w h
  obtain ⟨h0, h1, h2⟩ := h.cells
  clear h
  go_enter Try.func28, Try.ntmps28
  go_wp2_with (go_at_call 30; refine hg.mono ?_; rintro e w' ⟨rfl, rfl⟩)
  all_goals (go_ret; exact ⟨rfl, rfl⟩)
theorem len_any {p c room : Nat} {buf : List Value} {shut : Bool} (w : World) (h : Spool w TI p c room buf shut) : Calls Try.prog 27 #[.pointer (some ⟨p, 0, none⟩)] w fun e w' => e = .returned (.int .i64 buf.length) ∧ w = w' := by
  have hg := given_any w h
  obtain ⟨h0, h1, h2⟩ := h.cells
  obtain ⟨s, r, hc⟩ := h.chan
  have hlen := fun ty => run_len_chan (P := Try.prog) 59 ty Try.underlying59 hc
  clear h hc
  go_enter Try.func27, Try.ntmps27
  go_wp2_with (go_at_call 30; refine hg.mono ?_; rintro e w' ⟨rfl, rfl⟩)
  all_goals (go_ret; exact ⟨by simp [goInt], rfl⟩)
theorem room_any {p c room : Nat} {buf : List Value} {shut : Bool} (w : World) (h : Spool w TI p c room buf shut) : Calls Try.prog 29 #[.pointer (some ⟨p, 0, none⟩)] w fun e w' => e = .returned (.int .i64 room) ∧ w = w' := by
  have hg := given_any w h
  obtain ⟨h0, h1, h2⟩ := h.cells
  obtain ⟨s, r, hc⟩ := h.chan
  have hcap := fun ty => run_cap_chan (P := Try.prog) 59 ty Try.underlying59 hc
  clear h hc
  go_enter Try.func29, Try.ntmps29
  go_wp2_with (go_at_call 30; refine hg.mono ?_; rintro e w' ⟨rfl, rfl⟩)
  all_goals (go_ret; exact ⟨by simp [goInt], rfl⟩)
end Go.Proofs.Ytolfldjiejeboaa.Sp
