/-
  CONTRACTS: rows of numbers, of texts that are the same; whether a spool may have that room.
-/
import Derived.Test.YtolfldjiejeboaaChecked
import Derived.Test.YtolfldjiejeboaaRowI
import Derived.Deep.LoopGhost
import Derived.Handy
import Derived.Lib.Hide
import Derived.Deep.QuietTactic
import Derived.BigQuiet
import Derived.RegionTactic
import Derived.StillTailTactics
import Derived.Test.YtolfldjiejeboaaKept
namespace Go.Proofs.Ytolfldjiejeboaa.Sp
open Go.RowKit Mm
set_option linter.unusedVariables false
set_option linter.unusedSimpArgs false
theorem own_reads {w : World} {B : Nat} {e : TypeId} {b : Option Addr} {c n : Nat} {V : Nat → Value} (h : w.ownsRow B e 1 (.slice b n c) n (vals V 0 n)) : ReadsV w w.heap.size b n V := by
  intro i hi
  obtain ⟨g, rfl, _, hg, _, hc⟩ := own_at h (by omega)
  refine ⟨_, rfl, hg, ?_⟩
  have e : ((⟨g, 0, none⟩ : Addr).add i) = ⟨g, i, none⟩ := by
    simp [Addr.add]
    try (intro e; exact e.symm)
  rw [e, hc i (by omega), vals_get V n 0 i hi, Nat.zero_add]
theorem Kept.drewN {X : Nat → Prop} {w w' : World} (h : Kept X w w') (n : Nat) : Kept X w (w'.drewN n) := ⟨h.os, h.tape, h.output, h.size, h.block⟩
abbrev none0 : Nat → Prop := fun _ => False
theorem ReadsV.kept {X : Nat → Prop} {w w' : World} {B : Nat} {v : Option Addr} {n : Nat} {V : Nat → Value} (h : ReadsV w B v n V) (k : Kept none0 w w') : ReadsV w' B v n V := by
  intro i hi
  obtain ⟨ad, h1, h2, h3⟩ := h i hi
  exact ⟨ad, h1, h2, k.cell h3 (fun h => h)⟩
theorem samei_any {a b : Option Addr} {n c c' : Nat} {f : Nat → Int} (w : World) (hn : n ≤ 9223372036854775807) (ha : ReadsV w w.heap.size a n (intV f)) (hb : ReadsV w w.heap.size b n (intV f)) :
    Calls Try.prog 16 #[.slice a n c, .slice b n c'] w fun e w' => e = .returned (.bool true) ∧ Kept none0 w w' := by
  go_enter Try.func16, Try.ntmps16
  go_wp2_with fail
  go_loopg [5] n (fun d i wr => ∃ k : Nat, k + d = n ∧ i = .int .i64 k ∧ Kept none0 w wr)
  case atStart => exact ⟨0, by omega, rfl, .refl _ _⟩
  case round =>
    obtain ⟨k, hk, rfl, hkp⟩ := hrel
    have HK := Lib.hid hk
    have hle : k ≤ n := by omega
    clear hk
    by_cases hlt : k < n
    · have hlt' : (k : Int) < n := by omega
      obtain ⟨ad, rfl, had, c0⟩ := (ha.kept (X := none0) hkp) k hlt
      obtain ⟨bd, rfl, hbd, d0⟩ := (hb.kept (X := none0) hkp) k hlt
      replace c0 : wr.cell? (ad.add k) = some (.int .i64 (f k)) := c0
      obtain ⟨y, hy⟩ : ∃ y, f k = y := ⟨_, rfl⟩
      replace d0 : wr.cell? (bd.add k) = some (.int .i64 y) := by rw [← hy]; exact d0
      have e0 : (f k != y) = false := by simp [hy]
      clear hy
      clear ha hb
      go_wp2_with fail
      go_quiet (fail)
      go_wp2_with fail
      go_roundg (n - (k + 1))
      case measure => have := HK.out; omega
      case rel => exact ⟨k + 1, by have := HK.out; omega, by go_num, hkp.drewN _⟩
    · have hge : ¬ (k : Int) < n := by omega
      clear hlt ha hb
      go_wp2
      go_ret
      exact ⟨rfl, hkp⟩
theorem samet_any {a b : Option Addr} {n c c' : Nat} {f : Nat → ByteArray} (w : World) (hn : n ≤ 9223372036854775807) (ha : ReadsV w w.heap.size a n (strV f)) (hb : ReadsV w w.heap.size b n (strV f)) :
    Calls Try.prog 25 #[.slice a n c, .slice b n c'] w fun e w' => e = .returned (.bool true) ∧ Kept none0 w w' := by
  go_enter Try.func25, Try.ntmps25
  go_wp2_with fail
  go_loopg [5] n (fun d i wr => ∃ k : Nat, k + d = n ∧ i = .int .i64 k ∧ Kept none0 w wr)
  case atStart => exact ⟨0, by omega, rfl, .refl _ _⟩
  case round =>
    obtain ⟨k, hk, rfl, hkp⟩ := hrel
    have HK := Lib.hid hk
    have hle : k ≤ n := by omega
    clear hk
    by_cases hlt : k < n
    · have hlt' : (k : Int) < n := by omega
      obtain ⟨ad, rfl, had, c0⟩ := (ha.kept (X := none0) hkp) k hlt
      obtain ⟨bd, rfl, hbd, d0⟩ := (hb.kept (X := none0) hkp) k hlt
      replace c0 : wr.cell? (ad.add k) = some (.string (f k)) := c0
      obtain ⟨y, hy⟩ : ∃ y, f k = y := ⟨_, rfl⟩
      replace d0 : wr.cell? (bd.add k) = some (.string y) := by rw [← hy]; exact d0
      have e0 : ((f k).toList == y.toList) = true := by rw [hy]; exact beq_self_eq_true _
      have e1 : ((f k).toList != y.toList) = false := by simp [hy]
      clear hy
      clear ha hb
      go_wp2_with fail
      go_quiet (fail)
      go_wp2_with fail
      go_roundg (n - (k + 1))
      case measure => have := HK.out; omega
      case rel => exact ⟨k + 1, by have := HK.out; omega, by go_num, hkp.drewN _⟩
    · have hge : ¬ (k : Int) < n := by omega
      clear hlt ha hb
      go_wp2
      go_ret
      exact ⟨rfl, hkp⟩
theorem right_yes (n : Nat) (hn : n ≤ 1024) (w : World) : Calls Try.prog 9 #[.int .i64 n] w fun e w' => e = .returned (.bool true) ∧ w = w' := by
  have a1 : 0 ≤ (n : Int) := by omega
  have a2 : (n : Int) ≤ 1024 := by omega
  go_enter Try.func9, Try.ntmps9
  go_wp2
  all_goals (go_ret; exact ⟨rfl, rfl⟩)
theorem right_no (n : Int) (hn : n < 0 ∨ 1024 < n) (w : World) : Calls Try.prog 9 #[.int .i64 n] w fun e w' => e = .returned (.bool false) ∧ w = w' := by
  by_cases h0 : n < 0
  · go_enter Try.func9, Try.ntmps9
    go_wp2
    all_goals (go_ret; exact ⟨rfl, rfl⟩)
  · have h1 : ¬ n ≤ 1024 := by omega
    clear hn
    go_enter Try.func9, Try.ntmps9
    go_wp2
    all_goals (go_ret; exact ⟨rfl, rfl⟩)
end Go.Proofs.Ytolfldjiejeboaa.Sp
