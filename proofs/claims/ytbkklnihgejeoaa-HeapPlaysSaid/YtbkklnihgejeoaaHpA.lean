/-
  CONTRACTS of layer heap: a heap in memory; given, at.
-/
import Derived.Test.YtbkklnihgejeoaaHpMath
import Derived.Test.YtbkklnihgejeoaaUnK
import Derived.Test.YtbkklnihgejeoaaBoxes7
import Derived.Test.YtbkklnihgejeoaaStillQ
import Derived.Test.YtbkklnihgejeoaaChecked
import Derived.Handy
import Derived.Lib.Hide
import Derived.WalkSpells
import Derived.WalkLawsBesides
import Derived.Outline
import Derived.Deep.QuietTactic
import Derived.BigQuiet
import Derived.Deep.RegionHeld3
import Derived.Deep.RegionWith
import Derived.RegionTactic
import Derived.BigRegion
import Derived.IntWalk
import Derived.StillTailTactics
import Derived.Maps.AppendAt
import Derived.Deep.LoopGhost
import Derived.Carry
import Derived.LaidEqlPtr
namespace Go.Proofs.Ytbkklnihgejeoaa.Hp
open Go.RowKit Mm Tm
set_option linter.unusedVariables false
set_option linter.unusedSimpArgs false
abbrev TH : TypeId := 61
abbrev TC : TypeId := 72
abbrev TR : TypeId := 82
abbrev TI : TypeId := 3
abbrev TN : TypeId := 37
/-- where what nodes point to is kept -/
def ZL (B : Nat) (X : Nat → Prop) (w : World) (b : Nat) : Prop := B ≤ b ∧ TyB TI w b ∧ ¬ X b
/-- a cell's own cells -/
structure CellM (B : Nat) (X : Nat → Prop) (w : World) (p : Nat) (o : Nat) (is : Nat) (x : Nd) : Prop where
  mark : w.cell? ⟨p, o + 3, none⟩ = some (.int .u8 is)
  node : is ≠ 0 → ∃ a c, w.cell? ⟨p, o, none⟩ = some (.int .i64 x.tag) ∧ w.cell? ⟨p, o + 1, none⟩ = some (.int .i64 x.n) ∧ w.cell? ⟨p, o + 2, none⟩ = some (.slice a x.l.length c) ∧ RdI (ZL B X w) w a x.l ∧ (x.l.length * 8 ≤ 140737488355328 ∧ (a = none → c = 0))
/-- a heap's pages -/
structure Pages (B : Nat) (w : World) (v : Value) (n : Nat) (pb : Nat → Nat) : Prop where
  own : w.ownsRow B TR 1 v n ((List.range n).map fun k => .slice (some ⟨pb k, 0, none⟩) 256 256)
  page : ∀ k, k < n → B ≤ pb k ∧ ∃ cs, Box w (pb k) TC cs ∧ cs.size = 1024
  apart : ∀ i j, i < n → j < n → pb i = pb j → i = j
/-- a heap in memory: in blocks from B on; X: blocks of numbers that are not its own -/
structure HpM (B : Nat) (X : Nat → Prop) (w : World) (h : Nat) (S : Hs) (v : Value) (n : Nat) (pb : Nat → Nat) : Prop where
  base : B ≤ h
  box : Box w h TH #[v, .int .i64 S.cap, .int .i64 S.used, .int .i64 S.least, .int .i64 S.live, .int .i64 S.allocs, .pointer (some ⟨h, 0, none⟩)]
  pages : Pages B w v n pb
  room : S.used ≤ n * 256
  cells : ∀ a, a < n * 256 → CellM B X w (pb (a / 256)) (a % 256 * 4) (S.is a) (S.nd a)
  few : n ≤ 65536
theorem Pages.row {B : Nat} {w : World} {v : Value} {n : Nat} {pb : Nat → Nat} (h : Pages B w v n pb) {k : Nat} (hk : k < n) : ∃ g c, v = .slice (some ⟨g, 0, none⟩) n c ∧ w.cell? ⟨g, k, none⟩ = some (.slice (some ⟨pb k, 0, none⟩) 256 256) := by
  obtain ⟨b, c, rfl⟩ := own_slice h.own
  obtain ⟨g, rfl, _, _, _, hc⟩ := own_at h.own (by omega)
  refine ⟨g, c, rfl, ?_⟩
  rw [hc k (by omega)]
  simp [hk]
theorem run_neq_ptr_same {P : Program} (w : World) {tp te : TypeId} {j : TypeInfo} (a : Addr) (hp : P.underlying tp = some (.pointer te)) (hte : P.info? te = some j) :
    (binOp .neq tp (.pointer (some a)) (.pointer (some a))).run P w = .ok (.bool false) w := by
  have h : ∀ d : Nat, (Op.equalIn (d + 1) tp (.pointer (some a)) (.pointer (some a))).run P w = .ok true w := fun d => by
    simp [Op.equalIn, run_underlying hp, sizeOf, typeInfo, hte, run_sameAddr_same]
  simp only [binOp]
  simp [Op.equal, Op.maxDepth, h 9999]
theorem infoH : (Try.prog.info? TH).map (fun i => (i.zero, i.size, i.bytes)) = some (some (.agg #[.slice none 0 0, .int .i64 0, .int .i64 0, .int .i64 0, .int .i64 0, .int .i64 0, .pointer none]), 7, 72) := by kernel_rfl
theorem infoC : (Try.prog.info? TC).map (fun i => (i.zero, i.size, i.bytes)) = some (some (.agg #[.int .i64 0, .int .i64 0, .slice none 0 0, .int .u8 0]), 4, 48) := by kernel_rfl
theorem infoR : (Try.prog.info? TR).map (fun i => (i.zero, i.size, i.bytes)) = some (some (.slice none 0 0), 1, 24) := by kernel_rfl
theorem infoI : (Try.prog.info? TI).map (fun i => (i.zero, i.size, i.bytes)) = some (some (.int .i64 0), 1, 8) := by kernel_rfl
theorem neq_self (h : Nat) (w : World) : (binOp .neq 23 (.pointer (some ⟨h, 0, none⟩)) (.pointer (some ⟨h, 0, none⟩))).run Try.prog w = .ok (.bool false) w := by
  obtain ⟨i0, hi, hz0, hz1, hz2⟩ := info_parts infoH
  exact run_neq_ptr_same w _ Try.underlying23 hi
def IsV (v : Value) (w : World) (e : Ending) (w' : World) : Prop := e = .returned v ∧ w = w'
theorem given_any {v : Value} {c0 c1 c2 c3 c4 : Int} {h : Nat} (w : World) (hx : Box w h TH #[v, .int .i64 c0, .int .i64 c1, .int .i64 c2, .int .i64 c3, .int .i64 c4, .pointer (some ⟨h, 0, none⟩)]) :
    Calls Try.prog 28 #[.pointer (some ⟨h, 0, none⟩)] w (IsV (.pointer (some ⟨h, 0, none⟩)) w) := by
  obtain ⟨x0, x1, x2, x3, x4, x5, x6⟩ := hx.cells7
  have HN := neq_self h
  clear hx
  go_enter Try.func28, Try.ntmps28
  go_wp2_with fail
  go_ret
  exact ⟨rfl, rfl⟩
abbrev zeroH : Array Value := #[.slice none 0 0, .int .i64 0, .int .i64 0, .int .i64 0, .int .i64 0, .int .i64 0, .pointer none]
theorem given_nil (w : World) : Calls Try.prog 28 #[.pointer none] w (IsV (.pointer (some ⟨w.heap.size, 0, none⟩)) (w.alloc (.cells zeroH TH))) := by
  go_enter Try.func28, Try.ntmps28
  go_wp2_with fail
  go_ret
  exact ⟨rfl, rfl⟩
theorem at_any {B : Nat} {X : Nat → Prop} {h : Nat} {S : Hs} {v : Value} {n : Nat} {pb : Nat → Nat} (w : World) (hm : HpM B X w h S v n pb) (a : Nat) (ha : a < n * 256) :
    Calls Try.prog 32 #[.pointer (some ⟨h, 0, none⟩), .int .i64 a] w (IsV (.pointer (some ⟨pb (a / 256), a % 256 * 4, none⟩)) w) := by
  have hk : a / 256 < n := by omega
  obtain ⟨g, c, rfl, hg⟩ := hm.pages.row hk
  obtain ⟨x0, x1, x2, x3, x4, x5, x6⟩ := hm.box.cells7
  have hn := hm.few
  have ha2 : a ≤ 16777216 := by omega
  clear hm x1 x2 x3 x4 x5 x6
  go_enter Try.func32, Try.ntmps32
  go_wp2_with fail
  go_ret
  exact ⟨rfl, rfl⟩
end Go.Proofs.Ytbkklnihgejeoaa.Hp
