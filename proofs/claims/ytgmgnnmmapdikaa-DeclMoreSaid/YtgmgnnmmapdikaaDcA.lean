/-
  CONTRACTS of layer decl: places.
-/
import Derived.Test.YtgmgnnmmapdikaaTyMem
import Derived.Test.YtgmgnnmmapdikaaMapV
import Derived.Test.YtgmgnnmmapdikaaChecked
import Derived.Handy
import Derived.Lib.Hide
import Derived.WalkSpells
import Derived.WalkLawsBesides
import Derived.Outline
import Derived.Deep.QuietTactic
import Derived.BigQuiet
import Derived.Deep.RegionHeld3
import Derived.Deep.RegionWith
import Derived.RegionTactic
import Derived.BigRegion
import Derived.IntWalk
import Derived.StillTailTactics
import Derived.Maps.AppendAt
import Derived.Deep.LoopGhost
import Derived.StringKeys
import Derived.Carry
namespace Go.Proofs.Ytgmgnnmmapdikaa.Dc
open Go.RowKit Mm Tm Mv Go.Maps Go.ChangeMaps Go.MapKept Go.WideMaps
set_option linter.unusedVariables false
set_option linter.unusedSimpArgs false
abbrev TS : TypeId := 9
abbrev TT : TypeId := 50
theorem keyS : Keyed Try.prog TS := string_keyed Try.underlying9
theorem key_of {s : ByteArray} (h : s.size ≤ 9223372036854775807) : keyOf Try.prog TS (.string s) = some (.string s.data.toList) := keyOf_string_mk Try.underlying9 (by unfold maxLen; exact h)
/-- texts that are read, in blocks of Z -/
def RdS (Z : Nat → Prop) (w : World) (a : Option Addr) (l : List ByteArray) : Prop := ∀ (i : Nat) s, l[i]? = some s → ∃ ad, a = some ad ∧ Z ad.block ∧ w.cell? (ad.add i) = some (.string s) ∧ s.size ≤ 9223372036854775807
theorem RdS.frame {Z Z' : Nat → Prop} {w w' : World} {a : Option Addr} {l : List ByteArray} (h : RdS Z w a l) (ha : ∀ ad : Addr, Z ad.block → w'.cell? ad = w.cell? ad) (hz : ∀ b, Z b → Z' b) : RdS Z' w' a l := fun i s hs => by
  obtain ⟨ad, h1, h2, h3, h4⟩ := h i s hs
  exact ⟨ad, h1, hz _ h2, by rw [ha _ (by rw [add_block]; exact h2)]; exact h3, h4⟩
theorem RdS.below {Z : Nat → Prop} {B : Nat} {w w' : World} {a : Option Addr} {l : List ByteArray} (h : RdS Z w a l) (hb : Below B w w') (hz : ∀ b, Z b → b < B) : RdS Z w' a l :=
  h.frame (fun ad hZ => hb.cell (hz _ hZ)) fun _ h => h
/-- at which place each of some names stands (the last one, if it stands twice) -/
def placeF (l : List ByteArray) : FM := l.zipIdx.foldl (fun F p => updF F p.1.data.toList (.int .i64 p.2)) fun _ => none
theorem placeF_snoc (l : List ByteArray) (x : ByteArray) : placeF (l ++ [x]) = updF (placeF l) x.data.toList (.int .i64 l.length) := by
  unfold placeF
  rw [List.zipIdx_append, List.foldl_append]
  simp
theorem placeF_int (l : List ByteArray) (s : List UInt8) : ∃ n : Int, (placeF l s).getD (.int .i64 0) = .int .i64 n := by
  unfold placeF
  have : ∀ (m : List (ByteArray × Nat)) (F : FM), (∃ n : Int, (F s).getD (.int .i64 0) = .int .i64 n) → ∃ n : Int, ((m.foldl (fun F p => updF F p.1.data.toList (.int .i64 p.2)) F) s).getD (.int .i64 0) = .int .i64 n := by
    intro m
    induction m with
    | nil => intro F h; exact h
    | cons p m ih =>
      intro F h
      refine ih _ ?_
      show ∃ n : Int, (updF F p.1.data.toList (.int .i64 p.2) s).getD (.int .i64 0) = .int .i64 n
      unfold updF
      split
      · exact ⟨_, rfl⟩
      · exact h
  exact this _ _ ⟨0, rfl⟩
theorem bytes_eq {a b : ByteArray} (h : a.data.toList = b.data.toList) : a = b := by
  cases a; cases b
  simp only [ByteArray.mk.injEq]
  exact Array.toList_inj.1 h
theorem placeF_none (l : List ByteArray) (s : ByteArray) (h : s ∉ l) : placeF l s.data.toList = none := by
  unfold placeF
  have : ∀ (m : List (ByteArray × Nat)) (F : FM), (∀ p ∈ m, p.1 ≠ s) → F s.data.toList = none → (m.foldl (fun F p => updF F p.1.data.toList (.int .i64 p.2)) F) s.data.toList = none := by
    intro m
    induction m with
    | nil => intro F _ h; exact h
    | cons p m ih =>
      intro F hp hF
      refine ih _ (fun q hq => hp q (by simp [hq])) ?_
      show updF F p.1.data.toList (.int .i64 p.2) s.data.toList = none
      unfold updF
      rw [if_neg (fun e => hp p (by simp) (bytes_eq e.symm))]
      exact hF
  refine this _ _ (fun p hp e => h ?_) rfl
  have := List.mem_map_of_mem (f := Prod.fst) hp
  rw [List.zipIdx_map_fst] at this
  exact e ▸ this
def PlacesPost (l : List ByteArray) (w : World) (e : Ending) (w' : World) : Prop := ∃ b, e = .returned (.map (some b)) ∧ w.heap.size ≤ b ∧ MapIs w' Try.prog TS b l.length (placeF l) ∧ Below w.heap.size w w' ∧ (l.Nodup → ∀ ty, (Builtin.len_ #[58] ty #[.map (some b)]).run Try.prog w' = .ok (.int .i64 l.length) w')
set_option maxRecDepth 100000 in
theorem places_any {a : Option Addr} {c : Nat} {l : List ByteArray} (w : World) (h : RdS (· < w.heap.size) w a l) (hl : l.length ≤ 1000) : Calls Try.prog 17 #[.slice a l.length c] w (PlacesPost l w) := by
  have H := Lib.hid h
  have hmm := @run_makeMap Try.prog
  clear h
  go_enter Try.func17, Try.ntmps17
  go_wp2_with fail
  go_loopg [9] l.length (fun d v wr => ∃ k : Nat, k + d = l.length ∧ v = .int .i64 k ∧ (∃ m, MapC wr Try.prog TS w.heap.size k (placeF (l.take k)) m ∧ ((l.take k).Nodup → m = k)) ∧ Below w.heap.size w wr)
  case atStart => exact ⟨0, by omega, rfl, ⟨0, by rw [List.take_zero]; exact MapC.made w _ _, fun _ => rfl⟩, (Below.refl _ _).alloc (Nat.le_refl _) _⟩
  case round =>
    obtain ⟨k, hk, rfl, ⟨m, hm, hmk⟩, hb⟩ := hrel
    have HK := Lib.hid hk
    have HM := Lib.hid hm
    have HMK := Lib.hid hmk
    have HB := Lib.hid hb
    have hkle : k ≤ l.length := by omega
    clear hk hm hmk hb
    by_cases hlt : k < l.length
    · have hlt' : (k : Int) < l.length := by omega
      obtain ⟨ad, rfl, hz, c0, hs⟩ := H.out k l[k] (List.getElem?_eq_getElem hlt)
      replace c0 : wr.cell? (ad.add k) = some (.string l[k]) := by rw [HB.out.cell (by rw [add_block]; exact hz)]; exact c0
      have HT := Lib.hid (show l.take (k + 1) = l.take k ++ [l[k]] by rw [List.take_add_one, List.getElem?_eq_getElem hlt]; rfl)
      have HTL := Lib.hid (show (l.take k).length = k by rw [List.length_take]; omega)
      generalize l[k] = s at c0 hs HT
      have HS := Lib.hid (key_of hs)
      clear hs hz
      go_wp2_with (at_mapUpdate; refine wpList_putc _ rfl _ _ _ 58 rfl TS 3 keyS Try.underlying58 w.heap.size k _ m rfl HM.out (by unfold maxLen; omega) _ _ _ rfl rfl HS.out ?_)
      intro w1 m1 hm1 hmc hg1
      have HM1 := Lib.hid (show ∃ m, MapC w1 Try.prog TS w.heap.size (k + 1) (placeF (l.take (k + 1))) m ∧ ((l.take (k + 1)).Nodup → m = k + 1) from ⟨_, by rw [HT.out, placeF_snoc, HTL.out]; exact hm1, fun hnd => by
        rw [HT.out, List.nodup_append] at hnd
        obtain ⟨q1, _, q3⟩ := hnd
        rw [hmc (placeF_none _ s (fun q => q3 s q s (by simp) rfl)), HMK.out q1]⟩)
      have HB1 := Lib.hid (HB.out.grown hg1 HB.out.size (fun q hq => by injection hq with hq; omega))
      clear hm1 hmc hg1
      go_wp2_with fail
      go_roundg (l.length - (k + 1))
      case measure => have := HK.out; omega
      case rel => exact ⟨k + 1, by have := HK.out; omega, by go_num, HM1.out, HB1.out⟩
    · have hge : ¬ (k : Int) < l.length := by omega
      have hkn : k = l.length := by omega
      have HM2 := Lib.hid (show MapC wr Try.prog TS w.heap.size l.length (placeF l) m by have := HM.out; rw [hkn, List.take_length] at this; exact this)
      have HN2 := Lib.hid (show l.Nodup → m = l.length by have := HMK.out; rw [hkn, List.take_length] at this; exact this)
      clear hkn
      go_wp2_with fail
      go_ret
      exact ⟨_, rfl, Nat.le_refl _, HM2.out.is, HB.out, fun hnd ty => by have := HM2.out.len Try.underlying58 ty; rwa [HN2.out hnd] at this⟩
end Go.Proofs.Ytgmgnnmmapdikaa.Dc
