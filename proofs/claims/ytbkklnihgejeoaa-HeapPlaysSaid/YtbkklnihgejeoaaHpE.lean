/-
  CONTRACTS of layer heap: vacant.
-/
import Derived.Test.YtbkklnihgejeoaaHpD
import Derived.Deep.RegionLaw
import Derived.Deep.AppendLies
import Derived.OwnWalk
import Derived.Laws.OwnMore
import Derived.Deep.Cut
import Derived.Deep.Fields
namespace Go.Proofs.Ytbkklnihgejeoaa.Hp
open Go.RowKit Mm Tm
set_option linter.unusedVariables false
set_option linter.unusedSimpArgs false
theorem quietV {P : Program} {f : FuncId} {args : Array Value} {w : World} {n : Nat} {v : Value} (h : Calls P f args (w.drewN n) (IsV v (w.drewN n))) : Calls P f args (w.drewN n) fun e w'' => e = .returned v ∧ ∃ m, w'' = w.drewN m :=
  h.mono fun _ _ ⟨he, hm⟩ => ⟨he, n, hm.symm⟩
theorem kept_drewN (P : Nat → Prop) (w : World) (k : Nat) : Kept P w (w.drewN k) := ⟨rfl, rfl, rfl, Nat.le_refl _, fun _ _ _ => rfl⟩
section
variable {B : Nat} {X : Nat → Prop} {w w' : World} {h : Nat} {S S' : Hs} {v : Value} {n : Nat} {pb : Nat → Nat} {P : Nat → Prop}
theorem HpM.drewN (hm : HpM B X w h S v n pb) (k : Nat) : HpM B X (w.drewN k) h S v n pb :=
  hm.field (kept_drewN _ w k) hm.box hm.room rfl rfl
theorem HpM.drew (hm : HpM B X w h S v n pb) : HpM B X w.drew h S v n pb :=
  hm.field (Kept.drew (Kept.refl _ w)) hm.box hm.room rfl rfl
end
theorem kept_put {w w' : World} {h : Nat} (hk : Kept (fun b => b = h) w w') (j : Nat) (u : Value) : Kept (fun b => b = h) w (w'.setCell ⟨h, j, none⟩ u) := Kept.setCell (X := fun b => b = h) (a := ⟨h, j, none⟩) hk (fun _ => rfl) u
/-- while the least free cell is looked for -/
structure VacL (B : Nat) (X : Nat → Prop) (w : World) (h : Nat) (S : Hs) (v : Value) (n : Nat) (pb : Nat → Nat) (d : Nat) (wr : World) : Prop where
  mem : ∃ k, k + d = S.used ∧ (∀ a, a < k → S.is a ≠ 0) ∧ HpM B X wr h { S with least := k } v n pb
  kept : Kept (fun b => b = h) w wr
/-- behind the look -/
structure VacM (B : Nat) (X : Nat → Prop) (w : World) (h : Nat) (S : Hs) (v : Value) (n : Nat) (pb : Nat → Nat) (k : Nat) (wr : World) : Prop where
  vac : IsVac S k
  mem : HpM B X wr h { S with least := k } v n pb
  kept : Kept (fun b => b = h) w wr
def zeroC : Array Value := #[.int .i64 0, .int .i64 0, .slice none 0 0, .int .u8 0]
theorem news_new (w : World) (cs : Array Value) (t : TypeId) : ∀ j u, cs.toList[j]? = some u → (w.alloc (.cells cs t)).cell? ((⟨w.heap.size, 0, none⟩ : Addr).add j) = some u := by
  intro j u hj
  have e : ((⟨w.heap.size, 0, none⟩ : Addr).add j) = ⟨w.heap.size, j, none⟩ := by
    simp [Addr.add]
    try (intro e; omega)
  rw [e, (Box.new w cs t).cell j]
  simpa using hj
/-- the cells of a page that is new -/
def pageC : Array Value := madeCells zeroC 1024
theorem pageC_size : pageC.size = 1024 := size_madeCells _ _
theorem pageC_is (j : Nat) (hj : j < 256) : pageC[j * 4 + 3]? = some (.int .u8 0) := by
  have h1 : (j * 4 + 3) % 4 = 3 := by omega
  unfold pageC madeCells
  rw [Array.getElem?_map, Array.getElem?_range, if_pos (by omega)]
  show some (zeroC[(j * 4 + 3) % 4]!) = _
  rw [h1]
  rfl
theorem make_page (W : World) : (Instr.makeSlice 82 (.int .i64 256) (.int .i64 256)).run Try.prog W = .ok (.slice (some ⟨W.heap.size, 0, none⟩) 256 256) (W.alloc (.cells pageC TC)) := by
  obtain ⟨i0, hi, hz0, hz1, hz2⟩ := info_parts infoC
  have := run_make (P := Try.prog) W 82 TC i0 _ Try.underlying82 hi hz0 .i64 .i64 256 256 (by omega) (Int.le_refl _) (by rw [hz2]; omega) (by omega)
  rw [hz1] at this
  exact this
theorem fill_page {B : Nat} {X : Nat → Prop} {wr W1 w3 : World} {h : Nat} {S : Hs} {v u : Value} {n : Nat} {pb : Nat → Nat} {va : Option Addr} {vc : Nat} {cell : Array Value}
    (hm : HpM B X wr h { S with least := S.used } v n pb) (g : Good S) (hk : Kept (fun b => b = h) wr W1) (hv : v = .slice va n vc)
    (hgr : (((W1.alloc (.cells pageC TC)).alloc (.cells cell TR)).drew).grownBy w3 (.slice va n vc : Value).ownBlock) (hfull : ¬ S.used + 1 ≤ n * 256) (hcap : S.used + 1 ≤ 16777216)
    (hX4 : Box (w3.setCell ⟨h, 0, none⟩ u) h TH #[u, .int .i64 S.cap, .int .i64 ((S.used : Int) + 1), .int .i64 S.used, .int .i64 S.live, .int .i64 S.allocs, .pointer (some ⟨h, 0, none⟩)])
    (hO4 : (w3.setCell ⟨h, 0, none⟩ u).ownsRow B TR 1 u (n + 1) (((List.range n).map fun k => .slice (some ⟨pb k, 0, none⟩) 256 256) ++ [.slice (some ⟨W1.heap.size, 0, none⟩) 256 256])) :
    HpM B X (w3.setCell ⟨h, 0, none⟩ u) h { S with used := S.used + 1, least := S.used } u (n + 1) (upd pb n W1.heap.size) ∧ KH B wr (w3.setCell ⟨h, 0, none⟩ u) := by
  have hown : ∀ k, (.slice va n vc : Value).ownBlock = some k → TyB TR wr k ∧ B ≤ k := fun k hkk => by
    rcases hm.pages.own.2 with ⟨h2, _⟩ | ⟨q, cap, cur, h2, hq, hh, _⟩
    · rw [hv] at h2
      injection h2 with e1 e2 e3
      subst e1
      simp [Value.ownBlock] at hkk
    · rw [hv] at h2
      rw [h2] at hkk
      have : q = k := by simpa [Value.ownBlock] using hkk
      subst this
      exact ⟨⟨cur, hh⟩, hq⟩
  have hltW : h < W1.heap.size := Nat.lt_of_lt_of_le hm.box.lt hk.size
  have hK : Kept (fun b => b = h ∨ (TyB TR wr b ∧ B ≤ b)) wr (w3.setCell ⟨h, 0, none⟩ u) := by
    refine Kept.setCell ?_ (fun _ => .inl rfl) _
    refine Kept.grown ((((hk.mono (fun k _ e => .inl e)).alloc _).alloc _).drew) hgr (fun k hkk _ => .inr (hown k hkk))
  have hP : ∀ b, (b = h ∨ (TyB TR wr b ∧ B ≤ b)) → ¬ TyB TC wr b ∧ ¬ TyB TI wr b := by
    rintro b (rfl | ⟨⟨cs, hb⟩, _⟩)
    · exact ⟨(box_not hm.box _ rfl).1, (box_not hm.box _ rfl).2.2⟩
    · exact ⟨fun q => absurd (tyB_ne q hb) (by decide), fun q => absurd (tyB_ne q hb) (by decide)⟩
  have hpg : Box (w3.setCell ⟨h, 0, none⟩ u) W1.heap.size TC pageC := by
    refine Box.far ?_ (by show h ≠ W1.heap.size; omega) u
    refine Box.grown ((Box.new W1 pageC TC).alloc _).drew hgr ?_
    intro e
    have := (hown _ e.symm).1.lt
    have := hk.size
    omega
  have hold : ∀ k, k < n → upd pb n W1.heap.size k = pb k := fun k hk => upd_other _ _ (by omega)
  have hlow : ∀ k, k < n → pb k < W1.heap.size := fun k hkn => by
    obtain ⟨_, cs, hb, _⟩ := hm.pages.page k hkn
    exact Nat.lt_of_lt_of_le hb.lt hk.size
  have hpk : ∀ k, k < n → (w3.setCell ⟨h, 0, none⟩ u).heap[pb k]? = wr.heap[pb k]? := fun k hkn => by
    obtain ⟨_, cs, hb, _⟩ := hm.pages.page k hkn
    exact hK.block _ hb.lt (fun q => (hP _ q).1 ⟨cs, hb⟩)
  refine ⟨⟨hm.base, hX4, ⟨?_, fun k hkn => ?_, fun i j hi hj e => ?_⟩, ?_, fun a ha => ?_, by omega⟩, ?_⟩
  · have e : ((List.range (n + 1)).map fun k => Value.slice (some ⟨upd pb n W1.heap.size k, 0, none⟩) 256 256) = ((List.range n).map fun k => .slice (some ⟨pb k, 0, none⟩) 256 256) ++ [.slice (some ⟨W1.heap.size, 0, none⟩) 256 256] := by
      rw [List.range_succ, List.map_append, List.map_singleton, upd_same]
      congr 1
      refine List.map_congr_left fun k hkn => ?_
      rw [hold k (List.mem_range.1 hkn)]
    rw [e]
    exact hO4
  · by_cases e : k < n
    · rw [hold k e]
      obtain ⟨h1, cs, hb, h2⟩ := hm.pages.page k e
      exact ⟨h1, cs, (hpk k e).trans hb, h2⟩
    · obtain rfl : k = n := by omega
      rw [upd_same]
      exact ⟨Nat.le_trans hm.base (Nat.le_of_lt hltW), pageC, hpg, pageC_size⟩
  · by_cases ei : i < n <;> by_cases ej : j < n
    · rw [hold i ei, hold j ej] at e
      exact hm.pages.apart i j ei ej e
    · obtain rfl : j = n := by omega
      rw [hold i ei, upd_same] at e
      have := hlow i ei
      omega
    · obtain rfl : i = n := by omega
      rw [hold j ej, upd_same] at e
      have := hlow j ej
      omega
    · omega
  · show S.used + 1 ≤ (n + 1) * 256
    have := hm.room
    have : S.used ≤ n * 256 := this
    omega
  · show CellM B X _ (upd pb n W1.heap.size (a / 256)) (a % 256 * 4) (S.is a) (S.nd a)
    by_cases e : a < n * 256
    · rw [hold _ (by omega)]
      exact (hm.cells a e).keep hK (fun b q => (hP b q).2) (hpk _ (by omega))
    · have ha : a < (n + 1) * 256 := ha
      have e2 : a / 256 = n := Nat.le_antisymm (by clear hfull hcap; omega) (by clear hfull hcap; omega)
      rw [e2, upd_same]
      have hr : S.used ≤ n * 256 := hm.room
      have hz : S.is a = 0 := g.above a (by omega)
      rw [hz]
      refine ⟨?_, fun q => absurd rfl q⟩
      rw [hpg.cell]
      exact pageC_is _ (Nat.mod_lt _ (by omega))
  · exact Kept.mono hK fun k _ q => q.elim (fun e => ⟨by rw [e]; exact hm.base, .inr ⟨TH, .inl rfl, by rw [e]; exact ⟨_, hm.box⟩⟩⟩) fun e => ⟨e.2, .inr ⟨TR, .inr (.inr rfl), e.1⟩⟩
def VacP (B : Nat) (X : Nat → Prop) (w : World) (h : Nat) (S : Hs) (e : Ending) (w' : World) : Prop :=
  ∃ (k : Nat) (v' : Value) (n' : Nat) (pb' : Nat → Nat), e = .returned (.int .i64 k) ∧ IsVac S k ∧ HpM B X w' h { S with used := max S.used (k + 1), least := k } v' n' pb' ∧ KH B w w'
set_option maxRecDepth 100000 in
set_option maxHeartbeats 4000000 in
theorem vacant_any {B : Nat} {X : Nat → Prop} {h : Nat} {S : Hs} {v : Value} {n : Nat} {pb : Nat → Nat} (w : World) (hm : HpM B X w h S v n pb) (g : Good S) (hl : S.live < S.cap) :
    Calls Try.prog 36 #[.pointer (some ⟨h, 0, none⟩)] w (VacP B X w h S) := by
  have HM := Lib.hid hm
  have HG := Lib.hid g
  have hlim := g.lim
  have hfit := g.fits
  clear hm g
  go_enter Try.func36, Try.ntmps36
  go_wp2_with fail
  go_loopg [] (S.used - S.least) (fun d wr => VacL B X w h S v n pb d wr)
  case atStart => exact ⟨⟨S.least, by have := HG.out.least; omega, HG.out.below, HM.out⟩, Kept.refl _ _⟩
  case round =>
    obtain ⟨⟨k, hk, hbel, hm⟩, hkept⟩ := hrel
    have HMr := Lib.hid hm
    have HBel := Lib.hid hbel
    have HK := Lib.hid hkept
    have HD := Lib.hid hk
    have hkle : k ≤ S.used := by omega
    obtain ⟨b0, b1, b2, b3, b4, b5, b6⟩ := hm.box.cells7
    have f3 := hm.box.free 3
    have hroom := hm.room
    have hfew := hm.few
    simp only at b1 b2 b3 b4 b5 b6 hroom
    clear hm hbel hkept hk b0 b1 b4 b5 b6
    by_cases hlt : k < S.used
    · have q1 : decide (k < S.used) = true := decide_eq_true hlt
      have q2 : decide ((k : Int) < S.used) = true := decide_eq_true (by omega)
      have hcell := (HMr.out.cells k (by omega)).mark
      have HA := Lib.hid (fun m => at_any (wr.drewN m) (HMr.out.drewN m) k (by omega))
      generalize hs : S.is k = s at hcell
      have HS := Lib.hid hs
      clear hs
      by_cases h2 : s = 0
      · subst h2
        have q3 : ((k : Int) == (S.used : Int)) = false := by simpa using (show ¬ (k : Int) = S.used by omega)
        have q4 : decide (n * 256 < S.used) = false := decide_eq_false (by omega)
        have q5 : decide ((n : Int) * 256 < S.used) = false := decide_eq_false (by omega)
        have b0 := HMr.out.box.cell 0
        obtain ⟨va, vc, hvv⟩ := own_slice HMr.out.pages.own
        rw [hvv] at b0
        have HV := Lib.hid hvv
        clear hvv
        go_wp2_with fail
        go_quiet ((go_at_call 32; exact quietV (HA.out _)))
        go_wp2_with fail
        go_quiet (fail)
        go_wp2_with fail
        go_quiet (fail)
        go_wp2_with fail
        go_ret
        have e : ({ S with used := max S.used (k + 1), least := k } : Hs) = { S with least := k } := by rw [Nat.max_eq_left (by omega)]
        refine ⟨k, v, n, pb, rfl, ⟨hkle, HBel.out, HS.out⟩, ?_, ?_⟩
        · rw [e]; exact HMr.out.drewN _
        · exact kh_field HM.out (HK.out.trans (kept_drewN _ _ _))
      · have h2' : ((s : Int) != 0) = true := by simpa using (show ¬ (s : Int) = 0 by omega)
        have hne : S.is k ≠ 0 := by rw [HS.out]; exact h2
        have hroom' : S.used ≤ n * 256 := hroom
        have hb3 : Box (wr.setCell ⟨h, 3, none⟩ (.int .i64 ((k : Int) + 1))) h TH #[v, .int .i64 S.cap, .int .i64 S.used, .int .i64 ((k + 1 : Nat) : Int), .int .i64 S.live, .int .i64 S.allocs, .pointer (some ⟨h, 0, none⟩)] := HMr.out.box.put 3 _
        have HN3 := Lib.hid (fun m : Nat => (show HpM B X ((wr.drewN m).setCell ⟨h, 3, none⟩ (.int .i64 ((k : Int) + 1))) h { S with least := k + 1 } v n pb from HMr.out.field (kept_put (kept_drewN _ _ m) 3 _) hb3 hroom' rfl rfl))
        have HK3 := Lib.hid (fun m : Nat => (show Kept (fun b => b = h) w ((wr.drewN m).setCell ⟨h, 3, none⟩ (.int .i64 ((k : Int) + 1))) from kept_put (HK.out.trans (kept_drewN _ _ m)) 3 _))
        have HBel' := Lib.hid (show ∀ a, a < k + 1 → S.is a ≠ 0 from fun a ha => by
          by_cases e : a = k
          · rw [e]; exact hne
          · exact HBel.out a (by omega))
        clear hne hb3 hroom'
        go_wp2_with fail
        go_quiet ((go_at_call 32; exact quietV (HA.out _)))
        go_wp2_with fail
        go_roundg (S.used - (k + 1))
        case measure => have := HD.out; omega
        case rel => exact ⟨⟨k + 1, by omega, HBel'.out, HN3.out _⟩, HK3.out _⟩
    · have hge : ¬ (k : Int) < S.used := by omega
      obtain rfl : k = S.used := by omega
      have q3 : ((S.used : Int) == (S.used : Int)) = true := by simp
      have b0 := HMr.out.box.cell 0
      obtain ⟨va, vc, hvv⟩ := own_slice HMr.out.pages.own
      rw [hvv] at b0
      have HV := Lib.hid hvv
      have f2 := HMr.out.box.free 2
      clear hvv
      by_cases hfull : S.used + 1 ≤ n * 256
      · have q4 : decide (n * 256 < S.used + 1) = false := decide_eq_false (by omega)
        have q5 : decide ((n : Int) * 256 < S.used + 1) = false := decide_eq_false (by omega)
        go_wp2_with fail
        go_quiet (fail)
        go_wp2_with fail
        go_quiet (fail)
        go_wp2_with fail
        go_quiet (fail)
        go_wp2_with fail
        go_ret
        refine ⟨S.used, v, n, pb, rfl, ⟨Nat.le_refl _, HBel.out, HG.out.above _ (Nat.le_refl _)⟩, ?_, ?_⟩
        · rw [show max S.used (S.used + 1) = S.used + 1 by omega]
          refine HpM.drewN ?_ _
          exact HMr.out.field (kept_put (kept_drewN _ _ _) 2 _) (HMr.out.box.put 2 _) hfull rfl rfl
        · exact kh_field HM.out ((kept_put (HK.out.trans (kept_drewN _ _ _)) 2 _).trans (kept_drewN _ _ _))
      · have q4 : decide (n * 256 < S.used + 1) = true := decide_eq_true (by omega)
        have q5 : decide ((n : Int) * 256 < S.used + 1) = true := decide_eq_true (by omega)
        obtain ⟨j0, hj, hj0, hj1, hj2⟩ := info_parts infoR
        have hmk := make_page
        have HBX := Lib.hid (fun m : Nat => (show Box ((wr.drewN m).setCell ⟨h, 2, none⟩ (.int .i64 ((S.used : Int) + 1))) h TH #[.slice va n vc, .int .i64 S.cap, .int .i64 ((S.used : Int) + 1), .int .i64 S.used, .int .i64 S.live, .int .i64 S.allocs, .pointer (some ⟨h, 0, none⟩)] from by have := HMr.out.box.put 2 (.int .i64 ((S.used : Int) + 1)); rw [HV.out] at this; exact this))
        have HKP := Lib.hid (fun m : Nat => (show Kept (fun b => b = h) wr ((wr.drewN m).setCell ⟨h, 2, none⟩ (.int .i64 ((S.used : Int) + 1))) from kept_put (kept_drewN _ _ m) 2 _))
        have HMK := Lib.hid hmk
        have HJ := Lib.hid (And.intro hj (And.intro hj0 (And.intro hj1 hj2)))
        clear hmk hj hj0 hj1 hj2
        go_wp2_with fail
        go_quiet (fail)
        obtain ⟨n1, hn⟩ : ∃ m, m = nq := ⟨_, rfl⟩
        subst hn
        go_wp2_with fail
        go_quiet (fail)
        obtain ⟨n2, hn⟩ : ∃ m, m = nq := ⟨_, rfl⟩
        subst hn
        go_wp2_with fail
        go_quiet (fail)
        obtain ⟨n3, hn⟩ : ∃ m, m = nq := ⟨_, rfl⟩
        subst hn
        go_wp2_with fail
        obtain ⟨W1, hW1⟩ : ∃ W1, ((wr.drewN (n1 + n2)).setCell ⟨h, 2, none⟩ (.int .i64 ((S.used : Int) + 1))).drewN n3 = W1 := ⟨_, rfl⟩
        have hX1 : Box W1 h TH #[.slice va n vc, .int .i64 S.cap, .int .i64 ((S.used : Int) + 1), .int .i64 S.used, .int .i64 S.live, .int .i64 S.allocs, .pointer (some ⟨h, 0, none⟩)] := by rw [← hW1]; exact HBX.out _
        have hK1 : Kept (fun b => b = h) wr W1 := by rw [← hW1]; exact (HKP.out _).trans (kept_drewN _ _ _)
        have hO1 : W1.ownsRow B TR 1 (.slice va n vc) n ((List.range n).map fun k => .slice (some ⟨pb k, 0, none⟩) 256 256) := by
          have := (HMr.out.pages.keep hK1 (fun b q => ⟨(box_not HMr.out.box b q).1, (box_not HMr.out.box b q).2.1⟩)).own
          rw [HV.out] at this
          exact this
        have HCAP := Lib.hid (show S.used + 1 ≤ 16777216 from by
          have h1 := cnt_full S.used HBel.out
          have h2 := HG.out.live
          omega)
        have HX1 := Lib.hid hX1
        have HK1 := Lib.hid hK1
        have HO1 := Lib.hid hO1
        have HB := Lib.hid (show B ≤ W1.heap.size from Nat.le_trans HM.out.base (Nat.le_of_lt hX1.lt))
        have HNEWS := Lib.hid (show ∀ j u, [Value.slice (some ⟨W1.heap.size, 0, none⟩) 256 256][j]? = some u → ((W1.alloc (.cells pageC TC)).alloc (.cells #[.slice (some ⟨W1.heap.size, 0, none⟩) 256 256] TR)).cell? ((⟨W1.heap.size + 1, 0, none⟩ : Addr).add j) = some u from by
          have := news_new (W1.alloc (.cells pageC TC)) #[.slice (some ⟨W1.heap.size, 0, none⟩) 256 256] TR
          simpa using this)
        have hmk := HMK.out
        obtain ⟨hj, hj0, hj1, hj2⟩ := HJ.out
        have y0 := hX1.cell 0
        have y0' := hX1.free 0
        rw [hW1]
        have HW1 := Lib.hid hW1
        have zx := hX1.lt
        have HPG := Lib.hid (show Box ((W1.alloc (.cells pageC TC)).alloc (.cells #[.slice (some ⟨W1.heap.size, 0, none⟩) 256 256] TR)) W1.heap.size TC pageC from (Box.new W1 pageC TC).alloc _)
        clear hX1 hK1 hO1 hW1 b0 b2 b3 f2 f3
        go_region_law (refine step_append_lies _ ?_ (.tmp 62) (.tmp 64) 59 ?_ B TR j0 _ 1 24 Try.underlying59 hj hj0 hj1 hj2 rfl (by decide) (.slice va n vc) n ((List.range n).map fun k => .slice (some ⟨pb k, 0, none⟩) 256 256) ?_ (own_drew ((HO1.out.alloc _).alloc _)) ⟨W1.heap.size + 1, 0, none⟩ 1 1 [.slice (some ⟨W1.heap.size, 0, none⟩) 256 256] ?_ rfl ?_ ?_ (by decide) ?_ ?_ ?_ _ rfl ?_; exact rfl; exact rfl; exact rfl; exact rfl; exact HNEWS.out; (intro u hu; simp only [List.mem_cons, List.not_mem_nil, or_false] at hu; subst hu; rfl); (unfold maxLen; omega); omega; (simp; have := HB.out; omega); intro g5 c5 w3 hown hgrow hat hlt5; have hX3 := (((HX1.out.alloc (.cells pageC TC)).alloc (.cells #[.slice (some ⟨W1.heap.size, 0, none⟩) 256 256] TR)).drew).grown hgrow (own_ne HO1.out HX1.out (by decide)); have m3 := hX3.cell 0; have f3 := hX3.free 0; have HOWN := Lib.hid hown; have HGR := Lib.hid hgrow; have HX3 := Lib.hid hX3; clear hX3 hown hgrow hat hlt5)
        all_goals
          have hX4 : Box (w3.setCell ⟨h, 0, none⟩ (.slice (some ⟨g5, 0, none⟩) (n + 1) c5)) h TH #[.slice (some ⟨g5, 0, none⟩) (n + 1) c5, .int .i64 S.cap, .int .i64 ((S.used : Int) + 1), .int .i64 S.used, .int .i64 S.live, .int .i64 S.allocs, .pointer (some ⟨h, 0, none⟩)] := HX3.out.put 0 _
          have hO4 : (w3.setCell ⟨h, 0, none⟩ (.slice (some ⟨g5, 0, none⟩) (n + 1) c5)).ownsRow B TR 1 (.slice (some ⟨g5, 0, none⟩) (n + 1) c5) (n + 1) (((List.range n).map fun k => .slice (some ⟨pb k, 0, none⟩) 256 256) ++ [.slice (some ⟨W1.heap.size, 0, none⟩) 256 256]) := own_far HOWN.out HX3.out (by decide) 0 _
          have HE := Lib.hid (fill_page HMr.out HG.out HK1.out HV.out HGR.out hfull HCAP.out hX4 hO4)
          have a3 := hX4.cell 3
          clear hX4 hO4
          go_wp2_with fail
          go_ret
          obtain ⟨hE1, hE2⟩ := HE.out
          refine ⟨S.used, .slice (some ⟨g5, 0, none⟩) (n + 1) c5, n + 1, upd pb n W1.heap.size, rfl, ⟨Nat.le_refl _, HBel.out, HG.out.above _ (Nat.le_refl _)⟩, ?_, ?_⟩
          · rw [show max S.used (S.used + 1) = S.used + 1 by omega]
            exact hE1
          · exact (kh_field HM.out HK.out).trans hE2
end Go.Proofs.Ytbkklnihgejeoaa.Hp
