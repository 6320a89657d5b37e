/-
  CONTRACTS of layer spool, of numbers: a spool is drained.
-/
import Derived.Test.YtolfldjiejeboaaSpMine
import Derived.Deep.LoopGhost
import Derived.OwnWalk
namespace Go.Proofs.Ytolfldjiejeboaa.Sp
open Go.RowKit Go.Conc Mm Ln
set_option linter.unusedVariables false
set_option linter.unusedSimpArgs false
theorem news1 (Y : World) (v0 : Value) (t : TypeId) : ∀ (j : Nat) u, [v0][j]? = some u → (Y.alloc (.cells #[v0] t)).cell? ((⟨Y.heap.size, 0, none⟩ : Addr).add j) = some u := by
  intro j u hj
  have e : ((⟨Y.heap.size, 0, none⟩ : Addr).add j) = ⟨Y.heap.size, j, none⟩ := by
    simp [Addr.add]
    try (intro e; exact e.symm)
  rw [e, World.cell?_alloc_at _ _ _ _ rfl]
  simpa using hj
/-- How many a call of Drain takes. -/
def fewer (most : Int) (n : Nat) : Nat := min most.toNat n
/-- What a call of Drain ends with: t the type of what is in it. -/
def DrainPost (t T : TypeId) (p c room : Nat) (buf : List Value) (shut : Bool) (most : Int) (w : World) (e : Ending) (w' : World) : Prop :=
  ∃ v, e = .returned v ∧ w'.ownsRow w.heap.size t 1 v (fewer most buf.length) (buf.take (fewer most buf.length)) ∧ Spool w' T p c room (buf.drop (fewer most buf.length)) shut ∧ Kept (at0 c) w w'
theorem drainPost {t T : TypeId} {p c room k : Nat} {buf : List Value} {shut : Bool} {most : Int} {w w' : World} {v : Value} (hk : fewer most buf.length = k) (h1 : w'.ownsRow w.heap.size t 1 v k (buf.take k)) (h2 : Spool w' T p c room (buf.drop k) shut) (h3 : Kept (at0 c) w w') : DrainPost t T p c room buf shut most w (.returned v) w' := by
  subst hk
  exact ⟨v, rfl, h1, h2, h3⟩
set_option maxHeartbeats 1000000 in
theorem drain_any {p c room : Nat} {buf : List Value} {shut : Bool} (most : Int) (w : World) (h : Spool w TI p c room buf shut) (hlen : buf.length ≤ 1024) (hone : ∀ u ∈ buf, ∃ x, u = .int .i64 x) :
    Calls Try.prog 17 #[.pointer (some ⟨p, 0, none⟩), .int .i64 most] w (DrainPost 3 TI p c room buf shut most w) := by
  obtain ⟨i0, hi, hz0, hz1, hz2'⟩ := info_parts TINT
  have HL := Lib.hid hlen
  clear hlen
  go_enter Try.func17, Try.ntmps17
  go_wp2_with fail
  go_loopg [5] buf.length (fun d l wr => ∃ k : Nat, d + k = buf.length ∧ k ≤ most.toNat ∧ wr.ownsRow w.heap.size 3 1 l k (buf.take k) ∧ Spool wr TI p c room (buf.drop k) shut ∧ Kept (at0 c) w wr)
  case atStart => exact ⟨0, by omega, by omega, by simpa using World.ownsRow_nil _ _ _ _, by simpa using h, .refl _ _⟩
  case round =>
    obtain ⟨k, hk, hkm, ho, hs, hkp⟩ := hrel
    have HK := Lib.hid hk
    have HO := Lib.hid ho
    obtain ⟨a, cp, rfl⟩ := own_slice ho
    clear hk ho
    by_cases hlt : (k : Int) < most
    · match hd : buf.drop k, hs with
      | [], hs =>
        have hke : k = buf.length := by
          have := congrArg List.length hd
          have := HK.out
          simp at *
          omega
        have HF := Lib.hid (show fewer most buf.length = k by unfold fewer; omega)
        have HD := Lib.hid hd
        have HKE := Lib.hid hke
        clear hd hke
        go_wp2_with (go_at_call 14; refine (take_any _ hs).mono ?_; rintro e w1 ⟨rfl, hs1, hk1⟩)
        go_returns
        exact drainPost HF.out (hk1.own HO.out (fun g hg hx => (hs.own HO.out (by decide) g hg) (.inl hx))) (by rw [HD.out]; exact hs1) (hkp.trans hk1)
      | v :: rest, hs =>
        have hkl : k < buf.length := by
          have := congrArg List.length hd
          simp at this
          omega
        have HD := Lib.hid hd
        obtain ⟨y, rfl⟩ := hone v (List.mem_of_mem_drop (i := k) (by rw [hd]; simp))
        have hrest : buf.drop (k + 1) = rest := by
          rw [← List.tail_drop, hd]; rfl
        have htake : buf.take (k + 1) = buf.take k ++ [.int .i64 y] := by
          rw [List.take_add_one]
          have : buf[k]? = some (.int .i64 y) := by
            have := congrArg List.head? hd
            rw [List.head?_drop] at this
            simpa using this
          rw [this]; rfl
        have HREST := Lib.hid hrest
        have HTAKE := Lib.hid htake
        clear hd hrest htake
        have hkb : k ≤ 1024 := by have := HL.out; omega
        go_wp2_with (first
          | (go_at_call 14; refine (take_any _ hs).mono ?_; rintro e w1 ⟨rfl, hs1, hk1⟩; have HO1 := Lib.hid (hk1.own HO.out (fun g hg hx => (hs.own HO.out (by decide) g hg) (.inl hx))); have z1 := Nat.le_trans hkp.size hk1.size)
          | (at_builtin; refine wpList_append_own _ rfl _ _ 29 rfl w.heap.size 3 i0 _ 1 8 Try.underlying29 hi hz0 hz1 hz2' rfl (by decide) _ _ _ rfl (HO1.out.alloc _) ⟨w1.heap.size, 0, none⟩ 1 1 [.int .i64 y] rfl rfl ?c1 ?c2 ?c3 ?c4 ?c5 ?_))
        case c1 => exact news1 _ _ _
        case c2 =>
          intro u hu
          simp only [List.mem_cons, List.not_mem_nil, or_false] at hu
          rw [hu]; rfl
        case c3 => unfold maxLen; omega
        case c4 => omega
        case c5 => simp; omega
        intro v' w2 hown hgrow _
        have HG := Lib.hid hgrow
        have HO2 := Lib.hid hown
        clear hown hgrow
        go_wp2
        go_roundg (buf.length - (k + 1))
        case measure => have := HK.out; omega
        case rel =>
          have kk := ((Kept.refl (fun g => Value.ownBlock (.slice a k cp) = some g) w1).alloc _).grown HG.out fun g hg _ => hg
          have hs2 : Spool w2 TI p c room rest shut := hs1.kept kk (fun hg => hs1.own HO1.out (by decide) _ hg (.inr rfl)) (fun hg => hs1.own HO1.out (by decide) _ hg (.inl rfl))
          exact ⟨k + 1, by have := HK.out; omega, by omega, by rw [HTAKE.out]; exact HO2.out, by rw [HREST.out]; exact hs2,
            ((hkp.trans hk1).alloc _).grown HG.out fun g hg hlt => absurd (HO1.out.lt g hg).1 (by omega)⟩
    · have hkm2 : most.toNat = k := by omega
      have HF := Lib.hid (show fewer most buf.length = k by unfold fewer; have := HK.out; omega)
      clear hkm2
      go_wp2_with fail
      go_returns
      exact drainPost HF.out HO.out hs hkp
end Go.Proofs.Ytolfldjiejeboaa.Sp
