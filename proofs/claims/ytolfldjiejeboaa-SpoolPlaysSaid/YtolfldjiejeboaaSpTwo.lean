/-
  TWO SPOOLS OF THE CALL's OWN, of numbers: each step as one of two plain rows; all other blocks kept.
-/
import Derived.Test.YtolfldjiejeboaaSpE
import Derived.Test.YtolfldjiejeboaaSpEq
namespace Go.Proofs.Ytolfldjiejeboaa.Sp
open Go.RowKit Go.Conc Mm Ln
set_option linter.unusedVariables false
set_option linter.unusedSimpArgs false
/-- A row of numbers as values. -/
def iv (l : List Int) : List Value := l.map (Value.int .i64)
theorem iv_length (l : List Int) : (iv l).length = l.length := List.length_map _
theorem iv_append (a b : List Int) : iv (a ++ b) = iv a ++ iv b := List.map_append
theorem iv_take (l : List Int) (n : Nat) : (iv l).take n = iv (l.take n) := List.map_take.symm
theorem iv_drop (l : List Int) (n : Nat) : (iv l).drop n = iv (l.drop n) := List.map_drop.symm
theorem iv_tail (l : List Int) : (iv l).tail = iv l.tail := by cases l <;> rfl
theorem iv_head (l : List Int) : (iv l).headD (.int .i64 0) = .int .i64 (l.headD 0) := by cases l <;> rfl
theorem iv_empty (l : List Int) : (iv l).isEmpty = l.isEmpty := by cases l <;> rfl
theorem iv_one (l : List Int) : ∀ u ∈ iv l, ∃ x, u = Value.int .i64 x := fun u hu => by
  obtain ⟨x, _, rfl⟩ := List.mem_map.1 hu
  exact ⟨x, rfl⟩
theorem iv_get (l : List Int) (i : Nat) (h : i < l.length) : (iv l)[i]? = some (intV (fun i => l.getD i 0) i) := by
  simp [iv, intV, h]
theorem own_readsI {w : World} {B : Nat} {e : TypeId} {b : Option Addr} {c n : Nat} {l : List Int} (h : w.ownsRow B e 1 (.slice b n c) n (iv l)) (hl : l.length = n) : ReadsV w w.heap.size b n (intV (fun i => l.getD i 0)) := by
  intro i hi
  obtain ⟨g, rfl, _, hg, _, hc⟩ := own_at h (by omega)
  refine ⟨_, rfl, hg, ?_⟩
  have e : ((⟨g, 0, none⟩ : Addr).add i) = ⟨g, i, none⟩ := by
    simp [Addr.add]
    try (intro e; exact e.symm)
  rw [e, hc i (by omega), iv_get l i (by omega)]
abbrev at4 (p c p2 c2 : Nat) : Nat → Prop := fun k => k = c ∨ k = p ∨ k = c2 ∨ k = p2
/-- Two spools that were made since W, of which nothing has turned. -/
structure Two (W w : World) (p c room : Nat) (l : List Int) (shut : Bool) (p2 c2 room2 : Nat) (l2 : List Int) (shut2 : Bool) : Prop where
  s1 : Spool w TI p c room (iv l) shut
  s2 : Spool w TI p2 c2 room2 (iv l2) shut2
  h1 : W.heap.size ≤ p
  h2 : W.heap.size ≤ c
  h3 : W.heap.size ≤ p2
  h4 : W.heap.size ≤ c2
  n1 : p ≠ p2
  n2 : c ≠ c2
  r1 : room ≤ 1024
  r2 : room2 ≤ 1024
  m1 : l.length ≤ room
  m2 : l2.length ≤ room2
  below : Below W.heap.size W w
section
variable {W w w' : World} {p c room p2 c2 room2 : Nat} {l l' l2 l2' : List Int} {shut shut' shut2 shut2' : Bool}
theorem Two.swap (h : Two W w p c room l shut p2 c2 room2 l2 shut2) : Two W w p2 c2 room2 l2 shut2 p c room l shut :=
  ⟨h.s2, h.s1, h.h3, h.h4, h.h1, h.h2, fun e => h.n1 e.symm, fun e => h.n2 e.symm, h.r2, h.r1, h.m2, h.m1, h.below⟩
theorem Two.base (h : Two W w p c room l shut p2 c2 room2 l2 shut2) : ∀ k, at4 p c p2 c2 k → W.heap.size ≤ k := by
  have := h.h1; have := h.h2; have := h.h3; have := h.h4
  rintro k (rfl | rfl | rfl | rfl) <;> assumption
theorem Two.step (h : Two W w p c room l shut p2 c2 room2 l2 shut2) (k : Kept (at4 p c p2 c2) w w') (s1 : Spool w' TI p c room (iv l') shut') (s2 : Spool w' TI p2 c2 room2 (iv l2') shut2') (m1 : l'.length ≤ room) (m2 : l2'.length ≤ room2) :
    Two W w' p c room l' shut' p2 c2 room2 l2' shut2' :=
  ⟨s1, s2, h.h1, h.h2, h.h3, h.h4, h.n1, h.n2, h.r1, h.r2, m1, m2, h.below.trans (k.below h.below.size h.base)⟩
/-- only the first one's blocks turn -/
theorem Two.one {X : Nat → Prop} (h : Two W w p c room l shut p2 c2 room2 l2 shut2) (k : Kept X w w') (hX : ∀ i, X i → i = c ∨ i = p) (s1 : Spool w' TI p c room (iv l') shut') (m1 : l'.length ≤ room) :
    Two W w' p c room l' shut' p2 c2 room2 l2 shut2 ∧ Kept (at4 p c p2 c2) w w' := by
  have k' : Kept (at4 p c p2 c2) w w' := k.mono fun i _ hi => (hX i hi).elim .inl fun e => .inr (.inl e)
  refine ⟨h.step k' s1 (h.s2.kept k ?_ ?_) m1 h.m2, k'⟩
  · intro hx
    rcases hX _ hx with e | e
    · exact h.s2.apart h.s1 e
    · exact h.n1 e.symm
  · intro hx
    rcases hX _ hx with e | e
    · exact h.n2 e.symm
    · exact h.s1.apart h.s2 e.symm
theorem Two.kept {X : Nat → Prop} (h : Two W w p c room l shut p2 c2 room2 l2 shut2) (k : Kept X w w') (hX : ∀ i, X i → W.heap.size ≤ i) (hn : ∀ i, at4 p c p2 c2 i → ¬ X i) : Two W w' p c room l shut p2 c2 room2 l2 shut2 :=
  ⟨h.s1.kept k (hn _ (.inr (.inl rfl))) (hn _ (.inl rfl)), h.s2.kept k (hn _ (.inr (.inr (.inr rfl)))) (hn _ (.inr (.inr (.inl rfl)))), h.h1, h.h2, h.h3, h.h4, h.n1, h.n2, h.r1, h.r2, h.m1, h.m2, h.below.trans (k.below h.below.size hX)⟩
theorem Two.apart (h : Two W w p c room l shut p2 c2 room2 l2 shut2) {B : Nat} {e : TypeId} {size : Nat} {v : Value} {n : Nat} {xs : List Value} (o : w.ownsRow B e size v n xs) (hne : e ≠ TI) : ∀ g, v.ownBlock = some g → ¬ at4 p c p2 c2 g := by
  intro g hg hx
  rcases hx with e | e | e | e
  · exact h.s1.own o hne g hg (.inl e)
  · exact h.s1.own o hne g hg (.inr e)
  · exact h.s2.own o hne g hg (.inl e)
  · exact h.s2.own o hne g hg (.inr e)
theorem Two.own (h : Two W w p c room l shut p2 c2 room2 l2 shut2) (k : Kept (at4 p c p2 c2) w w') {B : Nat} {e : TypeId} {size : Nat} {v : Value} {n : Nat} {xs : List Value} (o : w.ownsRow B e size v n xs) (hne : e ≠ TI) : w'.ownsRow B e size v n xs :=
  k.own o (h.apart o hne)
theorem two_new {buf : List Value} (n2 : Nat) (hn : n2 ≤ 1024) (hroom : room ≤ 1024) (h : Mine W w TI p c room [] false) : Calls Try.prog 8 #[.int .i64 n2] w fun e w' => ∃ p2 c2, e = .returned (.tuple #[.pointer (some ⟨p2, 0, none⟩), .int .i64 0]) ∧ Two W w' p c room [] false p2 c2 n2 [] false := by
  refine (new_any n2 hn w).mono ?_
  rintro e w' ⟨rfl, hs, hk, hz⟩
  have := h.below.size
  have := h.sp.ltp
  have := h.sp.ltc
  exact ⟨_, _, rfl, h.sp.kept (Kept.of_below hk (fun _ => False)) (fun h => h) (fun h => h), hs, h.hp, h.hc, by omega, by omega, by omega, by omega, hroom, hn, by simp, by simp, h.below.trans (hk.mono h.below.size)⟩
theorem put1 (x : Int) (h : Two W w p c room l shut p2 c2 room2 l2 shut2) {b : Bool} (hb : (!shut && decide (l.length < room)) = b) : Calls Try.prog 12 #[.pointer (some ⟨p, 0, none⟩), .int .i64 x] w fun e w' =>
    e = .returned (.bool b) ∧ Two W w' p c room (if b = true then l ++ [x] else l) shut p2 c2 room2 l2 shut2 ∧ Kept (at4 p c p2 c2) w w' := by
  refine (put_any x w h.s1).mono ?_
  rintro e w' ⟨rfl, hs, hk⟩
  rw [iv_length, hb] at hs ⊢
  refine ⟨rfl, ?_⟩
  cases b with
  | true =>
    have hl : l.length < room := by simpa using (Bool.and_eq_true _ _ ▸ hb : (!shut) = true ∧ decide (l.length < room) = true).2
    rw [if_pos rfl] at hs ⊢
    exact h.one hk (fun i hi => .inl hi) (by rw [iv_append]; exact hs) (by simp; omega)
  | false =>
    rw [if_neg (by simp)] at hs ⊢
    exact h.one hk (fun i hi => .inl hi) hs h.m1
theorem take1 (h : Two W w p c room l shut p2 c2 room2 l2 shut2) : Calls Try.prog 14 #[.pointer (some ⟨p, 0, none⟩)] w fun e w' =>
    e = .returned (.tuple #[.int .i64 (l.headD 0), .bool (!l.isEmpty)]) ∧ Two W w' p c room l.tail shut p2 c2 room2 l2 shut2 ∧ Kept (at4 p c p2 c2) w w' := by
  refine (take_any w h.s1).mono ?_
  rintro e w' ⟨rfl, hs, hk⟩
  rw [iv_tail] at hs
  rw [iv_head, iv_empty]
  exact ⟨rfl, h.one hk (fun i hi => .inl hi) hs (by have := h.m1; simp; omega)⟩
theorem close1 (h : Two W w p c room l shut p2 c2 room2 l2 shut2) : Calls Try.prog 18 #[.pointer (some ⟨p, 0, none⟩)] w fun e w' =>
    e = .returned (.bool (!shut)) ∧ Two W w' p c room l true p2 c2 room2 l2 shut2 ∧ Kept (at4 p c p2 c2) w w' := by
  refine (close_any w h.s1).mono ?_
  rintro e w' ⟨rfl, hs, hk⟩
  exact ⟨rfl, h.one hk (fun i hi => hi) hs h.m1⟩
theorem len1 (h : Two W w p c room l shut p2 c2 room2 l2 shut2) {m : Nat} (hl : l.length = m) : Calls Try.prog 27 #[.pointer (some ⟨p, 0, none⟩)] w fun e w' => e = .returned (.int .i64 m) ∧ w = w' :=
  len_is w h.s1 (by rw [iv_length, hl])
theorem drain1 (most : Int) (h : Two W w p c room l shut p2 c2 room2 l2 shut2) {k : Nat} (hk : fewer most l.length = k) : Calls Try.prog 17 #[.pointer (some ⟨p, 0, none⟩), .int .i64 most] w fun e w' =>
    ∃ a cp, e = .returned (.slice a k cp) ∧ w'.ownsRow w.heap.size 3 1 (.slice a k cp) k (iv (l.take k)) ∧ Two W w' p c room (l.drop k) shut p2 c2 room2 l2 shut2 ∧ Kept (at4 p c p2 c2) w w' := by
  have := h.m1
  have := h.r1
  refine (drain_any most w h.s1 (by rw [iv_length]; omega) (iv_one l)).mono ?_
  rintro e w' ⟨v, rfl, ho, hs, hkp⟩
  rw [iv_length, hk] at ho hs
  rw [iv_take] at ho
  rw [iv_drop] at hs
  obtain ⟨a, cp, rfl⟩ := own_slice ho
  exact ⟨a, cp, rfl, ho, h.one hkp (fun i hi => .inl hi) hs (by simp; omega)⟩
theorem move1 (most : Int) (h : Two W w p c room l shut p2 c2 room2 l2 shut2) {N : Nat} (hN : moveN most l.length room2 l2.length shut2 = N) : Calls Try.prog 20 #[.pointer (some ⟨p, 0, none⟩), .pointer (some ⟨p2, 0, none⟩), .int .i64 most] w fun e w' =>
    e = .returned (.int .i64 N) ∧ Two W w' p c room (l.drop N) shut p2 c2 room2 (l2 ++ l.take N) shut2 ∧ Kept (at4 p c p2 c2) w w' := by
  have g1 := h.m1
  have g2 := h.r1
  have g3 := h.m2
  refine (move_any most w h.s1 h.s2 h.n1 h.n2 (by rw [iv_length]; omega) (iv_one l)).mono ?_
  rintro e w' ⟨rfl, hs1, hs2, hkp⟩
  rw [iv_length, iv_length, hN] at hs1 hs2 ⊢
  rw [iv_drop] at hs1
  rw [iv_take, ← iv_append] at hs2
  have k' : Kept (at4 p c p2 c2) w w' := hkp.mono fun i _ hi => hi.elim .inl fun e => .inr (.inr (.inl e))
  refine ⟨rfl, h.step k' hs1 hs2 (by simp; omega) ?_, k'⟩
  rw [List.length_append, List.length_take]
  have : N ≤ room2 - l2.length := by
    rw [← hN]
    unfold moveN
    split <;> omega
  omega
end
end Go.Proofs.Ytolfldjiejeboaa.Sp
