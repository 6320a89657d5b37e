/-
  CONTRACTS of layer heap: a call, of the program's heap and of the document's.
-/
import Derived.Test.YtbkklnihgejeoaaHpZb
import Derived.Test.YtbkklnihgejeoaaHpQ
namespace Go.Proofs.Ytbkklnihgejeoaa.Hp
open Go.RowKit Mm Tm Ha
set_option linter.unusedVariables false
set_option linter.unusedSimpArgs false
/-- the two heaps beside each other -/
structure Tw (B h c n : Nat) (w : World) (S : Hs) (l : List Rc) (v : Value) : Prop where
  hp : HpI B (fun _ => False) w h S
  pl : Pl c n S
  own : OwnC B w v l
  sim : Sim S l
  le : B ≤ w.heap.size
theorem Tw.below {B h c n : Nat} {w w' : World} {S : Hs} {l : List Rc} {v : Value} (t : Tw B h c n w S l v) (hb : Below w.heap.size w w') : Tw B h c n w' S l v :=
  ⟨t.hp.below hb, t.pl, t.own.below t.le hb, t.sim, Nat.le_trans t.le hb.size⟩
theorem Tw.more {B h c n m : Nat} {w : World} {S : Hs} {l : List Rc} {v : Value} (t : Tw B h c n w S l v) (hm : n ≤ m) : Tw B h c m w S l v :=
  ⟨t.hp, t.pl.more hm, t.own, t.sim, t.le⟩
theorem Tw.len {B h c n : Nat} {w : World} {S : Hs} {l : List Rc} {v : Value} (t : Tw B h c n w S l v) : l.length = S.live := t.sim.length t.pl.good
theorem Tw.llen {B h c n : Nat} {w : World} {S : Hs} {l : List Rc} {v : Value} (t : Tw B h c n w S l v) (hn : n ≤ 400) : l.length ≤ 400 := by
  have h1 := t.len
  have h2 := t.pl.liv
  have h3 := t.pl.allocs
  omega
theorem Tw.all {B h c n : Nat} {w : World} {S : Hs} {l : List Rc} {v : Value} (t : Tw B h c n w S l v) (row : List Int) : row.all (hasAt l) = S.holds row := t.sim.holds row
theorem rd_kh {B : Nat} {w w' : World} {a : Option Addr} {l : List Int} (h : RdI (· < B) w a l) (hB : B ≤ w.heap.size) (hk : KH B w w') : RdI (· < B) w' a l :=
  h.frame (fun ad hl => KG.cell hk hl (Nat.lt_of_lt_of_le hl hB)) fun _ q => q
/-- the document's call says this -/
def RefA (B c : Nat) (S' : Hs) (l' : List Rc) (k eno : Int) (w2 : World) (e : Ending) (w3 : World) : Prop := ∃ v', e = .returned (.tuple #[hpV c v' S'.allocs, .int .i64 k, .int .i64 eno]) ∧ OwnC B w3 v' l' ∧ Below w2.heap.size w2 w3
def RefE (B c : Nat) (S' : Hs) (l' : List Rc) (eno : Int) (w2 : World) (e : Ending) (w3 : World) : Prop := ∃ v', e = .returned (.tuple #[hpV c v' S'.allocs, .int .i64 eno]) ∧ OwnC B w3 v' l' ∧ Below w2.heap.size w2 w3
def AllocT (B h c n : Nat) (hv xv : Value) (w : World) (e : Ending) (w1 : World) : Prop := ∃ (k eno : Int) (S' : Hs) (l' : List Rc), e = .returned (.tuple #[.int .i64 k, .int .i64 eno]) ∧ HpI B (fun _ => False) w1 h S' ∧ Pl c (n + 1) S' ∧ Sim S' l' ∧ KH B w w1 ∧ ∀ w2, Below w1.heap.size w1 w2 → Calls Try.prog 25 #[hv, xv] w2 (RefA B c S' l' k eno w2)
theorem alloc_two {B h c n cc : Nat} {S : Hs} {l : List Rc} {a : Option Addr} {x : Nd} {na : Option Addr} {nc : Nat} (w : World) (t : Tw B h c n w S l (.slice a l.length cc)) (hn : n ≤ 400) (hr : RdI (· < B) w na x.l) (hl : x.l.length ≤ 20) :
    Calls Try.prog 23 #[.pointer (some ⟨h, 0, none⟩), .agg #[.int .i64 x.tag, .int .i64 x.n, .slice na x.l.length nc]] w (AllocT B h c n (hpV c (.slice a l.length cc) S.allocs) (.agg #[.int .i64 x.tag, .int .i64 x.n, .slice na x.l.length nc]) w) := by
  have hll := t.llen hn
  have hx : NdA B w x na := ⟨rd_za hr t.le, by omega⟩
  have hall := t.all x.l
  have hcap := t.pl.cap
  by_cases hh : S.holds x.l = true
  · rw [hh] at hall
    by_cases hf : S.live < S.cap
    · refine (alloc_ok w t.hp t.pl.good hx hh hf (by have := t.pl.allocs; omega) (fun b q => q.elim)).mono ?_
      rintro e w1 ⟨k, hv, rfl, h1, h2⟩
      have hle := hv.le
      refine ⟨k, 0, S.put k x, l ++ [⟨k, x⟩], rfl, h1, t.pl.put hv hf hh hl, t.sim.put hv, h2, fun w2 hb => ?_⟩
      have hown := (t.own.kh t.le h2).below (Nat.le_trans t.le (KG.size h2)) hb
      have hrd := (rd_kh hr t.le h2).below hb fun b q => Nat.lt_of_lt_of_le q (Nat.le_trans t.le (KG.size h2))
      refine (ralloc_ok (cap := c) (allocs := S.allocs) (k := k) w2 hown (Nat.le_trans t.le (Nat.le_trans (KG.size h2) hb.size)) (by omega) hrd hl hall (by rw [t.len, ← hcap]; exact hf) (fun j hj => ?_) ?_ ?_ (by have := t.pl.allocs; omega)).mono ?_
      · rw [t.sim.at_, Hs.held_iff]
        exact ⟨by omega, by omega, hv.held j hj⟩
      · rw [t.sim.at_]
        apply Bool.eq_false_iff.2
        intro q
        exact (Hs.held_iff.1 q).2.2 hv.free
      · have := t.pl.good.fits
        have := t.pl.good.lim
        omega
      · rintro e w3 ⟨v, rfl, ho, hb3⟩
        exact ⟨v, rfl, ho, hb3⟩
    · refine (alloc_full w t.hp hx hh (by have := t.pl.good.cap; omega)).mono ?_
      rintro e w1 ⟨rfl, hb⟩
      refine ⟨0, 160, S, l, rfl, t.hp.below hb, t.pl.more (Nat.le_succ _), t.sim, KG.of_below hb (Nat.le_refl _), fun w2 hb2 => ?_⟩
      have hb12 := hb.trans (hb2.mono hb.size)
      refine (ralloc_full (cap := c) (allocs := S.allocs) w2 (t.own.below t.le hb12) (Nat.le_trans t.le hb12.size) (by omega) (hr.below hb12 fun b q => Nat.lt_of_lt_of_le q t.le) hl hall (by rw [t.len, ← hcap]; omega)).mono ?_
      rintro e w3 ⟨rfl, hb3⟩
      exact ⟨_, rfl, (t.own.below t.le hb12).below (Nat.le_trans t.le hb12.size) hb3, hb3⟩
  · have hh : S.holds x.l = false := by simpa using hh
    rw [hh] at hall
    refine (alloc_addr w t.hp hx hh).mono ?_
    rintro e w1 ⟨rfl, hb⟩
    refine ⟨0, 161, S, l, rfl, t.hp.below hb, t.pl.more (Nat.le_succ _), t.sim, KG.of_below hb (Nat.le_refl _), fun w2 hb2 => ?_⟩
    have hb12 := hb.trans (hb2.mono hb.size)
    refine (ralloc_no (cap := c) (allocs := S.allocs) w2 (t.own.below t.le hb12) (Nat.le_trans t.le hb12.size) (by omega) (hr.below hb12 fun b q => Nat.lt_of_lt_of_le q t.le) hl hall).mono ?_
    rintro e w3 ⟨rfl, hb3⟩
    exact ⟨_, rfl, (t.own.below t.le hb12).below (Nat.le_trans t.le hb12.size) hb3, hb3⟩
def SetT (B h c n : Nat) (hv : Value) (p : Int) (xv : Value) (w : World) (e : Ending) (w1 : World) : Prop := ∃ (eno : Int) (S' : Hs) (l' : List Rc), e = .returned (.int .i64 eno) ∧ HpI B (fun _ => False) w1 h S' ∧ Pl c (n + 1) S' ∧ Sim S' l' ∧ KH B w w1 ∧ ∀ w2, Below w1.heap.size w1 w2 → Calls Try.prog 26 #[hv, .int .i64 p, xv] w2 (RefE B c S' l' eno w2)
theorem set_two {B h c n cc : Nat} {S : Hs} {l : List Rc} {a : Option Addr} {x : Nd} {na : Option Addr} {nc : Nat} {p : Int} (w : World) (t : Tw B h c n w S l (.slice a l.length cc)) (hn : n ≤ 400) (hr : RdI (· < B) w na x.l) (hl : x.l.length ≤ 20) :
    Calls Try.prog 24 #[.pointer (some ⟨h, 0, none⟩), .int .i64 p, .agg #[.int .i64 x.tag, .int .i64 x.n, .slice na x.l.length nc]] w (SetT B h c n (hpV c (.slice a l.length cc) S.allocs) p (.agg #[.int .i64 x.tag, .int .i64 x.n, .slice na x.l.length nc]) w) := by
  have hll := t.llen hn
  have hx : NdA B w x na := ⟨rd_za hr t.le, by omega⟩
  have hall := t.all x.l
  by_cases hh : S.held p = true ∧ S.holds x.l = true
  · obtain ⟨k, rfl⟩ : ∃ k : Nat, p = k := ⟨p.toNat, by have := (Hs.held_iff.1 hh.1).1; omega⟩
    rw [hh.2] at hall
    have hhas : hasAt l k = true := by rw [t.sim.at_]; exact hh.1
    obtain ⟨i, r, e1, e2, e3⟩ := findV_has hhas
    refine (set_ok w t.hp hx hh.1 hh.2 (fun b q => q.elim)).mono ?_
    rintro e w1 ⟨rfl, h1, h2⟩
    refine ⟨0, S.set k x, l.set i ⟨k, x⟩, rfl, h1, (t.pl.set hh.2 hl).more (Nat.le_succ _), t.sim.set e2 e3, h2, fun w2 hb => ?_⟩
    have hown := (t.own.kh t.le h2).below (Nat.le_trans t.le (KG.size h2)) hb
    have hrd := (rd_kh hr t.le h2).below hb fun b q => Nat.lt_of_lt_of_le q (Nat.le_trans t.le (KG.size h2))
    refine (rset_ok (cap := c) (allocs := S.allocs) w2 hown (Nat.le_trans t.le (Nat.le_trans (KG.size h2) hb.size)) (by omega) hrd hl e1 (List.getElem?_eq_some_iff.1 e2).1 hall).mono ?_
    rintro e w3 ⟨v, rfl, ho, hb3⟩
    exact ⟨v, rfl, ho, hb3⟩
  · have hno : S.held p = false ∨ S.holds x.l = false := by
      by_cases h1 : S.held p = true
      · exact .inr (by simpa using fun q => hh ⟨h1, q⟩)
      · exact .inl (by simpa using h1)
    refine (set_no w t.hp hx hno).mono ?_
    rintro e w1 ⟨rfl, hb⟩
    refine ⟨161, S, l, rfl, t.hp.below hb, t.pl.more (Nat.le_succ _), t.sim, KG.of_below hb (Nat.le_refl _), fun w2 hb2 => ?_⟩
    have hb12 := hb.trans (hb2.mono hb.size)
    refine (rset_no (cap := c) (allocs := S.allocs) w2 (t.own.below t.le hb12) (Nat.le_trans t.le hb12.size) (by omega) (hr.below hb12 fun b q => Nat.lt_of_lt_of_le q t.le) hl (by rw [t.sim.at_, hall]; exact hno)).mono ?_
    rintro e w3 ⟨rfl, hb3⟩
    exact ⟨_, rfl, (t.own.below t.le hb12).below (Nat.le_trans t.le hb12.size) hb3, hb3⟩
def CollT (B h c n : Nat) (hv rv : Value) (w : World) (e : Ending) (w1 : World) : Prop := ∃ (k eno : Int) (S' : Hs) (l' : List Rc), e = .returned (.tuple #[.int .i64 k, .int .i64 eno]) ∧ HpI B (fun _ => False) w1 h S' ∧ Pl c (n + 1) S' ∧ KH B w w1 ∧ ∀ w2, Below w1.heap.size w1 w2 → Calls Try.prog 27 #[hv, rv] w2 (fun e w3 => ∃ l', Sim S' l' ∧ RefA B c S' l' k eno w2 e w3)
theorem collect_two {B h c n cc : Nat} {S : Hs} {l : List Rc} {a : Option Addr} {roots : List Int} {ra : Option Addr} {rc : Nat} (w : World) (t : Tw B h c n w S l (.slice a l.length cc)) (hn : n ≤ 400) (hr : RdI (· < B) w ra roots) (hl : roots.length ≤ 20) :
    Calls Try.prog 20 #[.pointer (some ⟨h, 0, none⟩), .slice ra roots.length rc] w (CollT B h c n (hpV c (.slice a l.length cc) S.allocs) (.slice ra roots.length rc) w) := by
  have hll := t.llen hn
  have hall := t.all roots
  by_cases hh : S.holds roots = true
  · rw [hh] at hall
    have hroots : ∀ x ∈ roots, S.held x = true := fun x hx => List.all_eq_true.1 hh x hx
    refine (collect_ok w t.hp t.pl.good (rd_za hr t.le) hh (by omega) (by have := t.pl.rest; omega)).mono ?_
    rintro e w1 ⟨S', hc, rfl, h1, h2⟩
    refine ⟨_, _, S', l, rfl, h1, (t.pl.coll hh hc).more (Nat.le_succ _), h2, fun w2 hb => ?_⟩
    have hown := (t.own.kh t.le h2).below (Nat.le_trans t.le (KG.size h2)) hb
    have hrd := (rd_kh hr t.le h2).below hb fun b q => Nat.lt_of_lt_of_le q (Nat.le_trans t.le (KG.size h2))
    refine (rcollect_ok (cap := c) (allocs := S.allocs) w2 hown (Nat.le_trans t.le (Nat.le_trans (KG.size h2) hb.size)) t.sim (t.pl.more hn) hrd hl hroots).mono ?_
    rintro e w3 ⟨v, out, l', rfl, hout, hl', ho, hb3⟩
    have hs' : Sim S' l' := by rw [hl']; exact t.sim.coll t.pl.good hroots hc out hout
    refine ⟨l', hs', v, ?_, ho, hb3⟩
    rw [t.len, hs'.length hc.good, hc.allocs]
  · have hh : S.holds roots = false := by simpa using hh
    rw [hh] at hall
    refine (collect_no w t.hp (rd_za hr t.le) (by omega) hh).mono ?_
    rintro e w1 ⟨rfl, rfl⟩
    refine ⟨0, 161, S, l, rfl, t.hp, t.pl.more (Nat.le_succ _), KG.refl _ _ _ _, fun w2 hb2 => ?_⟩
    refine (rcollect_no (cap := c) (allocs := S.allocs) w2 (t.own.below t.le hb2) (Nat.le_trans t.le hb2.size) (by omega) (hr.below hb2 fun b q => Nat.lt_of_lt_of_le q t.le) hl hall).mono ?_
    rintro e w3 ⟨rfl, hb3⟩
    exact ⟨l, t.sim, _, rfl, (t.own.below t.le hb2).below (Nat.le_trans t.le hb2.size) hb3, hb3⟩
end Go.Proofs.Ytbkklnihgejeoaa.Hp
