/-
  HEAPS, PLAINLY: states, what roots lead to, marking, sweeping. No program in sight.
-/
import Derived.WalkKit
namespace Go.Proofs.Ytbkklnihgejeoaa.Hp
set_option linter.unusedVariables false
structure Nd where
  tag : Int
  n : Int
  l : List Int
structure Hs where
  cap : Nat
  used : Nat
  least : Nat
  live : Nat
  allocs : Nat
  is : Nat → Nat
  nd : Nat → Nd
def Hs.held (S : Hs) (a : Int) : Bool := decide (0 ≤ a) && (decide (a < S.used) && decide (S.is a.toNat ≠ 0))
theorem Hs.held_iff {S : Hs} {a : Int} : S.held a = true ↔ 0 ≤ a ∧ a < S.used ∧ S.is a.toNat ≠ 0 := by
  unfold Hs.held
  simp
/-- how many below n are not free -/
def cnt (f : Nat → Nat) : Nat → Nat
  | 0 => 0
  | n + 1 => cnt f n + if f n ≠ 0 then 1 else 0
theorem cnt_le (f : Nat → Nat) : ∀ n, cnt f n ≤ n
  | 0 => Nat.le_refl _
  | n + 1 => by
    have := cnt_le f n
    unfold cnt
    split <;> omega
theorem cnt_congr {f g : Nat → Nat} : ∀ n, (∀ a, a < n → (f a ≠ 0 ↔ g a ≠ 0)) → cnt f n = cnt g n
  | 0, _ => rfl
  | n + 1, h => by
    unfold cnt
    rw [cnt_congr n fun a ha => h a (by omega)]
    have := h n (by omega)
    by_cases e : f n = 0
    · have e' : g n = 0 := by
        apply Classical.byContradiction
        intro q
        exact this.2 q e
      rw [if_neg (by simpa using e), if_neg (by simpa using e')]
    · rw [if_pos e, if_pos (this.1 e)]
theorem cnt_full {f : Nat → Nat} : ∀ n, (∀ a, a < n → f a ≠ 0) → cnt f n = n
  | 0, _ => rfl
  | n + 1, h => by
    unfold cnt
    rw [cnt_full n fun a ha => h a (by omega), if_pos (h n (by omega))]
theorem cnt_zero {f : Nat → Nat} {m : Nat} : ∀ n, m ≤ n → (∀ a, m ≤ a → f a = 0) → cnt f n = cnt f m
  | 0, h, _ => by rw [show m = 0 by omega]
  | n + 1, h, hz => by
    by_cases e : m = n + 1
    · rw [e]
    · unfold cnt
      rw [if_neg (by simpa using hz n (by omega)), cnt_zero n (by omega) hz, Nat.add_zero]
      cases m <;> rfl
theorem cnt_mono (f : Nat → Nat) {m : Nat} : ∀ n, m ≤ n → cnt f m ≤ cnt f n
  | 0, h => by rw [show m = 0 by omega]; exact Nat.le_refl _
  | n + 1, h => by
    by_cases e : m = n + 1
    · rw [e]; exact Nat.le_refl _
    · have := cnt_mono f n (by omega : m ≤ n)
      show _ ≤ cnt f n + _
      omega
def upd {α : Type} (f : Nat → α) (i : Nat) (x : α) (a : Nat) : α := if a = i then x else f a
theorem upd_same {α : Type} (f : Nat → α) (i : Nat) (x : α) : upd f i x i = x := if_pos rfl
theorem upd_other {α : Type} (f : Nat → α) {i a : Nat} (x : α) (h : a ≠ i) : upd f i x a = f a := if_neg h
theorem cnt_upd {f : Nat → Nat} {i x : Nat} (h : f i = 0) (hx : x ≠ 0) : ∀ n, i < n → cnt (upd f i x) n = cnt f n + 1
  | 0, hi => by omega
  | n + 1, hi => by
    unfold cnt
    by_cases e : i = n
    · subst e
      rw [upd_same, if_pos hx, if_neg (by simpa using h), cnt_congr i (fun a ha => by rw [upd_other f x (by omega)])]
    · rw [cnt_upd h hx n (by omega), upd_other f x (by omega)]
      omega
structure Good (S : Hs) : Prop where
  least : S.least ≤ S.used
  below : ∀ a, a < S.least → S.is a ≠ 0
  one : ∀ a, S.is a ≤ 1
  above : ∀ a, S.used ≤ a → S.is a = 0
  ptr : ∀ a, S.is a ≠ 0 → ∀ x ∈ (S.nd a).l, S.held x = true
  live : S.live = cnt S.is S.used
  cap : S.live ≤ S.cap
  lim : S.cap ≤ 16777216
  fits : S.used ≤ S.cap
def start (c : Nat) : Hs := ⟨c, 0, 0, 0, 0, fun _ => 0, fun _ => ⟨0, 0, []⟩⟩
theorem start_good {c : Nat} (h : c ≤ 16777216) : Good (start c) := ⟨Nat.le_refl _, fun a h => absurd h (Nat.not_lt_zero _), fun a => Nat.zero_le _, fun a _ => rfl, fun a h => absurd rfl h, rfl, Nat.zero_le _, h, Nat.zero_le _⟩
/-- the free cell with the least address -/
structure IsVac (S : Hs) (v : Nat) : Prop where
  le : v ≤ S.used
  held : ∀ a, a < v → S.is a ≠ 0
  free : S.is v = 0
theorem IsVac.unique {S : Hs} {u v : Nat} (h : IsVac S u) (k : IsVac S v) : u = v := by
  rcases Nat.lt_trichotomy u v with q | q | q
  · exact absurd h.free (k.held _ q)
  · exact q
  · exact absurd k.free (h.held _ q)
theorem IsVac.cap {S : Hs} {v : Nat} (g : Good S) (h : IsVac S v) (hl : S.live < S.cap) : v < S.cap := by
  have h1 := cnt_full v h.held
  have h2 := cnt_mono S.is S.used h.le
  have h3 := g.live
  omega
def Hs.put (S : Hs) (v : Nat) (x : Nd) : Hs := { S with used := max S.used (v + 1), least := v, live := S.live + 1, allocs := S.allocs + 1, is := upd S.is v 1, nd := upd S.nd v x }
theorem put_good {S : Hs} {v : Nat} {x : Nd} (g : Good S) (h : IsVac S v) (hl : S.live < S.cap) (hx : ∀ y ∈ x.l, S.held y = true) : Good (S.put v x) := by
  have hv := h.cap g hl
  have hle := h.le
  have hfit := g.fits
  have hheld : ∀ y, S.held y = true → (S.put v x).held y = true := fun y hy => by
    obtain ⟨q1, q2, q3⟩ := Hs.held_iff.1 hy
    refine Hs.held_iff.2 ⟨q1, ?_, ?_⟩
    · show y < ((max S.used (v + 1) : Nat) : Int)
      omega
    · show upd S.is v 1 y.toNat ≠ 0
      unfold upd
      split
      · decide
      · exact q3
  refine ⟨?_, fun a ha => ?_, fun a => ?_, fun a ha => ?_, fun a ha y hy => ?_, ?_, ?_, g.lim, ?_⟩
  · show v ≤ max S.used (v + 1); omega
  · show upd S.is v 1 a ≠ 0
    unfold upd
    split
    · decide
    · exact h.held a ha
  · show upd S.is v 1 a ≤ 1
    unfold upd
    split
    · decide
    · exact g.one a
  · have ha : max S.used (v + 1) ≤ a := ha
    show upd S.is v 1 a = 0
    rw [upd_other _ _ (by omega)]
    exact g.above a (by omega)
  · have ha : upd S.is v 1 a ≠ 0 := ha
    have hy : y ∈ (upd S.nd v x a).l := hy
    by_cases e : a = v
    · subst e
      rw [upd_same] at hy
      exact hheld y (hx y hy)
    · rw [upd_other _ _ e] at ha hy
      exact hheld y (g.ptr a ha y hy)
  · show S.live + 1 = cnt (upd S.is v 1) (max S.used (v + 1))
    rw [cnt_upd h.free (by decide) _ (by omega), g.live]
    congr 1
    exact (cnt_zero _ (by omega) g.above).symm
  · show S.live + 1 ≤ S.cap; exact hl
  · show max S.used (v + 1) ≤ S.cap; omega
def Hs.set (S : Hs) (v : Nat) (x : Nd) : Hs := { S with nd := upd S.nd v x }
theorem set_good {S : Hs} {v : Nat} {x : Nd} (g : Good S) (hx : ∀ y ∈ x.l, S.held y = true) : Good (S.set v x) := by
  refine ⟨g.least, g.below, g.one, g.above, fun a ha y hy => ?_, g.live, g.cap, g.lim, g.fits⟩
  have hy : y ∈ (upd S.nd v x a).l := hy
  by_cases e : a = v
  · subst e
    rw [upd_same] at hy
    exact hx y hy
  · rw [upd_other _ _ e] at hy
    exact g.ptr a ha y hy
/-- to what roots lead -/
inductive Rch (S : Hs) (roots : List Int) : Int → Prop
  | root {x : Int} : x ∈ roots → Rch S roots x
  | step {a x : Int} : Rch S roots a → x ∈ (S.nd a.toNat).l → Rch S roots x
theorem Rch.held {S : Hs} {roots : List Int} (g : Good S) (hr : ∀ x ∈ roots, S.held x = true) {x : Int} (h : Rch S roots x) : S.held x = true := by
  induction h with
  | root h => exact hr _ h
  | step _ hx ih => exact g.ptr _ (Hs.held_iff.1 ih).2.2 _ hx
/-- while it is marked: what the cells are, what waits -/
structure MkInv (S : Hs) (roots : List Int) (m : Nat → Nat) (todo : List Int) : Prop where
  cells : ∀ a, m a = S.is a ∨ (m a = 2 ∧ Rch S roots a ∧ S.is a = 1)
  wait : ∀ x ∈ todo, S.held x = true ∧ Rch S roots x
  next : ∀ a, m a = 2 → ∀ x ∈ (S.nd a).l, m x.toNat = 2 ∨ x ∈ todo
  roots : ∀ x ∈ roots, m x.toNat = 2 ∨ x ∈ todo
theorem MkInv.start {S : Hs} {roots : List Int} (g : Good S) (hr : ∀ x ∈ roots, S.held x = true) : MkInv S roots S.is roots :=
  ⟨fun a => .inl rfl, fun x hx => ⟨hr x hx, .root hx⟩, fun a ha => by have := g.one a; omega, fun x hx => .inr hx⟩
theorem MkInv.skip {S : Hs} {roots todo : List Int} {m : Nat → Nat} {x : Int} (h : MkInv S roots m (todo ++ [x])) (hx : m x.toNat = 2) : MkInv S roots m todo := by
  refine ⟨h.cells, fun y hy => h.wait y (by simp [hy]), fun a ha y hy => ?_, fun y hy => ?_⟩
  · rcases h.next a ha y hy with q | q
    · exact .inl q
    · rcases List.mem_append.1 q with q | q
      · exact .inr q
      · rw [List.mem_singleton.1 q]; exact .inl hx
  · rcases h.roots y hy with q | q
    · exact .inl q
    · rcases List.mem_append.1 q with q | q
      · exact .inr q
      · rw [List.mem_singleton.1 q]; exact .inl hx
theorem MkInv.mark {S : Hs} {roots todo : List Int} {m : Nat → Nat} {x : Int} (g : Good S) (h : MkInv S roots m (todo ++ [x])) (hx : m x.toNat ≠ 2) :
    MkInv S roots (upd m x.toNat 2) (todo ++ (S.nd x.toNat).l) := by
  obtain ⟨hh, hR⟩ := h.wait x (by simp)
  obtain ⟨h0, h1, h2⟩ := Hs.held_iff.1 hh
  have hx0 : ((x.toNat : Nat) : Int) = x := by omega
  have up : ∀ a, m a = 2 → upd m x.toNat 2 a = 2 := fun a ha => by unfold upd; split; rfl; exact ha
  have old : ∀ y : Int, (m y.toNat = 2 ∨ y ∈ todo ++ [x]) → upd m x.toNat 2 y.toNat = 2 ∨ y ∈ todo ++ (S.nd x.toNat).l := fun y hy => by
    rcases hy with q | q
    · exact .inl (up _ q)
    · rcases List.mem_append.1 q with q | q
      · exact .inr (by simp [q])
      · rw [List.mem_singleton.1 q]; exact .inl (upd_same _ _ _)
  refine ⟨fun a => ?_, fun y hy => ?_, fun a ha y hy => ?_, fun y hy => old y (h.roots y hy)⟩
  · by_cases e : a = x.toNat
    · subst e
      refine .inr ⟨upd_same _ _ _, by rw [hx0]; exact hR, ?_⟩
      have := g.one x.toNat
      omega
    · rw [upd_other _ _ e]; exact h.cells a
  · rcases List.mem_append.1 hy with q | q
    · exact h.wait y (by simp [q])
    · exact ⟨g.ptr _ h2 _ q, .step hR q⟩
  · by_cases e : a = x.toNat
    · subst e; exact .inr (by simp [hy])
    · rw [upd_other _ _ e] at ha
      exact old y (h.next a ha y hy)
/-- what is still to be looked at, below n -/
def rest (S : Hs) (m : Nat → Nat) : Nat → Nat
  | 0 => 0
  | n + 1 => rest S m n + if m n = 1 then (S.nd n).l.length + 1 else 0
theorem rest_congr {S : Hs} {m k : Nat → Nat} : ∀ n, (∀ a, a < n → m a = k a) → rest S m n = rest S k n
  | 0, _ => rfl
  | n + 1, h => by
    unfold rest
    rw [rest_congr n fun a ha => h a (by omega), h n (by omega)]
theorem rest_mark {S : Hs} {m : Nat → Nat} {i : Nat} (hi : m i = 1) : ∀ n, i < n → rest S (upd m i 2) n + (S.nd i).l.length + 1 = rest S m n
  | 0, h => by omega
  | n + 1, h => by
    unfold rest
    by_cases e : i = n
    · subst e
      rw [upd_same, if_neg (by decide), if_pos hi, rest_congr (k := m) i fun a ha => upd_other m 2 (by omega)]
      omega
    · have := rest_mark (S := S) hi n (by omega)
      rw [upd_other m 2 (by omega : n ≠ i)]
      omega
theorem rest_le {S : Hs} {m : Nat → Nat} {k : Nat} : ∀ n, (∀ a, a < n → m a = 1 → (S.nd a).l.length ≤ k) → rest S m n ≤ n * (k + 1)
  | 0, _ => by simp [rest]
  | n + 1, h => by
    have := rest_le n fun a ha => h a (by omega)
    have hn := h n (by omega)
    unfold rest
    rw [Nat.add_mul, Nat.one_mul]
    split
    · have := hn ‹_›; omega
    · omega
theorem MkInv.done {S : Hs} {roots : List Int} {m : Nat → Nat} (h : MkInv S roots m []) {x : Int} (hx : Rch S roots x) : m x.toNat = 2 := by
  induction hx with
  | root hx => exact (h.roots _ hx).elim id fun q => by simp at q
  | step ha hx ih => exact (h.next _ ih _ hx).elim id fun q => by simp at q
theorem MkInv.iff {S : Hs} {roots : List Int} {m : Nat → Nat} (g : Good S) (h : MkInv S roots m []) (a : Nat) : m a = 2 ↔ Rch S roots a := by
  constructor
  · intro ha
    rcases h.cells a with q | q
    · have := g.one a; omega
    · exact q.2.1
  · intro ha
    have := h.done ha
    simpa using this
/-- what stays when it is swept -/
def swept (m : Nat → Nat) (a : Nat) : Nat := if m a = 2 then 1 else 0
/-- the end of what is marked below n -/
def endM (m : Nat → Nat) : Nat → Nat
  | 0 => 0
  | n + 1 => if m n = 2 then n + 1 else endM m n
theorem endM_le (m : Nat → Nat) : ∀ n, endM m n ≤ n
  | 0 => Nat.le_refl _
  | n + 1 => by
    have := endM_le m n
    unfold endM
    split <;> omega
theorem endM_above (m : Nat → Nat) : ∀ n a, endM m n ≤ a → a < n → m a ≠ 2
  | 0, a, _, h => by omega
  | n + 1, a, h, hl => by
    unfold endM at h
    split at h
    · omega
    · by_cases e : a = n
      · subst e; assumption
      · exact endM_above m n a h (by omega)
theorem endM_last (m : Nat → Nat) : ∀ n a, a < n → m a = 2 → a < endM m n
  | 0, a, h, _ => by omega
  | n + 1, a, h, ha => by
    unfold endM
    split
    · omega
    · by_cases e : a = n
      · subst e; contradiction
      · exact endM_last m n a (by omega) ha
/-- the least address that is free, when it is swept up to n -/
def leastM (l : Nat) (m : Nat → Nat) : Nat → Nat
  | 0 => l
  | n + 1 => if m n = 1 then min (leastM l m n) n else leastM l m n
theorem leastM_le (l : Nat) (m : Nat → Nat) : ∀ n, leastM l m n ≤ l
  | 0 => Nat.le_refl _
  | n + 1 => by
    have := leastM_le l m n
    unfold leastM
    split <;> omega
theorem leastM_lt {l : Nat} {m : Nat → Nat} : ∀ n a, a < leastM l m n → a < n → m a ≠ 1
  | 0, a, _, h => by omega
  | n + 1, a, h, hl => by
    unfold leastM at h
    by_cases e : a = n
    · subst e
      intro q
      rw [if_pos q] at h
      omega
    · refine leastM_lt (l := l) n a ?_ (by omega)
      split at h <;> omega
/-- how many are freed below n -/
def freed (m : Nat → Nat) : Nat → Nat
  | 0 => 0
  | n + 1 => freed m n + if m n = 1 then 1 else 0
theorem freed_cnt {m : Nat → Nat} : ∀ n, (∀ a, a < n → m a ≤ 2) → cnt (swept m) n + freed m n = cnt m n
  | 0, _ => rfl
  | n + 1, h => by
    have := freed_cnt n fun a ha => h a (by omega)
    have hn := h n (by omega)
    unfold cnt freed
    have hs : swept m n = if m n = 2 then 1 else 0 := rfl
    rw [hs]
    rcases (show m n = 0 ∨ m n = 1 ∨ m n = 2 by omega) with q | q | q
    · rw [q]; simp; exact this
    · rw [q]; simp; omega
    · rw [q]; simp; omega
/-- what a collection leaves -/
def Hs.swept (S : Hs) (m : Nat → Nat) : Hs := { S with used := endM m S.used, least := leastM S.least m S.used, live := S.live - freed m S.used, is := Hp.swept m }
theorem swept_good {S : Hs} {roots : List Int} {m : Nat → Nat} (g : Good S) (h : MkInv S roots m []) : Good (S.swept m) ∧ freed m S.used ≤ S.live := by
  have hle : ∀ a, m a ≤ 2 := fun a => by
    rcases h.cells a with q | q
    · have := g.one a; omega
    · omega
  have habove : ∀ a, S.used ≤ a → m a = 0 := fun a ha => by
    rcases h.cells a with q | q
    · rw [q, g.above a ha]
    · have := g.above a ha; omega
  have hz : ∀ a, (S.is a ≠ 0) ↔ (m a ≠ 0) := fun a => by
    rcases h.cells a with q | q
    · rw [q]
    · omega
  have hc := freed_cnt S.used fun a _ => hle a
  rw [← cnt_congr S.used (fun a _ => hz a), ← g.live] at hc
  have he := endM_le m S.used
  have ha2 : ∀ a, endM m S.used ≤ a → Hp.swept m a = 0 := fun a ha => by
    unfold Hp.swept
    by_cases q : a < S.used
    · rw [if_neg (endM_above m _ a ha q)]
    · rw [habove a (by omega)]; rfl
  have hb : ∀ a, a < leastM S.least m S.used → m a = 2 := fun a ha => by
    have h1 := leastM_le S.least m S.used
    have h2 := g.least
    have h3 := leastM_lt S.used a ha (by omega)
    have h4 := (hz a).1 (g.below a (by omega))
    have h5 := hle a
    omega
  refine ⟨⟨?_, fun a ha => ?_, fun a => ?_, ha2, fun a ha x hx => ?_, ?_, ?_, g.lim, ?_⟩, by omega⟩
  · show leastM S.least m S.used ≤ endM m S.used
    by_cases q : leastM S.least m S.used = 0
    · omega
    · have h1 := leastM_le S.least m S.used
      have h2 := g.least
      have := endM_last m S.used (leastM S.least m S.used - 1) (by omega) (hb _ (by omega))
      omega
  · show Hp.swept m a ≠ 0
    unfold Hp.swept
    rw [if_pos (hb a ha)]
    decide
  · show Hp.swept m a ≤ 1
    unfold Hp.swept
    split <;> omega
  · have ha : Hp.swept m a ≠ 0 := ha
    have hm : m a = 2 := by
      unfold Hp.swept at ha
      apply Classical.byContradiction
      intro q
      rw [if_neg q] at ha
      exact ha rfl
    have hx : x ∈ (S.nd a).l := hx
    have hR : Rch S roots x := .step ((h.iff g a).1 hm) (by simpa using hx)
    have hmx := h.done hR
    have hax : S.is a ≠ 0 := (hz a).2 (by omega)
    obtain ⟨q0, q1, q2⟩ := Hs.held_iff.1 (g.ptr a hax x hx)
    refine Hs.held_iff.2 ⟨q0, ?_, ?_⟩
    · show x < ((endM m S.used : Nat) : Int)
      have := endM_last m S.used x.toNat (by omega) hmx
      omega
    · show Hp.swept m x.toNat ≠ 0
      unfold Hp.swept
      rw [if_pos hmx]
      decide
  · show S.live - freed m S.used = cnt (Hp.swept m) (endM m S.used)
    rw [← cnt_zero S.used he ha2]
    omega
  · show S.live - freed m S.used ≤ S.cap
    have := g.cap
    omega
  · show endM m S.used ≤ S.cap
    have := g.fits
    omega
/-- what a collection comes to -/
structure Coll (S : Hs) (roots : List Int) (S' : Hs) : Prop where
  good : Good S'
  cap : S'.cap = S.cap
  allocs : S'.allocs = S.allocs
  nd : S'.nd = S.nd
  yes : ∀ a : Nat, Rch S roots a → S'.is a = 1
  no : ∀ a : Nat, ¬ Rch S roots a → S'.is a = 0
  live : S'.live ≤ S.live
theorem swept_coll {S : Hs} {roots : List Int} {m : Nat → Nat} (g : Good S) (h : MkInv S roots m []) : Coll S roots (S.swept m) :=
  ⟨(swept_good g h).1, rfl, rfl, rfl, fun a ha => by
    show Hp.swept m a = 1
    unfold Hp.swept
    rw [if_pos ((h.iff g a).2 ha)], fun a ha => by
    show Hp.swept m a = 0
    unfold Hp.swept
    rw [if_neg (fun q => ha ((h.iff g a).1 q))], Nat.sub_le _ _⟩
end Go.Proofs.Ytbkklnihgejeoaa.Hp
