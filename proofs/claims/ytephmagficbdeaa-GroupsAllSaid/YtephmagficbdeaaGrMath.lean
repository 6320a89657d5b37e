/-
  PLAIN MATHEMATICS of layer group: what needs what; a look's state and what stays true of it (the groups of what needs one another). No program in sight.
-/
namespace Go.Proofs.Ytephmagficbdeaa.Gr
set_option linter.unusedVariables false
/-- what a thing uses -/
def U (g : List (List Nat)) (x : Nat) : List Nat := g.getD x []
/-- one leads to another one in some steps, perhaps none -/
inductive Star (g : List (List Nat)) : Nat → Nat → Prop
  | refl (x : Nat) : Star g x x
  | more {x y z : Nat} : Star g x y → z ∈ U g y → Star g x z
/-- one needs another one -/
def Needs (g : List (List Nat)) (x y : Nat) : Prop := ∃ z, z ∈ U g x ∧ Star g z y
/-- they are the same, or each needs the other one -/
def Mut (g : List (List Nat)) (x y : Nat) : Prop := Star g x y ∧ Star g y x
section
variable {g : List (List Nat)} {x y z : Nat}
theorem Star.one (h : y ∈ U g x) : Star g x y := .more (.refl x) h
theorem Star.trans (h : Star g x y) (k : Star g y z) : Star g x z := by
  induction k with
  | refl => exact h
  | more _ e ih => exact .more ih e
theorem Needs.star (h : Needs g x y) : Star g x y := by
  obtain ⟨z, hz, h⟩ := h
  exact (Star.one hz).trans h
theorem Star.cases' (h : Star g x y) : x = y ∨ Needs g x y := by
  induction h with
  | refl => exact .inl rfl
  | more h e ih =>
    rcases ih with rfl | ⟨a, ha, h'⟩
    · exact .inr ⟨_, e, .refl _⟩
    · exact .inr ⟨a, ha, h'.more e⟩
theorem Needs.of_star (h : Star g x y) (hne : x ≠ y) : Needs g x y := (h.cases').resolve_left hne
theorem mut_iff : Mut g x y ↔ x = y ∨ (Needs g x y ∧ Needs g y x) := by
  constructor
  · rintro ⟨h, k⟩
    by_cases e : x = y
    · exact .inl e
    · exact .inr ⟨.of_star h e, .of_star k (fun e' => e e'.symm)⟩
  · rintro (rfl | ⟨h, k⟩)
    · exact ⟨.refl _, .refl _⟩
    · exact ⟨h.star, k.star⟩
theorem Mut.refl (x : Nat) : Mut g x x := ⟨.refl x, .refl x⟩
theorem Mut.symm (h : Mut g x y) : Mut g y x := ⟨h.2, h.1⟩
theorem Mut.trans (h : Mut g x y) (k : Mut g y z) : Mut g x z := ⟨h.1.trans k.1, k.2.trans h.2⟩
theorem Star.closed {P : Nat → Prop} (h : Star g x y) (hP : ∀ a, P a → ∀ b ∈ U g a, P b) (hx : P x) : P y := by
  induction h with
  | refl => exact hx
  | more _ e ih => exact hP _ ih _ e
end
/-- numbers, each greater than the one ahead -/
def Rising (l : List Nat) : Prop := l.Pairwise (· < ·)
theorem rising_ext : ∀ {l m : List Nat}, Rising l → Rising m → (∀ x, x ∈ l ↔ x ∈ m) → l = m
  | [], [], _, _, _ => rfl
  | [], b :: m, _, _, h => by have := (h b).2 (by simp); cases this
  | a :: l, [], _, _, h => by have := (h a).1 (by simp); cases this
  | a :: l, b :: m, h1, h2, h => by
    have h1' := List.pairwise_cons.1 h1
    have h2' := List.pairwise_cons.1 h2
    have hab : a = b := by
      have ha := (h a).1 (by simp)
      have hb := (h b).2 (by simp)
      rcases List.mem_cons.1 ha with e | e
      · exact e
      · rcases List.mem_cons.1 hb with e' | e'
        · exact e'.symm
        · have := h1'.1 _ e'
          have := h2'.1 _ e
          omega
    subst hab
    congr 1
    refine rising_ext h1'.2 h2'.2 fun x => ?_
    constructor
    · intro hx
      rcases List.mem_cons.1 ((h x).1 (List.mem_cons_of_mem _ hx)) with e | e
      · have := h1'.1 _ hx; omega
      · exact e
    · intro hx
      rcases List.mem_cons.1 ((h x).2 (List.mem_cons_of_mem _ hx)) with e | e
      · have := h2'.1 _ hx; omega
      · exact e
/-- what a look has found out: when each thing was come to (0: not yet), the first one that is come back to from it, the place of the use that is looked into next, whether its group is known; the stacks; the groups -/
structure TS where
  at_ : Nat → Nat
  back : Nat → Nat
  nxt : Nat → Nat
  whole : Nat → Bool
  count : Nat
  path : List Nat
  opn : List Nat
  groups : List (List Nat)
/-- a function turned at one place -/
def upd {α : Type} (f : Nat → α) (n : Nat) (v : α) : Nat → α := fun i => if i = n then v else f i
theorem upd_same {α : Type} (f : Nat → α) (n : Nat) (v : α) : upd f n v n = v := by simp [upd]
theorem upd_ne {α : Type} (f : Nat → α) {n i : Nat} (v : α) (h : i ≠ n) : upd f n v i = f i := by simp [upd, h]
def TS.enter (s : TS) (n : Nat) : TS :=
  { s with at_ := upd s.at_ n (s.count + 1), back := upd s.back n (s.count + 1), nxt := upd s.nxt n 0, whole := upd s.whole n false, count := s.count + 1, path := s.path ++ [n], opn := s.opn ++ [n] }
/-- the use of n that is next is looked into -/
def TS.step (s : TS) (n : Nat) : TS := { s with nxt := upd s.nxt n (s.nxt n + 1) }
def TS.seen (s : TS) (n y : Nat) : TS := { s with back := upd s.back n (min (s.back n) (s.at_ y)) }
/-- p is the last one of the path that was come to no later than v -/
def TS.Own (s : TS) (p v : Nat) : Prop := p ∈ s.path ∧ s.at_ p ≤ s.at_ v ∧ ∀ q ∈ s.path, s.at_ q ≤ s.at_ v → s.at_ q ≤ s.at_ p
structure Inv (g : List (List Nat)) (s : TS) : Prop where
  use : ∀ x < g.length, ∀ y ∈ U g x, y < g.length
  vis : ∀ v, s.at_ v ≠ 0 → v < g.length
  inj : ∀ v w, s.at_ v ≠ 0 → s.at_ v = s.at_ w → v = w
  cnt : ∀ v, s.at_ v ≤ s.count
  opn : ∀ v, v ∈ s.opn ↔ s.at_ v ≠ 0 ∧ s.whole v = false
  srt : s.opn.Pairwise (fun a b : Nat => s.at_ a < s.at_ b)
  pop : ∀ v ∈ s.path, v ∈ s.opn
  psr : s.path.Pairwise (fun a b : Nat => s.at_ a < s.at_ b)
  wat : ∀ v, s.whole v = true → s.at_ v ≠ 0
  wcl : ∀ v, s.whole v = true → ∀ u ∈ U g v, s.whole u = true
  up : ∀ v ∈ s.opn, ∃ p ∈ s.path, s.at_ p ≤ s.at_ v ∧ Star g v p
  down : ∀ p ∈ s.path, ∀ v ∈ s.opn, s.at_ p ≤ s.at_ v → Star g p v
  fin : ∀ v ∈ s.opn, v ∉ s.path → (U g v).length ≤ s.nxt v
  edg : ∀ v ∈ s.opn, ∀ w ∈ (U g v).take (s.nxt v), s.at_ w ≠ 0 ∧ (s.whole w = true ∨ ∀ p, s.Own p v → s.back p ≤ s.at_ w)
  bck : ∀ p ∈ s.path, s.back p ≤ s.at_ p ∧ ∃ w ∈ s.opn, s.at_ w = s.back p ∧ Star g p w
  grp : ∀ v, s.whole v = true ↔ ∃ C ∈ s.groups, v ∈ C
  gsc : ∀ C ∈ s.groups, Rising C ∧ C ≠ [] ∧ ∀ x ∈ C, ∀ y, y ∈ C ↔ Mut g x y
  gdj : s.groups.Pairwise (fun C D => ∀ x ∈ C, x ∉ D)
  gor : ∀ (i : Nat) C, s.groups[i]? = some C → ∀ x ∈ C, ∀ u ∈ U g x, ∃ (j : Nat) (D : _), j ≤ i ∧ s.groups[j]? = some D ∧ u ∈ D
theorem inv_start (g : List (List Nat)) (hg : ∀ x < g.length, ∀ y ∈ U g x, y < g.length) : Inv g ⟨fun _ => 0, fun _ => 0, fun _ => 0, fun _ => false, 0, [], [], []⟩ where
  use := hg
  vis := by simp
  inj := by simp
  cnt := by simp
  opn := by simp
  srt := by simp
  pop := by simp
  psr := by simp
  wat := by simp
  wcl := by simp
  up := by simp
  down := by simp
  fin := by simp
  edg := by simp
  bck := by simp
  grp := by simp
  gsc := by simp
  gdj := by simp
  gor := by simp
section
variable {g : List (List Nat)} {s : TS}
theorem Inv.at_of (h : Inv g s) {v : Nat} (hv : v ∈ s.opn) : s.at_ v ≠ 0 := ((h.opn v).1 hv).1
/-- a thing that was not come to is entered: from the top of the path, or from nowhere -/
theorem Inv.enter (h : Inv g s) {n : Nat} (hn : n < g.length) (h0 : s.at_ n = 0) (ht : ∀ p ∈ s.path, Star g p n) : Inv g (s.enter n) := by
  have hno : n ∉ s.opn := fun e => h.at_of e h0
  have hnp : n ∉ s.path := fun e => hno (h.pop n e)
  have hnw : s.whole n = false := by
    cases e : s.whole n with
    | false => rfl
    | true => exact absurd h0 (h.wat n e)
  have ha : ∀ v, v ≠ n → (s.enter n).at_ v = s.at_ v := fun v hv => upd_ne _ _ hv
  have hb : ∀ v, v ≠ n → (s.enter n).back v = s.back v := fun v hv => upd_ne _ _ hv
  have hx : ∀ v, v ≠ n → (s.enter n).nxt v = s.nxt v := fun v hv => upd_ne _ _ hv
  have hw : ∀ v, v ≠ n → (s.enter n).whole v = s.whole v := fun v hv => upd_ne _ _ hv
  have hw' : ∀ v, (s.enter n).whole v = s.whole v := fun v => by
    by_cases e : v = n
    · subst e; rw [hnw]; exact upd_same _ _ _
    · exact hw v e
  have ea : (s.enter n).at_ n = s.count + 1 := upd_same _ _ _
  have eb : (s.enter n).back n = s.count + 1 := upd_same _ _ _
  have ex : (s.enter n).nxt n = 0 := upd_same _ _ _
  have ec : (s.enter n).count = s.count + 1 := rfl
  have ep : (s.enter n).path = s.path ++ [n] := rfl
  have eo : (s.enter n).opn = s.opn ++ [n] := rfl
  have eg : (s.enter n).groups = s.groups := rfl
  have mo : ∀ v, v ∈ (s.enter n).opn ↔ v ∈ s.opn ∨ v = n := fun v => by rw [eo]; simp
  have mp : ∀ v, v ∈ (s.enter n).path ↔ v ∈ s.path ∨ v = n := fun v => by rw [ep]; simp
  have no : ∀ v ∈ s.opn, v ≠ n := fun v hv e => hno (e ▸ hv)
  have np : ∀ v ∈ s.path, v ≠ n := fun v hv e => hnp (e ▸ hv)
  refine ⟨h.use, ?_, ?_, ?_, ?_, ?_, ?_, ?_, ?_, ?_, ?_, ?_, ?_, ?_, ?_, ?_, ?_, ?_, ?_⟩
  · intro v hv
    by_cases e : v = n
    · exact e ▸ hn
    · rw [ha v e] at hv; exact h.vis v hv
  · intro v w hv e
    by_cases e1 : v = n <;> by_cases e2 : w = n
    · rw [e1, e2]
    · subst e1; rw [ea, ha w e2] at e; have := h.cnt w; omega
    · subst e2; rw [ea, ha v e1] at e; have := h.cnt v; omega
    · rw [ha v e1] at hv e; rw [ha w e2] at e; exact h.inj v w hv e
  · intro v
    by_cases e : v = n
    · subst e; rw [ea, ec]; exact Nat.le_refl _
    · rw [ha v e, ec]; have := h.cnt v; omega
  · intro v
    rw [mo, hw']
    by_cases e : v = n
    · subst e; rw [ea]; simp [hnw]
    · rw [ha v e, ← h.opn v]; simp [e]
  · rw [eo, List.pairwise_append]
    refine ⟨h.srt.imp_of_mem fun hi hj e => by rw [ha _ (no _ hi), ha _ (no _ hj)]; exact e, by simp, fun a h1 b h2 => ?_⟩
    simp only [List.mem_singleton] at h2
    subst h2
    rw [ea, ha a (no a h1)]
    have := h.cnt a; omega
  · intro v hv
    rw [mo]
    rcases (mp v).1 hv with e | e
    · exact .inl (h.pop v e)
    · exact .inr e
  · rw [ep, List.pairwise_append]
    refine ⟨h.psr.imp_of_mem fun hi hj e => by rw [ha _ (np _ hi), ha _ (np _ hj)]; exact e, by simp, fun a h1 b h2 => ?_⟩
    simp only [List.mem_singleton] at h2
    subst h2
    rw [ea, ha a (np a h1)]
    have := h.cnt a; omega
  · intro v hv
    rw [hw'] at hv
    have := h.wat v hv
    rw [ha v (fun e => by subst e; exact this h0)]
    exact this
  · intro v hv u hu
    rw [hw'] at hv ⊢
    exact h.wcl v hv u hu
  · intro v hv
    rcases (mo v).1 hv with e | rfl
    · obtain ⟨p, hp, h1, h2⟩ := h.up v e
      exact ⟨p, (mp p).2 (.inl hp), by rw [ha p (np p hp), ha v (no v e)]; exact h1, h2⟩
    · exact ⟨v, (mp v).2 (.inr rfl), Nat.le_refl _, .refl v⟩
  · intro p hp v hv hle
    rcases (mp p).1 hp with e1 | rfl <;> rcases (mo v).1 hv with e2 | rfl
    · rw [ha p (np p e1), ha v (no v e2)] at hle
      exact h.down p e1 v e2 hle
    · exact ht p e1
    · rw [ea, ha v (no v e2)] at hle
      have := h.cnt v; omega
    · exact .refl _
  · intro v hv hp
    rcases (mo v).1 hv with e | rfl
    · rw [hx v (no v e)]
      exact h.fin v e (fun e' => hp ((mp v).2 (.inl e')))
    · exact absurd ((mp v).2 (.inr rfl)) hp
  · intro v hv w hw2
    rcases (mo v).1 hv with e | rfl
    · rw [hx v (no v e)] at hw2
      obtain ⟨k1, k2⟩ := h.edg v e w hw2
      have hwn : w ≠ n := fun e' => by subst e'; exact k1 h0
      rw [ha w hwn, hw']
      refine ⟨k1, k2.imp id fun k2 p hp => ?_⟩
      obtain ⟨q1, q2, q3⟩ := hp
      rcases (mp p).1 q1 with e1 | rfl
      · rw [hb p (np p e1)]
        refine k2 p ⟨e1, ?_, fun q hq hle => ?_⟩
        · rw [ha p (np p e1), ha v (no v e)] at q2; exact q2
        · have := q3 q ((mp q).2 (.inl hq)) (by rw [ha q (np q hq), ha v (no v e)]; exact hle)
          rw [ha q (np q hq), ha p (np p e1)] at this
          exact this
      · rw [ea, ha v (no v e)] at q2
        have := h.cnt v; omega
    · rw [ex] at hw2
      simp at hw2
  · intro p hp
    rcases (mp p).1 hp with e | rfl
    · obtain ⟨k1, w, k2, k3, k4⟩ := h.bck p e
      rw [hb p (np p e), ha p (np p e)]
      exact ⟨k1, w, (mo w).2 (.inl k2), by rw [ha w (no w k2)]; exact k3, k4⟩
    · rw [ea, eb]
      exact ⟨Nat.le_refl _, p, (mo p).2 (.inr rfl), ea, .refl p⟩
  · intro v; rw [hw', eg]; exact h.grp v
  · rw [eg]; exact h.gsc
  · rw [eg]; exact h.gdj
  · rw [eg]; exact h.gor
/-- the one that p is, of things that p itself is on the path -/
theorem Inv.own_self (h : Inv g s) {n p : Nat} (hn : n ∈ s.path) (hp : s.Own p n) : p = n := by
  have h1 := hp.2.2 n hn (Nat.le_refl _)
  exact h.inj p n (h.at_of (h.pop p hp.1)) (by have := hp.2.1; omega)
theorem Inv.step (h : Inv g s) {n w : Nat} (hn : n ∈ s.path) (hw : (U g n)[s.nxt n]? = some w) (h0 : s.at_ w ≠ 0) (hb : s.whole w = true ∨ s.back n ≤ s.at_ w) : Inv g (s.step n) where
  use := h.use
  vis := h.vis
  inj := h.inj
  cnt := h.cnt
  opn := h.opn
  srt := h.srt
  pop := h.pop
  psr := h.psr
  wat := h.wat
  wcl := h.wcl
  up := h.up
  down := h.down
  fin := by
    intro v hv hp
    show _ ≤ upd s.nxt n (s.nxt n + 1) v
    rw [upd_ne _ _ (fun e => hp (by rw [e]; exact hn))]
    exact h.fin v hv hp
  edg := by
    intro v hv u hu
    replace hu : u ∈ (U g v).take (upd s.nxt n (s.nxt n + 1) v) := hu
    by_cases e : v = n
    · subst e
      rw [upd_same, List.take_add_one, hw] at hu
      rcases List.mem_append.1 hu with hu | hu
      · exact h.edg v hv u hu
      · obtain rfl : u = w := by simpa using hu
        exact ⟨h0, hb.imp id fun hb p hp => by rw [h.own_self hn (p := p) hp]; exact hb⟩
    · rw [upd_ne _ _ e] at hu
      exact h.edg v hv u hu
  bck := h.bck
  grp := h.grp
  gsc := h.gsc
  gdj := h.gdj
  gor := h.gor
theorem Inv.seen (h : Inv g s) {n y : Nat} (hn : n ∈ s.path) (hy : y ∈ s.opn) (hs : Star g n y) : Inv g (s.seen n y) where
  use := h.use
  vis := h.vis
  inj := h.inj
  cnt := h.cnt
  opn := h.opn
  srt := h.srt
  pop := h.pop
  psr := h.psr
  wat := h.wat
  wcl := h.wcl
  up := h.up
  down := h.down
  fin := h.fin
  edg := by
    intro v hv u hu
    obtain ⟨k1, k2⟩ := h.edg v hv u hu
    refine ⟨k1, k2.imp id fun k2 p hp => ?_⟩
    have := k2 p hp
    show upd s.back n (min (s.back n) (s.at_ y)) p ≤ s.at_ u
    by_cases e : p = n
    · subst e; rw [upd_same]; omega
    · rw [upd_ne _ _ e]; exact this
  bck := by
    intro p hp
    show upd s.back n (min (s.back n) (s.at_ y)) p ≤ s.at_ p ∧ ∃ w ∈ s.opn, s.at_ w = upd s.back n (min (s.back n) (s.at_ y)) p ∧ Star g p w
    obtain ⟨k1, w, k2, k3, k4⟩ := h.bck p hp
    by_cases e : p = n
    · subst e
      rw [upd_same]
      refine ⟨by omega, ?_⟩
      by_cases hle : s.back p ≤ s.at_ y
      · exact ⟨w, k2, by omega, k4⟩
      · exact ⟨y, hy, by omega, hs⟩
    · rw [upd_ne _ _ e]
      exact ⟨k1, w, k2, k3, k4⟩
  grp := h.grp
  gsc := h.gsc
  gdj := h.gdj
  gor := h.gor
/-- deeper: the next use of the path's top is entered -/
theorem Inv.deeper (h : Inv g s) {P : List Nat} {n w : Nat} (hp : s.path = P ++ [n]) (hw : (U g n)[s.nxt n]? = some w) (h0 : s.at_ w = 0) : Inv g ((s.enter w).step n) := by
  have hn : n ∈ s.path := by rw [hp]; simp
  have hmem : w ∈ U g n := List.mem_of_getElem? hw
  have ho := h.pop n hn
  have han := h.at_of ho
  have hne : n ≠ w := fun e => by subst e; exact han h0
  have hlt := h.vis n han
  have hstar : ∀ p ∈ s.path, Star g p w := fun p hpm => by
    refine (h.down p hpm n ho ?_).more hmem
    rw [hp] at hpm
    have := h.psr
    rw [hp, List.pairwise_append] at this
    rcases List.mem_append.1 hpm with e | e
    · exact Nat.le_of_lt (this.2.2 p e n (by simp))
    · simp only [List.mem_singleton] at e; subst e; exact Nat.le_refl _
  have he := h.enter (h.use n hlt w hmem) h0 hstar
  refine he.step (n := n) (w := w) (List.mem_append.2 (.inl hn)) ?_ ?_ (.inr ?_)
  · show (U g n)[upd s.nxt w 0 n]? = some w
    rw [upd_ne _ _ hne]; exact hw
  · show upd s.at_ w (s.count + 1) w ≠ 0
    rw [upd_same]; omega
  · show upd s.back w (s.count + 1) n ≤ upd s.at_ w (s.count + 1) w
    rw [upd_same, upd_ne _ _ hne]
    have := (h.bck n hn).1
    have := h.cnt n
    omega
/-- the top comes back to one ahead of it: it only leaves the path -/
theorem Inv.leaveNo (h : Inv g s) {P : List Nat} {n : Nat} (hp : s.path = P ++ [n]) (hf : (U g n).length ≤ s.nxt n) (hb : s.back n < s.at_ n) :
    ∃ Q m, P = Q ++ [m] ∧ Inv g { s with path := P, back := upd s.back m (min (s.back m) (s.back n)) } := by
  have hn : n ∈ s.path := by rw [hp]; simp
  have ho := h.pop n hn
  obtain ⟨_, w, w1, w2, w3⟩ := h.bck n hn
  have hps : (P ++ [n]).Pairwise (fun a b : Nat => s.at_ a < s.at_ b) := hp ▸ h.psr
  rw [List.pairwise_append] at hps
  have hlt : ∀ p ∈ P, s.at_ p < s.at_ n := fun p hpm => hps.2.2 p hpm n (by simp)
  have mem : ∀ p, p ∈ s.path ↔ p ∈ P ∨ p = n := fun p => by rw [hp]; simp
  obtain ⟨p0, p1, p2, p3⟩ := h.up w w1
  have hp0 : p0 ∈ P := ((mem p0).1 p1).resolve_right fun e => by subst e; omega
  have hne : P ≠ [] := fun e => by rw [e] at hp0; cases hp0
  refine ⟨P.dropLast, P.getLast hne, (List.dropLast_concat_getLast hne).symm, ?_⟩
  generalize hm : P.getLast hne = m
  have hmP : m ∈ P := by rw [← hm]; exact List.getLast_mem hne
  have hlast : ∀ p ∈ P, s.at_ p ≤ s.at_ m := fun p hpm => by
    have e := List.dropLast_concat_getLast hne
    rw [hm] at e
    have hq := hps.1
    rw [← e, List.pairwise_append] at hq
    rw [← e] at hpm
    rcases List.mem_append.1 hpm with hx | hx
    · exact Nat.le_of_lt (hq.2.2 p hx m (by simp))
    · simp only [List.mem_singleton] at hx; subst hx; exact Nat.le_refl _
  have back_le : ∀ p, upd s.back m (min (s.back m) (s.back n)) p ≤ s.back p := fun p => by
    by_cases e : p = m
    · subst e; rw [upd_same]; omega
    · rw [upd_ne _ _ e]; exact Nat.le_refl _
  refine ⟨h.use, h.vis, h.inj, h.cnt, h.opn, h.srt, fun v hv => h.pop v ((mem v).2 (.inl hv)), hps.1, h.wat, h.wcl, ?_, fun p hpm v hv hle => h.down p ((mem p).2 (.inl hpm)) v hv hle, ?_, ?_, ?_, h.grp, h.gsc, h.gdj, h.gor⟩
  · intro v hv
    obtain ⟨p, q1, q2, q3⟩ := h.up v hv
    rcases (mem p).1 q1 with e | rfl
    · exact ⟨p, e, q2, q3⟩
    · exact ⟨p0, hp0, by show s.at_ p0 ≤ s.at_ v; omega, (q3.trans w3).trans p3⟩
  · intro v hv hnp
    by_cases e : v = n
    · subst e; exact hf
    · exact h.fin v hv (fun e' => hnp (((mem v).1 e').resolve_right e))
  · intro v hv u hu
    obtain ⟨k1, k2⟩ := h.edg v hv u hu
    refine ⟨k1, k2.imp id fun k2 p hop => ?_⟩
    obtain ⟨q1, q2, q3⟩ := hop
    replace q1 : p ∈ P := q1
    show upd s.back m (min (s.back m) (s.back n)) p ≤ s.at_ u
    by_cases hnv : s.at_ n ≤ s.at_ v
    · have e : p = m := by
        have := q3 m hmP (by show s.at_ m ≤ s.at_ v; have := hlt m hmP; omega)
        have h2 := hlast p q1
        exact h.inj p m (h.at_of (h.pop p ((mem p).2 (.inl q1)))) (by have : s.at_ m ≤ s.at_ p := this; omega)
      subst e
      rw [upd_same]
      have := k2 n ⟨hn, hnv, fun q hq hle => by
        rcases (mem q).1 hq with e | rfl
        · exact Nat.le_of_lt (hlt q e)
        · exact Nat.le_refl _⟩
      omega
    · have := k2 p ⟨(mem p).2 (.inl q1), q2, fun q hq hle => by
        rcases (mem q).1 hq with e | rfl
        · exact q3 q e hle
        · exact absurd hle hnv⟩
      have := back_le p
      omega
  · intro p hpm
    replace hpm : p ∈ P := hpm
    show upd s.back m (min (s.back m) (s.back n)) p ≤ s.at_ p ∧ ∃ w ∈ s.opn, s.at_ w = upd s.back m (min (s.back m) (s.back n)) p ∧ Star g p w
    obtain ⟨k1, x, k2, k3, k4⟩ := h.bck p ((mem p).2 (.inl hpm))
    refine ⟨Nat.le_trans (back_le p) k1, ?_⟩
    by_cases e : p = m
    · subst e
      rw [upd_same]
      by_cases hle : s.back p ≤ s.back n
      · exact ⟨x, k2, by omega, k4⟩
      · exact ⟨w, w1, by omega, (h.down p ((mem p).2 (.inl hpm)) n ho (Nat.le_of_lt (hlt p hpm))).trans w3⟩
    · rw [upd_ne _ _ e]
      exact ⟨x, k2, k3, k4⟩
/-- the top comes back to none ahead of it: what is open from it on is its group -/
theorem Inv.leaveYes (h : Inv g s) {P O1 O2 C : List Nat} {n : Nat} (hp : s.path = P ++ [n]) (hf : (U g n).length ≤ s.nxt n) (hb : ¬ s.back n < s.at_ n) (ho : s.opn = O1 ++ n :: O2) (hC : Rising C) (hCm : ∀ x, x ∈ C ↔ x ∈ n :: O2)
    {b : Nat → Nat} (hbk : ∀ p ∈ P, b p = s.back p) {wh : Nat → Bool} (hwh : ∀ v, wh v = true ↔ v ∈ C ∨ s.whole v = true) :
    Inv g { s with path := P, back := b, opn := O1, whole := wh, groups := s.groups ++ [C] } := by
  have hn : n ∈ s.path := by rw [hp]; simp
  have hno := h.pop n hn
  have hps : (P ++ [n]).Pairwise (fun a b : Nat => s.at_ a < s.at_ b) := hp ▸ h.psr
  rw [List.pairwise_append] at hps
  have hlt : ∀ p ∈ P, s.at_ p < s.at_ n := fun p hpm => hps.2.2 p hpm n (by simp)
  have mem : ∀ p, p ∈ s.path ↔ p ∈ P ∨ p = n := fun p => by rw [hp]; simp
  have hos : (O1 ++ n :: O2).Pairwise (fun a b : Nat => s.at_ a < s.at_ b) := ho ▸ h.srt
  rw [List.pairwise_append] at hos
  have ho1 : ∀ v ∈ O1, s.at_ v < s.at_ n := fun v hv => hos.2.2 v hv n (by simp)
  have ho2 : ∀ v ∈ n :: O2, s.at_ n ≤ s.at_ v := fun v hv => by
    rcases List.mem_cons.1 hv with rfl | e
    · exact Nat.le_refl _
    · exact Nat.le_of_lt ((List.pairwise_cons.1 hos.2.1).1 v e)
  have mo : ∀ v, v ∈ s.opn ↔ v ∈ O1 ∨ v ∈ C := fun v => by rw [ho, List.mem_append, hCm]
  have cC : ∀ v, v ∈ C ↔ v ∈ s.opn ∧ s.at_ n ≤ s.at_ v := fun v => by
    rw [mo]
    constructor
    · intro hv; exact ⟨.inr hv, ho2 v ((hCm v).1 hv)⟩
    · rintro ⟨hv | hv, hle⟩
      · have := ho1 v hv; omega
      · exact hv
  have cO : ∀ v, v ∈ O1 ↔ v ∈ s.opn ∧ s.at_ v < s.at_ n := fun v => by
    rw [mo]
    constructor
    · intro hv; exact ⟨.inl hv, ho1 v hv⟩
    · rintro ⟨hv | hv, hle⟩
      · exact hv
      · have := ((cC v).1 hv).2; omega
  have hbn : s.back n = s.at_ n := by have := (h.bck n hn).1; omega
  have hPO : ∀ p ∈ P, p ∈ O1 := fun p hpm => (cO p).2 ⟨h.pop p ((mem p).2 (.inl hpm)), hlt p hpm⟩
  -- all that C uses lies in it, or has its group
  have hcl : ∀ v ∈ C, ∀ u ∈ U g v, u ∈ C ∨ s.whole u = true := fun v hv u hu => by
    obtain ⟨hvo, hle⟩ := (cC v).1 hv
    have hall : (U g v).length ≤ s.nxt v := by
      by_cases e : v ∈ s.path
      · rcases (mem v).1 e with e | rfl
        · have := hlt v e; omega
        · exact hf
      · exact h.fin v hvo e
    obtain ⟨k1, k2⟩ := h.edg v hvo u (by rw [List.take_of_length_le hall]; exact hu)
    rcases k2 with k2 | k2
    · exact .inr k2
    · cases hw : s.whole u with
      | true => exact .inr rfl
      | false =>
        left
        refine (cC u).2 ⟨(h.opn u).2 ⟨k1, hw⟩, ?_⟩
        have := k2 n ⟨hn, hle, fun q hq _ => by
          rcases (mem q).1 hq with e | rfl
          · exact Nat.le_of_lt (hlt q e)
          · exact Nat.le_refl _⟩
        omega
  have hcw : ∀ v, v ∈ C → s.whole v = false := fun v hv => ((h.opn v).1 ((cC v).1 hv).1).2
  have hCn : n ∈ C := (hCm n).2 (by simp)
  have hstar : ∀ v ∈ C, Mut g n v := fun v hv => by
    obtain ⟨hvo, hle⟩ := (cC v).1 hv
    refine ⟨h.down n hn v hvo hle, ?_⟩
    obtain ⟨p, p1, _, p3⟩ := h.up v hvo
    refine p3.trans (h.down p p1 n hno ?_)
    rcases (mem p).1 p1 with e | rfl
    · exact Nat.le_of_lt (hlt p e)
    · exact Nat.le_refl _
  have hsc : ∀ x ∈ C, ∀ y, y ∈ C ↔ Mut g x y := fun x hx y => by
    constructor
    · intro hy; exact ((hstar x hx).symm).trans (hstar y hy)
    · intro hm
      have h1 : y ∈ C ∨ s.whole y = true := hm.1.closed (P := fun a => a ∈ C ∨ s.whole a = true) (fun a ha b hb => by
        rcases ha with ha | ha
        · exact hcl a ha b hb
        · exact .inr (h.wcl a ha b hb)) (.inl hx)
      refine h1.resolve_right fun hy => ?_
      have := hm.2.closed (P := fun a => s.whole a = true) (fun a ha b hb => h.wcl a ha b hb) hy
      rw [hcw x hx] at this
      cases this
  have hwf : ∀ v, wh v = false ↔ v ∉ C ∧ s.whole v = false := fun v => by
    cases hv : wh v with
    | true =>
      have := (hwh v).1 hv
      simp only [Bool.true_eq_false, false_iff, not_and]
      intro hnc
      rw [this.resolve_left hnc]
      simp
    | false =>
      have : ¬ (v ∈ C ∨ s.whole v = true) := fun e => by rw [(hwh v).2 e] at hv; cases hv
      simp only [true_iff]
      refine ⟨fun e => this (.inl e), ?_⟩
      cases e : s.whole v with
      | true => exact absurd (.inr e) this
      | false => rfl
  refine ⟨h.use, h.vis, h.inj, h.cnt, ?_, hos.1, hPO, hps.1, ?_, ?_, ?_, ?_, ?_, ?_, ?_, ?_, ?_, ?_, ?_⟩
  · intro v
    show v ∈ O1 ↔ s.at_ v ≠ 0 ∧ wh v = false
    rw [hwf]
    constructor
    · intro hv
      have h1 := (cO v).1 hv
      have h2 := (h.opn v).1 h1.1
      exact ⟨h2.1, fun e => by have := ((cC v).1 e).2; omega, h2.2⟩
    · rintro ⟨h1, h2, h3⟩
      exact ((mo v).1 ((h.opn v).2 ⟨h1, h3⟩)).resolve_right h2
  · intro v hv
    rcases (hwh v).1 hv with e | e
    · exact h.at_of ((cC v).1 e).1
    · exact h.wat v e
  · intro v hv u hu
    show wh u = true
    rw [hwh]
    rcases (hwh v).1 hv with e | e
    · exact hcl v e u hu
    · exact .inr (h.wcl v e u hu)
  · intro v hv
    obtain ⟨h1, h2⟩ := (cO v).1 hv
    obtain ⟨p, p1, p2, p3⟩ := h.up v h1
    exact ⟨p, ((mem p).1 p1).resolve_right fun e => by subst e; omega, p2, p3⟩
  · intro p hpm v hv hle
    exact h.down p ((mem p).2 (.inl hpm)) v ((cO v).1 hv).1 hle
  · intro v hv hnp
    obtain ⟨h1, h2⟩ := (cO v).1 hv
    refine h.fin v h1 fun e => hnp (((mem v).1 e).resolve_right fun e => by subst e; omega)
  · intro v hv u hu
    obtain ⟨h1, h2⟩ := (cO v).1 hv
    obtain ⟨k1, k2⟩ := h.edg v h1 u hu
    refine ⟨k1, ?_⟩
    show wh u = true ∨ ∀ p, _ → b p ≤ s.at_ u
    rw [hwh]
    rcases k2 with k2 | k2
    · exact .inl (.inr k2)
    · refine .inr fun p hop => ?_
      obtain ⟨q1, q2, q3⟩ := hop
      replace q1 : p ∈ P := q1
      rw [hbk p q1]
      exact k2 p ⟨(mem p).2 (.inl q1), q2, fun q hq hle => by
        rcases (mem q).1 hq with e | rfl
        · exact q3 q e hle
        · omega⟩
  · intro p hpm
    replace hpm : p ∈ P := hpm
    show b p ≤ s.at_ p ∧ ∃ w ∈ O1, s.at_ w = b p ∧ Star g p w
    obtain ⟨k1, x, k2, k3, k4⟩ := h.bck p ((mem p).2 (.inl hpm))
    rw [hbk p hpm]
    exact ⟨k1, x, (cO x).2 ⟨k2, by have := hlt p hpm; omega⟩, k3, k4⟩
  · intro v
    show wh v = true ↔ ∃ D ∈ s.groups ++ [C], v ∈ D
    rw [hwh, h.grp]
    simp only [List.mem_append, List.mem_singleton]
    constructor
    · rintro (e | ⟨D, h1, h2⟩)
      · exact ⟨C, .inr rfl, e⟩
      · exact ⟨D, .inl h1, h2⟩
    · rintro ⟨D, h1 | rfl, h2⟩
      · exact .inr ⟨D, h1, h2⟩
      · exact .inl h2
  · intro D hD
    rcases List.mem_append.1 hD with e | e
    · exact h.gsc D e
    · simp only [List.mem_singleton] at e
      subst e
      exact ⟨hC, fun e => (by rw [e] at hCn; cases hCn), hsc⟩
  · show (s.groups ++ [C]).Pairwise _
    rw [List.pairwise_append]
    refine ⟨h.gdj, by simp, fun D hD E hE x hx hxE => ?_⟩
    simp only [List.mem_singleton] at hE
    subst hE
    have := (h.grp x).2 ⟨D, hD, hx⟩
    rw [hcw x hxE] at this
    cases this
  · intro i D hD x hx u hu
    replace hD : (s.groups ++ [C])[i]? = some D := hD
    by_cases hi : i < s.groups.length
    · rw [List.getElem?_append_left hi] at hD
      obtain ⟨j, E, h1, h2, h3⟩ := h.gor i D hD x hx u hu
      exact ⟨j, E, h1, by show (s.groups ++ [C])[j]? = some E; rw [List.getElem?_append_left (by omega)]; exact h2, h3⟩
    · have hi2 : i = s.groups.length := by
        have := (List.getElem?_eq_some_iff.1 hD).1
        simp at this; omega
      subst hi2
      rw [List.getElem?_append_right (Nat.le_refl _)] at hD
      simp only [Nat.sub_self, List.getElem?_cons_zero, Option.some.injEq] at hD
      subst hD
      rcases hcl x hx u hu with e | e
      · exact ⟨s.groups.length, C, Nat.le_refl _, by show (s.groups ++ [C])[s.groups.length]? = some C; simp, e⟩
      · obtain ⟨E, h1, h2⟩ := (h.grp u).1 e
        obtain ⟨j, hj⟩ := List.mem_iff_getElem?.1 h1
        have hj2 := (List.getElem?_eq_some_iff.1 hj).1
        exact ⟨j, E, by omega, by show (s.groups ++ [C])[j]? = some E; rw [List.getElem?_append_left hj2]; exact hj, h2⟩
end
end Go.Proofs.Ytephmagficbdeaa.Gr
