/-
  PLAIN MATHEMATICS of layer group: how much a look's state may hold; what a look from one thing leaves. No program in sight.
-/
import Derived.Test.YtephmagficbdeaaGrMath3
namespace Go.Proofs.Ytephmagficbdeaa.Gr
set_option linter.unusedVariables false
/-- how many things were come to -/
def vc (N : Nat) (s : TS) : Nat := ((List.range N).filter fun v => decide (s.at_ v ≠ 0)).length
theorem vc_le (N : Nat) (s : TS) : vc N s ≤ N := by
  unfold vc
  have := List.length_filter_le (fun v => decide (s.at_ v ≠ 0)) (List.range N)
  simpa using this
theorem vc_same {N : Nat} {s s' : TS} (h : s'.at_ = s.at_) : vc N s' = vc N s := by unfold vc; rw [h]
theorem vc_enter {N : Nat} {s : TS} {n : Nat} (hn : n < N) (h0 : s.at_ n = 0) : vc N (s.enter n) = vc N s + 1 := by
  unfold vc
  refine filter_add_one _ _ n (by simp [h0]) (by simp [TS.enter, upd]) (fun y hy => ?_) _ List.nodup_range (by simpa using hn)
  simp [TS.enter, upd, hy]
section
variable {g : List (List Nat)} {s : TS}
theorem Inv.opn_nodup (h : Inv g s) : s.opn.Nodup := h.srt.imp fun hlt e => by subst e; omega
theorem Inv.path_nodup (h : Inv g s) : s.path.Nodup := h.psr.imp fun hlt e => by subst e; omega
theorem Inv.opn_lt (h : Inv g s) : ∀ x ∈ s.opn, x < g.length := fun x hx => h.vis x (h.at_of hx)
theorem Inv.path_lt (h : Inv g s) : ∀ x ∈ s.path, x < g.length := fun x hx => h.opn_lt x (h.pop x hx)
theorem Inv.opn_len (h : Inv g s) : s.opn.length ≤ g.length := nodup_le h.opn_nodup h.opn_lt
theorem Inv.path_len (h : Inv g s) : s.path.length ≤ g.length := nodup_le h.path_nodup h.path_lt
theorem Inv.groups_len (h : Inv g s) : s.groups.length ≤ g.length := by
  have h1 : (s.groups.map hd).Nodup := by
    refine List.pairwise_map.2 ((List.Pairwise.and_mem.1 h.gdj).imp fun {C D} hcd e => ?_)
    obtain ⟨hC, hD, hcd⟩ := hcd
    exact hcd _ (hd_mem (h.gsc C hC).2.1) (e ▸ hd_mem (h.gsc D hD).2.1)
  have := nodup_le (k := g.length) h1 (fun i hi => by
    obtain ⟨C, hC, rfl⟩ := List.mem_map.1 hi
    exact h.vis _ (h.wat _ ((h.grp _).2 ⟨C, hC, hd_mem (h.gsc C hC).2.1⟩)))
  simpa using this
/-- where the path is empty nothing is open -/
theorem Inv.opn_nil (h : Inv g s) (hp : s.path = []) : s.opn = [] := by
  cases ho : s.opn with
  | nil => rfl
  | cons a l =>
    obtain ⟨p, h1, _⟩ := h.up a (by rw [ho]; simp)
    rw [hp] at h1
    cases h1
/-- the open ones, parted at one -/
theorem split_at {l : List Nat} {n : Nat} (hn : n ∈ l) : ∃ O1 O2, l = O1 ++ n :: O2 ∧ n ∉ O1 := by
  induction l with
  | nil => cases hn
  | cons a l ih =>
    by_cases e : a = n
    · subst e; exact ⟨[], l, rfl, by simp⟩
    · obtain ⟨O1, O2, h1, h2⟩ := ih ((List.mem_cons.1 hn).resolve_left fun h => e h.symm)
      exact ⟨a :: O1, O2, by rw [h1]; rfl, fun h => (List.mem_cons.1 h).elim (fun h => e h.symm) h2⟩
theorem step_enter {m u : Nat} (h : m ≠ u) : (s.step m).enter u = (s.enter u).step m := by
  unfold TS.step TS.enter
  simp only [TS.mk.injEq, true_and, and_true]
  funext i
  unfold upd
  by_cases h1 : i = u
  · subst h1; simp; exact fun e => h e.symm
  · by_cases h2 : i = m <;> simp [h1, h2, h]
theorem step_seen {m y : Nat} : (s.step m).seen m y = (s.seen m y).step m := rfl
/-- what holds between two steps of a look from n0 that began in s0 -/
structure Mid (g : List (List Nat)) (s0 : TS) (n0 : Nat) (s : TS) : Prop where
  inv : Inv g s
  cnt : s.count = vc g.length s
  n0 : s.at_ n0 ≠ 0
  old : ∀ v, s0.at_ v ≠ 0 → s.at_ v ≠ 0
/-- what is still to be done -/
def left (g : List (List Nat)) (s : TS) : Nat := 2 * (g.length - vc g.length s) + s.path.length
theorem Mid.start (h : Inv g s) (hc : s.count = vc g.length s) {n : Nat} (hn : n < g.length) (h0 : s.at_ n = 0) (hp : s.path = []) : Mid g s n (s.enter n) :=
  ⟨h.enter hn h0 (by rw [hp]; simp), by rw [vc_enter hn h0, ← hc]; rfl, by simp [TS.enter, upd], fun v hv => by
    show upd s.at_ n (s.count + 1) v ≠ 0
    unfold upd
    split
    · omega
    · exact hv⟩
theorem Mid.deeper {s0 : TS} {n0 : Nat} (h : Mid g s0 n0 s) {P : List Nat} {m u : Nat} (hp : s.path = P ++ [m]) (hw : (U g m)[s.nxt m]? = some u) (h0 : s.at_ u = 0) :
    Mid g s0 n0 ((s.step m).enter u) ∧ left g ((s.step m).enter u) < left g s := by
  have hm : m ∈ s.path := by rw [hp]; simp
  have hne : m ≠ u := fun e => by subst e; exact h.inv.at_of (h.inv.pop m hm) h0
  have hu : u < g.length := h.inv.use m (h.inv.path_lt m hm) u (List.mem_of_getElem? hw)
  have hv : vc g.length ((s.step m).enter u) = vc g.length s + 1 := vc_enter (s := s.step m) hu h0
  refine ⟨⟨?_, ?_, ?_, ?_⟩, ?_⟩
  · rw [step_enter hne]; exact h.inv.deeper hp hw h0
  · rw [hv, ← h.cnt]; rfl
  · show upd s.at_ u (s.count + 1) n0 ≠ 0
    unfold upd
    split
    · omega
    · exact h.n0
  · intro v hv
    show upd s.at_ u (s.count + 1) v ≠ 0
    unfold upd
    split
    · omega
    · exact h.old v hv
  · unfold left
    rw [hv]
    have := vc_le g.length ((s.step m).enter u)
    rw [hv] at this
    have e : ((s.step m).enter u).path = s.path ++ [u] := rfl
    rw [e]
    simp
    omega
theorem Mid.whole {s0 : TS} {n0 : Nat} (h : Mid g s0 n0 s) {P : List Nat} {m u : Nat} (hp : s.path = P ++ [m]) (hw : (U g m)[s.nxt m]? = some u) (h0 : s.at_ u ≠ 0) (hwh : s.whole u = true) : Mid g s0 n0 (s.step m) :=
  ⟨h.inv.step (by rw [hp]; simp) hw h0 (.inl hwh), h.cnt, h.n0, h.old⟩
theorem Mid.seen {s0 : TS} {n0 : Nat} (h : Mid g s0 n0 s) {P : List Nat} {m u : Nat} (hp : s.path = P ++ [m]) (hw : (U g m)[s.nxt m]? = some u) (h0 : s.at_ u ≠ 0) (hwh : s.whole u = false) : Mid g s0 n0 ((s.step m).seen m u) := by
  have hm : m ∈ s.path := by rw [hp]; simp
  refine ⟨?_, h.cnt, h.n0, h.old⟩
  rw [step_seen]
  refine (h.inv.seen hm ((h.inv.opn u).2 ⟨h0, hwh⟩) (Star.one (List.mem_of_getElem? hw))).step hm hw h0 (.inr ?_)
  show upd s.back m (min (s.back m) (s.at_ u)) m ≤ s.at_ u
  rw [upd_same]; omega
end
end Go.Proofs.Ytephmagficbdeaa.Gr
