/-
  CONTRACT: groups in memory sorted by their first numbers. What slices.SortFunc does is a premise here (SortFOK).
-/
import Derived.Test.YtephmagficbdeaaGrF
import Derived.Shelf.SlSortCmp.Insertion
import Derived.Shelf.SlSortFunc.HeapSort
namespace Go.Proofs.Ytephmagficbdeaa.Gr
open Go.RowKit Go.Shelf Go.Sort Mm Sp
set_option linter.unusedVariables false
set_option linter.unusedSimpArgs false
/-- slices.SortFunc's two contracts -/
structure SortFOK : Prop where
  some : ∀ (k : Nat) (enc : Fin (k + 1) → Value) (h1 : OneCell enc) (cf : Fin (k + 1) → Fin (k + 1) → Int) (hO : SWO (ltOf cf)) (g : Nat) (blk off cap : Nat) (d : Array (Fin (k + 1))) (w : World)
    (eg : ∀ args w, (callFunc g args).run Try.prog w = .ok (.enter g args) w) (hcmp : CmpReads Try.prog g #[] enc cf blk off d.size w) (hH : Holds enc w blk off d) (hblk : blk < w.heap.size) (hsz : d.size < 4611686018427387904),
    Calls Try.prog 26 #[.slice (some ⟨blk, off, none⟩) d.size cap, .func (.func g) #[] #[]] w fun e w' =>
      e = .returned (.tuple #[]) ∧ ∃ d' n os, PermIn 0 d.size d d' ∧ SortedIn (ltOf cf) 0 d.size d' ∧ w' = sortWorld enc w blk off n d' os
  none : ∀ (p : Option Addr) (cap : Nat) (fv : Value) (w : World), Calls Try.prog 26 #[.slice p 0 cap, fv] w fun e w' => e = .returned (.tuple #[]) ∧ w' = w
theorem cmp_any {b1 b2 c1 c2 n1 n2 x y : Nat} (w : World) (hn1 : 0 < n1) (hn2 : 0 < n2) (hx : x ≤ 100000) (hy : y ≤ 100000) (h1 : w.cell? ⟨b1, 0, none⟩ = some (.int .i64 x)) (h2 : w.cell? ⟨b2, 0, none⟩ = some (.int .i64 y)) :
    Calls Try.prog 27 #[.slice (some ⟨b1, 0, none⟩) n1 c1, .slice (some ⟨b2, 0, none⟩) n2 c2] w fun e w' => e = .returned (.int .i64 ((x : Int) - y)) ∧ ∃ q, w' = w.drewN q := by
  go_enter Try.func27, Try.ntmps27
  go_wp2_with fail
  go_region
  go_wp2_with fail
  go_ret
  exact ⟨rfl, 1, rfl⟩
/-! the world behind a sort -/
section
variable {α : Type} [Inhabited α]
theorem extract_all {β : Type} (d : Array β) (n : Nat) (h : n = d.size) : d.extract 0 n = d := by subst h; simp
theorem heap_sorted_enc (enc : α → Value) {w : World} {g n : Nat} {os : Array Obj} {cur : Array Value} {e : TypeId} {fr : Nat × Nat} (d : Array α) (hb : w.heap[g]? = some (.cells cur e fr)) :
    (sortWorld enc w g 0 n d os).heap[g]? = some (.cells (putCells enc 0 d cur) e fr) := by
  have hg : g < w.heap.size := (Array.getElem?_eq_some_iff.1 hb).1
  unfold sortWorld
  rw [heap_grow_old _ _ (by simpa using hg)]
  simp [putRow, mapBlock, Sort.ahead, Array.getElem?_modify, hb, onCells]
theorem grownBy_sorted_enc (enc : α → Value) {w : World} {g n : Nat} {os : Array Obj} (d : Array α) : w.grownBy (sortWorld enc w g 0 n d os) (some g) := by
  unfold sortWorld
  refine ⟨rfl, rfl, rfl, by simp, fun k hk hne => ?_⟩
  rw [heap_grow_old _ _ (by simpa using hk)]
  have : g ≠ k := fun e => hne (by rw [e])
  simp [putRow, mapBlock, Sort.ahead, Array.getElem?_modify, this]
theorem take_putCells_enc (enc : α → Value) (cur : Array Value) (ts : Array α) (h : ts.size ≤ cur.size) : (putCells enc 0 ts cur).toList.take ts.size = ts.toList.map enc := by
  apply List.ext_getElem?
  intro j
  by_cases hj : j < ts.size
  · rw [List.getElem?_take_of_lt hj, Array.getElem?_toList]
    simp [putCells, hj, show j < cur.size by omega]
  · rw [List.getElem?_take_eq_none (by omega), List.getElem?_eq_none (by simp; omega)]
end
/-- the first number of each group -/
def SortGPost (B : Nat) (gv : Value) (vs : List Value) (gs : List (List Nat)) (w : World) (e : Ending) (w' : World) : Prop :=
  e = .returned (.tuple #[]) ∧ ∃ vs' gs', w'.ownsRow B TR 1 gv gs'.length vs' ∧ RowsAt B w' (.slice none 0 0) (.slice none 0 0) vs' gs' ∧ gs'.Perm gs ∧ gs'.Pairwise (fun C D => hd C ≤ hd D) ∧ w.grownBy w' gv.ownBlock
theorem sortg_any (hF : SortFOK) {B : Nat} {gv : Value} {vs : List Value} {gs : List (List Nat)} (w : World) (h : w.ownsRow B TR 1 gv gs.length vs) (hr : RowsAt B w (.slice none 0 0) (.slice none 0 0) vs gs) (hne : ∀ C ∈ gs, C ≠ []) (hlt : ∀ C ∈ gs, ∀ x ∈ C, x ≤ 100000) (hl : gs.length ≤ 100000) :
    Calls Try.prog 26 #[gv, .func (.func 27) #[] #[]] w (SortGPost B gv vs gs w) := by
  rcases h.2 with ⟨rfl, h0⟩ | ⟨g, cap, cur, rfl, hg, hh, h1, h2, h3, h4⟩
  · obtain rfl : gs = [] := List.eq_nil_of_length_eq_zero h0
    refine (hF.none _ _ _ w).mono ?_
    rintro e w' ⟨rfl, rfl⟩
    exact ⟨rfl, vs, [], h, hr, .refl _, by simp, World.grownBy.refl _ _⟩
  · cases hk : gs.length with
    | zero =>
      obtain rfl : gs = [] := List.eq_nil_of_length_eq_zero hk
      refine (hF.none _ _ _ w).mono ?_
      rintro e w' ⟨rfl, rfl⟩
      exact ⟨rfl, vs, [], h, hr, .refl _, by simp, World.grownBy.refl _ _⟩
    | succ k =>
      have hgsz : g < w.heap.size := lt_of_block hh
      have hvl : vs.length = gs.length := by have := h.1; omega
      have row : ∀ i : Fin (k + 1), ∃ b c, vs.getD i.1 (.slice none 0 0) = .slice (some ⟨b, 0, none⟩) (gs.getD i.1 []).length c ∧ w.ownsRow B TI 1 (.slice (some ⟨b, 0, none⟩) (gs.getD i.1 []).length c) (gs.getD i.1 []).length (nv (gs.getD i.1 [])) := by
        intro i
        have hi : i.1 < gs.length := by rw [hk]; exact i.2
        have e : gs[i.1]? = some (gs.getD i.1 []) := by rw [List.getD_eq_getElem?_getD, List.getElem?_eq_getElem hi]; rfl
        obtain ⟨b, c, k1, _, _, k4⟩ := hr i.1 _ e
        refine ⟨b, c, ?_, k4⟩
        rw [List.getD_eq_getElem?_getD, k1]
        rfl
      have mem : ∀ i : Fin (k + 1), gs.getD i.1 [] ∈ gs := fun i => getD_mem (by rw [hk]; exact i.2)
      obtain ⟨enc, henc⟩ : ∃ enc : Fin (k + 1) → Value, enc = fun i => vs.getD i.1 (.slice none 0 0) := ⟨_, rfl⟩
      obtain ⟨d, hd0⟩ : ∃ d : Array (Fin (k + 1)), d = Array.ofFn (fun i : Fin (k + 1) => i) := ⟨_, rfl⟩
      have hds : d.size = gs.length := by rw [hd0, hk]; simp
      obtain ⟨cf, hcf⟩ : ∃ cf : Fin (k + 1) → Fin (k + 1) → Int, cf = fun i j => ((hd (gs.getD i.1 []) : Nat) : Int) - (hd (gs.getD j.1 []) : Nat) := ⟨_, rfl⟩
      have hone : OneCell enc := fun i => by
        obtain ⟨b, c, e, _⟩ := row i
        rw [henc]
        simp only
        rw [e]
        rfl
      have hlt' : ∀ x y, ltOf cf x y = decide (hd (gs.getD x.1 []) < hd (gs.getD y.1 [])) := fun x y => by
        unfold ltOf
        rw [hcf]
        exact decide_eq_decide.2 (by simp only; omega)
      have hO : SWO (ltOf cf) := ⟨fun x => by rw [hlt']; simp, fun x y z a b => by rw [hlt'] at *; simp at *; omega, fun x y z a b => by rw [hlt'] at *; simp at *; omega⟩
      have hcell : ∀ i : Fin (k + 1), ∃ b c, enc i = .slice (some ⟨b, 0, none⟩) (gs.getD i.1 []).length c ∧ b ≠ g ∧ b < w.heap.size ∧ w.cell? ⟨b, 0, none⟩ = some (.int .i64 (hd (gs.getD i.1 []) : Nat)) := by
        intro i
        obtain ⟨b, c, e, k4⟩ := row i
        have hne' := hne _ (mem i)
        have hpos : 0 < (gs.getD i.1 []).length := List.length_pos_iff.2 hne'
        refine ⟨b, c, by rw [henc]; exact e, fun e' => ?_, (k4.lt b rfl).2, ?_⟩
        · subst e'
          exact absurd (Box.same (own_block k4).choose_spec hh) (by decide)
        · refine (k4.cellAt 0 (by omega)).trans ((nv_get hpos).trans ?_)
          have : (gs.getD i.1 [])[0] = hd (gs.getD i.1 []) := by
            generalize gs.getD i.1 [] = C at hpos
            cases C with
            | nil => simp at hpos
            | cons a l => rfl
          rw [this]
      have hcmp : CmpReads Try.prog 27 #[] enc cf g 0 d.size w := by
        intro m os dk hdk x y
        obtain ⟨b1, c1, e1, n1, l1, k1⟩ := hcell x
        obtain ⟨b2, c2, e2, n2, l2, k2⟩ := hcell y
        have p1 := List.length_pos_iff.2 (hne _ (mem x))
        have p2 := List.length_pos_iff.2 (hne _ (mem y))
        rw [e1, e2, hcf]
        exact cmp_any (sortWorld enc w g 0 m dk os) p1 p2 (hlt _ (mem x) _ (hd_mem (hne _ (mem x)))) (hlt _ (mem y) _ (hd_mem (hne _ (mem y)))) ((cell?_sortWorld_other enc w g 0 m dk os _ n1 l1).trans k1) ((cell?_sortWorld_other enc w g 0 m dk os _ n2 l2).trans k2)
      have hget : ∀ j, (hj : j < d.size) → d[j]! = ⟨j, by rw [hds, hk] at hj; exact hj⟩ := fun j hj => by
        rw [getElem!_pos d j hj]
        subst hd0
        simp
      have hHo : Holds enc w g 0 d := fun j hj => by
        rw [Nat.zero_add, hget j hj]
        refine ⟨?_, h.frozenAt j⟩
        refine (h.cellAt j (by omega)).trans ?_
        rw [henc]
        simp only
        rw [List.getD_eq_getElem?_getD, List.getElem?_eq_getElem (by omega)]
        rfl
      have HF := hF.some k enc hone cf hO 27 g 0 cap d w (enters_of Try.func27 (by kernel_rfl) rfl) hcmp hHo hgsz (by omega)
      rw [hds, hk] at HF
      refine HF.mono ?_
      rintro e w' ⟨rfl, d', n, os, hp, hs, rfl⟩
      obtain ⟨q1, q2, q3⟩ := hp
      have q3' : d'.toList.Perm d.toList := by
        have a1 : d'.extract 0 (k + 1) = d' := extract_all _ _ (by omega)
        have a2 : d.extract 0 (k + 1) = d := extract_all _ _ (by omega)
        rwa [a1, a2] at q3
      have hgb := grownBy_sorted_enc enc (w := w) (g := g) (n := n) (os := os) d'
      have hcs : cur.size = cap := by omega
      refine ⟨rfl, d'.toList.map enc, d'.toList.map (fun i => gs.getD i.1 []), ?_, ?_, ?_, ?_, hgb⟩
      · refine ⟨by simp, .inr ⟨g, cap, putCells enc 0 d' cur, by simp [q1, hds, hk], hg, heap_sorted_enc enc d' hh, by simp [q1, hds]; omega, h2, by simp [putCells, hcs], ?_⟩⟩
        rw [Nat.mul_one, List.length_map, Array.length_toList]
        exact take_putCells_enc enc cur d' (by omega)
      · intro i C hC
        rw [List.getElem?_map] at hC ⊢
        cases hd : d'.toList[i]? with
        | none => rw [hd] at hC; cases hC
        | some x =>
          rw [hd] at hC
          simp only [Option.map_some, Option.some.injEq] at hC ⊢
          subst hC
          obtain ⟨b, c, e, k4⟩ := row x
          refine ⟨b, c, by rw [henc]; exact e, by simp [Value.ownBlock], by simp [Value.ownBlock], k4.kept hgb (.inr fun e' => ?_)⟩
          have : b = g := by simpa [Value.ownBlock] using e'
          subst this
          exact absurd (Box.same (own_block k4).choose_spec hh) (by decide)
      · refine (q3'.map _).trans (List.Perm.of_eq ?_)
        apply List.ext_getElem
        · simp [hds]
        · intro i i1 i2
          have hi : i < d.size := by simpa using i1
          have := hget i hi
          rw [getElem!_pos d i hi] at this
          rw [List.getElem_map, Array.getElem_toList, this, List.getD_eq_getElem?_getD, List.getElem?_eq_getElem i2]
          rfl
      · rw [List.pairwise_map, List.pairwise_iff_getElem]
        intro i j hi hj hij
        have hj' : j < d'.size := by simpa using hj
        have hi' : i < d'.size := by omega
        have := hs i j (Nat.zero_le _) hij (by omega)
        rw [hlt', getElem!_pos d' i hi', getElem!_pos d' j hj'] at this
        simp only [decide_eq_false_iff_not, Nat.not_lt] at this
        simpa using this
end Go.Proofs.Ytephmagficbdeaa.Gr
