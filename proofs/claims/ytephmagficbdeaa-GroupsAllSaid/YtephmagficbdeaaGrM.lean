/-
  CONTRACT: all that a thing needs.
-/
import Derived.Test.YtephmagficbdeaaGrL
namespace Go.Proofs.Ytephmagficbdeaa.Gr
open Go.RowKit Go.Shelf Go.Sort Mm Sp
set_option linter.unusedVariables false
set_option linter.unusedSimpArgs false
/-- what was met, in order, and what is still to be looked into -/
structure RInv (g : List (List Nat)) (a : Nat) (S : Nat → Bool) (L T : List Nat) (ex : Option (Nat × List Nat)) : Prop where
  nd : L.Nodup
  mem : ∀ y, y ∈ L ↔ S y = true
  need : ∀ y ∈ L, Needs g a y
  lt : ∀ y ∈ L, y < g.length
  sub : ∀ y ∈ T, y = a ∨ y ∈ L
  cl : ∀ z, (z = a ∨ z ∈ L) → z ∉ T → (∀ p, ex = some p → z ≠ p.1) → ∀ y ∈ U g z, S y = true
  ex1 : ∀ p, ex = some p → (p.1 = a ∨ p.1 ∈ L) ∧ ∀ y ∈ p.2, S y = true
  room : 2 * (g.length - L.length) + T.length ≤ 2 * g.length + 1
theorem RInv.start (g : List (List Nat)) (a : Nat) : RInv g a (fun _ => false) [] [a] none :=
  ⟨by simp, by simp, by simp, by simp, by simp, fun z hz hn => absurd (hz.elim (fun e => by simp [e]) (fun e => by cases e)) hn, fun p hp => (by cases hp), by simp⟩
section
variable {g : List (List Nat)} {a : Nat} {S : Nat → Bool} {L T : List Nat}
theorem RInv.pop {x : Nat} (h : RInv g a S L (T ++ [x]) none) : RInv g a S L T (some (x, [])) := by
  refine ⟨h.nd, h.mem, h.need, h.lt, fun y hy => h.sub y (List.mem_append.2 (.inl hy)), fun z hz hn hne => ?_, fun p hp => ?_, by have := h.room; simp at this; omega⟩
  · exact h.cl z hz (fun e => (List.mem_append.1 e).elim hn fun e => hne (x, []) rfl (by simpa using e)) (fun p hp => by cases hp)
  · cases hp
    exact ⟨h.sub x (by simp), by simp⟩
theorem RInv.len (h : RInv g a S L T none) : L.length ≤ g.length := nodup_le h.nd h.lt
theorem RInv.len2 {ex : Option (Nat × List Nat)} (h : RInv g a S L T ex) : L.length ≤ g.length := nodup_le h.nd h.lt
theorem RInv.old {x y : Nat} {P : List Nat} (h : RInv g a S L T (some (x, P))) (hy : S y = true) : RInv g a S L T (some (x, P ++ [y])) :=
  ⟨h.nd, h.mem, h.need, h.lt, h.sub, fun z hz hn hne => h.cl z hz hn (fun p hp => by cases hp; exact hne (x, P ++ [y]) rfl), fun p hp => by
    cases hp
    refine ⟨(h.ex1 _ rfl).1, fun q hq => ?_⟩
    rcases List.mem_append.1 hq with e | e
    · exact (h.ex1 _ rfl).2 q e
    · simp only [List.mem_singleton] at e; subst e; exact hy, h.room⟩
theorem RInv.new {x y : Nat} {P : List Nat} (h : RInv g a S L T (some (x, P))) (hy : S y = false) (hu : y ∈ U g x) (hl : y < g.length) : RInv g a (upd S y true) (L ++ [y]) (T ++ [y]) (some (x, P ++ [y])) := by
  have hyL : y ∉ L := fun e => by rw [(h.mem y).1 e] at hy; cases hy
  have hS : ∀ z, upd S y true z = true ↔ S z = true ∨ z = y := fun z => by
    unfold upd
    by_cases e : z = y <;> simp [e]
  have hnd : (L ++ [y]).Nodup := by
    rw [List.nodup_append]
    exact ⟨h.nd, by simp, fun p hp q hq => by simp only [List.mem_singleton] at hq; subst hq; intro e; subst e; exact hyL hp⟩
  have hlt : ∀ z ∈ L ++ [y], z < g.length := fun z hz => by
    rcases List.mem_append.1 hz with e | e
    · exact h.lt z e
    · simp only [List.mem_singleton] at e; subst e; exact hl
  refine ⟨hnd, fun z => ?_, fun z hz => ?_, hlt, fun z hz => ?_, fun z hz hn hne q hq => ?_, fun p hp => ?_, ?_⟩
  · rw [List.mem_append, h.mem, hS]; simp
  · rcases List.mem_append.1 hz with e | e
    · exact h.need z e
    · simp only [List.mem_singleton] at e
      subst e
      rcases (h.ex1 _ rfl).1 with e | e
      · simp only at e; subst e; exact ⟨z, hu, .refl _⟩
      · obtain ⟨w, h1, h2⟩ := h.need x e
        exact ⟨w, h1, h2.more hu⟩
  · rcases List.mem_append.1 hz with e | e
    · exact (h.sub z e).imp id fun e => List.mem_append.2 (.inl e)
    · exact .inr (List.mem_append.2 (.inr e))
  · rw [hS]
    have hzy : z ≠ y := fun e => hn (List.mem_append.2 (.inr (by simp [e])))
    left
    refine h.cl z (hz.imp id fun e => (List.mem_append.1 e).resolve_right (by simp [hzy])) (fun e => hn (List.mem_append.2 (.inl e))) (fun p hp => ?_) q hq
    cases hp
    exact hne (x, P ++ [y]) rfl
  · cases hp
    refine ⟨(h.ex1 _ rfl).1.imp id fun e => List.mem_append.2 (.inl e), fun q hq => ?_⟩
    rw [hS]
    rcases List.mem_append.1 hq with e | e
    · exact .inl ((h.ex1 _ rfl).2 q e)
    · simp only [List.mem_singleton] at e; exact .inr e
  · have := h.room
    have h2 := nodup_le hnd hlt
    simp at h2 ⊢
    omega
theorem RInv.close {x : Nat} (h : RInv g a S L T (some (x, U g x))) : RInv g a S L T none :=
  ⟨h.nd, h.mem, h.need, h.lt, h.sub, fun z hz hn _ y hy => by
    by_cases e : z = x
    · subst e; exact (h.ex1 _ rfl).2 y hy
    · exact h.cl z hz hn (fun p hp => by cases hp; exact e) y hy, fun p hp => (by cases hp), h.room⟩
theorem RInv.done (h : RInv g a S L [] none) (y : Nat) : y ∈ L ↔ Needs g a y := by
  refine ⟨h.need y, fun ⟨z, hz, hs⟩ => ?_⟩
  have hcl := fun z hz => h.cl z hz (by simp) (fun p hp => by cases hp)
  have := hs.closed (P := fun q => q ∈ L) (fun q hq r hr => (h.mem r).2 (hcl q (.inr hq) r hr)) ((h.mem z).2 (hcl a (.inl rfl) z hz))
  exact this
end
/-- what Reach answers -/
def ReachPost (G : List (List Int)) (a : Int) (w : World) (e : Ending) (w' : World) : Prop :=
  ∃ v l c, e = .returned (.tuple #[v, .int .i64 c]) ∧ (∃ p q, v = .slice p (l.length) q ∧ l.length ≤ 100000 ∧ ReadsV w' w'.heap.size p l.length (intV fun i => (ni l).getD i 0)) ∧ Below w.heap.size w w' ∧
    ((c ≠ 0 ∧ l = [] ∧ c = (if wrongC G = 0 then 1 else wrongC G) ∧ ¬ (wrongC G = 0 ∧ 0 ≤ a ∧ a < G.length)) ∨ (c = 0 ∧ wrongC G = 0 ∧ 0 ≤ a ∧ a < G.length ∧ ∀ g, G = gi g → Rising l ∧ ∀ y, y ∈ l ↔ Needs g a.toNat y))
/-- between two steps of a look -/
def RAt (B : Nat) (w0 : World) (N sb : Nat) (S : Nat → Bool) (L T : List Nat) (vl vt : Value) (wr : World) : Prop :=
  wr.ownsRow B TI 1 vl L.length (nv L) ∧ wr.ownsRow B TI 1 vt T.length (nv T) ∧ wr.ownsRow B TB 1 (.slice (some ⟨sb, 0, none⟩) N N) N (fv N fun i => .bool (S i)) ∧ (∀ k, vl.ownBlock = some k → vt.ownBlock ≠ some k) ∧ Below B w0 wr
set_option maxRecDepth 100000 in
set_option maxHeartbeats 8000000 in
theorem reach_ok (hS : SortOK) {ua : Option Addr} {uc : Nat} {g : List (List Nat)} (a : Nat) (w : World) (hu : RRN w.heap.size w ua g) (hw : Calls Try.prog 17 #[.slice ua g.length uc] w fun e w' => e = .returned (.int .i64 0) ∧ w = w') (hg : ∀ x < g.length, ∀ y ∈ U g x, y < g.length) (hN : g.length ≤ 2048) (ha : a < g.length) :
    Calls Try.prog 12 #[.slice ua g.length uc, .int .i64 a] w fun e w' => ∃ (v : Value) (l : List Nat), e = .returned (.tuple #[v, .int .i64 0]) ∧ w'.ownsRow w.heap.size TI 1 v l.length (nv l) ∧ Below w.heap.size w w' ∧ Rising l ∧ l.length ≤ 2048 ∧ ∀ y, y ∈ l ↔ Needs g a y := by
  obtain ⟨i0, hi0, hi1, hi2, hi3⟩ := info_parts Tint
  obtain ⟨l0, hl0, hl1, hl2, hl3⟩ := info_parts Tbool
  have HU := Lib.hid hu
  have HG := Lib.hid hg
  have ha1 : (a : Int) < g.length := by omega
  have ha2 : ¬ (g.length : Int) ≤ a := by omega
  have ha3 : ¬ (a : Int) < 0 := by omega
  clear hu hg
  go_enter Try.func12, Try.ntmps12
  go_wp2_with fail
  refine hw.mono ?_
  rintro e w' ⟨rfl, rfl⟩
  clear hw
  go_wp2_with (at_make; refine wpList_make_full _ rfl _ _ 35 rfl w.heap.size 4 l0 _ 1 Try.underlying35 hl0 hl1 hl2 _ _ _ _ g.length rfl rfl rfl rfl (by rw [hl3]; omega) (by unfold maxLen; omega) (Nat.le_refl _) ?_)
  intro w5 hown hgrow
  have hsc : w5.ownsRow w.heap.size TB 1 (.slice (some ⟨w.heap.size, 0, none⟩) g.length g.length) g.length (fv g.length fun h => .bool ((fun _ => false) h)) := by
    rw [← fv_made]
    simpa using hown
  have B5 := Lib.hid (show Below w.heap.size w w5 from (Below.refl _ w).grown hgrow (Nat.le_refl _) (fun k h => by cases h))
  have S5 := Lib.hid hsc
  have hz5 : w.heap.size ≤ w5.heap.size := B5.out.size
  obtain ⟨W6, hW6⟩ : ∃ W6, w5.alloc (.cells #[.int .i64 a] TI) = W6 := ⟨_, rfl⟩
  have HR0 := Lib.hid (show RAt w.heap.size w g.length w.heap.size (fun _ => false) [] [a] (.slice none 0 0) (.slice (some ⟨w5.heap.size, 0, none⟩) 1 1) W6 from by
    rw [← hW6]
    refine ⟨World.ownsRow_nil _ _ _ _, ?_, World.ownsRow.alloc S5.out _, fun k hk => by simp [Value.ownBlock] at hk, B5.out.alloc hz5 _⟩
    have := World.ownsRow_lit w5 #[.int .i64 (a : Int)] (base := w.heap.size) (e := TI) (size := 1) 1 hz5 (by unfold maxLen; omega) (by simp)
    simpa [nv] using this)
  clear hown hgrow hsc
  go_upto_region 9 with fail
  clear hW6
  go_wp2_with fail
  go_loopg [7, 9] (2 * g.length + 1) (fun d vl vt wr => ∃ S L T, RInv g a S L T none ∧ RAt w.heap.size w g.length w.heap.size S L T vl vt wr ∧ d = 2 * (g.length - L.length) + T.length)
  case atStart => exact ⟨_, [], [a], RInv.start g a, HR0.out, by simp⟩
  case round =>
    obtain ⟨S, L, T, hi, hr, hd⟩ := hrel
    obtain ⟨al, cl, rfl⟩ := own_slice hr.1
    have HI := Lib.hid hi
    have HR := Lib.hid hr
    have HD := Lib.hid hd
    have hzB := hr.2.2.2.2.size
    clear hd
    rcases snoc_cases T with hT | ⟨T', x, hT⟩
    · have hvt := hr.2.1
      subst hT
      obtain ⟨at_, ct, rfl⟩ := own_slice hvt
      have hLI : iv (ni L) = nv L := iv_ni L
      have hln := hi.len
      have HSO := sort_own hS (l := ni L) wr (by rw [ni_length, iv_ni]; exact HR.out.1) (by rw [ni_length]; omega)
      clear hi hr hvt hLI
      go_wp2_with fail
      refine HSO.mono ?_
      rintro e w7 ⟨rfl, ho7, hg7⟩
      rw [ni_length, ← ni_sortN, iv_ni] at ho7
      have O7 := Lib.hid ho7
      have G7 := Lib.hid hg7
      clear HSO ho7 hg7
      go_wp2_with fail
      go_ret2
      refine ⟨_, sortN L, rfl, by rw [sortN_length]; exact O7.out, HR.out.2.2.2.2.grown G7.out hzB (fun k hk => (HR.out.1.lt k hk).1), sortN_rising HI.out.nd, by rw [sortN_length]; omega, fun y => ?_⟩
      rw [sortN_mem]
      exact HI.out.done y
    · subst hT
      have hxg : x < g.length := by
        rcases hi.sub x (by simp) with e | e
        · omega
        · exact hi.lt x e
      have hxg' : (x : Int) < g.length := by omega
      have hroom := hi.room
      have htl : T'.length ≤ 4098 := by simp at hroom; omega
      have hvt := hr.2.1
      rw [show (T' ++ [x]).length = T'.length + 1 by simp] at hvt
      obtain ⟨gt, ct, rfl, hgt1, hgt2, hgt3⟩ := own_form hvt
      have c0 : wr.cell? ⟨gt, T'.length, none⟩ = some (.int .i64 x) := by
        refine (hvt.cellAt T'.length (by omega)).trans ?_
        simp [nv]
      have hcut := own_cut hvt (m := T'.length) (by omega)
      have HVT := Lib.hid (show wr.ownsRow w.heap.size TI 1 (.slice (some ⟨gt, 0, none⟩) T'.length ct) T'.length (nv T') by simpa [nv_append, nv_length] using hcut)
      obtain ⟨ad, a3, c3, rfl, had, y0, hVl, hVj⟩ := (HU.out.below hr.2.2.2.2 (Nat.le_refl _)) x hxg
      have HVJ := Lib.hid hVj
      have hap := hr.2.2.2.1
      have H0 := Lib.hid (show RAt w.heap.size w g.length w.heap.size S L T' (.slice al L.length cl) (.slice (some ⟨gt, 0, none⟩) T'.length ct) wr from ⟨hr.1, HVT.out, hr.2.2.1, fun k hk => hap k hk, hr.2.2.2.2⟩)
      have HBW := Lib.hid hr.2.2.2.2
      have HPOP := Lib.hid hi.pop
      clear hi hr hvt hcut hVj hroom hap
      go_wp2_with fail
      clear c0 y0
      obtain ⟨K, hKK⟩ : ∃ K, 2 * (g.length - L.length) + T'.length = K := ⟨_, rfl⟩
      have HKK := Lib.hid hKK
      clear hKK
      go_loopg [7, 9, 50] (U g x).length (fun d vl vt v wr => ∃ (r : Nat) (S : Nat → Bool) (L T : List Nat), r + d = (U g x).length ∧ v = .int .i64 r ∧ RInv g a S L T (some (x, (U g x).take r)) ∧ RAt w.heap.size w g.length w.heap.size S L T vl vt wr ∧ 2 * (g.length - L.length) + T.length ≤ K)
      case atStart => exact ⟨0, S, L, T', by omega, rfl, HPOP.out, H0.out, HKK.out ▸ Nat.le_refl _⟩
      case round =>
        obtain ⟨r, S2, L2, T2, hr, rfl, hi2, hr2, hk2⟩ := hrel
        have HK2 := Lib.hid hk2
        clear hk2
        have HRR := Lib.hid hr
        have HI2 := Lib.hid hi2
        have HR2 := Lib.hid hr2
        obtain ⟨al2, cl2, rfl⟩ := own_slice hr2.1
        obtain ⟨at2, ct2, rfl⟩ := own_slice hr2.2.1
        have hrle : r ≤ (U g x).length := by omega
        have hzB2 := hr2.2.2.2.2.size
        have hbw2 := hr2.2.2.2.2
        have hll2 := hi2.len2
        have hroom2 := hi2.room
        have htl2 : T2.length ≤ 4098 := by omega
        clear hr hi2 hr2
        by_cases hrt : r < (U g x).length
        · have hrt' : (r : Int) < (U g x).length := by omega
          obtain ⟨ad4, rfl, had4, c4⟩ := HVJ.out r hrt
          have hbl4 : (ad4.add r).block < w.heap.size := by rw [block_of_add]; exact had4
          replace c4 := (hbw2.cell hbl4).trans ((HBW.out.cell hbl4).symm.trans c4)
          have hyN := HG.out x hxg _ (List.getElem_mem hrt)
          have hmem := List.getElem_mem hrt
          have HT := Lib.hid (show (U g x).take (r + 1) = (U g x).take r ++ [(U g x)[r]] by rw [List.take_add_one, List.getElem?_eq_getElem hrt]; rfl)
          generalize (U g x)[r] = y at c4 hyN hmem HT
          have hyN' : (y : Int) < g.length := by omega
          have s0 := (World.ownsRow.cellAt HR2.out.2.2.1 y (by omega)).trans (fv_get hyN)
          have s1 := World.ownsRow.frozenAt HR2.out.2.2.1 y
          have HMEM := Lib.hid hmem
          clear hmem hbl4 hroom2
          cases hsy : S2 y with
          | true =>
            have HOLD := Lib.hid (HI2.out.old hsy)
            rw [hsy] at s0
            clear hsy hbw2
            go_wp2_with fail
            go_roundg ((U g x).length - (r + 1))
            case measure => have := HRR.out; omega
            case rel => exact ⟨r + 1, S2, L2, T2, by have := HRR.out; omega, by go_num, by rw [HT.out]; exact HOLD.out, HR2.out, HK2.out⟩
          | false =>
            have HNEW := Lib.hid (HI2.out.new hsy HMEM.out hyN)
            rw [hsy] at s0
            clear hsy
            obtain ⟨W1, hW1⟩ : ∃ W1, wr.setCell ⟨w.heap.size, y, none⟩ (.bool true) = W1 := ⟨_, rfl⟩
            obtain ⟨css, hbs⟩ := own_block HR2.out.2.2.1
            have hsd1 := Lib.hid (show W1.ownsRow w.heap.size TB 1 (.slice (some ⟨w.heap.size, 0, none⟩) g.length g.length) g.length (fv g.length fun i => .bool (upd S2 y true i)) by
              rw [← hW1]
              have := (World.ownsRow.stored HR2.out.2.2.1 y (.bool true)).1
              rw [fv_set _ hyN, upd_map Value.bool S2 y true] at this
              exact this)
            have hl1' := Lib.hid (show W1.ownsRow w.heap.size TI 1 (.slice al2 L2.length cl2) L2.length (nv L2) by rw [← hW1]; exact own_far HR2.out.1 hbs (by decide) y _)
            have ht1' := Lib.hid (show W1.ownsRow w.heap.size TI 1 (.slice at2 T2.length ct2) T2.length (nv T2) by rw [← hW1]; exact own_far HR2.out.2.1 hbs (by decide) y _)
            have hb1' := Lib.hid (show Below w.heap.size w W1 by rw [← hW1]; exact hbw2.setCell (p := ⟨w.heap.size, y, none⟩) (Nat.le_refl _) _)
            have hz1 : w.heap.size ≤ W1.heap.size := hb1'.out.size
            clear hbs hbw2
            go_upto_region 17 with fail
            clear hW1 s0 s1 c4
            go_wp2_with (at_builtin; refine wpList_append_own_at _ rfl _ _ 28 rfl w.heap.size 3 i0 _ 1 8 Try.underlying28 hi0 hi1 hi2 hi3 rfl (by decide) _ _ _ rfl (hl1'.out.alloc _) ⟨W1.heap.size, 0, none⟩ 1 1 [.int .i64 y] rfl rfl (Go.cell_one_new _ _ _) (fun u hu => by simp only [List.mem_singleton] at hu; rw [hu]; rfl) (by unfold maxLen; omega) (by omega) (by simp; omega) ?_)
            intro v7 w7 hown hgrow _ hat7
            obtain ⟨a7, c7, rfl⟩ := own_slice hown
            have hap := HR2.out.2.2.2.1
            have hol := hl1'.out.alloc (.cells #[.int .i64 y] TI)
            have L7 := Lib.hid (show w7.ownsRow w.heap.size TI 1 (.slice a7 (L2.length + 1) c7) (L2.length + 1) (nv (L2 ++ [y])) by simpa [nv] using hown)
            have T7 := Lib.hid (World.ownsRow.kept (ht1'.out.alloc (.cells #[.int .i64 y] TI)) hgrow (by
              cases e : (Value.slice at2 T2.length ct2).ownBlock with
              | none => exact .inl rfl
              | some k => exact .inr fun e2 => hap k e2.symm e))
            have D7 := Lib.hid (World.ownsRow.kept (World.ownsRow.alloc hsd1.out (.cells #[.int .i64 y] TI)) hgrow (own_two (World.ownsRow.alloc hsd1.out (.cells #[.int .i64 y] TI)) hol (by decide)))
            have B7 := Lib.hid ((hb1'.out.alloc hz1 (.cells #[.int .i64 y] TI)).grown hgrow (by simp; omega) (fun k hk => (hl1'.out.lt k hk).1))
            have A7 := Lib.hid (show ∀ k, (Value.slice a7 (L2.length + 1) c7).ownBlock = some k → (Value.slice at2 T2.length ct2).ownBlock ≠ some k from fun k hk e => by
              rcases hat7 with e2 | e2
              · exact hap k (e2.symm.trans hk) e
              · rw [e2] at hk
                have := (ht1'.out.lt k e).2
                simp at hk; omega)
            have hz7 : w.heap.size ≤ w7.heap.size := B7.out.size
            clear hown hgrow hat7 hol hap
            go_wp2_with (at_builtin; refine wpList_append_own_at _ rfl _ _ 28 rfl w.heap.size 3 i0 _ 1 8 Try.underlying28 hi0 hi1 hi2 hi3 rfl (by decide) _ _ _ rfl (T7.out.alloc _) ⟨w7.heap.size, 0, none⟩ 1 1 [.int .i64 y] rfl rfl (Go.cell_one_new _ _ _) (fun u hu => by simp only [List.mem_singleton] at hu; rw [hu]; rfl) (by unfold maxLen; omega) (by omega) (by simp; omega) ?_)
            intro v8 w8 hown hgrow _ hat8
            obtain ⟨a8, c8, rfl⟩ := own_slice hown
            have hol := T7.out.alloc (.cells #[.int .i64 y] TI)
            have T8 := Lib.hid (show w8.ownsRow w.heap.size TI 1 (.slice a8 (T2.length + 1) c8) (T2.length + 1) (nv (T2 ++ [y])) by simpa [nv] using hown)
            have L8 := Lib.hid (World.ownsRow.kept (L7.out.alloc (.cells #[.int .i64 y] TI)) hgrow (by
              cases e : (Value.slice a7 (L2.length + 1) c7).ownBlock with
              | none => exact .inl rfl
              | some k => exact .inr fun e2 => A7.out k e e2.symm))
            have D8 := Lib.hid (World.ownsRow.kept (World.ownsRow.alloc D7.out (.cells #[.int .i64 y] TI)) hgrow (own_two (World.ownsRow.alloc D7.out (.cells #[.int .i64 y] TI)) hol (by decide)))
            have B8 := Lib.hid ((B7.out.alloc hz7 (.cells #[.int .i64 y] TI)).grown hgrow (by simp; omega) (fun k hk => (T7.out.lt k hk).1))
            have A8 := Lib.hid (show ∀ k, (Value.slice a7 (L2.length + 1) c7).ownBlock = some k → (Value.slice a8 (T2.length + 1) c8).ownBlock ≠ some k from fun k hk e => by
              rcases hat8 with e2 | e2
              · exact A7.out k hk (e2.symm.trans e)
              · rw [e2] at e
                have := (L7.out.lt k hk).2
                simp at e; omega)
            clear hown hgrow hat8 hol
            go_wp2_with fail
            go_roundg ((U g x).length - (r + 1))
            case measure => have := HRR.out; omega
            case rel => exact ⟨r + 1, upd S2 y true, L2 ++ [y], T2 ++ [y], by have := HRR.out; omega, by go_num, by rw [HT.out]; exact HNEW.out, ⟨by simpa using L8.out, by simpa using T8.out, D8.out, A8.out, B8.out⟩, by have := HK2.out; have := HNEW.out.len2; simp at this ⊢; omega⟩
        · have hrn : r = (U g x).length := by omega
          have hge : ¬ (r : Int) < (U g x).length := by omega
          have HRN := Lib.hid hrn
          clear hrn
          go_wp2_with fail
          go_roundg (2 * (g.length - L2.length) + T2.length)
          case measure =>
            have h1 := HD.out
            have h2 := HKK.out
            have h3 := HK2.out
            rw [List.length_append, List.length_singleton] at h1
            omega
          case rel =>
            refine ⟨S2, L2, T2, RInv.close (x := x) (by have := HI2.out; rw [HRN.out, List.take_length] at this; exact this), HR2.out, rfl⟩
theorem ni_inj : ∀ {x y : List Nat}, ni x = ni y → x = y
  | [], [], _ => rfl
  | [], b :: y, h => by simp [ni] at h
  | a :: x, [], h => by simp [ni] at h
  | a :: x, b :: y, h => by
    simp only [ni, List.map_cons, List.cons.injEq] at h
    obtain ⟨h1, h2⟩ := h
    rw [ni_inj (x := x) (y := y) h2, show a = b by omega]
theorem gi_inj : ∀ {x y : List (List Nat)}, gi x = gi y → x = y
  | [], [], _ => rfl
  | [], b :: y, h => by simp [gi] at h
  | a :: x, [], h => by simp [gi] at h
  | a :: x, b :: y, h => by
    simp only [gi, List.map_cons, List.cons.injEq] at h
    obtain ⟨h1, h2⟩ := h
    rw [gi_inj (x := x) (y := y) h2, ni_inj h1]
theorem reach_any (hS : SortOK) {v : Value} {G : List (List Int)} (a : Int) (w : World) (h : RR w.heap.size w v G) : Calls Try.prog 12 #[v, .int .i64 a] w (ReachPost G a w) := by
  have hW := wrong_any w h
  by_cases h0 : wrongC G = 0
  · obtain ⟨hlen, g, rfl, hg⟩ := wrongC_zero h0
    obtain ⟨ua, uc, rfl, hu⟩ := h.nat
    rw [gi_length] at hlen
    rw [h0] at hW
    by_cases hin : 0 ≤ a ∧ a < g.length
    · obtain ⟨n, rfl⟩ : ∃ n : Nat, a = n := ⟨a.toNat, by omega⟩
      refine (reach_ok (uc := uc) hS n w hu hW hg hlen (by omega)).mono ?_
      rintro e w' ⟨v, l, rfl, ho, hb, hr, hl, hm⟩
      obtain ⟨p, q, rfl⟩ := own_slice ho
      refine ⟨_, l, 0, rfl, ⟨p, q, rfl, by omega, fun i hi => ?_⟩, hb, .inr ⟨rfl, h0, hin.1, by rw [gi_length]; exact hin.2, fun g' hg' => ?_⟩⟩
      · obtain ⟨b, rfl, _, hb2, _, hc⟩ := own_at ho (by omega)
        refine ⟨_, rfl, hb2, ?_⟩
        have e2 : ((⟨b, 0, none⟩ : Addr).add i) = ⟨b, i, none⟩ := by
          simp [Addr.add]
          try (intro e; exact e.symm)
        rw [e2, hc i (by omega), nv_get hi]
        show _ = some (Value.int .i64 ((ni l).getD i 0))
        rw [ni_getD, List.getD_eq_getElem?_getD, List.getElem?_eq_getElem hi]
        rfl
      · have : g' = g := by
          exact (gi_inj hg').symm
        subst this
        exact ⟨hr, fun y => by rw [hm]; rfl⟩
    · have HIN := Lib.hid hin
      have hor : a < 0 ∨ (g.length : Int) ≤ a := by omega
      clear hin h hu hg
      rcases hor with hneg | hge
      · go_enter Try.func12, Try.ntmps12
        go_wp2_with fail
        refine hW.mono ?_
        rintro e w' ⟨rfl, rfl⟩
        go_wp2_with fail
        go_ret2
        exact ⟨_, [], 1, rfl, ⟨none, 0, rfl, by simp, fun i hi => by simp at hi⟩, Below.refl _ _, .inl ⟨by decide, rfl, by rw [if_pos h0], fun hh => HIN.out ⟨hh.2.1, by have := hh.2.2; rwa [gi_length] at this⟩⟩⟩
      · have hnn : ¬ a < 0 := by omega
        go_enter Try.func12, Try.ntmps12
        go_wp2_with fail
        refine hW.mono ?_
        rintro e w' ⟨rfl, rfl⟩
        go_wp2_with fail
        go_ret2
        exact ⟨_, [], 1, rfl, ⟨none, 0, rfl, by simp, fun i hi => by simp at hi⟩, Below.refl _ _, .inl ⟨by decide, rfl, by rw [if_pos h0], fun hh => HIN.out ⟨hh.2.1, by have := hh.2.2; rwa [gi_length] at this⟩⟩⟩
  · have H0 := Lib.hid h0
    obtain ⟨c, hc⟩ : ∃ c, wrongC G = c := ⟨_, rfl⟩
    rw [hc] at hW
    have e0 : (c != 0) = true := by rw [← hc]; simpa using h0
    have HC := Lib.hid hc
    clear hc h0 h
    go_enter Try.func12, Try.ntmps12
    go_wp2_with fail
    refine hW.mono ?_
    rintro e w' ⟨rfl, rfl⟩
    go_wp2_with fail
    go_ret2
    exact ⟨_, [], c, rfl, ⟨none, 0, rfl, by simp, fun i hi => by simp at hi⟩, Below.refl _ _, .inl ⟨by rw [← HC.out]; exact H0.out, rfl, by rw [if_neg H0.out, HC.out], fun hh => H0.out hh.1⟩⟩
end Go.Proofs.Ytephmagficbdeaa.Gr
