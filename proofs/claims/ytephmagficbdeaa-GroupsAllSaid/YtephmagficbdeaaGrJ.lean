/-
  CONTRACT: what groups wait for, and the groups that wait for each.
-/
import Derived.Test.YtephmagficbdeaaGrI
namespace Go.Proofs.Ytephmagficbdeaa.Gr
open Go.RowKit Go.Shelf Go.Sort Mm Sp
set_option linter.unusedVariables false
set_option linter.unusedSimpArgs false
theorem Tbool : (Try.prog.info? 4).map (fun i => (i.zero, i.size, i.bytes)) = some (some (.bool false), 1, 1) := by kernel_rfl
theorem Parted.len {g gs : List (List Nat)} (h : Parted g gs) : gs.length ≤ g.length := by
  have h1 : (gs.map hd).Nodup := by
    refine List.pairwise_map.2 ((List.Pairwise.and_mem.1 h.nd).imp fun {C D} hcd e => ?_)
    exact hcd.2.2 (h.hd_inj hcd.1 hcd.2.1 e)
  have := nodup_le (k := g.length) h1 (fun i hi => by
    obtain ⟨C, hC, rfl⟩ := List.mem_map.1 hi
    exact h.rng C hC _ (hd_mem (h.sc C hC).2.1))
  simpa using this
theorem Parted.u_lt {g gs : List (List Nat)} (h : Parted g gs) {i : Nat} (hi : i < gs.length) {x : Nat} (hx : x ∈ U gs i) : x < g.length := h.rng _ (getD_mem hi) x hx
def NeedsPost (g gs : List (List Nat)) (w : World) (e : Ending) (w' : World) : Prop :=
  ∃ m mu V, e = .returned (.tuple #[.slice (some ⟨m, 0, none⟩) gs.length gs.length, .slice (some ⟨mu, 0, none⟩) gs.length gs.length]) ∧
    w'.ownsRow w.heap.size TI 1 (.slice (some ⟨m, 0, none⟩) gs.length gs.length) gs.length (fv gs.length fun i => .int .i64 (mis g gs [] i)) ∧
    w'.ownsRow w.heap.size TR 1 (.slice (some ⟨mu, 0, none⟩) gs.length gs.length) gs.length (fv gs.length V) ∧ Lists w.heap.size w' (fun b => b = m) gs.length (users g gs) V ∧ Below w.heap.size w w'
/-- the places of groups, in memory -/
def OfRow (B : Nat) (w : World) (o N : Nat) (f : Nat → Nat) : Prop := w.ownsRow B TI 1 (.slice (some ⟨o, 0, none⟩) N N) N (fv N fun x => .int .i64 (f x : Nat))
theorem OfRow.put {B : Nat} {w : World} {o N : Nat} {f : Nat → Nat} (h : OfRow B w o N f) {n : Nat} (hn : n < N) (i : Nat) : OfRow B (w.setCell ⟨o, n, none⟩ (.int .i64 i)) o N (upd f n i) := by
  have := (World.ownsRow.stored h n (.int .i64 i)).1
  rw [fv_set _ hn, upd_map (fun x : Nat => Value.int .i64 (x : Int)) f n i] at this
  exact this
theorem made_own {W : World} {B : Nat} (e : TypeId) (z : Value) (n : Nat) (hB : B ≤ W.heap.size) (hn : n ≤ 100000) : (W.alloc (.cells (madeCells #[z] n) e)).ownsRow B e 1 (.slice (some ⟨W.heap.size, 0, none⟩) n n) n (fv n fun _ => z) := by
  rw [← fv_made]
  exact World.ownsRow_lit W _ n hB (by unfold maxLen; omega) (by simp [madeCells])
theorem Lists.setT {B : Nat} {w : World} {X : Nat → Prop} {k : Nat} {us : Nat → List Nat} {V : Nat → Value} (h : Lists B w X k us V) {a : Addr} {t : TypeId} {cs : Array Value} (hx : Box w a.block t cs) (hne : TI ≠ t) (u : Value) : Lists B (w.setCell a u) X k us V :=
  ⟨fun j hj => ownsRow_setCell_other (h.own j hj) (fun e => own_ne (h.own j hj) hx hne e.symm) u, h.ap, h.far⟩
/-- after the two rows are made -/
def MadeAt (B : Nat) (w : World) (o N k : Nat) (f : Nat → Nat) (v4 v5 : Value) (wx : World) : Prop :=
  ∃ m mu, v4 = .slice (some ⟨m, 0, none⟩) k k ∧ v5 = .slice (some ⟨mu, 0, none⟩) k k ∧ OfRow B wx o N f ∧ wx.ownsRow B TI 1 (.slice (some ⟨m, 0, none⟩) k k) k (fv k fun _ => .int .i64 0) ∧ wx.ownsRow B TR 1 (.slice (some ⟨mu, 0, none⟩) k k) k (fv k fun _ => .slice none 0 0) ∧ o ≠ m ∧ Below B w wx
abbrev TB : TypeId := 4
theorem fv_congr {N : Nat} {F G : Nat → Value} (h : ∀ i, i < N → F i = G i) : fv N F = fv N G := List.map_congr_left fun i hi => h i (by simpa using hi)
/-- the rows between two groups -/
def AtMi (B : Nat) (w0 : World) (m mu N k : Nat) (f : Nat → Nat) (mi : Nat → Int) (us : Nat → List Nat) (V : Nat → Value) (wr : World) : Prop :=
  OfRow B wr B N f ∧ wr.ownsRow B TI 1 (.slice (some ⟨m, 0, none⟩) k k) k (fv k fun j => .int .i64 (mi j)) ∧ wr.ownsRow B TR 1 (.slice (some ⟨mu, 0, none⟩) k k) k (fv k V) ∧ Lists B wr (fun b => b = B ∨ b = m) k us V ∧ Below B w0 wr
/-- and within one -/
def AtSc (B : Nat) (w0 : World) (m mu sb N k : Nat) (f : Nat → Nat) (mi : Nat → Int) (us : Nat → List Nat) (V : Nat → Value) (seen : Nat → Bool) (wr : World) : Prop :=
  AtMi B w0 m mu N k f mi us V wr ∧ wr.ownsRow B TB 1 (.slice (some ⟨sb, 0, none⟩) k k) k (fv k fun h => .bool (seen h))
section
variable {B : Nat} {w0 w : World} {m mu sb N k : Nat} {f : Nat → Nat} {mi : Nat → Int} {us : Nat → List Nat} {V : Nat → Value} {seen : Nat → Bool}
theorem AtMi.alloc (h : AtMi B w0 m mu N k f mi us V w) (o : Obj) (hB : B ≤ w.heap.size) : AtMi B w0 m mu N k f mi us V (w.alloc o) :=
  ⟨World.ownsRow.alloc h.1 o, World.ownsRow.alloc h.2.1 o, World.ownsRow.alloc h.2.2.1 o, h.2.2.2.1.alloc o, h.2.2.2.2.alloc hB o⟩
theorem AtMi.grown0 {w' : World} (h : AtMi B w0 m mu N k f mi us V w) (hg : w.grownBy w' none) (hB : B ≤ w.heap.size) : AtMi B w0 m mu N k f mi us V w' :=
  ⟨World.ownsRow.kept h.1 hg (.inr (by simp [Value.ownBlock])), World.ownsRow.kept h.2.1 hg (.inr (by simp [Value.ownBlock])), World.ownsRow.kept h.2.2.1 hg (.inr (by simp [Value.ownBlock])), h.2.2.2.1.grown hg (fun b e => by cases e), h.2.2.2.2.grown hg hB (fun b e => by cases e)⟩
theorem AtSc.alloc (h : AtSc B w0 m mu sb N k f mi us V seen w) (o : Obj) (hB : B ≤ w.heap.size) : AtSc B w0 m mu sb N k f mi us V seen (w.alloc o) := ⟨h.1.alloc o hB, World.ownsRow.alloc h.2 o⟩
/-- a mark is stored -/
theorem AtSc.mark (h : AtSc B w0 m mu sb N k f mi us V seen w) {x : Nat} (hx : x < k) (hB : B ≤ sb) : AtSc B w0 m mu sb N k f mi us V (upd seen x true) (w.setCell ⟨sb, x, none⟩ (.bool true)) := by
  obtain ⟨⟨h1, h2, h3, h4, h5⟩, h6⟩ := h
  obtain ⟨cs, hb⟩ := own_block h6
  refine ⟨⟨own_far h1 hb (by decide) x _, own_far h2 hb (by decide) x _, own_far h3 hb (by decide) x _, h4.setT (a := ⟨sb, x, none⟩) hb (by decide) _, h5.setCell (p := ⟨sb, x, none⟩) hB _⟩, ?_⟩
  have := (World.ownsRow.stored h6 x (.bool true)).1
  rw [fv_set _ hx, upd_map Value.bool seen x true] at this
  exact this
/-- a number is stored -/
theorem AtSc.more (h : AtSc B w0 m mu sb N k f mi us V seen w) {i : Nat} {c : Int} (hi : i < k) (hB : B ≤ m) (hne : B ≠ m) : AtSc B w0 m mu sb N k f (upd mi i c) us V seen (w.setCell ⟨m, i, none⟩ (.int .i64 c)) := by
  obtain ⟨⟨h1, h2, h3, h4, h5⟩, h6⟩ := h
  obtain ⟨cs, hb⟩ := own_block h2
  refine ⟨⟨ownsRow_setCell_other h1 (by simp [Value.ownBlock]; exact hne) _, ?_, own_far h3 hb (by decide) i _, h4.set (a := ⟨m, i, none⟩) (.inr rfl) _, h5.setCell (p := ⟨m, i, none⟩) hB _⟩, own_far h6 hb (by decide) i _⟩
  have := (World.ownsRow.stored h2 i (.int .i64 c)).1
  rw [fv_set _ hi, upd_map (Value.int .i64) mi i c] at this
  exact this
/-- one is put behind those that use x -/
theorem AtSc.user (h : AtSc B w0 m mu sb N k f mi us V seen w) {x i : Nat} (hx : x < k) {w' : World} {v' : Value} (hmB : B ≤ mu) (hB : B ≤ w.heap.size) (hm : m < w.heap.size) (hBl : B < w.heap.size)
    (hown : w'.ownsRow B TI 1 v' ((us x).length + 1) (nv (us x) ++ [.int .i64 i])) (hgrow : w.grownBy w' (V x).ownBlock) (hat : v'.ownBlock = (V x).ownBlock ∨ v'.ownBlock = some w.heap.size) :
    AtSc B w0 m mu sb N k f mi (upd us x (us x ++ [i])) (upd V x v') seen (w'.setCell ⟨mu, x, none⟩ v') := by
  obtain ⟨⟨h1, h2, h3, h4, h5⟩, h6⟩ := h
  have ox := h4.own x hx
  have hfar := fun b e => h4.far x hx b e
  have k1 := World.ownsRow.kept h1 hgrow (.inr (by
    intro e
    exact hfar B e.symm (.inl rfl)))
  have k2 := World.ownsRow.kept h2 hgrow (.inr (by
    intro e
    exact hfar m e.symm (.inr rfl)))
  have k3 := World.ownsRow.kept h3 hgrow (own_two h3 ox (by decide))
  have k6 := World.ownsRow.kept h6 hgrow (own_two h6 ox (by decide))
  have k4 := h4.app hx hown hgrow hat (fun b hb => by rcases hb with rfl | rfl <;> assumption)
  have k5 := h5.grown hgrow hB (fun b e => (ox.lt b e).1)
  obtain ⟨cs, hb⟩ := own_block k3
  refine ⟨⟨own_far k1 hb (by decide) x _, own_far k2 hb (by decide) x _, ?_, k4.setT (a := ⟨mu, x, none⟩) hb (by decide) _, k5.setCell (p := ⟨mu, x, none⟩) hmB _⟩, own_far k6 hb (by decide) x _⟩
  have := (World.ownsRow.stored k3 x v').1
  rw [fv_set _ hx] at this
  exact this
end
theorem upd_upd {α : Type} (F : Nat → α) (i : Nat) (x y : α) : upd (upd F i x) i y = upd F i y := by
  funext j
  unfold upd
  split <;> rfl
theorem upd_self {α : Type} (F : Nat → α) (i : Nat) : upd F i (F i) = F := by
  funext j
  unfold upd
  split
  · next h => rw [h]
  · rfl
theorem ScInv.bounds {k i : Nat} {us : Nat → List Nat} {L : List Nat} {s : Sc} {g gs : List (List Nat)} (h : ScInv k i us L s) (hus : ∀ h, us h = (List.range i).filter fun j => E g gs j h) (x : Nat) : s.m ≤ k ∧ (s.us x).length ≤ i + 1 := by
  refine ⟨?_, ?_⟩
  · rw [h.m]
    have := List.length_filter_le (fun h => decide (h ∈ L) && decide (h ≠ i)) (List.range k)
    simpa using this
  · rw [h.us, List.length_append, hus]
    have := List.length_filter_le (fun j => E g gs j x) (List.range i)
    rw [List.length_range] at this
    split <;> simp <;> omega
/-- the places of what some of a group's things use -/
def upto2 (g gs : List (List Nat)) (i j : Nat) : List Nat := (((U gs i).take j).flatMap (U g)).map (ofG gs)
theorem upto2_succ (g gs : List (List Nat)) (i j : Nat) (hj : j < (U gs i).length) : upto2 g gs i (j + 1) = upto2 g gs i j ++ (U g (U gs i)[j]).map (ofG gs) := by
  unfold upto2
  rw [List.take_add_one, List.getElem?_eq_getElem hj, Option.toList_some, List.flatMap_append, List.map_append, List.flatMap_singleton]
set_option maxRecDepth 100000 in
set_option maxHeartbeats 8000000 in
theorem needs_any {ua ga : Option Addr} {uc gc : Nat} {g gs : List (List Nat)} (w : World) (hu : RRN w.heap.size w ua g) (hgs : RRN w.heap.size w ga gs) (hg : ∀ x < g.length, ∀ y ∈ U g x, y < g.length) (hp : Parted g gs) (hN : g.length ≤ 2048) :
    Calls Try.prog 24 #[.slice ua g.length uc, .slice ga gs.length gc] w (NeedsPost g gs w) := by
  have hkN := hp.len
  obtain ⟨i0, hi0, hi1, hi2, hi3⟩ := info_parts Tint
  obtain ⟨j0, hj0, hj1, hj2, hj3⟩ := info_parts Trow
  obtain ⟨l0, hl0, hl1, hl2, hl3⟩ := info_parts Tbool
  have HU := Lib.hid hu
  have HGS := Lib.hid hgs
  have HG := Lib.hid hg
  have HP := Lib.hid hp
  clear hu hg hgs hp
  go_enter Try.func24, Try.ntmps24
  go_wp2_with (at_make; refine wpList_make_full _ rfl _ _ 28 rfl w.heap.size 3 i0 _ 1 Try.underlying28 hi0 hi1 hi2 _ _ _ _ g.length rfl rfl rfl rfl (by rw [hi3]; omega) (by unfold maxLen; omega) (Nat.le_refl _) ?_)
  intro w2 hown hgrow
  have hof : OfRow w.heap.size w2 w.heap.size g.length (fun _ => 0) := by
    unfold OfRow
    rw [← fv_made, show g.length = g.length * 1 by omega]
    simpa using hown
  have HO2 := Lib.hid hof
  have HB2 := Lib.hid (show Below w.heap.size w w2 from (Below.refl _ w).grown hgrow (Nat.le_refl _) (fun k h => by cases h))
  clear hof hown hgrow
  obtain ⟨o, ho⟩ : ∃ o, w.heap.size = o := ⟨_, rfl⟩
  have HO := Lib.hid ho
  clear ho
  go_wp2_with fail
  go_loopg [24] gs.length (fun d v wr => ∃ (i : Nat) (f : Nat → Nat), i + d = gs.length ∧ v = .int .i64 i ∧ OfRow w.heap.size wr w.heap.size g.length f ∧ (∀ i' < i, ∀ x ∈ U gs i', f x = i') ∧ Below w.heap.size w wr)
  case atStart => exact ⟨0, _, by omega, rfl, HO2.out, by omega, HB2.out⟩
  case round =>
    obtain ⟨i, f, hi, rfl, hof, hf, hb⟩ := hrel
    have HI := Lib.hid hi
    have HF := Lib.hid hf
    have HOF := Lib.hid hof
    have HB := Lib.hid hb
    have hile : i ≤ gs.length := by omega
    clear hi hf hof
    by_cases hlt : i < gs.length
    · have hlt' : (i : Int) < gs.length := by omega
      obtain ⟨ad, a2, c2, rfl, had, y0, hUl, hUj⟩ := (HGS.out.below hb (Nat.le_refl _)) i hlt
      have HUJ := Lib.hid hUj
      clear hUj hb
      go_wp2_with fail
      go_loopg [31] (U gs i).length (fun d v wx => ∃ (j : Nat) (f : Nat → Nat), j + d = (U gs i).length ∧ v = .int .i64 j ∧ OfRow w.heap.size wx w.heap.size g.length f ∧ (∀ i' < i, ∀ x ∈ U gs i', f x = i') ∧ (∀ x ∈ (U gs i).take j, f x = i) ∧ Below w.heap.size wr wx)
      case atStart => exact ⟨0, f, by omega, rfl, HOF.out, HF.out, by simp, Below.refl _ _⟩
      case round =>
        obtain ⟨j, f2, hj, rfl, hof2, hf2, hf3, hb2⟩ := hrel
        have HJ := Lib.hid hj
        have HF2 := Lib.hid hf2
        have HF3 := Lib.hid hf3
        have HOF2 := Lib.hid hof2
        have HB3 := Lib.hid hb2
        have hjle : j ≤ (U gs i).length := by omega
        clear hj hf2 hf3 hof2
        by_cases hjt : j < (U gs i).length
        · have hjt' : (j : Int) < (U gs i).length := by omega
          obtain ⟨ad2, rfl, had2, c0⟩ := HUJ.out j hjt
          replace c0 := (hb2.cell (p := ad2.add j) (by rw [block_of_add]; exact had2)).trans c0
          have hmem : (U gs i)[j] ∈ U gs i := List.getElem_mem hjt
          have HT := Lib.hid (show (U gs i).take (j + 1) = (U gs i).take j ++ [(U gs i)[j]] by rw [List.take_add_one, List.getElem?_eq_getElem hjt]; rfl)
          generalize (U gs i)[j] = n at c0 hmem HT
          have hnN : n < g.length := HP.out.u_lt hlt hmem
          have hnN' : (n : Int) < g.length := by omega
          have q0 := (World.ownsRow.cellAt HOF2.out n (by omega)).trans (fv_get hnN)
          have q1 := World.ownsRow.frozenAt HOF2.out n
          have HMEM := Lib.hid hmem
          clear hb2 hmem
          go_wp2_with fail
          go_roundg ((U gs i).length - (j + 1))
          case measure => have := HJ.out; omega
          case rel =>
            refine ⟨j + 1, upd f2 n i, by have := HJ.out; omega, by go_num, HOF2.out.put hnN i, fun i' hi' x hx => ?_, fun x hx => ?_, HB3.out.setCell (p := ⟨w.heap.size, n, none⟩) (Nat.le_refl _) _⟩
            · rw [upd_ne _ _ (fun e => ?_)]
              · exact HF2.out i' hi' x hx
              · subst e
                exact absurd ((HP.out.ofG_eq (by omega) hx).symm.trans (HP.out.ofG_eq hlt HMEM.out)) (by omega)
            · rw [HT.out] at hx
              by_cases e : x = n
              · subst e; exact upd_same _ _ _
              · rw [upd_ne _ _ e]
                exact HF3.out x ((List.mem_append.1 hx).resolve_right (by simp [e]))
        · have hjn : j = (U gs i).length := by omega
          have HJN := Lib.hid hjn
          have hge : ¬ (j : Int) < (U gs i).length := by omega
          clear hjn
          go_wp2_with fail
          go_roundg (gs.length - (i + 1))
          case measure => have := HI.out; omega
          case rel =>
            refine ⟨i + 1, f2, by have := HI.out; omega, by go_num, HOF2.out, fun i' hi' x hx => ?_, HB.out.trans HB3.out⟩
            by_cases e : i' = i
            · subst e
              exact HF3.out x (by rw [HJN.out, List.take_length]; exact hx)
            · exact HF2.out i' (by omega) x hx
    · have hge : ¬ (i : Int) < gs.length := by omega
      have hin : i = gs.length := by omega
      have HFO := Lib.hid (show ∀ x < g.length, f x = ofG gs x from fun x hx => by
        have h1 := HP.out.ofG_lt hx
        exact HF.out _ (by rw [hin]; exact h1) x (HP.out.ofG_mem hx))
      clear hin hb
      have hmk1 : ∀ W : World, (Instr.makeSlice 28 (.int .i64 gs.length) (.int .i64 gs.length)).run Try.prog W = .ok (.slice (some ⟨W.heap.size, 0, none⟩) gs.length gs.length) (W.alloc (.cells (madeCells (Value.cells (.int .i64 0)) (gs.length * 1)) 3)) := fun W => by
        have := run_make (P := Try.prog) W 28 3 i0 (.int .i64 0) Try.underlying28 hi0 hi1 .i64 .i64 gs.length gs.length (by omega) (Int.le_refl _) (by rw [hi3]; omega) (by omega)
        simpa [hi2] using this
      have hmk2 : ∀ W : World, (Instr.makeSlice 22 (.int .i64 gs.length) (.int .i64 gs.length)).run Try.prog W = .ok (.slice (some ⟨W.heap.size, 0, none⟩) gs.length gs.length) (W.alloc (.cells (madeCells (Value.cells (.slice none 0 0)) (gs.length * 1)) 28)) := fun W => by
        have := run_make (P := Try.prog) W 22 28 j0 (.slice none 0 0) Try.underlying22 hj0 hj1 .i64 .i64 gs.length gs.length (by omega) (Int.le_refl _) (by rw [hj3]; omega) (by omega)
        simpa [hj2] using this
      go_wp2_with fail
      go_upto_region 12 with fail
      go_cut [4, 5] (fun v4 v5 wx => MadeAt w.heap.size w w.heap.size g.length gs.length f v4 v5 wx)
      case first =>
        go_region
        go_wp2_with fail
        all_goals
          go_meet
          case rel =>
            have hz := HB.out.size
            have k2 : ∀ o1 o2, Below w.heap.size w ((wr.alloc o1).alloc o2).drew := fun o1 o2 => ((HB.out.alloc hz o1).alloc (by simp; omega) o2).drew
            have ko : w.heap.size < wr.heap.size := (World.ownsRow.lt HOF.out w.heap.size rfl).2
            first
              | exact ⟨wr.heap.size, wr.heap.size + 1, rfl, rfl, own_drew (World.ownsRow.alloc (World.ownsRow.alloc HOF.out _) _), own_drew (World.ownsRow.alloc (made_own TI (.int .i64 0) gs.length hz (by omega)) _), own_drew (by have := made_own (W := wr.alloc (.cells (madeCells #[.int .i64 0] gs.length) TI)) (B := w.heap.size) TR (.slice none 0 0) gs.length (by simp; omega) (by omega); simpa using this), by omega, k2 _ _⟩
              | exact ⟨wr.heap.size + 1, wr.heap.size, rfl, rfl, own_drew (World.ownsRow.alloc (World.ownsRow.alloc HOF.out _) _), own_drew (by have := made_own (W := wr.alloc (.cells (madeCells #[.slice none 0 0] gs.length) TR)) (B := w.heap.size) TI (.int .i64 0) gs.length (by simp; omega) (by omega); simpa using this), own_drew (World.ownsRow.alloc (made_own TR (.slice none 0 0) gs.length hz (by omega)) _), by omega, k2 _ _⟩
      case rest =>
        obtain ⟨m, mu, rfl, rfl, hof, hm, hmu, hne, hb⟩ := hcut
        have HOF3 := Lib.hid hof
        have HM3 := Lib.hid hm
        have HMU3 := Lib.hid hmu
        have HB4 := Lib.hid hb
        have hmB := (hm.lt m rfl).1
        have hmuB := (hmu.lt mu rfl).1
        clear hof hm hmu hb hmk1 hmk2 HOF HB
        go_wp2_with fail
        go_loopg [49] gs.length (fun d v wr => ∃ (i : Nat) (mi : Nat → Int) (us : Nat → List Nat) (V : Nat → Value), i + d = gs.length ∧ v = .int .i64 i ∧ AtMi w.heap.size w m mu g.length gs.length f mi us V wr ∧ (∀ j, j < i → mi j = mis g gs [] j) ∧ (∀ j, i ≤ j → mi j = 0) ∧ (∀ h, us h = (List.range i).filter fun j => E g gs j h))
        case atStart => exact ⟨0, fun _ => 0, fun _ => [], fun _ => .slice none 0 0, by omega, rfl, ⟨HOF3.out, HM3.out, HMU3.out, Lists.none _ _ _ _, HB4.out⟩, by omega, fun _ _ => rfl, by simp⟩
        case round =>
          obtain ⟨i, mi, us, V, hi, rfl, hat, hmi, hmi0, hus⟩ := hrel
          have HI := Lib.hid hi
          have HAT := Lib.hid hat
          have HMI := Lib.hid hmi
          have HMI0 := Lib.hid hmi0
          have HUS := Lib.hid hus
          have hile : i ≤ gs.length := by omega
          have hzB : w.heap.size ≤ wr.heap.size := hat.2.2.2.2.size
          clear hi hmi hmi0 hus
          by_cases hlt : i < gs.length
          · have hlt' : (i : Int) < gs.length := by omega
            obtain ⟨ad, a2, c2, rfl, had, y0, hUl, hUj⟩ := (HGS.out.below hat.2.2.2.2 (Nat.le_refl _)) i hlt
            have HUJ := Lib.hid hUj
            clear hUj hat
            obtain ⟨sb, hsb⟩ : ∃ sb, wr.heap.size = sb := ⟨_, rfl⟩
            go_wp2_with (at_make; refine wpList_make_full _ rfl _ _ 35 rfl w.heap.size 4 l0 _ 1 Try.underlying35 hl0 hl1 hl2 _ _ _ _ gs.length rfl rfl rfl rfl (by rw [hl3]; omega) (by unfold maxLen; omega) hzB ?_)
            intro w5 hown hgrow
            have hz5 : w.heap.size ≤ w5.heap.size := Nat.le_trans hzB hgrow.size
            have hsbB : w.heap.size ≤ sb := by rw [← hsb]; exact hzB
            have hsc : w5.ownsRow w.heap.size TB 1 (.slice (some ⟨sb, 0, none⟩) gs.length gs.length) gs.length (fv gs.length fun h => .bool ((fun _ => false) h)) := by
              rw [← fv_made]
              simpa using hown
            have AT5 := Lib.hid (show AtSc w.heap.size w m mu sb g.length gs.length f mi us V (fun _ => false) w5 from ⟨HAT.out.grown0 hgrow hzB, hsc⟩)
            have q0 := (hsc.cellAt i (by omega)).trans (fv_get hlt)
            have q1 := hsc.frozenAt i
            have HB5 := Lib.hid (HAT.out.2.2.2.2)
            have AT6 := Lib.hid (AT5.out.mark hlt hsbB)
            obtain ⟨W6, hW6⟩ : ∃ W6, w5.setCell ⟨sb, i, none⟩ (.bool true) = W6 := ⟨_, rfl⟩
            rw [hW6] at AT6
            clear hown hgrow hsc AT5
            go_upto_region 17 with fail
            clear hW6 q0 q1 y0 hsb hz5 hzB
            rw [show upd (fun _ => false) i true = (Sc.start i us).seen by funext h; unfold upd Sc.start; by_cases e : h = i <;> simp [e], show mi = upd mi i ((Sc.start i us).m : Nat) by
              have := upd_self mi i
              rw [HMI0.out i (Nat.le_refl _)] at this
              exact this.symm] at AT6
            have HMI0' := HMI0
            go_wp2_with fail
            go_loopg [62] (U gs i).length (fun d v wr => ∃ (j : Nat) (s : Sc) (V : Nat → Value), j + d = (U gs i).length ∧ v = .int .i64 j ∧ ScInv gs.length i us (upto2 g gs i j) s ∧ AtSc w.heap.size w m mu sb g.length gs.length f (upd mi i (s.m : Nat)) s.us V s.seen wr)
            case atStart => exact ⟨0, Sc.start i us, V, by omega, rfl, ScInv.start _ _ _, AT6.out⟩
            case round =>
              obtain ⟨j, s, V2, hj, rfl, hsi, hat⟩ := hrel
              have HJ := Lib.hid hj
              have HSI := Lib.hid hsi
              have HAS := Lib.hid hat
              have hjle : j ≤ (U gs i).length := by omega
              have hbw := hat.1.2.2.2.2
              clear hj hsi hat
              by_cases hjt : j < (U gs i).length
              · have hjt' : (j : Int) < (U gs i).length := by omega
                obtain ⟨ad2, rfl, had2, c0⟩ := HUJ.out j hjt
                have hbl2 : (ad2.add j).block < w.heap.size := by rw [block_of_add]; exact had2
                replace c0 := (hbw.cell hbl2).trans ((HB5.out.cell hbl2).symm.trans c0)
                have hmem : (U gs i)[j] ∈ U gs i := List.getElem_mem hjt
                have HT := Lib.hid (upto2_succ g gs i j hjt)
                generalize (U gs i)[j] = n at c0 hmem HT
                have hnN : n < g.length := HP.out.u_lt hlt hmem
                have hnN' : (n : Int) < g.length := by omega
                obtain ⟨ad3, a3, c3, rfl, had3, y3, hVl, hVj⟩ := (HU.out.below hbw (Nat.le_refl _)) n hnN
                have HVJ := Lib.hid hVj
                have HBW := Lib.hid hbw
                clear hVj hmem hbw hbl2
                go_wp2_with fail
                clear c0 y3
                go_loopg [71] (U g n).length (fun d v wr => ∃ (r : Nat) (s : Sc) (V : Nat → Value), r + d = (U g n).length ∧ v = .int .i64 r ∧ ScInv gs.length i us (upto2 g gs i j ++ ((U g n).take r).map (ofG gs)) s ∧ AtSc w.heap.size w m mu sb g.length gs.length f (upd mi i (s.m : Nat)) s.us V s.seen wr)
                case atStart => exact ⟨0, s, V2, by omega, rfl, by simpa using HSI.out, HAS.out⟩
                case round =>
                  obtain ⟨r, s3, V3, hr, rfl, hsi3, hat3⟩ := hrel
                  have HR := Lib.hid hr
                  have HSI3 := Lib.hid hsi3
                  have HAS3 := Lib.hid hat3
                  have hrle : r ≤ (U g n).length := by omega
                  have hbw3 := hat3.1.2.2.2.2
                  clear hr hsi3 hat3
                  by_cases hrt : r < (U g n).length
                  · have hrt' : (r : Int) < (U g n).length := by omega
                    obtain ⟨ad4, rfl, had4, c4⟩ := HVJ.out r hrt
                    have hbl4 : (ad4.add r).block < w.heap.size := by rw [block_of_add]; exact had4
                    replace c4 := (hbw3.cell hbl4).trans ((HBW.out.cell hbl4).symm.trans c4)
                    have huN := HG.out n hnN _ (List.getElem_mem hrt)
                    have HTR := Lib.hid (show ((U g n).take (r + 1)).map (ofG gs) = ((U g n).take r).map (ofG gs) ++ [ofG gs (U g n)[r]] by rw [List.take_add_one, List.getElem?_eq_getElem hrt, Option.toList_some, List.map_append]; rfl)
                    generalize (U g n)[r] = u at c4 huN HTR
                    have huN' : (u : Int) < g.length := by omega
                    have c5 := (World.ownsRow.cellAt HAS3.out.1.1 u (by omega)).trans (fv_get huN)
                    have hfu := HFO.out u huN
                    have hxk := HP.out.ofG_lt huN
                    rw [hfu] at c5
                    generalize ofG gs u = x at c5 hxk HTR
                    have hxk' : (x : Int) < gs.length := by omega
                    have s0 := (World.ownsRow.cellAt HAS3.out.2 x (by omega)).trans (fv_get hxk)
                    have s1 := World.ownsRow.frozenAt HAS3.out.2 x
                    have hst := HSI3.out.step hxk
                    rw [List.append_assoc, ← HTR.out] at hst
                    have HST := Lib.hid hst
                    have HBW3 := Lib.hid hbw3
                    clear hst hbl4 hfu hbw3
                    cases hsx : s3.seen x with
                    | true =>
                      have HE := Lib.hid (show s3.step i x = s3 by unfold Sc.step; rw [if_pos hsx])
                      rw [hsx] at s0
                      clear hsx
                      go_wp2_with fail
                      go_roundg ((U g n).length - (r + 1))
                      case measure => have := HR.out; omega
                      case rel => exact ⟨r + 1, s3, V3, by have := HR.out; omega, by go_num, by have := HST.out; rw [HE.out] at this; exact this, HAS3.out⟩
                    | false =>
                      have HE := Lib.hid (show s3.step i x = ⟨upd s3.seen x true, s3.m + 1, upd s3.us x (s3.us x ++ [i])⟩ by unfold Sc.step; rw [if_neg (by rw [hsx]; simp)])
                      have HBD := Lib.hid (HSI3.out.bounds HUS.out x)
                      rw [hsx] at s0
                      clear hsx
                      have hzB3 : w.heap.size ≤ wr.heap.size := HBW3.out.size
                      have m0 := (World.ownsRow.cellAt HAS3.out.1.2.1 i (by omega)).trans (fv_get hlt)
                      have m1 := World.ownsRow.frozenAt HAS3.out.1.2.1 i
                      replace m0 : wr.cell? ⟨m, i, none⟩ = some (.int .i64 (s3.m : Nat)) := m0.trans (by rw [upd_same])
                      have hsm : m ≠ sb := fun e => by
                        subst e
                        exact absurd (Box.same (own_block HAS3.out.1.2.1).choose_spec (own_block HAS3.out.2).choose_spec) (by decide)
                      have hms := hsm.symm
                      have hmb : (s3.m : Int) + 1 ≤ 100000 := by have := HBD.out.1; omega
                      have A1 := Lib.hid ((HAS3.out.mark hxk hsbB).more (c := (s3.m : Int) + 1) hlt hmB hne)
                      rw [upd_upd] at A1
                      obtain ⟨W1, hW1⟩ : ∃ W1, (wr.setCell ⟨sb, x, none⟩ (.bool true)).setCell ⟨m, i, none⟩ (.int .i64 ((s3.m : Int) + 1)) = W1 := ⟨_, rfl⟩
                      rw [hW1] at A1
                      have hz1 : w.heap.size ≤ W1.heap.size := A1.out.1.2.2.2.2.size
                      have hml1 : m < W1.heap.size := (World.ownsRow.lt A1.out.1.2.1 m rfl).2
                      have hol1 : w.heap.size < W1.heap.size := (World.ownsRow.lt A1.out.1.1 w.heap.size rfl).2
                      have hox := A1.out.1.2.2.2.1.own x hxk
                      obtain ⟨ax, cx, hvx⟩ := own_slice hox
                      have u0 := (World.ownsRow.cellAt A1.out.1.2.2.1 x (by omega)).trans (fv_get hxk)
                      rw [hvx] at u0 hox
                      have HOX := Lib.hid hox
                      have HVX := Lib.hid hvx
                      clear hox hvx
                      go_wp2_with (at_builtin; refine wpList_append_own_at _ rfl _ _ 28 rfl w.heap.size 3 i0 _ 1 8 Try.underlying28 hi0 hi1 hi2 hi3 rfl (by decide) _ _ _ rfl (HOX.out.alloc _) ⟨W1.heap.size, 0, none⟩ 1 1 [.int .i64 i] rfl rfl (Go.cell_one_new _ _ _) (fun u hu => by simp only [List.mem_singleton] at hu; rw [hu]; rfl) (by unfold maxLen; have := HBD.out.2; omega) (by have := HBD.out.2; omega) (by simp; omega) ?_)
                      intro v7 w7 hown hgrow _ hat7
                      obtain ⟨a7, c7, rfl⟩ := own_slice hown
                      have hk3 := World.ownsRow.kept (World.ownsRow.alloc A1.out.1.2.2.1 (.cells #[.int .i64 i] TI)) hgrow (own_two (World.ownsRow.alloc A1.out.1.2.2.1 (.cells #[.int .i64 i] TI)) (HOX.out.alloc (.cells #[.int .i64 i] TI)) (by decide))
                      have v0 := (hk3.cellAt x (by omega)).trans (fv_get hxk)
                      have v1 := hk3.frozenAt x
                      rw [HVX.out] at v0
                      have A2 := Lib.hid ((A1.out.alloc (.cells #[.int .i64 i] TI) hz1).user (i := i) hxk hmuB (by simp; omega) (by simp; omega) (by simp; omega) hown (by rw [HVX.out]; exact hgrow) (by rw [HVX.out]; simpa using hat7))
                      clear hown hgrow hat7 hk3 hW1 c4 c5 s0 s1 m0 m1 u0
                      go_wp2_with fail
                      go_roundg ((U g n).length - (r + 1))
                      case measure => have := HR.out; omega
                      case rel => exact ⟨r + 1, ⟨upd s3.seen x true, s3.m + 1, upd s3.us x (s3.us x ++ [i])⟩, _, by have := HR.out; omega, by go_num, by have := HST.out; rw [HE.out] at this; exact this, A2.out⟩
                  · have hrn : r = (U g n).length := by omega
                    have hge : ¬ (r : Int) < (U g n).length := by omega
                    have HRN := Lib.hid hrn
                    clear hrn hbw3
                    go_wp2_with fail
                    go_roundg ((U gs i).length - (j + 1))
                    case measure => have := HJ.out; omega
                    case rel =>
                      refine ⟨j + 1, s3, V3, by have := HJ.out; omega, by go_num, ?_, HAS3.out⟩
                      have := HSI3.out
                      rw [HRN.out, List.take_length] at this
                      rw [HT.out]
                      exact this
              · have hjn : j = (U gs i).length := by omega
                have hge : ¬ (j : Int) < (U gs i).length := by omega
                have hdn := ScInv.done (g := g) (gs := gs) (i := i) (us := us) (s := s) (by
                  have := HSI.out
                  rw [hjn] at this
                  unfold upto2 at this
                  rw [List.take_length] at this
                  exact this)
                have HDN := Lib.hid hdn
                clear hjn hdn hbw
                go_wp2_with fail
                go_roundg (gs.length - (i + 1))
                case measure => have := HI.out; omega
                case rel =>
                  refine ⟨i + 1, upd mi i (s.m : Nat), s.us, V2, by have := HI.out; omega, by go_num, HAS.out.1, fun j hj => ?_, fun j hj => ?_, fun h => ?_⟩
                  · by_cases e : j = i
                    · subst e; rw [upd_same]; exact HDN.out.1
                    · rw [upd_ne _ _ e]; exact HMI.out j (by omega)
                  · rw [upd_ne _ _ (by omega)]; exact HMI0'.out j (by omega)
                  · rw [HDN.out.2, HUS.out, List.range_succ, List.filter_append]
                    congr 1
                    simp only [List.filter_cons, List.filter_nil]
          · have hge : ¬ (i : Int) < gs.length := by omega
            have hin : i = gs.length := by omega
            have HIN := Lib.hid hin
            clear hin hat
            go_wp2_with fail
            go_ret2
            refine ⟨m, mu, V, rfl, ?_, HAT.out.2.2.1, ?_, HAT.out.2.2.2.2⟩
            · have := HAT.out.2.1
              rw [fv_congr (G := fun j => .int .i64 (mis g gs [] j)) (fun j hj => by rw [HMI.out j (by rw [HIN.out]; exact hj)])] at this
              exact this
            · have := HAT.out.2.2.2.1
              rw [show us = users g gs by funext h; rw [HUS.out, HIN.out]; rfl] at this
              exact this.mono fun b _ hb => .inr hb
end Go.Proofs.Ytephmagficbdeaa.Gr
