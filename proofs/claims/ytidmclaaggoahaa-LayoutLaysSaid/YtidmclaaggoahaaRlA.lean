/-
  CONTRACTS of the document's layout: its frames; the topmost block; the frames below it.
-/
import Derived.Test.YtidmclaaggoahaaLayMk
namespace Go.Proofs.Ytidmclaaggoahaa.Ly
open Go.RowKit Pl Ar Mm Lx
set_option linter.unusedVariables false
set_option linter.unusedSimpArgs false
abbrev RF : TypeId := 54
/-- the name of a kind of frames -/
def nm (k : Int) : ByteArray := if k = 1 then ⟨#[98, 108, 111, 99, 107]⟩ else if k = 2 then ⟨#[108, 101, 116]⟩ else if k = 3 then ⟨#[99, 97, 115, 101]⟩ else if k = 4 then ⟨#[105, 102]⟩ else if k = 5 then ⟨#[116, 104, 101, 110]⟩ else if k = 6 then ⟨#[40]⟩ else if k = 7 then ⟨#[123]⟩ else ⟨#[]⟩
def KF (F : List Fr) : Prop := ∀ f ∈ F, 1 ≤ f.kind ∧ f.kind ≤ 7
theorem KF.take {F : List Fr} (h : KF F) (q : Nat) : KF (F.take q) := fun f hf => h f (List.mem_of_mem_take hf)
theorem KF.push {F : List Fr} (h : KF F) {k c : Int} (hk : 1 ≤ k ∧ k ≤ 7) : KF (F ++ [⟨k, c⟩]) := by
  intro x hx
  rcases List.mem_append.1 hx with hx | hx
  · exact h x hx
  · obtain rfl := List.mem_singleton.1 hx
    exact hk
theorem KF.at {F : List Fr} (h : KF F) {i : Nat} (hi : i < F.length) : 1 ≤ frK F i ∧ frK F i ≤ 7 := by
  rw [frK_get hi]
  exact h _ (List.getElem_mem _)
theorem nm_list : ∀ k : Int, 0 ≤ k → k ≤ 7 → k = 0 ∨ k = 1 ∨ k = 2 ∨ k = 3 ∨ k = 4 ∨ k = 5 ∨ k = 6 ∨ k = 7 := by omega
theorem nm_inj {a b : Int} (ha : 0 ≤ a ∧ a ≤ 7) (hb : 0 ≤ b ∧ b ≤ 7) : (nm a).toList = (nm b).toList ↔ a = b := by
  rw [Lib.toList_data, Lib.toList_data]
  rcases nm_list a ha.1 ha.2 with rfl | rfl | rfl | rfl | rfl | rfl | rfl | rfl <;> rcases nm_list b hb.1 hb.2 with rfl | rfl | rfl | rfl | rfl | rfl | rfl | rfl <;> decide
theorem nm_eq {a : Int} (ha : 0 ≤ a ∧ a ≤ 7) (b : Int) (hb : 0 ≤ b ∧ b ≤ 7) : ((nm a).toList == (nm b).toList) = decide (a = b) := by
  by_cases h : a = b
  · subst h; simp
  · have : ¬ (nm a).toList = (nm b).toList := fun e => h ((nm_inj ha hb).1 e)
    simp [h, this]
theorem Trf : (Try.prog.info? 54).map (fun i => (i.zero, i.size, i.bytes)) = some (some (.agg #[.string ByteArray.empty, .int .i64 0]), 2, 24) := by kernel_rfl
def rfCells (f : Fr) : List Value := [.string (nm f.kind), .int .i64 f.col]
def rfsCells (l : List Fr) : List Value := l.flatMap rfCells
theorem rfs_push (l : List Fr) (f : Fr) : rfsCells (l ++ [f]) = rfsCells l ++ rfCells f := by unfold rfsCells; rw [List.flatMap_append]; simp
theorem rfs_len : ∀ F : List Fr, (rfsCells F).length = F.length * 2 := by
  intro F
  induction F with
  | nil => rfl
  | cons t M ih => show (rfCells t ++ rfsCells M).length = _; rw [List.length_append, ih]; show 2 + _ = (M.length + 1) * 2; omega
abbrev OwnsR (w : World) (B : Nat) (v : Value) (l : List Fr) : Prop := w.ownsRow B RF 2 v l.length (rfsCells l)
def frAt (F : List Fr) (k : Nat) : Fr := ⟨frK F k, frC F k⟩
theorem rfs_get (F : List Fr) : ∀ (k : Nat), k < F.length → ∀ j, j < 2 → (rfsCells F)[k * 2 + j]? = (rfCells (frAt F k))[j]? := by
  induction F with
  | nil => intro k hk; simp at hk
  | cons t F ih =>
    intro k hk j hj
    have hl : (rfCells t).length = 2 := rfl
    have e : rfsCells (t :: F) = rfCells t ++ rfsCells F := by simp [rfsCells]
    rw [e]
    cases k with
    | zero => rw [List.getElem?_append_left (by rw [hl]; omega)]; simp [frAt, frK, frC]
    | succ k =>
      rw [List.getElem?_append_right (by rw [hl]; omega), hl, show (k + 1) * 2 + j - 2 = k * 2 + j by omega, ih k (by simpa using hk) j hj]
      simp [frAt, frK, frC]
/-- the frames can be read at v -/
def ShowsR (w : World) (v : Value) (l : List Fr) : Prop := ∃ b c, v = .slice b l.length c ∧ ∀ k, k < l.length → ∃ g, b = some ⟨g, 0, none⟩ ∧ g < w.heap.size ∧
  w.cell? ⟨g, k * 2, none⟩ = some (.string (nm (frK l k))) ∧ w.cell? ⟨g, k * 2 + 1, none⟩ = some (.int .i64 (frC l k))
theorem showsR_own {w : World} {B : Nat} {v : Value} {F : List Fr} (h : OwnsR w B v F) : ShowsR w v F := by
  obtain ⟨b, c, rfl⟩ := own_slice h
  refine ⟨b, c, rfl, fun k hk => ?_⟩
  obtain ⟨g, rfl, _, hg, _, hc⟩ := own_at h (by omega)
  have key : ∀ j, j < 2 → w.cell? ⟨g, k * 2 + j, none⟩ = (rfCells (frAt F k))[j]? := fun j hj => (hc _ (by omega)).trans (rfs_get F k hk j hj)
  exact ⟨g, rfl, hg, key 0 (by omega), key 1 (by omega)⟩
/-- the topmost block among the first frames, and its column -/
def topU (F : List Fr) : Nat → Int × Int
  | 0 => (0, 0)
  | k + 1 => if frK F k = 1 ∨ frK F k = 7 then (frK F k, frC F k) else topU F k
theorem topU_rng {F : List Fr} (h : KF F) : ∀ k, k ≤ F.length → 0 ≤ (topU F k).1 ∧ (topU F k).1 ≤ 7
  | 0, _ => ⟨Int.le_refl 0, by show (0 : Int) ≤ 7; omega⟩
  | k + 1, hk => by
    unfold topU
    split
    · have := h.at (i := k) (by omega)
      simp only
      omega
    · exact topU_rng h k (by omega)
set_option maxRecDepth 100000 in
set_option maxHeartbeats 4000000 in
theorem top_any {v : Value} {F : List Fr} (hF : KF F) (w : World) (h : ShowsR w v F) (hl : F.length ≤ 1000000000) :
    Calls Try.prog 47 #[v] w fun e w' => e = .returned (.agg #[.string (nm (topU F F.length).1), .int .i64 (topU F F.length).2]) ∧ Below w.heap.size w w' := by
  obtain ⟨b, c, rfl, hc⟩ := h
  obtain ⟨N, hN⟩ : ∃ N, F.length = N := ⟨_, rfl⟩
  have HC := Lib.hid hc
  have HN := Lib.hid hN
  have HF := Lib.hid hF
  rw [hN] at hl ⊢
  clear hc hN hF
  go_enter Try.func47, Try.ntmps47
  go_wp2_with fail
  go_loopg [4] N (fun d v4 wr => ∃ k : Nat, d + k = N ∧ v4 = .int .i64 k ∧ Box wr w.heap.size RF #[.string ⟨#[]⟩, .int .i64 0] ∧ Box wr (w.heap.size + 1) RF #[.string (nm (topU F k).1), .int .i64 (topU F k).2] ∧ Below w.heap.size w wr)
  case atStart => 
    refine ⟨0, by omega, rfl, ?_, ?_, ?_⟩
    · exact (Box.new _ _ _).alloc _
    · have := Box.new (w.alloc (.cells #[.string ⟨#[]⟩, .int .i64 0] RF)) #[.string ⟨#[]⟩, .int .i64 0] RF
      rw [World.size_alloc] at this
      exact this
    · exact ((Below.refl _ _).alloc (Nat.le_refl _) _).alloc (by simp) _
  case round =>
    obtain ⟨k, hk, rfl, bx1, bx2, hbw⟩ := hrel
    have HK := Lib.hid hk
    have HBW := Lib.hid hbw
    have HX1 := Lib.hid bx1
    have HX2 := Lib.hid bx2
    have hle : k ≤ N := by omega
    have y0 := bx2.cell 0
    have y1 := bx2.cell 1
    have f0 := bx2.free 0
    have f1 := bx2.free 1
    have x0 := bx1.cell 0
    have x1 := bx1.cell 1
    have g0 := bx1.free 0
    have g1 := bx1.free 1
    clear hk hbw bx1 bx2
    by_cases hlt : k < N
    · have hlt' : (k : Int) < N := by omega
      obtain ⟨g, rfl, hg, p0, p1⟩ := HC.out k (by rw [HN.out]; exact hlt)
      rw [← HBW.out.cell (p := ⟨g, k * 2, none⟩) hg] at p0
      rw [← HBW.out.cell (p := ⟨g, k * 2 + 1, none⟩) hg] at p1
      have hr := HF.out.at (i := k) (by rw [HN.out]; exact hlt)
      obtain ⟨K, hK⟩ : ∃ K, frK F k = K := ⟨_, rfl⟩
      obtain ⟨C, hC⟩ : ∃ C, frC F k = C := ⟨_, rfl⟩
      have hu : topU F (k + 1) = if K = 1 ∨ K = 7 then (K, C) else topU F k := by show (if frK F k = 1 ∨ frK F k = 7 then _ else _) = _; rw [hK, hC]
      rw [hK] at p0 hr
      rw [hC] at p1
      have HU := Lib.hid hu
      clear hK hC hu
      have HNM := Lib.hid (fun (b : Int) (hb : 0 ≤ b ∧ b ≤ 7) => nm_inj (a := K) (by omega) hb)
      have t1 := nm_eq (a := K) (by omega) 1 (by omega)
      have t7 := nm_eq (a := K) (by omega) 7 (by omega)
      rw [show (nm 1).toList = [98, 108, 111, 99, 107] by rw [Lib.toList_data]; rfl] at t1
      rw [show (nm 7).toList = [123] by rw [Lib.toList_data]; rfl] at t7
      obtain ⟨T, hT⟩ : ∃ T, nm K = T := ⟨_, rfl⟩
      rw [hT] at p0 t1 t7
      have HT := Lib.hid hT
      clear hT HNM
      by_cases hk1 : K = 1
      · have HU2 := Lib.hid (show topU F (k + 1) = (K, C) by rw [HU.out, if_pos (.inl hk1)])
        simp only [hk1, decide_true] at t1
        rw [hk1] at t7
        simp only [show decide ((1 : Int) = 7) = false from rfl] at t7
        clear hk1
        · skip
          go_wp2
          go_roundg (N - (k + 1))
          case measure => have := HK.out; omega
          case rel => exact ⟨k + 1, by have := HK.out; omega, by go_num, (HX1.out.far (by simp) _).far (by simp) _, by rw [HU2.out, HT.out]; exact (HX2.out.put 0 _).put 1 _, (HBW.out.setCell (by simp) _).setCell (by simp) _⟩
      · by_cases hk7 : K = 7
        · have HU2 := Lib.hid (show topU F (k + 1) = (K, C) by rw [HU.out, if_pos (.inr hk7)])
          simp only [hk1, decide_false] at t1
          simp only [hk7, decide_true] at t7
          clear hk1 hk7
          go_wp2
          go_roundg (N - (k + 1))
          case measure => have := HK.out; omega
          case rel => exact ⟨k + 1, by have := HK.out; omega, by go_num, (HX1.out.far (by simp) _).far (by simp) _, by rw [HU2.out, HT.out]; exact (HX2.out.put 0 _).put 1 _, (HBW.out.setCell (by simp) _).setCell (by simp) _⟩
        · have HU2 := Lib.hid (show topU F (k + 1) = topU F k by rw [HU.out, if_neg (by omega)])
          simp only [hk1, decide_false] at t1
          simp only [hk7, decide_false] at t7
          clear hk1 hk7
          go_wp2
          go_roundg (N - (k + 1))
          case measure => have := HK.out; omega
          case rel => exact ⟨k + 1, by have := HK.out; omega, by go_num, HX1.out, by rw [HU2.out]; exact HX2.out, HBW.out⟩
    · obtain rfl : k = N := by omega
      go_wp2_with fail
      have z1 := (HX1.out.put 0 (.string (nm (topU F k).1))).put 1 (.int .i64 (topU F k).2)
      have HB := Lib.hid (show Below w.heap.size w ((wr.setCell ⟨w.heap.size, 0, none⟩ (.string (nm (topU F k).1))).setCell ⟨w.heap.size, 1, none⟩ (.int .i64 (topU F k).2)) from (HBW.out.setCell (Nat.le_refl _) _).setCell (Nat.le_refl _) _)
      obtain ⟨W2, hW2⟩ : ∃ W2, (wr.setCell ⟨w.heap.size, 0, none⟩ (.string (nm (topU F k).1))).setCell ⟨w.heap.size, 1, none⟩ (.int .i64 (topU F k).2) = W2 := ⟨_, rfl⟩
      rw [hW2] at z1 HB ⊢
      have q0 := z1.cell 0
      have q1 := z1.cell 1
      refine bodyPost_ret (v := .agg #[.string (nm (topU F k).1), .int .i64 (topU F k).2]) (by simp [results, Try.results47, go_sem, q0, q1]) rfl ?_
      exact ⟨rfl, HB.out⟩
end Go.Proofs.Ytidmclaaggoahaa.Ly
