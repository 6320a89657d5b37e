/-
  CONTRACTS of layer heap: the document's heap in memory; find, All, has, Get.
-/
import Derived.Test.YtbkklnihgejeoaaHpT
import Derived.Test.YtbkklnihgejeoaaHpQ
import Derived.Test.YtbkklnihgejeoaaHpU
namespace Go.Proofs.Ytbkklnihgejeoaa.Hp
open Go.RowKit Mm Tm
set_option linter.unusedVariables false
set_option linter.unusedSimpArgs false
abbrev RC : TypeId := 43
abbrev RH : TypeId := 32
theorem infoRC : (Try.prog.info? RC).map (fun i => (i.zero, i.size, i.bytes)) = some (some (.agg #[.int .i64 0, .int .i64 0, .int .i64 0, .slice none 0 0]), 4, 48) := by kernel_rfl
theorem not_TP_RC : ¬ TP RC := by unfold TP; decide
theorem not_TP_RH : ¬ TP RH := by unfold TP; decide
/-- the cells of the document's cells in a row, whose nodes' numbers lie below B -/
def RowC (B : Nat) (w : World) (vs : List Value) (l : List Rc) : Prop := vs.length = l.length * 4 ∧ ∀ (i : Nat) r, l[i]? = some r → ∃ a c, vs[i * 4]? = some (.int .i64 r.at_) ∧ vs[i * 4 + 1]? = some (.int .i64 r.x.tag) ∧ vs[i * 4 + 2]? = some (.int .i64 r.x.n) ∧ vs[i * 4 + 3]? = some (.slice a r.x.l.length c) ∧ RdI (· < B) w a r.x.l ∧ r.x.l.length ≤ 20
theorem RowC.keep {B : Nat} {w w' : World} {vs : List Value} {l : List Rc} (h : RowC B w vs l) (hc : ∀ ad : Addr, ad.block < B → w'.cell? ad = w.cell? ad) : RowC B w' vs l :=
  ⟨h.1, fun i r hr => by
    obtain ⟨a, c, h1, h2, h3, h4, h5, h6⟩ := h.2 i r hr
    exact ⟨a, c, h1, h2, h3, h4, h5.frame hc fun _ q => q, h6⟩⟩
theorem RowC.snoc {B : Nat} {w : World} {vs : List Value} {l : List Rc} {r : Rc} {a : Option Addr} {c : Nat} (h : RowC B w vs l) (hr : RdI (· < B) w a r.x.l) (hl : r.x.l.length ≤ 20) : RowC B w (vs ++ [.int .i64 r.at_, .int .i64 r.x.tag, .int .i64 r.x.n, .slice a r.x.l.length c]) (l ++ [r]) := by
  refine ⟨by rw [List.length_append, h.1, List.length_append]; simp; omega, fun i y hy => ?_⟩
  have hvl := h.1
  by_cases hi : i < l.length
  · rw [List.getElem?_append_left hi] at hy
    obtain ⟨b, d, h1, h2, h3, h4, h5⟩ := h.2 i y hy
    exact ⟨b, d, by rw [List.getElem?_append_left (by omega)]; exact h1, by rw [List.getElem?_append_left (by omega)]; exact h2, by rw [List.getElem?_append_left (by omega)]; exact h3, by rw [List.getElem?_append_left (by omega)]; exact h4, h5⟩
  · rw [List.getElem?_append_right (by omega)] at hy
    have h0 : i = l.length := by
      have := (List.getElem?_eq_some_iff.1 hy).1
      simp at this
      omega
    subst h0
    rw [Nat.sub_self] at hy
    injection hy with hy
    subst hy
    exact ⟨a, c, by rw [List.getElem?_append_right (by omega), hvl, Nat.sub_self]; rfl, by rw [List.getElem?_append_right (by omega), hvl, show l.length * 4 + 1 - l.length * 4 = 1 by omega]; rfl, by rw [List.getElem?_append_right (by omega), hvl, show l.length * 4 + 2 - l.length * 4 = 2 by omega]; rfl, by rw [List.getElem?_append_right (by omega), hvl, show l.length * 4 + 3 - l.length * 4 = 3 by omega]; rfl, hr, hl⟩
/-- the document's cells in a row of their own, in blocks from B on -/
def OwnC (B : Nat) (w : World) (v : Value) (l : List Rc) : Prop := ∃ vs, w.ownsRow B RC 4 v l.length vs ∧ RowC B w vs l
theorem OwnC.nil (B : Nat) (w : World) : OwnC B w (.slice none 0 0) [] := ⟨[], World.ownsRow_nil _ _ _ _, rfl, fun i r hr => by simp at hr⟩
theorem OwnC.slice {B : Nat} {w : World} {v : Value} {l : List Rc} (h : OwnC B w v l) : ∃ a c, v = .slice a l.length c := by
  obtain ⟨vs, h1, _⟩ := h
  exact own_slice h1
theorem OwnC.below {B : Nat} {w w' : World} {v : Value} {l : List Rc} (h : OwnC B w v l) (hB : B ≤ w.heap.size) (hb : Below w.heap.size w w') : OwnC B w' v l := by
  obtain ⟨vs, h1, h2⟩ := h
  exact ⟨vs, own_here h1 hb, h2.keep fun ad hl => hb.cell (Nat.lt_of_lt_of_le hl hB)⟩
theorem OwnC.kh {B : Nat} {w w' : World} {v : Value} {l : List Rc} (h : OwnC B w v l) (hB : B ≤ w.heap.size) (hk : KH B w w') : OwnC B w' v l := by
  obtain ⟨vs, h1, h2⟩ := h
  exact ⟨vs, KG.own hk h1 (fun g _ => id) not_TP_RC, h2.keep fun ad hl => KG.cell hk hl (Nat.lt_of_lt_of_le hl hB)⟩
theorem OwnC.at_ {B : Nat} {w : World} {a : Option Addr} {c : Nat} {l : List Rc} (h : OwnC B w (.slice a l.length c) l) {i : Nat} {r : Rc} (hr : l[i]? = some r) :
    ∃ g la lc, a = some ⟨g, 0, none⟩ ∧ g < w.heap.size ∧ w.cell? ⟨g, i * 4, none⟩ = some (.int .i64 r.at_) ∧ w.cell? ⟨g, i * 4 + 1, none⟩ = some (.int .i64 r.x.tag) ∧ w.cell? ⟨g, i * 4 + 2, none⟩ = some (.int .i64 r.x.n) ∧ w.cell? ⟨g, i * 4 + 3, none⟩ = some (.slice la r.x.l.length lc) ∧ RdI (· < B) w la r.x.l ∧ r.x.l.length ≤ 20 := by
  obtain ⟨vs, h1, h2⟩ := h
  have hi : i < l.length := (List.getElem?_eq_some_iff.1 hr).1
  obtain ⟨g, rfl, _, hg, _, hc⟩ := own_at h1 (by omega)
  obtain ⟨la, lc, e0, e1, e2, e3, e4, e5⟩ := h2.2 i r hr
  exact ⟨g, la, lc, rfl, hg, by rw [hc _ (by omega)]; exact e0, by rw [hc _ (by omega)]; exact e1, by rw [hc _ (by omega)]; exact e2, by rw [hc _ (by omega)]; exact e3, e4, e5⟩
set_option maxRecDepth 100000 in
set_option maxHeartbeats 4000000 in
theorem find_any {B cap allocs c : Nat} {a : Option Addr} {l : List Rc} (p : Int) (w : World) (h : OwnC B w (.slice a l.length c) l) (hB : B ≤ w.heap.size) (hn : l.length ≤ 1000000) :
    Calls Try.prog 38 #[.agg #[.int .i64 cap, .slice a l.length c, .int .i64 allocs], .int .i64 p] w (RetB (.int .i64 (findV l p)) w) := by
  obtain ⟨W0, hW0⟩ : ∃ W0, w.alloc (.cells #[.int .i64 cap, .slice a l.length c, .int .i64 allocs] RH) = W0 := ⟨_, rfl⟩
  have hb0 : Below w.heap.size w W0 := by rw [← hW0]; exact (Below.refl w.heap.size w).alloc (Nat.le_refl _) _
  have hx0 : Box W0 w.heap.size RH #[.int .i64 cap, .slice a l.length c, .int .i64 allocs] := by rw [← hW0]; exact Box.new _ _ _
  have HB := Lib.hid hb0
  have HO := Lib.hid (h.below hB hb0)
  have x1 : W0.cell? ⟨w.heap.size, 1, none⟩ = some (.slice a l.length c) := hx0.cell 1
  clear h hb0 hx0
  go_enter Try.func38, Try.ntmps38
  go_wp2_with fail
  clear hW0
  go_loop [5] (fun i => ∃ k : Nat, k ≤ l.length ∧ i = .int .i64 k ∧ Hid (∀ j s, j < k → l[j]? = some s → s.at_ ≠ p)) (fun i => l.length - (intOf i).toNat)
  case atStart => exact ⟨0, Nat.zero_le _, rfl, Lib.hid fun j s hj => by omega⟩
  case round =>
    obtain ⟨k, hk, rfl, HU⟩ := hrel
    by_cases hlt : k < l.length
    · obtain ⟨r, hr⟩ : ∃ r, l[k]? = some r := ⟨_, List.getElem?_eq_getElem hlt⟩
      obtain ⟨g, la, lc, rfl, _, c0, _⟩ := HO.out.at_ hr
      have HR := Lib.hid hr
      clear hr
      by_cases he : r.at_ = p
      · have q1 : (r.at_ == p) = true := by simpa using he
        have HE := Lib.hid (findV_some HR.out he HU.out)
        clear he
        go_wp2_with fail
        go_ret
        exact ⟨by rw [HE.out]; rfl, HB.out⟩
      · have q1 : (r.at_ == p) = false := by simpa using he
        have HU' := Lib.hid (show ∀ j s, j < k + 1 → l[j]? = some s → s.at_ ≠ p from fun j s hj hs => by
          by_cases e : j = k
          · subst e
            rw [HR.out] at hs
            injection hs with hs
            rw [← hs]; exact he
          · exact HU.out j s (by omega) hs)
        clear he
        go_wp2_with fail
        go_round
        case rel => exact ⟨k + 1, by omega, by go_num, HU'⟩
        case measure => simp [intOf]; omega
    · have HE := Lib.hid (findV_none (l := l) (a := p) fun r hr => by
        obtain ⟨j, hj, rfl⟩ := List.getElem_of_mem hr
        exact HU.out j _ (by omega) (List.getElem?_eq_getElem hj))
      have hge : ¬ (k : Int) < l.length := by omega
      go_wp2_with fail
      go_ret
      exact ⟨by rw [HE.out]; rfl, HB.out⟩
set_option maxRecDepth 100000 in
set_option maxHeartbeats 4000000 in
theorem has_any {Z : Nat → Prop} {a : Option Addr} {c : Nat} {l : List Int} (y : Int) (w : World) (h : RdI Z w a l) (hn : l.length ≤ 9223372036854775807) :
    Calls Try.prog 40 #[.slice a l.length c, .int .i64 y] w (IsV (.bool (decide (y ∈ l))) w) := by
  have HL := Lib.hid h
  clear h
  go_enter Try.func40, Try.ntmps40
  go_wp2_with fail
  go_loop [5] (fun i => ∃ k : Nat, k ≤ l.length ∧ i = .int .i64 k ∧ Hid (∀ j z, j < k → l[j]? = some z → z ≠ y)) (fun i => l.length - (intOf i).toNat)
  case atStart => exact ⟨0, Nat.zero_le _, rfl, Lib.hid fun j s hj => by omega⟩
  case round =>
    obtain ⟨k, hk, rfl, HU⟩ := hrel
    by_cases hlt : k < l.length
    · obtain ⟨z, hz⟩ : ∃ z, l[k]? = some z := ⟨_, List.getElem?_eq_getElem hlt⟩
      obtain ⟨ad, rfl, _, c0⟩ := HL.out k z hz
      have HZ := Lib.hid hz
      clear hz
      by_cases he : z = y
      · have q1 : (z == y) = true := by simpa using he
        have HE := Lib.hid (show decide (y ∈ l) = true from decide_eq_true (by rw [← he]; exact List.mem_of_getElem? HZ.out))
        clear he
        go_wp2_with fail
        go_ret
        exact ⟨by rw [HE.out]; rfl, rfl⟩
      · have q1 : (z == y) = false := by simpa using he
        have HU' := Lib.hid (show ∀ j s, j < k + 1 → l[j]? = some s → s ≠ y from fun j s hj hs => by
          by_cases e : j = k
          · subst e
            rw [HZ.out] at hs
            injection hs with hs
            rw [← hs]; exact he
          · exact HU.out j s (by omega) hs)
        clear he
        go_wp2_with fail
        go_round
        case rel => exact ⟨k + 1, by omega, by go_num, HU'⟩
        case measure => simp [intOf]; omega
    · have HE := Lib.hid (show decide (y ∈ l) = false from decide_eq_false fun q => by
        obtain ⟨j, hj, e⟩ := List.getElem_of_mem q
        exact HU.out j _ (by omega) (List.getElem?_eq_getElem hj) e)
      have hge : ¬ (k : Int) < l.length := by omega
      go_wp2_with fail
      go_ret
      exact ⟨by rw [HE.out]; rfl, rfl⟩
end Go.Proofs.Ytbkklnihgejeoaa.Hp
