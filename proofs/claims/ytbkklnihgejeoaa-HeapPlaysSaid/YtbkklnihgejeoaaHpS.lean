/-
  CONTRACTS of layer heap: the laws' reached.
-/
import Derived.Test.YtbkklnihgejeoaaHpQ
import Derived.Test.YtbkklnihgejeoaaHpR
namespace Go.Proofs.Ytbkklnihgejeoaa.Hp
open Go.RowKit Mm Tm Ha
set_option linter.unusedVariables false
set_option linter.unusedSimpArgs false
/-- a row of numbers that is read, its block known -/
def RowG (w : World) (v : Value) (g : Nat) (l : List Int) : Prop := (∃ c, v = .slice (some ⟨g, 0, none⟩) l.length c) ∧ g < w.heap.size ∧ ∀ (i : Nat) x, l[i]? = some x → w.cell? ⟨g, i, none⟩ = some (.int .i64 x)
/-- a row of numbers: with nothing in it, or read -/
def RowN (w : World) (v : Value) (own : Option Nat) (l : List Int) : Prop := ∃ a c, v = .slice a l.length c ∧ ∀ (i : Nat) x, l[i]? = some x → ∃ g, a = some ⟨g, 0, none⟩ ∧ g < w.heap.size ∧ own ≠ some g ∧ w.cell? ⟨g, i, none⟩ = some (.int .i64 x)
theorem RowN.grown {w w' : World} {v : Value} {own own' : Option Nat} {l : List Int} (h : RowN w v own l) (hg : w.grownBy w' own) (ho : own' = own ∨ own' = some w.heap.size) : RowN w' v own' l := by
  obtain ⟨a, c, rfl, hr⟩ := h
  refine ⟨a, c, rfl, fun i x hx => ?_⟩
  obtain ⟨g, rfl, h1, h2, h3⟩ := hr i x hx
  refine ⟨g, rfl, Nat.lt_of_lt_of_le h1 hg.size, fun e => ?_, ?_⟩
  · rcases ho with q | q
    · exact h2 (q.symm.trans e)
    · rw [q] at e
      injection e with e
      omega
  · exact (World.cell?_of_block (hg.block g h1 (fun e => h2 e.symm))).trans h3
theorem RowN.drewN {w : World} {v : Value} {own : Option Nat} {l : List Int} (h : RowN w v own l) (k : Nat) : RowN (w.drewN k) v own l := h
theorem RowN.below {w w' : World} {v : Value} {own : Option Nat} {l : List Int} (h : RowN w v own l) (hb : Below w.heap.size w w') : RowN w' v own l := by
  obtain ⟨a, c, rfl, hr⟩ := h
  refine ⟨a, c, rfl, fun i x hx => ?_⟩
  obtain ⟨g, rfl, h1, h2, h3⟩ := hr i x hx
  exact ⟨g, rfl, Nat.lt_of_lt_of_le h1 hb.size, h2, (hb.cell (p := ⟨g, i, none⟩) h1).trans h3⟩
/-- while cells are looked into -/
structure RoO (w : World) (S : Hs) (root : Int) (d : Nat) (v i : Value) (wr : World) : Prop where
  mem : ∃ (k : Nat) (out : List Int), k + d = S.live ∧ i = .int .i64 k ∧ k ≤ out.length ∧ RoI S [root] k out ∧ OwnI w.heap.size TI wr v out
  below : Below w.heap.size w wr
/-- while a cell's pointers are looked at -/
structure RoN (w : World) (S : Hs) (root : Int) (m : Nat) (i : Nat) (nb : Nat) (va : Value) (d : Nat) (v kv : Value) (wz : World) : Prop where
  mem : ∃ (k : Nat) (out : List Int), k + d = (S.nd m).l.length ∧ kv = .int .i64 k ∧ RoI S [root] i out ∧ out[i]? = some (m : Int) ∧ (∀ j y, j < k → (S.nd m).l[j]? = some y → y ∈ out) ∧ OwnI w.heap.size TI wz v out
  row : RowN wz va v.ownBlock (S.nd m).l
  box : Box wz nb TN #[.int .i64 (S.nd m).tag, .int .i64 (S.nd m).n, va]
  below : Below w.heap.size w wz
def RoP (S : Hs) (root : Int) (w : World) (e : Ending) (w' : World) : Prop := ∃ v out, e = .returned v ∧ OwnI w.heap.size TI w' v out ∧ out.Nodup ∧ (∀ x, x ∈ out ↔ Rch S [root] x) ∧ Below w.heap.size w w'
set_option maxRecDepth 100000 in
set_option maxHeartbeats 16000000 in
theorem reached_any {B : Nat} {X : Nat → Prop} {h c : Nat} {S : Hs} {root : Nat} (w : World) (hm : HpI B X w h S) (hp : Pl c 400 S) (hh : S.held root = true) :
    Calls Try.prog 21 #[.pointer (some ⟨h, 0, none⟩), .int .i64 root] w (RoP S root w) := by
  have HM := Lib.hid hm
  have HG := Lib.hid hp.good
  have HH := Lib.hid (show ∀ x ∈ [(root : Int)], S.held x = true from fun x hx => by rw [List.mem_singleton.1 hx]; exact hh)
  have hlive : S.live ≤ 400 := Nat.le_trans hp.liv hp.allocs
  have HLEN := Lib.hid hp.lens
  obtain ⟨i0, hinf, hz0, hz1, hz2'⟩ := info_parts infoI
  obtain ⟨W0, hW0⟩ : ∃ W0, w.alloc (.cells #[.int .i64 root] TI) = W0 := ⟨_, rfl⟩
  have hb0 : Below w.heap.size w W0 := by rw [← hW0]; exact (Below.refl w.heap.size w).alloc (Nat.le_refl _) _
  have ho0 : OwnI w.heap.size TI W0 (.slice (some ⟨w.heap.size, 0, none⟩) 1 1) [(root : Int)] := by
    rw [← hW0]
    exact ⟨rfl, .inr ⟨w.heap.size, 1, #[.int .i64 root], rfl, Nat.le_refl _, heap_alloc_new w _, Nat.le_refl _, by decide, rfl, rfl⟩⟩
  have hR0 : RoI S [(root : Int)] 0 [(root : Int)] := ⟨by simp, fun x hx => hx, fun x hx => .root hx, fun j x hj => by omega⟩
  have h1 := hR0.le HG.out HH.out
  have HO := Lib.hid (show RoO w S root S.live (.slice (some ⟨w.heap.size, 0, none⟩) 1 1) (.int .i64 0) W0 from ⟨⟨0, _, by omega, rfl, by simp, hR0, ho0⟩, hb0⟩)
  clear hm hp hh hb0 ho0 hR0 h1
  go_enter Try.func21, Try.ntmps21
  go_wp2_with fail
  clear hW0
  go_loopg [5, 6] S.live (fun d v i wr => RoO w S root d v i wr)
  case atStart => exact HO.out
  case round =>
    obtain ⟨⟨k, out, hd, rfl, hko, hR, hown⟩, hb⟩ := hrel
    obtain ⟨va, vc, rfl⟩ := hown.slice
    have HD := Lib.hid hd
    have HR := Lib.hid hR
    have HOW := Lib.hid hown
    have HB := Lib.hid hb
    have holen := hR.le HG.out HH.out
    by_cases hlt : k < out.length
    case neg =>
      obtain rfl : k = out.length := by omega
      clear hd hR hown hb
      go_wp2_with fail
      go_ret
      exact ⟨_, out, rfl, HOW.out, HR.out.nodup, HR.out.end_, HB.out⟩
    have q1 : decide (k < out.length) = true := decide_eq_true hlt
    have q2 : decide ((out.length : Int) < 2000) = true := decide_eq_true (by omega)
    have q3 : decide (out.length < 2000) = true := decide_eq_true (by omega)
    have hx := List.getElem?_eq_getElem hlt
    obtain ⟨gb, rfl, _, hg2, _, hgc⟩ := own_at hown (by omega)
    have hcx := hgc k (by omega)
    rw [List.getElem?_map, hx] at hcx
    have hheld := (hR.reach _ (List.getElem_mem hlt)).held HG.out HH.out
    generalize hxx : out[k] = x at *
    obtain ⟨m, rfl⟩ : ∃ m : Nat, x = m := ⟨x.toNat, by have := (Hs.held_iff.1 hheld).1; omega⟩
    have hcx : wr.cell? ⟨gb, k, none⟩ = some (.int .i64 m) := hcx
    have HX := Lib.hid hx
    have HGT := Lib.hid (get_ok (k := m) wr (HM.out.below hb) hheld)
    have hll := HLEN.out m (Hs.held_iff.1 hheld).2.2
    clear hx hgc hxx hheld hd hR hown hb
    go_wp2_with fail
    with_reducible refine HGT.out.mono ?_
    rintro e w5 ⟨na, nc, rfl, ho5, hb5⟩
    obtain ⟨W6, hW6⟩ : ∃ W6, w5.alloc (.cells #[.int .i64 (S.nd m).tag, .int .i64 (S.nd m).n, .slice na (S.nd m).l.length nc] TN) = W6 := ⟨_, rfl⟩
    have hb6 : Below w5.heap.size w5 W6 := by rw [← hW6]; exact (Below.refl w5.heap.size w5).alloc (Nat.le_refl _) _
    have hx6 : Box W6 w5.heap.size TN #[.int .i64 (S.nd m).tag, .int .i64 (S.nd m).n, .slice na (S.nd m).l.length nc] := by rw [← hW6]; exact Box.new _ _ _
    have hb56 := hb5.trans (hb6.mono hb5.size)
    have HN := Lib.hid (show RoN w S root m k w5.heap.size (.slice na (S.nd m).l.length nc) (S.nd m).l.length (.slice (some ⟨gb, 0, none⟩) out.length vc) (.int .i64 0) W6 from
      ⟨⟨0, out, by omega, rfl, HR.out, HX.out, fun j y hj => by omega, HOW.out.here hb56⟩,
        ⟨na, nc, rfl, fun i y hy => by
          obtain ⟨q, q1, q2⟩ : ∃ q, na = some q ∧ True := by
            have hi : i < (S.nd m).l.length := (List.getElem?_eq_some_iff.1 hy).1
            obtain ⟨g, rfl, _⟩ := own_at ho5 (by omega)
            exact ⟨_, rfl, trivial⟩
          obtain ⟨g, rfl, hg1, hg3, _, hc⟩ := own_at ho5 (by have := (List.getElem?_eq_some_iff.1 hy).1; omega)
          refine ⟨g, rfl, Nat.lt_of_lt_of_le hg3 hb6.size, fun e => ?_, ?_⟩
          · have : gb = g := by simpa [Value.ownBlock] using e
            omega
          · rw [hb6.cell (p := ⟨g, i, none⟩) hg3, hc i (by have := (List.getElem?_eq_some_iff.1 hy).1; omega), List.getElem?_map, hy]
            rfl⟩, hx6, HB.out.trans (hb56.mono HB.out.size)⟩)
    clear ho5 hb5 hb6 hx6 hb56 hcx hg2
    go_wp2_with fail
    clear hW6
    obtain ⟨wq, hwq⟩ : ∃ q, q = wr := ⟨_, rfl⟩
    subst hwq
    go_loopg [5, 9] (S.nd m).l.length (fun d v kv wz => RoN w S root m k w5.heap.size (.slice na (S.nd m).l.length nc) d v kv wz)
    case atStart => exact HN.out
    case round =>
      obtain ⟨⟨j, ou, hd, rfl, hR, hxm, hdn, hown⟩, hrow, hbx, hb⟩ := hrel
      obtain ⟨ua, uc, rfl⟩ := hown.slice
      have HDJ := Lib.hid hd
      have HRJ := Lib.hid hR
      have HXM := Lib.hid hxm
      have HDN := Lib.hid hdn
      have HOU := Lib.hid hown
      have HROW := Lib.hid hrow
      have HBX := Lib.hid hbx
      have HBJ := Lib.hid hb
      have holen2 := hR.le HG.out HH.out
      have hjl : j ≤ (S.nd m).l.length := by omega
      have s2 : wr.cell? ⟨w5.heap.size, 2, none⟩ = some (.slice na (S.nd m).l.length nc) := hbx.cell 2
      have hko2 : k < ou.length := (List.getElem?_eq_some_iff.1 hxm).1
      by_cases hj : j < (S.nd m).l.length
      case neg =>
        have hdall : ∀ y ∈ (S.nd m).l, y ∈ ou := fun y hy => by
          obtain ⟨i, hi, rfl⟩ := List.getElem_of_mem hy
          exact hdn i _ (by omega) (List.getElem?_eq_getElem hi)
        have HE := Lib.hid (show RoO w S root (S.live - (k + 1)) (.slice ua ou.length uc) (.int .i64 ((k : Int) + 1)) wr from ⟨⟨k + 1, ou, by omega, rfl, by omega, hR.next hxm hdall, hown⟩, hb⟩)
        clear hd hR hxm hdn hown hrow hbx hb hdall
        go_wp2_with fail
        go_roundg (S.live - (k + 1))
        case measure => have := HD.out; omega
        case rel => exact HE.out
      obtain ⟨qb, rfl, -⟩ := own_at hown (by omega)
      have hy := List.getElem?_eq_getElem hj
      obtain ⟨na', nc', e', hrr⟩ := hrow
      injection e' with e1 e2 e3
      subst e1 e3
      obtain ⟨g, rfl, hg1, hg2, hcy⟩ := hrr j _ hy
      have hmy := List.getElem_mem hj
      generalize hyy : (S.nd m).l[j] = y at *
      have HY := Lib.hid hy
      have HMY := Lib.hid hmy
      have HU := Lib.hid (show ∀ i z, ou[i]? = some z → wr.cell? ⟨qb, i, none⟩ = some (.int .i64 z) from fun i z hz => by
        have hi := (List.getElem?_eq_some_iff.1 hz).1
        obtain ⟨q, e, _, _, _, hc⟩ := own_at hown (by omega)
        injection e with e
        injection e with e
        subst e
        rw [hc i (by omega), List.getElem?_map, hz]; rfl)
      clear hd hR hxm hdn hown hrr hbx hb hy hmy hyy hg1 hg2
      go_wp2_with fail
      obtain ⟨wp, hwp⟩ : ∃ q, q = wr := ⟨_, rfl⟩
      subst hwp
      go_loopg [10, 11] ou.length (fun d v jv wz => (∃ i : Nat, i + d = ou.length ∧ jv = .int .i64 i ∧ v = .bool (decide (y ∈ ou.take i))) ∧ ∃ q, wz = wp.drewN q)
      case atStart => exact ⟨⟨0, by omega, rfl, by simp⟩, 0, rfl⟩
      case round =>
        obtain ⟨⟨i, hd, rfl, rfl⟩, nq0, rfl⟩ := hrel
        have HDI := Lib.hid hd
        have hil : i ≤ ou.length := by omega
        clear hd
        by_cases hi : i < ou.length
        · obtain ⟨z, hzz⟩ : ∃ z, ou[i]? = some z := ⟨_, List.getElem?_eq_getElem hi⟩
          have hcz := HU.out i z hzz
          have HTK := Lib.hid (show ou.take (i + 1) = ou.take i ++ [z] by rw [List.take_add_one, hzz]; rfl)
          clear hzz
          by_cases hin : y ∈ ou.take i
          · have HE := Lib.hid (show decide (y ∈ ou.take (i + 1)) = true by rw [HTK.out]; simp [hin])
            rw [decide_eq_true hin]
            clear hin
            go_wp2_with fail
            go_quiet (fail)
            go_wp2_with fail
            go_roundg (ou.length - (i + 1))
            case measure => have := HDI.out; omega
            case rel => exact ⟨⟨i + 1, by omega, by go_num, by rw [HE.out]⟩, _, rfl⟩
          · rw [decide_eq_false hin]
            by_cases hzy : z = y
            · have q5 : (z == y) = true := by simpa using hzy
              have HE := Lib.hid (show decide (y ∈ ou.take (i + 1)) = true by rw [HTK.out]; simp [hzy])
              clear hin hzy
              go_wp2_with fail
              go_quiet (fail)
              go_wp2_with fail
              go_roundg (ou.length - (i + 1))
              case measure => have := HDI.out; omega
              case rel => exact ⟨⟨i + 1, by omega, by go_num, by rw [HE.out]⟩, _, rfl⟩
            · have q5 : (z == y) = false := by simpa using hzy
              have HE := Lib.hid (show decide (y ∈ ou.take (i + 1)) = false by
                rw [HTK.out]
                refine decide_eq_false ?_
                rw [List.mem_append, List.mem_singleton]
                rintro (e | e)
                · exact hin e
                · exact hzy e.symm)
              clear hin hzy
              go_wp2_with fail
              go_quiet (fail)
              go_wp2_with fail
              go_roundg (ou.length - (i + 1))
              case measure => have := HDI.out; omega
              case rel => exact ⟨⟨i + 1, by omega, by go_num, by rw [HE.out]⟩, _, rfl⟩
        · have HTK := Lib.hid (show ou.take i = ou from List.take_of_length_le (by omega))
          rw [HTK.out]
          by_cases hin : y ∈ ou
          · rw [decide_eq_true hin]
            have HE := Lib.hid (show ∀ q, RoN w S root m k w5.heap.size (.slice (some ⟨g, 0, none⟩) (S.nd m).l.length nc) ((S.nd m).l.length - (j + 1)) (.slice (some ⟨qb, 0, none⟩) ou.length uc) (.int .i64 ((j : Int) + 1)) (wp.drewN q) from fun q =>
              ⟨⟨j + 1, ou, by omega, rfl, HRJ.out, HXM.out, fun i' z hi' hz => by
                by_cases e : i' = j
                · subst e
                  rw [HY.out] at hz
                  injection hz with hz
                  rw [← hz]; exact hin
                · exact HDN.out i' z (by omega) hz, own_drewN HOU.out q⟩, HROW.out.drewN q, HBX.out.drewN q, below_drewN HBJ.out q⟩)
            clear hin
            go_wp2_with fail
            go_roundg ((S.nd m).l.length - (j + 1))
            case measure => have := HDJ.out; omega
            case rel => exact HE.out _
          · rw [decide_eq_false hin]
            have HNI := Lib.hid hin
            clear hin
            have HO1 := Lib.hid (World.ownsRow.alloc (own_drewN HOU.out nq0) (.cells #[.int .i64 y] TI))
            have HNW := Lib.hid (show ∀ j u, [Value.int .i64 y][j]? = some u → ((wp.drewN nq0).alloc (.cells #[.int .i64 y] TI)).cell? ((⟨wp.heap.size, 0, none⟩ : Addr).add j) = some u from news_new (wp.drewN nq0) #[.int .i64 y] TI)
            have HRW := Lib.hid ((HROW.out.drewN nq0).below ((Below.refl _ (wp.drewN nq0)).alloc (Nat.le_refl _) (.cells #[.int .i64 y] TI)))
            have HBX1 := Lib.hid ((HBX.out.drewN nq0).alloc (.cells #[.int .i64 y] TI))
            have HBJ1 := Lib.hid ((below_drewN HBJ.out nq0).alloc (Nat.le_trans HBJ.out.size (Nat.le_refl _)) (.cells #[.int .i64 y] TI))
            have hsz : w.heap.size ≤ wp.heap.size := HBJ.out.size
            go_wp2_with (at_builtin; refine wpList_append_own_at _ rfl _ _ 35 rfl w.heap.size 3 i0 _ 1 8 Try.underlying35 hinf hz0 hz1 hz2' rfl (by decide) (.slice (some ⟨qb, 0, none⟩) ou.length uc) ou.length (ou.map fun x => .int .i64 x) rfl HO1.out ⟨wp.heap.size, 0, none⟩ 1 1 [.int .i64 y] rfl rfl HNW.out (by intro u hu; simp only [List.mem_cons, List.not_mem_nil, or_false] at hu; subst hu; rfl) (by unfold maxLen; omega) (by omega) (by simp; omega) ?_)
            intro v' w7 hown' hgrow _ hat
            have hsz1 : ((wp.drewN nq0).alloc (.cells #[.int .i64 y] TI)).heap.size = wp.heap.size + 1 := by simp
            have HE := Lib.hid (show RoN w S root m k w5.heap.size (.slice (some ⟨g, 0, none⟩) (S.nd m).l.length nc) ((S.nd m).l.length - (j + 1)) v' (.int .i64 ((j : Int) + 1)) w7 from
              ⟨⟨j + 1, ou ++ [y], by omega, rfl, HRJ.out.push HXM.out HMY.out HNI.out, by rw [List.getElem?_append_left hko2]; exact HXM.out, fun i' z hi' hz => by
                by_cases e : i' = j
                · subst e
                  rw [HY.out] at hz
                  injection hz with hz
                  rw [← hz]; simp
                · simp [HDN.out i' z (by omega) hz], by
                unfold OwnI
                rw [List.length_append, List.map_append]
                exact hown'⟩,
                HRW.out.grown hgrow (by rw [hsz1]; exact hat), HBX1.out.grown hgrow (own_ne HO1.out HBX1.out (by decide)), HBJ1.out.grown hgrow (by rw [hsz1]; omega) (fun q hq => (HO1.out.lt q hq).1)⟩)
            clear hown' hgrow hat hsz1
            go_wp2_with fail
            go_roundg ((S.nd m).l.length - (j + 1))
            case measure => have := HDJ.out; omega
            case rel => exact HE.out
end Go.Proofs.Ytbkklnihgejeoaa.Hp
