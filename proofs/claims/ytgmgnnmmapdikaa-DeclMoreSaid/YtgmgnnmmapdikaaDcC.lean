/-
  CONTRACTS of layer decl: each type of a row becomes another one; a row numbered.
-/
import Derived.Test.YtgmgnnmmapdikaaDcB
namespace Go.Proofs.Ytgmgnnmmapdikaa.Dc
open Go.RowKit Mm Tm Mv Go.Maps Go.ChangeMaps Go.MapKept Go.WideMaps
set_option linter.unusedVariables false
set_option linter.unusedSimpArgs false
theorem Ttype : (Try.prog.info? 50).map (fun i => (i.zero, i.size, i.bytes)) = some (some (.agg #[.int .i64 0, .int .i64 0, .string ByteArray.empty, .slice none 0 0]), 4, 56) := by kernel_rfl
theorem news_new (w : World) (cs : Array Value) (t : TypeId) : ∀ j u, cs.toList[j]? = some u → (w.alloc (.cells cs t)).cell? ((⟨w.heap.size, 0, none⟩ : Addr).add j) = some u := by
  intro j u hj
  have e : ((⟨w.heap.size, 0, none⟩ : Addr).add j) = ⟨w.heap.size, j, none⟩ := by
    simp [Addr.add]
    try (intro e; omega)
  rw [e, (Box.new w cs t).cell j]
  simpa using hj
/-- what a function value does with one type -/
def BecomePost (G : Ty → Ty) (x : Ty) (w : World) (e : Ending) (w' : World) : Prop := ∃ a c, e = .returned (tyV (G x) a c) ∧ RdT (fun b => w.heap.size ≤ b ∧ TyB TT w' b) w' a (G x).args 0 ∧ Below w.heap.size w w'
def EachPost (G : Ty → Ty) (l : List Ty) (w : World) (e : Ending) (w' : World) : Prop := ∃ a c, e = .returned (.slice a l.length c) ∧ OwnT w.heap.size TT w' (.slice a l.length c) (l.map G) ∧ Below w.heap.size w w'
theorem TyAt.below {Z : Nat → Prop} {B : Nat} {w w' : World} {a : Option Addr} {k : Nat} {x : Ty} (h : TyAt Z w a k x) (hb : Below B w w') (hz : ∀ b, Z b → b < B) : TyAt Z w' a k x := by
  obtain ⟨ad, a2, c2, h1, h2, h3, h4, h5, h6, h7, h8, h9⟩ := h
  have q : (ad.add (k * 4)).block < B := by rw [add_block]; exact hz _ h2
  exact ⟨ad, a2, c2, h1, h2, by rw [hb.cell q]; exact h3, by rw [hb.cell (p := ⟨_, _, none⟩) q]; exact h4, by rw [hb.cell (p := ⟨_, _, none⟩) q]; exact h5, by rw [hb.cell (p := ⟨_, _, none⟩) q]; exact h6, h7, h8, h9.below hb hz⟩
theorem own_blk {a : Option Addr} {n m c d : Nat} : (Value.slice a n c).ownBlock = (Value.slice a m d).ownBlock := by cases a <;> rfl
theorem ret_slice {a : Option Addr} {k n c : Nat} (h : k = n) : Ending.returned (.slice a k c) = .returned (.slice a n c) := by rw [h]
theorem each_more {w wr w3 w7 : World} {B k : Nat} {l : List Ty} {x : Ty} {vs : List Value} {a5 a3 : Option Addr} {c5 c3 : Nat} {v7 : Value} {o o' : Obj} (hlk : l.length = k)
    (h1 : wr.ownsRow B TT 4 (.slice a5 l.length c5) l.length vs) (h2 : RowT (fun b => B ≤ b ∧ TyB TT wr b ∧ (Value.slice a5 l.length c5).ownBlock ≠ some b) wr vs l) (hB : B ≤ wr.heap.size)
    (h3 : RdT (fun b => (wr.alloc o).heap.size ≤ b ∧ TyB TT w3 b) w3 a3 x.args 0) (hba : Below B w (wr.alloc o)) (hb3 : Below (wr.alloc o).heap.size (wr.alloc o) w3)
    (hx : x.nm.size ≤ 9223372036854775807 ∧ x.args.len * 56 ≤ 140737488355328)
    (hown : w7.ownsRow B TT 4 v7 (k + 1) (vs ++ [.int .i64 x.kd, .int .i64 x.n, .string x.nm, .slice a3 x.args.len c3])) (hg : (w3.alloc o').grownBy w7 (Value.slice a5 k c5).ownBlock) (hat : v7.ownBlock = (Value.slice a5 k c5).ownBlock ∨ v7.ownBlock = some (w3.heap.size + 1)) :
    OwnT B TT w7 v7 (l ++ [x]) := by
  subst hlk
  have hsz : (wr.alloc o).heap.size = wr.heap.size + 1 := by simp
  have hsz3 := hb3.size
  rw [hsz] at hsz3
  have hbr : Below wr.heap.size wr w3 := ((Below.refl wr.heap.size wr).alloc (Nat.le_refl _) o).trans (hb3.mono (by omega))
  refine OwnT.more (v := .slice a5 l.length c5) ((h2.below hbr fun b hZ => hZ.2.1.lt).mono fun b hZ => ⟨hZ.1, hZ.2.1.below hbr, hZ.2.2⟩) (by omega) hx.1 hx.2 (h3.mono fun b hZ => ⟨by omega, hZ.2, fun e => ?_⟩) hown hg (by rwa [World.size_alloc])
  have := (h1.lt b e).2
  omega
set_option maxRecDepth 100000 in
set_option maxHeartbeats 4000000 in
theorem each_num_any {pb : Nat} {G : Ty → Ty} {a : Option Addr} {c : Nat} {l : List Ty} (w : World) (hr : RdT (· < w.heap.size) w a (Tys.ofL l) 0) (hl : l.length * 56 ≤ 140737488355328)
    (hG : ∀ x ∈ l, (G x).nm.size ≤ 9223372036854775807 ∧ (G x).args.len * 56 ≤ 140737488355328)
    (hC : ∀ x ∈ l, ∀ a2 c2 w', Below w.heap.size w w' → RdT (· < w.heap.size) w' a2 x.args 0 → x.nm.size ≤ 9223372036854775807 → x.args.len * 56 ≤ 140737488355328 → Calls Try.prog 28 #[tyV x a2 c2, .pointer (some ⟨pb, 0, none⟩)] w' (BecomePost G x w')) :
    Calls Try.prog 27 #[.slice a l.length c, .func (.func 28) #[] #[.pointer (some ⟨pb, 0, none⟩)]] w (EachPost G l w) := by
  obtain ⟨i0, hi0, hi1, hi2, hi3⟩ := info_parts Ttype
  have HR := Lib.hid hr
  have HG := Lib.hid hG
  have HC := Lib.hid hC
  clear hr hG hC
  go_enter Try.func27, Try.ntmps27
  go_wp2_with fail
  go_loopg [5, 10] l.length (fun d v5 v wr => ∃ k : Nat, k + d = l.length ∧ v = .int .i64 k ∧ OwnT w.heap.size TT wr v5 ((l.take k).map G) ∧ Below w.heap.size w wr)
  case atStart => exact ⟨0, by omega, rfl, OwnT.nil _ _ _, Below.refl _ _⟩
  case round =>
    obtain ⟨k, hk, rfl, ho, hb⟩ := hrel
    obtain ⟨vs, ho1, ho2⟩ := ho
    obtain ⟨a5, c5, rfl⟩ := own_slice ho1
    have HTL := Lib.hid (show k ≤ l.length → ((l.take k).map G).length = k by intro q; rw [List.length_map, List.length_take]; omega)
    have HK := Lib.hid hk
    have HO1 := Lib.hid ho1
    have HO2 := Lib.hid ho2
    have HB := Lib.hid hb
    have hkle : k ≤ l.length := by omega
    have hzB := hb.size
    clear hk ho1 ho2 hb
    by_cases hlt : k < l.length
    · have hlt' : (k : Int) < l.length := by omega
      have hx := TyAt.below (HR.out.at_ k l[k] (by rw [Tys.toL_ofL]; exact List.getElem?_eq_getElem hlt)) HB.out (fun b h => h)
      have HT := Lib.hid (show (l.take (k + 1)).map G = (l.take k).map G ++ [G l[k]] by rw [List.take_add_one, List.getElem?_eq_getElem hlt, List.map_append]; rfl)
      have HM := Lib.hid (List.getElem_mem hlt)
      generalize l[k] = x at hx HT HM
      rw [Nat.zero_add] at hx
      obtain ⟨ad, a2, c2, rfl, hz, x0, x1, x2, x3, hs, ha, hrd⟩ := hx
      have HRD := Lib.hid hrd
      have HGX := Lib.hid (HG.out x HM.out)
      have HBA := Lib.hid (HB.out.alloc hzB (.cells #[.int .i64 x.kd, .int .i64 x.n, .string x.nm, .slice a2 x.args.len c2] TT))
      have HCX := Lib.hid (HC.out x HM.out a2 c2 _ HBA.out (HRD.out.below ((Below.refl wr.heap.size wr).alloc (Nat.le_refl _) _) (fun b hb => by omega)) hs ha)
      have ho1a := Lib.hid (HO1.out.alloc (.cells #[.int .i64 x.kd, .int .i64 x.n, .string x.nm, .slice a2 x.args.len c2] TT))
      clear hrd
      go_wp2_with fail
      refine HCX.out.mono ?_
      rintro e w3 ⟨a3, c3, rfl, hrd3, hb3⟩
      have HRD3 := Lib.hid hrd3
      have HB3 := Lib.hid hb3
      have HO3 := Lib.hid (own_here ho1a.out hb3)
      have HZ3 := Lib.hid (show wr.heap.size + 1 ≤ w3.heap.size by have := hb3.size; simp at this; omega)
      have HBW3 := Lib.hid (HBA.out.trans (hb3.mono (by simp; omega)))
      clear hrd3 hb3
      have HHH := HTL.out hkle
      rw [HHH] at HO3
      clear HHH
      go_wp2_with (at_builtin; refine wpList_append_own_at _ rfl _ _ 39 rfl w.heap.size TT i0 _ 4 56 Try.underlying39 hi0 hi1 hi2 hi3 rfl (by decide) _ _ _ rfl (HO3.out.alloc _) ⟨w3.heap.size, 0, none⟩ 1 1 [.int .i64 (G x).kd, .int .i64 (G x).n, .string (G x).nm, .slice a3 (G x).args.len c3] rfl rfl (news_new w3 #[.int .i64 (G x).kd, .int .i64 (G x).n, .string (G x).nm, .slice a3 (G x).args.len c3] TT) (fun u hu => by simp only [List.mem_cons, List.not_mem_nil, or_false] at hu; rcases hu with rfl | rfl | rfl | rfl <;> rfl) (by unfold maxLen; omega) (by omega) (by have := HBW3.out.size; simp; omega) ?_)
      intro v7 w7 hown hgrow _ hat
      have HO7 := Lib.hid (each_more (x := G x) (l := (l.take k).map G) (by have := HTL.out hkle; rw [this]) HO1.out HO2.out (hzB) HRD3.out HBA.out HB3.out HGX.out hown hgrow hat)
      have HB7 := Lib.hid ((HBW3.out.alloc (by have := HBW3.out.size; omega) (.cells #[.int .i64 (G x).kd, .int .i64 (G x).n, .string (G x).nm, .slice a3 (G x).args.len c3] TT)).grown hgrow (by have := HBW3.out.size; simp; omega) (fun q hq => (HO1.out.lt q (own_blk.trans hq)).1))
      obtain ⟨a7, c7, rfl⟩ := own_slice hown
      clear hown hgrow hat
      go_wp2_with fail
      go_roundg (l.length - (k + 1))
      case measure => have := HK.out; omega
      case rel => exact ⟨k + 1, by have := HK.out; omega, by go_num, by rw [HT.out]; exact HO7.out, HB7.out⟩
    · have hge : ¬ (k : Int) < l.length := by omega
      have hkn : k = l.length := by omega
      have HE := Lib.hid (show OwnT w.heap.size TT wr (.slice a5 ((l.take k).map G).length c5) (l.map G) from ⟨vs, by have := HO1.out; rw [hkn, List.take_length] at this ⊢; exact this, by have := HO2.out; rw [hkn, List.take_length] at this ⊢; exact this⟩)
      have HTLk := Lib.hid (show ((l.take k).map G).length = l.length by rw [HTL.out hkle, hkn])
      have HKN := Lib.hid hkn
      clear hkn
      go_wp2_with fail
      go_ret
      exact ⟨a5, c5, ret_slice HKN.out, by have := HE.out; rwa [HTLk.out] at this, HB.out⟩
set_option maxRecDepth 100000 in
set_option maxHeartbeats 4000000 in
theorem each_again_any {G : Ty → Ty} {a : Option Addr} {c : Nat} {l : List Ty} (w : World) (hr : RdT (· < w.heap.size) w a (Tys.ofL l) 0) (hl : l.length * 56 ≤ 140737488355328)
    (hG : ∀ x ∈ l, (G x).nm.size ≤ 9223372036854775807 ∧ (G x).args.len * 56 ≤ 140737488355328)
    (hC : ∀ x ∈ l, ∀ a2 c2 w', Below w.heap.size w w' → RdT (· < w.heap.size) w' a2 x.args 0 → x.nm.size ≤ 9223372036854775807 → x.args.len * 56 ≤ 140737488355328 → Calls Try.prog 29 #[tyV x a2 c2] w' (BecomePost G x w')) :
    Calls Try.prog 27 #[.slice a l.length c, .func (.func 29) #[] #[]] w (EachPost G l w) := by
  obtain ⟨i0, hi0, hi1, hi2, hi3⟩ := info_parts Ttype
  have HR := Lib.hid hr
  have HG := Lib.hid hG
  have HC := Lib.hid hC
  clear hr hG hC
  go_enter Try.func27, Try.ntmps27
  go_wp2_with fail
  go_loopg [5, 10] l.length (fun d v5 v wr => ∃ k : Nat, k + d = l.length ∧ v = .int .i64 k ∧ OwnT w.heap.size TT wr v5 ((l.take k).map G) ∧ Below w.heap.size w wr)
  case atStart => exact ⟨0, by omega, rfl, OwnT.nil _ _ _, Below.refl _ _⟩
  case round =>
    obtain ⟨k, hk, rfl, ho, hb⟩ := hrel
    obtain ⟨vs, ho1, ho2⟩ := ho
    obtain ⟨a5, c5, rfl⟩ := own_slice ho1
    have HTL := Lib.hid (show k ≤ l.length → ((l.take k).map G).length = k by intro q; rw [List.length_map, List.length_take]; omega)
    have HK := Lib.hid hk
    have HO1 := Lib.hid ho1
    have HO2 := Lib.hid ho2
    have HB := Lib.hid hb
    have hkle : k ≤ l.length := by omega
    have hzB := hb.size
    clear hk ho1 ho2 hb
    by_cases hlt : k < l.length
    · have hlt' : (k : Int) < l.length := by omega
      have hx := TyAt.below (HR.out.at_ k l[k] (by rw [Tys.toL_ofL]; exact List.getElem?_eq_getElem hlt)) HB.out (fun b h => h)
      have HT := Lib.hid (show (l.take (k + 1)).map G = (l.take k).map G ++ [G l[k]] by rw [List.take_add_one, List.getElem?_eq_getElem hlt, List.map_append]; rfl)
      have HM := Lib.hid (List.getElem_mem hlt)
      generalize l[k] = x at hx HT HM
      rw [Nat.zero_add] at hx
      obtain ⟨ad, a2, c2, rfl, hz, x0, x1, x2, x3, hs, ha, hrd⟩ := hx
      have HRD := Lib.hid hrd
      have HGX := Lib.hid (HG.out x HM.out)
      have HBA := Lib.hid (HB.out.alloc hzB (.cells #[.int .i64 x.kd, .int .i64 x.n, .string x.nm, .slice a2 x.args.len c2] TT))
      have HCX := Lib.hid (HC.out x HM.out a2 c2 _ HBA.out (HRD.out.below ((Below.refl wr.heap.size wr).alloc (Nat.le_refl _) _) (fun b hb => by omega)) hs ha)
      have ho1a := Lib.hid (HO1.out.alloc (.cells #[.int .i64 x.kd, .int .i64 x.n, .string x.nm, .slice a2 x.args.len c2] TT))
      clear hrd
      go_wp2_with fail
      refine HCX.out.mono ?_
      rintro e w3 ⟨a3, c3, rfl, hrd3, hb3⟩
      have HRD3 := Lib.hid hrd3
      have HB3 := Lib.hid hb3
      have HO3 := Lib.hid (own_here ho1a.out hb3)
      have HZ3 := Lib.hid (show wr.heap.size + 1 ≤ w3.heap.size by have := hb3.size; simp at this; omega)
      have HBW3 := Lib.hid (HBA.out.trans (hb3.mono (by simp; omega)))
      clear hrd3 hb3
      have HHH := HTL.out hkle
      rw [HHH] at HO3
      clear HHH
      go_wp2_with (at_builtin; refine wpList_append_own_at _ rfl _ _ 39 rfl w.heap.size TT i0 _ 4 56 Try.underlying39 hi0 hi1 hi2 hi3 rfl (by decide) _ _ _ rfl (HO3.out.alloc _) ⟨w3.heap.size, 0, none⟩ 1 1 [.int .i64 (G x).kd, .int .i64 (G x).n, .string (G x).nm, .slice a3 (G x).args.len c3] rfl rfl (news_new w3 #[.int .i64 (G x).kd, .int .i64 (G x).n, .string (G x).nm, .slice a3 (G x).args.len c3] TT) (fun u hu => by simp only [List.mem_cons, List.not_mem_nil, or_false] at hu; rcases hu with rfl | rfl | rfl | rfl <;> rfl) (by unfold maxLen; omega) (by omega) (by have := HBW3.out.size; simp; omega) ?_)
      intro v7 w7 hown hgrow _ hat
      have HO7 := Lib.hid (each_more (x := G x) (l := (l.take k).map G) (by have := HTL.out hkle; rw [this]) HO1.out HO2.out (hzB) HRD3.out HBA.out HB3.out HGX.out hown hgrow hat)
      have HB7 := Lib.hid ((HBW3.out.alloc (by have := HBW3.out.size; omega) (.cells #[.int .i64 (G x).kd, .int .i64 (G x).n, .string (G x).nm, .slice a3 (G x).args.len c3] TT)).grown hgrow (by have := HBW3.out.size; simp; omega) (fun q hq => (HO1.out.lt q (own_blk.trans hq)).1))
      obtain ⟨a7, c7, rfl⟩ := own_slice hown
      clear hown hgrow hat
      go_wp2_with fail
      go_roundg (l.length - (k + 1))
      case measure => have := HK.out; omega
      case rel => exact ⟨k + 1, by have := HK.out; omega, by go_num, by rw [HT.out]; exact HO7.out, HB7.out⟩
    · have hge : ¬ (k : Int) < l.length := by omega
      have hkn : k = l.length := by omega
      have HE := Lib.hid (show OwnT w.heap.size TT wr (.slice a5 ((l.take k).map G).length c5) (l.map G) from ⟨vs, by have := HO1.out; rw [hkn, List.take_length] at this ⊢; exact this, by have := HO2.out; rw [hkn, List.take_length] at this ⊢; exact this⟩)
      have HTLk := Lib.hid (show ((l.take k).map G).length = l.length by rw [HTL.out hkle, hkn])
      have HKN := Lib.hid hkn
      clear hkn
      go_wp2_with fail
      go_ret
      exact ⟨a5, c5, ret_slice HKN.out, by have := HE.out; rwa [HTLk.out] at this, HB.out⟩
theorem numX_fits {F : FM} {x : Ty} (h1 : x.nm.size ≤ 9223372036854775807) (h2 : x.args.len * 56 ≤ 140737488355328) : (numX F x).nm.size ≤ 9223372036854775807 ∧ (numX F x).args.len * 56 ≤ 140737488355328 := by
  unfold numX
  split
  · exact ⟨by simp, by simp [Tys.len]⟩
  · split
    · exact ⟨h1, by show (numK F x.args).len * 56 ≤ _; rw [numK_len]; exact h2⟩
    · exact ⟨by simp, by show (numK F x.args).len * 56 ≤ _; rw [numK_len]; exact h2⟩
theorem fits_of {Z : Nat → Prop} {w : World} {a : Option Addr} {l : List Ty} (h : RdT Z w a (Tys.ofL l) 0) : ∀ x ∈ l, x.nm.size ≤ 9223372036854775807 ∧ x.args.len * 56 ≤ 140737488355328 := by
  intro x hx
  obtain ⟨i, hi⟩ := List.getElem?_of_mem hx
  obtain ⟨_, _, _, _, _, _, _, _, _, h7, h8, _⟩ := h.at_ i x (by rw [Tys.toL_ofL]; exact hi)
  exact ⟨h7, h8⟩
end Go.Proofs.Ytgmgnnmmapdikaa.Dc
