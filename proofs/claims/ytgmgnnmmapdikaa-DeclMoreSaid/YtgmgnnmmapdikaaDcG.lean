/-
  CONTRACT of layer decl: a row of constructors by their names, in new memory.
-/
import Derived.Test.YtgmgnnmmapdikaaDcF
namespace Go.Proofs.Ytgmgnnmmapdikaa.Dc
open Go.RowKit Mm Tm Mv Go.Maps Go.ChangeMaps Go.MapKept Go.WideMaps
set_option linter.unusedVariables false
set_option linter.unusedSimpArgs false
theorem Tcon : (Try.prog.info? 41).map (fun i => (i.zero, i.size, i.bytes)) = some (some zeroConV, 5, 72) := by kernel_rfl
theorem tc_ne : TC ≠ TT := by decide
/-- what is known of a constructor in a map -/
def ConIs (Z : Nat → Prop) (w : World) (F2 : FM) (x : ConS) : Prop := ∃ a c, F2 x.name.data.toList = some (conV x a c) ∧ RdT Z w a (Tys.ofL x.fields) 0 ∧ x.fields.length * 56 ≤ 140737488355328 ∧ x.name.size ≤ 9223372036854775807
theorem ConIs.frame {Z Z' : Nat → Prop} {w w' : World} {F2 : FM} {x : ConS} (h : ConIs Z w F2 x) (ha : ∀ ad : Addr, Z ad.block → w'.cell? ad = w.cell? ad) (hz : ∀ b, Z b → Z' b) : ConIs Z' w' F2 x := by
  obtain ⟨a, c, h1, h2, h3⟩ := h
  exact ⟨a, c, h1, h2.frame (fun b o hZ => ha ⟨b, o, none⟩ hZ) ha hz, h3⟩
def EachCPost (l : List ConS) (w : World) (e : Ending) (w' : World) : Prop := ∃ a c, e = .returned (.slice a l.length c) ∧ OwnC w.heap.size TC TT w' (.slice a l.length c) l ∧ Below w.heap.size w w'
set_option maxRecDepth 100000 in
set_option maxHeartbeats 4000000 in
theorem cons_any {tb m2 n2 : Nat} {F2 : FM} {a : Option Addr} {c : Nat} {l : List ConS} (w : World) (ht : w.cell? ⟨tb, 1, none⟩ = some (.map (some m2))) (hm : MapIs w Try.prog TS m2 n2 F2) (hl : l.length ≤ 1000000000)
    (hn : RdS (· < w.heap.size) w a (l.map ConS.name)) (hc : ∀ x ∈ l, ConIs (· < w.heap.size) w F2 x) :
    Calls Try.prog 21 #[.slice a l.length c, .func (.func 22) #[.pointer (some ⟨tb, 0, none⟩)] #[]] w (EachCPost l w) := by
  obtain ⟨i0, hi0, hi1, hi2, hi3⟩ := info_parts Tcon
  have htb := World.block_lt_of_cell? _ _ ht
  have HT0 := Lib.hid ht
  have HM0 := Lib.hid hm
  have HN := Lib.hid hn
  have HC := Lib.hid hc
  clear ht hm hn hc
  go_enter Try.func21, Try.ntmps21
  go_wp2_with fail
  go_loopg [5, 10] l.length (fun d v5 v wr => ∃ k : Nat, k + d = l.length ∧ v = .int .i64 k ∧ OwnC w.heap.size TC TT wr v5 (l.take k) ∧ Below w.heap.size w wr)
  case atStart => exact ⟨0, by omega, rfl, OwnC.nil _ _ _ _, Below.refl _ _⟩
  case round =>
    obtain ⟨k, hk, rfl, ho, hb⟩ := hrel
    obtain ⟨vs, ho1, ho2⟩ := ho
    obtain ⟨a5, c5, rfl⟩ := own_slice ho1
    have HTL := Lib.hid (show k ≤ l.length → (l.take k).length = k by intro q; rw [List.length_take]; omega)
    have HK := Lib.hid hk
    have HO1 := Lib.hid ho1
    have HO2 := Lib.hid ho2
    have HB := Lib.hid hb
    have hkle : k ≤ l.length := by omega
    have hzB := hb.size
    clear hk ho1 ho2 hb
    by_cases hlt : k < l.length
    · have hlt' : (k : Int) < l.length := by omega
      obtain ⟨ad, rfl, hz, x0, hs⟩ := HN.out k l[k].name (by rw [List.getElem?_map, List.getElem?_eq_getElem hlt]; rfl)
      replace x0 : wr.cell? (ad.add k) = some (.string l[k].name) := by rw [HB.out.cell (by rw [add_block]; exact hz)]; exact x0
      obtain ⟨a2, c2, hF, hrd, hfl, hsz⟩ := HC.out l[k] (List.getElem_mem hlt)
      have HT := Lib.hid (show l.take (k + 1) = l.take k ++ [l[k]] by rw [List.take_add_one, List.getElem?_eq_getElem hlt]; rfl)
      generalize l[k] = x at x0 hs hF hrd hfl hsz HT
      have HKN := Lib.hid (dknown_any (s := x.name) (x := x) (a := a2) (c := c2) wr ((HB.out.cell (p := ⟨tb, 1, none⟩) htb).trans HT0.out) (HM0.out.below HB.out HM0.out.lt) hs (by rw [hF]; rfl) ((hrd.below HB.out fun b h => h).mono fun b h => by omega) hfl)
      have HFL := Lib.hid (show x.name.size ≤ 9223372036854775807 ∧ x.fields.length * 56 ≤ 140737488355328 from ⟨hs, hfl⟩)
      clear hF hrd hfl hsz
      go_wp2_with fail
      refine HKN.out.mono ?_
      rintro e w3 ⟨a3, c3, rfl, hrd3, hb3⟩
      have HRD3 := Lib.hid hrd3
      have HB3 := Lib.hid hb3
      have HO3 := Lib.hid (own_here HO1.out hb3)
      have HBW3 := Lib.hid (HB.out.trans (hb3.mono hzB))
      have hz3 := hb3.size
      clear hrd3 hb3
      have HHH := HTL.out hkle
      rw [HHH] at HO3
      clear HHH
      go_wp2_with (at_builtin; refine wpList_append_own _ rfl _ _ 33 rfl w.heap.size TC i0 _ 5 72 Try.underlying33 hi0 hi1 hi2 hi3 rfl (by decide) _ _ _ rfl (HO3.out.alloc _) ⟨w3.heap.size, 0, none⟩ 1 1 [.string x.name, .string x.data, .int .i64 x.tag, .int .i64 x.params, .slice a3 x.fields.length c3] rfl rfl (news_new w3 #[.string x.name, .string x.data, .int .i64 x.tag, .int .i64 x.params, .slice a3 x.fields.length c3] TC) (fun u hu => by simp only [List.mem_cons, List.not_mem_nil, or_false] at hu; rcases hu with rfl | rfl | rfl | rfl | rfl <;> rfl) (by unfold maxLen; omega) (by omega) (by simp; omega) ?_)
      intro v7 w7 hown hgrow _
      have HO7 := Lib.hid (OwnC.more tc_ne (x := x) (l := l.take k) (HTL.out hkle) HO1.out HO2.out hzB HRD3.out HB3.out HFL.out hown hgrow)
      have HB7 := Lib.hid ((HBW3.out.alloc (by omega) (.cells #[.string x.name, .string x.data, .int .i64 x.tag, .int .i64 x.params, .slice a3 x.fields.length c3] TC)).grown hgrow (by simp; omega) (fun q hq => (HO1.out.lt q (own_blk.trans hq)).1))
      obtain ⟨a7, c7, rfl⟩ := own_slice hown
      clear hown hgrow
      go_wp2_with fail
      go_roundg (l.length - (k + 1))
      case measure => have := HK.out; omega
      case rel => exact ⟨k + 1, by have := HK.out; omega, by go_num, by rw [HT.out]; exact HO7.out, HB7.out⟩
    · have hge : ¬ (k : Int) < l.length := by omega
      have hkn : k = l.length := by omega
      have HE := Lib.hid (show OwnC w.heap.size TC TT wr (.slice a5 (l.take k).length c5) l from ⟨vs, by have := HO1.out; rw [hkn, List.take_length] at this ⊢; exact this, by have := HO2.out; rw [hkn, List.take_length] at this; exact this⟩)
      have HTLk := Lib.hid (show (l.take k).length = l.length by rw [HTL.out hkle, hkn])
      have HKN := Lib.hid hkn
      clear hkn
      go_wp2_with fail
      go_ret
      exact ⟨a5, c5, ret_slice HKN.out, by have := HE.out; rwa [HTLk.out] at this, HB.out⟩
end Go.Proofs.Ytgmgnnmmapdikaa.Dc
