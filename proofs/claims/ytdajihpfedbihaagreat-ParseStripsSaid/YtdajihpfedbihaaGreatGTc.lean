/-
  CONTRACTS of layer layout: a token is laid that opens a braced block where one is due.
-/
import Derived.Test.YtdajihpfedbihaaGreatGA
import Derived.Test.YtdajihpfedbihaaGreatGTb

namespace Go.Proofs.YtdajihpfedbihaaGreat.Ly
open Go.RowKit Pl Ar Mm
set_option linter.unusedVariables false
set_option linter.unusedSimpArgs false
set_option maxRecDepth 100000 in
set_option maxHeartbeats 4000000 in
theorem lay_brace {Z : Nat → Prop} {p : Nat} (t : TokM) {T : List TokM} {F : List Fr} {vt vf : Value} (first : Bool) (hbr : openedK t.kind t.text.data.toList = 7) (w : World) (h : Sheet Z w p T F true t.line t.col vt vf) (hn : T.length + F.length ≤ 999999000) :
    Calls Tryz.prog 81 #[.pointer (some ⟨p, 0, none⟩), tokVal t, .bool first] w (SheetPost Z p (T ++ [t]) (F ++ [⟨7, 0⟩]) false t.line t.col w) := by
  obtain ⟨⟨x0, x1, x2, x3, x4⟩, ⟨f0, f1, f2, f3, f4⟩, zx⟩ := h.cells
  have HS := Lib.hid h
  have H4 := Lib.hid (At4.start h)
  have HBR := Lib.hid hbr
  clear h hbr
  go_enter Tryz.func81, Tryz.ntmps81
  go_upto_if 13 with fail
  obtain ⟨W0, hW0⟩ : ∃ W0, w.alloc (.cells #[.int .i64 t.kind, .string t.text, .int .i64 t.num, .int .i64 t.line, .int .i64 t.col, .bool t.made] TT) = W0 := ⟨_, rfl⟩
  obtain ⟨q, hq⟩ : ∃ q, w.heap.size = q := ⟨_, rfl⟩
  have h4 := H4.out
  simp only [tokBox, hW0, hq] at h4
  simp only [hW0, hq]
  clear H4
  have H5 := Lib.hid h4
  have HW0 := Lib.hid hW0
  have HQ := Lib.hid hq
  obtain ⟨i0, hi0⟩ := innerC F
  obtain ⟨c0, hc0⟩ : ∃ c, (innerF F F.length).2 = c := ⟨_, rfl⟩
  rw [hc0] at hi0
  have HI := Lib.hid hi0
  clear hW0 hq hi0 hc0 x0 x1 x2 x3 x4 f0 f1 f2 f3 f4 zx
  obtain ⟨vt0, vf0, ⟨x0, x1, x2, x3, x4⟩, ⟨f0, f1, f2, f3, f4⟩, zx⟩ := h4.cells
  obtain ⟨y0, y1, y2, y3, y4, y5, zq⟩ := h4.toks
  clear h4
  go_wp2_with fail
  refine ((H5.out.off false).inner (by omega) HI.out).mono ?_
  rintro e w1 ⟨rfl, h4⟩
  have H6 := Lib.hid h4
  clear x0 x1 x2 x3 x4 f0 f1 f2 f3 f4 zx y0 y1 y2 y3 y4 y5 zq
  obtain ⟨vt1, vf1, ⟨x0, x1, x2, x3, x4⟩, ⟨f0, f1, f2, f3, f4⟩, zx⟩ := h4.cells
  obtain ⟨y0, y1, y2, y3, y4, y5, zq⟩ := h4.toks
  clear h4
  go_wp2_with fail
  refine (H6.out.opened HBR.out).mono ?_
  rintro e w2 ⟨rfl, h4⟩
  have H7 := Lib.hid h4
  clear x0 x1 x2 x3 x4 f0 f1 f2 f3 f4 zx y0 y1 y2 y3 y4 y5 zq h4
  go_wp2_with fail
  refine (H7.out.put 7 0 (by omega)).mono ?_
  rintro e wc ⟨rfl, h4⟩
  have H8 := Lib.hid h4
  obtain ⟨i1, hi, hz0, hz1, hz2'⟩ := info_parts Ttok
  obtain ⟨vt3, vf3, hs⟩ := h4.sheet
  obtain ⟨a, c, rfl⟩ := own_slice hs.toks
  obtain ⟨⟨x0, x1, x2, x3, x4⟩, ⟨f0, f1, f2, f3, f4⟩, zx⟩ := hs.cells
  obtain ⟨y0, y1, y2, y3, y4, y5, zq⟩ := h4.toks
  have HSS := Lib.hid hs
  clear h4 hs
  go_upto_region 8 with fail
  go_region_law (refine step_append_lies _ ?_ (.tmp 36) (.tmp 38) 104 ?_ 0 54 i1 _ 6 56 Tryz.underlying104 hi hz0 hz1 hz2' rfl (by decide) (.slice a T.length c) T.length (tmsCells T) ?_ (own_drew (HSS.out.toks.alloc _)) ⟨wc.heap.size, 0, none⟩ 1 1 [.int .i64 t.kind, .string t.text, .int .i64 t.num, .int .i64 t.line, .int .i64 t.col, .bool t.made] ?_ rfl ?_ ?_ (by decide) ?_ ?_ ?_ _ rfl ?_; exact rfl; exact rfl; exact rfl; exact rfl; exact news6 wc _ _ _ _ _ _ _; (intro u hu; simp only [List.mem_cons, List.not_mem_nil, or_false] at hu; rcases hu with rfl | rfl | rfl | rfl | rfl | rfl <;> rfl); (unfold maxLen; omega); omega; (first | (simp; done) | omega); intro g cap w2 hown hgrow hg hlt; have bx := (HSS.out.box.alloc (.cells #[.int .i64 t.kind, .string t.text, .int .i64 t.num, .int .i64 t.line, .int .i64 t.col, .bool t.made] TT)).drew.grown hgrow (own_ne (HSS.out.toks) HSS.out.box (by decide)); have z0 := bx.cell 0; have g0 := bx.free 0; have zy := bx.lt; have HX := Lib.hid bx; have HO := Lib.hid hown; have HG := Lib.hid hgrow; have HW := Lib.hid hg; clear bx hown hgrow hg)
  all_goals
    have hw2 : Value.ownBlock (.slice a T.length c) = some g ∨ wc.heap.size ≤ g := HW.out.imp id (fun e => by rw [e]; simp)
    obtain ⟨q1, q2⟩ := toldEnd (t := t) HSS.out HO.out (drewG HG.out) hw2
    have H9 := Lib.hid (H8.out.next ⟨_, _, q1⟩ q2)
    clear q1 q2 hw2
    go_wp2_with fail
    refine bodyPost_ret (by simp [results, Tryz.results81, go_sem]; rfl) rfl ?_
    have h8 := H9.out
    rw [← HW0.out, ← HQ.out] at h8
    exact At4.stop HS.out h8
end Go.Proofs.YtdajihpfedbihaaGreat.Ly
/-
  CONTRACTS of layer layout: Lay, a fold over the tokens.
-/
namespace Go.Proofs.YtdajihpfedbihaaGreat.Ly
open Go.RowKit Pl Ar Mm
set_option linter.unusedVariables false
set_option linter.unusedSimpArgs false
structure St where
  T : List TokM
  F : List Fr
  due : Bool
def layS (t : TokM) (first : Bool) (s : St) : St :=
  if s.due = true ∧ openedK t.kind t.text.data.toList = 7 then ⟨s.T ++ [t], s.F ++ [⟨7, 0⟩], false⟩
  else ⟨(ph4 t (ph3 t (ph2 t (ph1 s.due first t s.T s.F)))).1, (ph4 t (ph3 t (ph2 t (ph1 s.due first t s.T s.F)))).2, dueK t.kind t.text.data.toList⟩
theorem ph4_len (t : TokM) (s : List TokM × List Fr) : (ph4 t s).1.length + (ph4 t s).2.length ≤ s.1.length + s.2.length + 2 := by
  unfold ph4
  split <;> simp <;> omega
theorem layS_len (t : TokM) (first : Bool) (s : St) : (layS t first s).T.length + (layS t first s).F.length ≤ s.T.length + s.F.length + 5 := by
  unfold layS
  split
  · simp; omega
  · have h1 := ph1_len s.due first t s.T s.F
    have h2 := ph2_len t (ph1 s.due first t s.T s.F)
    have h3 := ph3_len t (ph2 t (ph1 s.due first t s.T s.F))
    have h4 := ph4_len t (ph3 t (ph2 t (ph1 s.due first t s.T s.F)))
    show (ph4 t (ph3 t (ph2 t (ph1 s.due first t s.T s.F)))).1.length + (ph4 t (ph3 t (ph2 t (ph1 s.due first t s.T s.F)))).2.length ≤ _
    omega
theorem lay_is {Z : Nat → Prop} {p : Nat} (t : TokM) (first : Bool) {s : St} {vt vf : Value} (w : World) (h : Sheet Z w p s.T s.F s.due t.line t.col vt vf) (hn : s.T.length + s.F.length ≤ 999999000) {s2 : St} (h2 : layS t first s = s2) :
    Calls Tryz.prog 81 #[.pointer (some ⟨p, 0, none⟩), tokVal t, .bool first] w (SheetPost Z p s2.T s2.F s2.due t.line t.col w) := by
  subst h2
  unfold layS
  by_cases hb : s.due = true ∧ openedK t.kind t.text.data.toList = 7
  · rw [if_pos hb]
    rw [hb.1] at h
    exact lay_brace t first hb.2 w h hn
  · rw [if_neg hb]
    exact lay_any t s.due first hb w h hn
def tk (L : List TokM) (i : Nat) : TokM := L.getD i ⟨0, ByteArray.empty, 0, 0, 0, false⟩
def lnAt (L : List TokM) : Nat → Int
  | 0 => 1
  | n + 1 => (tk L n).line
def colAt (L : List TokM) : Nat → Int
  | 0 => 1
  | n + 1 => (tk L n).col
def fstAt (L : List TokM) : Nat → Bool
  | 0 => true
  | n + 1 => decide (¬ (tk L n).line = (tk L (n + 1)).line)
def layF (L : List TokM) : Nat → St
  | 0 => ⟨[], [], true⟩
  | n + 1 => layS (tk L n) (fstAt L n) (layF L n)
theorem layF_len (L : List TokM) : ∀ n, (layF L n).T.length + (layF L n).F.length ≤ 5 * n
  | 0 => by simp [layF]
  | n + 1 => by
    have h1 := layF_len L n
    have h2 := layS_len (tk L n) (fstAt L n) (layF L n)
    unfold layF
    omega
/-- What Lay makes of the tokens. -/
def layAll (L : List TokM) : List TokM := endT (layF L L.length).T (layF L L.length).F (layF L L.length).due (lnAt L L.length) (colAt L L.length)
theorem block_of_add (a : Addr) (n : Nat) : (a.add n).block = a.block := by unfold Addr.add; split <;> rfl
/-- The token t stands at ad. -/
structure TokAt (w : World) (ad : Addr) (t : TokM) : Prop where
  c0 : w.cell? ad = some (.int .i64 t.kind)
  c1 : w.cell? ⟨ad.block, ad.off + 1, none⟩ = some (.string t.text)
  c2 : w.cell? ⟨ad.block, ad.off + 2, none⟩ = some (.int .i64 t.num)
  c3 : w.cell? ⟨ad.block, ad.off + 3, none⟩ = some (.int .i64 t.line)
  c4 : w.cell? ⟨ad.block, ad.off + 4, none⟩ = some (.int .i64 t.col)
  c5 : w.cell? ⟨ad.block, ad.off + 5, none⟩ = some (.bool t.made)
theorem TokAt.below {w w' : World} {B : Nat} {ad : Addr} {t : TokM} (h : TokAt w ad t) (hb : Below B w w') (hl : ad.block < B) : TokAt w' ad t :=
  ⟨(hb.cell hl).trans h.c0, (hb.cell (p := ⟨ad.block, ad.off + 1, none⟩) hl).trans h.c1, (hb.cell (p := ⟨ad.block, ad.off + 2, none⟩) hl).trans h.c2, (hb.cell (p := ⟨ad.block, ad.off + 3, none⟩) hl).trans h.c3, (hb.cell (p := ⟨ad.block, ad.off + 4, none⟩) hl).trans h.c4, (hb.cell (p := ⟨ad.block, ad.off + 5, none⟩) hl).trans h.c5⟩
/-- The tokens can be read at v, in a block below B. -/
def ShowsM (w : World) (B : Nat) (v : Value) (L : List TokM) : Prop := ∃ b c, v = .slice b L.length c ∧ ∀ k, k < L.length → ∃ ad : Addr, b = some ad ∧ (ad.add (k * 6)).block < B ∧ TokAt w (ad.add (k * 6)) (tk L k)
theorem ShowsM.below {w w' : World} {B B' : Nat} {v : Value} {L : List TokM} (h : ShowsM w B v L) (hb : Below B' w w') (hB : B ≤ B') : ShowsM w' B v L := by
  obtain ⟨b, c, rfl, hc⟩ := h
  refine ⟨b, c, rfl, fun k hk => ?_⟩
  obtain ⟨ad, h1, h2, h3⟩ := hc k hk
  exact ⟨ad, h1, h2, h3.below hb (by omega)⟩
theorem ShowsM.mono {w : World} {B B' : Nat} {v : Value} {L : List TokM} (h : ShowsM w B v L) (hB : B ≤ B') : ShowsM w B' v L := by
  obtain ⟨b, c, rfl, hc⟩ := h
  refine ⟨b, c, rfl, fun k hk => ?_⟩
  obtain ⟨ad, h1, h2, h3⟩ := hc k hk
  exact ⟨ad, h1, by omega, h3⟩
theorem tms_get (L : List TokM) : ∀ (k : Nat), k < L.length → ∀ j, j < 6 → (tmsCells L)[k * 6 + j]? = (tmCells (tk L k))[j]? := by
  induction L with
  | nil => intro k hk; simp at hk
  | cons t L ih =>
    intro k hk j hj
    have hl : (tmCells t).length = 6 := rfl
    have e : tmsCells (t :: L) = tmCells t ++ tmsCells L := by simp [tmsCells]
    rw [e]
    cases k with
    | zero => rw [List.getElem?_append_left (by rw [hl]; omega)]; simp [tk]
    | succ k =>
      rw [List.getElem?_append_right (by rw [hl]; omega), hl, show (k + 1) * 6 + j - 6 = k * 6 + j by omega, ih k (by simpa using hk) j hj]
      simp [tk]
theorem shows_own {w : World} {B : Nat} {v : Value} {L : List TokM} (h : OwnsM w B v L) : ShowsM w w.heap.size v L := by
  obtain ⟨b, c, rfl⟩ := own_slice h
  refine ⟨b, c, rfl, fun k hk => ?_⟩
  obtain ⟨g, rfl, _, hg, _, hc⟩ := own_at h (by omega)
  have e : (⟨g, 0, none⟩ : Addr).add (k * 6) = ⟨g, k * 6, none⟩ := by
    simp [Addr.add]
    try (intro e; exact e.symm)
  refine ⟨_, rfl, by rw [e]; exact hg, ?_⟩
  have key : ∀ j, j < 6 → w.cell? ⟨g, k * 6 + j, none⟩ = (tmCells (tk L k))[j]? := fun j hj => (hc _ (by omega)).trans (tms_get L k hk j hj)
  rw [e]
  exact ⟨key 0 (by omega), key 1 (by omega), key 2 (by omega), key 3 (by omega), key 4 (by omega), key 5 (by omega)⟩
/-- A row that is owned above B. -/
theorem own_raise {w : World} {B : Nat} {e : TypeId} {size n : Nat} {v : Value} {xs : List Value} (h : w.ownsRow 0 e size v n xs) (hb : ∀ k, v.ownBlock = some k → ¬ k < B) : w.ownsRow B e size v n xs := by
  obtain ⟨h1, h0 | ⟨g, cap, cur, hv, _, rest⟩⟩ := h
  · exact ⟨h1, .inl h0⟩
  · exact ⟨h1, .inr ⟨g, cap, cur, hv, Nat.le_of_not_lt (hb g (by rw [hv]; rfl)), rest⟩⟩
def ZB (B : Nat) (k : Nat) : Prop := k < B
theorem Holds.below {B : Nat} {w w' : World} (h : Holds (ZB B) w w') : Below B w w' := ⟨h.os, h.tape, h.output, h.size, h.block⟩
theorem Sheet.alloc {Z : Nat → Prop} {w : World} {p : Nat} {T : List TokM} {F : List Fr} {due : Bool} {ln col : Int} {vt vf : Value} (h : Sheet Z w p T F due ln col vt vf) (o : Obj) : Sheet Z (w.alloc o) p T F due ln col vt vf :=
  ⟨h.box.alloc o, h.toks.alloc o, h.frames.alloc o, h.zp, h.zt, h.zf, fun k hk => by have := h.zl k hk; simp; omega⟩
theorem Sheet.place {Z : Nat → Prop} {w : World} {p : Nat} {T : List TokM} {F : List Fr} {due : Bool} {ln col : Int} {vt vf : Value} (l2 c2 : Int) (h : Sheet Z w p T F due ln col vt vf) : Sheet Z ((w.setCell ⟨p, 3, none⟩ (.int .i64 l2)).setCell ⟨p, 4, none⟩ (.int .i64 c2)) p T F due l2 c2 vt vf :=
  ⟨(h.box.put 3 (.int .i64 l2)).put 4 (.int .i64 c2), own_far (own_far h.toks h.box (by decide) 3 _) (h.box.put 3 (.int .i64 l2)) (by decide) 4 _, own_far (own_far h.frames h.box (by decide) 3 _) (h.box.put 3 (.int .i64 l2)) (by decide) 4 _, h.zp, h.zt, h.zf, fun k hk => by simpa using h.zl k hk⟩
/-- What holds ahead of each round of Lay. -/
def LayI (B : Nat) (L : List TokM) (w : World) (d : Nat) (i : Value) (wr : World) : Prop :=
  ∃ n : Nat, n ≤ L.length ∧ d = L.length - n ∧ i = .int .i64 n ∧ (∃ vt vf, Sheet (ZB B) wr B (layF L n).T (layF L n).F (layF L n).due (lnAt L n) (colAt L n) vt vf) ∧ Holds (ZB B) w wr
def LayPost (L : List TokM) (w : World) (e : Ending) (w' : World) : Prop := ∃ v, e = .returned v ∧ OwnsM w' w.heap.size v (layAll L) ∧ Below w.heap.size w w'
set_option maxRecDepth 100000 in
set_option maxHeartbeats 4000000 in
theorem Lay_any {v : Value} {L : List TokM} (hl : L.length ≤ 100000000) (w : World) (h : ShowsM w w.heap.size v L) :
    Calls Tryz.prog 58 #[v] w (LayPost L w) := by
  obtain ⟨b, c, rfl, hc⟩ := h
  obtain ⟨N, hN⟩ : ∃ N, L.length = N := ⟨_, rfl⟩
  have HC := Lib.hid hc
  have HN := Lib.hid hN
  rw [hN] at hl ⊢
  clear hc hN
  go_enter Tryz.func58, Tryz.ntmps58
  go_wp2_with fail
  go_loopg [4, 5, 10] N (fun d i4 i5 i wr => LayI w.heap.size L w d i wr)
  case atStart =>
    refine ⟨0, Nat.zero_le _, by rw [HN.out]; rfl, rfl, ⟨.slice none 0 0, .slice none 0 0, Box.new w _ _, World.ownsRow_nil _ _ _ _, World.ownsRow_nil _ _ _ _, ?_, ?_, ?_, ?_⟩, (Holds.refl _ w).alloc (fun k hk => hk) _⟩
    · intro e
      exact absurd e (Nat.lt_irrefl _)
    · intro k hk
      simp [Value.ownBlock] at hk
    · intro k hk
      simp [Value.ownBlock] at hk
    · intro k hk
      have : k < w.heap.size := hk
      simp
      omega
  case round =>
    obtain ⟨n, hnl, hgk, rfl, ⟨vt, vf, hs⟩, hb⟩ := hrel
    rw [HN.out] at hnl hgk
    have HS := Lib.hid hs
    have HB := Lib.hid hb
    obtain ⟨⟨x0, x1, x2, x3, x4⟩, ⟨f0, f1, f2, f3, f4⟩, zx⟩ := hs.cells
    have hlen := layF_len L n
    have HGK := Lib.hid hgk
    clear hs hb hgk
    by_cases hlt : n < N
    · obtain ⟨ad, e, hg, y⟩ := HC.out n (by rw [HN.out]; exact hlt)
      subst e
      obtain ⟨t, ht⟩ : ∃ t, tk L n = t := ⟨_, rfl⟩
      rw [ht] at y
      obtain ⟨z0, z1, z2, z3, z4, z5⟩ := y.below HB.out.below hg
      have HT := Lib.hid ht
      clear y ht
      go_upto_region 6 with fail
      obtain ⟨W1, hW1, hs2, hb2, hbx⟩ : ∃ W1, ((wr.setCell ⟨w.heap.size, 3, none⟩ (.int .i64 t.line)).setCell ⟨w.heap.size, 4, none⟩ (.int .i64 t.col)).alloc (.cells #[.int .i64 t.kind, .string t.text, .int .i64 t.num, .int .i64 t.line, .int .i64 t.col, .bool t.made] TT) = W1 ∧ Sheet (ZB w.heap.size) W1 w.heap.size (layF L n).T (layF L n).F (layF L n).due t.line t.col vt vf ∧ Holds (ZB w.heap.size) w W1 ∧ Box W1 wr.heap.size TT (tokBox t) :=
        ⟨_, rfl, (HS.out.place t.line t.col).alloc _, ((HB.out.setCell HS.out.zp _).setCell HS.out.zp _).alloc (HS.out.place t.line t.col).zl _, by
          have h := Box.new ((wr.setCell ⟨w.heap.size, 3, none⟩ (.int .i64 t.line)).setCell ⟨w.heap.size, 4, none⟩ (.int .i64 t.col)) (tokBox t) TT
          have e : ((wr.setCell ⟨w.heap.size, 3, none⟩ (.int .i64 t.line)).setCell ⟨w.heap.size, 4, none⟩ (.int .i64 t.col)).heap.size = wr.heap.size := by simp
          rw [e] at h
          exact h⟩
      simp only [hW1]
      have y0 := hbx.cell 0
      have y1 := hbx.cell 1
      have y2 := hbx.cell 2
      have y3 := hbx.cell 3
      have y4 := hbx.cell 4
      have y5 := hbx.cell 5
      have HS2 := Lib.hid hs2
      have HB2 := Lib.hid hb2
      obtain ⟨q, hq⟩ : ∃ q, wr.heap.size = q := ⟨_, rfl⟩
      rw [hq] at y0 y1 y2 y3 y4 y5 ⊢
      clear hW1 hs2 hb2 hbx hq z0 z1 z2 z3 z4 z5 x0 x1 x2 x3 x4 f0 f1 f2 f3 f4 zx
      obtain ⟨s2, hst⟩ : ∃ s, layS t (fstAt L n) (layF L n) = s := ⟨_, rfl⟩
      have HS3 := Lib.hid hst
      clear hst
      have HE := Lib.hid (show layF L (n + 1) = s2 ∧ lnAt L (n + 1) = t.line ∧ colAt L (n + 1) = t.col from ⟨by show layS (tk L n) (fstAt L n) (layF L n) = s2; rw [HT.out]; exact HS3.out, by show (tk L n).line = t.line; rw [HT.out], by show (tk L n).col = t.col; rw [HT.out]⟩)
      rcases n with _ | m
      · have c0 : ((0 : Nat) : Int) = 0 := rfl
        simp only [c0]
        refine Sq.region_reads 16 (by kernel_rfl) (by kernel_rfl) ?_
        simp only [List.take_succ_cons, List.take_zero, List.drop_succ_cons, List.drop_zero]
        repeat (go_big_quiet_step (fail))
        refine wpQuiet_nil ?_
        go_wp2_with fail
        refine (lay_is (Z := ZB w.heap.size) (vt := vt) (vf := vf) t true _ ?sh1 ?ln1 HS3.out).mono ?_
        case sh1 => exact HS2.out.drew
        case ln1 => omega
        rintro e w3 ⟨rfl, hs3, hb3⟩
        have HS4 := Lib.hid hs3
        have HB4 := Lib.hid (HB2.out.drew.trans hb3)
        clear hs3 hb3
        go_wp2_with fail
        go_roundg (N - 1)
        case measure => have := HGK.out; omega
        case rel => exact ⟨1, by rw [HN.out]; omega, by rw [HN.out], by go_num, by rw [HE.out.1, HE.out.2.1, HE.out.2.2]; exact HS4.out, HB4.out⟩
      · obtain ⟨ad2, e2, hg2, p⟩ := HC.out m (by rw [HN.out]; omega)
        obtain rfl : ad = ad2 := by simpa using e2
        have r3 := (p.below HB2.out.below hg2).c3
        obtain ⟨pl, hpl⟩ : ∃ l, (tk L m).line = l := ⟨_, rfl⟩
        rw [hpl] at r3
        have hm2 : m < N := by omega
        have hz0 : (((m : Int) + 1) == 0) = false := by simp; omega
        have wd : IntKind.i64.wrap (m : Int) = m := IntWalk.i64_in _ (by omega)
        have wc : IntKind.i64.wrap (((m + 1 : Nat) : Int) - 1) = m := by rw [show ((m + 1 : Nat) : Int) - 1 = m by omega]; exact IntWalk.i64_in _ (by omega)
        have ef : fstAt L (m + 1) = decide (¬ pl = t.line) := by show decide (¬ (tk L m).line = (tk L (m + 1)).line) = _; rw [hpl, HT.out]
        have HEF := Lib.hid ef
        clear p e2 hpl ef hg2
        by_cases hq : pl = t.line
        · subst hq
          have h3 := HS3.out
          rw [HEF.out] at h3
          simp only [not_true_eq_false, decide_false] at h3
          have HS5 := Lib.hid h3
          clear h3
          refine Sq.region_reads 16 (by kernel_rfl) (by kernel_rfl) ?_
          simp only [List.take_succ_cons, List.take_zero, List.drop_succ_cons, List.drop_zero]
          repeat (go_big_quiet_step (fail))
          refine wpQuiet_nil ?_
          go_wp2_with fail
          refine (lay_is (Z := ZB w.heap.size) (vt := vt) (vf := vf) t false _ ?sh2 ?ln2 HS5.out).mono ?_
          case sh2 => exact HS2.out.drew
          case ln2 => omega
          rintro e w3 ⟨rfl, hs3, hb3⟩
          have HS4 := Lib.hid hs3
          have HB4 := Lib.hid (HB2.out.drew.trans hb3)
          clear hs3 hb3
          go_wp2_with fail
          go_roundg (N - (m + 2))
          case measure => have := HGK.out; omega
          case rel => exact ⟨m + 2, by rw [HN.out]; omega, by rw [HN.out], by go_num, by rw [HE.out.1, HE.out.2.1, HE.out.2.2]; exact HS4.out, HB4.out⟩
        · have hz1 : (pl != t.line) = true := by simp [hq]
          have h3 := HS3.out
          rw [HEF.out] at h3
          simp only [hq, not_false_eq_true, decide_true] at h3
          have HS5 := Lib.hid h3
          clear h3
          refine Sq.region_reads 16 (by kernel_rfl) (by kernel_rfl) ?_
          simp only [List.take_succ_cons, List.take_zero, List.drop_succ_cons, List.drop_zero]
          repeat (go_big_quiet_step (fail))
          refine wpQuiet_nil ?_
          go_wp2_with fail
          refine (lay_is (Z := ZB w.heap.size) (vt := vt) (vf := vf) t true _ ?sh3 ?ln3 HS5.out).mono ?_
          case sh3 => exact HS2.out.drew
          case ln3 => omega
          rintro e w3 ⟨rfl, hs3, hb3⟩
          have HS4 := Lib.hid hs3
          have HB4 := Lib.hid (HB2.out.drew.trans hb3)
          clear hs3 hb3
          go_wp2_with fail
          go_roundg (N - (m + 2))
          case measure => have := HGK.out; omega
          case rel => exact ⟨m + 2, by rw [HN.out]; omega, by rw [HN.out], by go_num, by rw [HE.out.1, HE.out.2.1, HE.out.2.2]; exact HS4.out, HB4.out⟩
    · obtain rfl : n = N := by omega
      have HL := Lib.hid (layF_len L n)
      clear hlen
      go_wp2_with fail
      refine (end_any (Z := ZB w.heap.size) wr HS.out (by have := HL.out; omega)).mono ?_
      rintro e w3 ⟨rfl, ⟨vt3, vf3, hs3⟩, hb3⟩
      obtain ⟨⟨x0, x1, x2, x3, x4⟩, ⟨f0, f1, f2, f3, f4⟩, zx⟩ := hs3.cells
      have HS4 := Lib.hid hs3
      have HB4 := Lib.hid (HB.out.trans hb3)
      clear hs3 hb3
      go_wp2_with fail
      refine bodyPost_ret (v := vt3) (by simp [results, Tryz.results58, go_sem]) rfl ?_
      have e : layAll L = endT (layF L n).T (layF L n).F (layF L n).due (lnAt L n) (colAt L n) := by unfold layAll; rw [HN.out]
      exact ⟨vt3, rfl, by rw [e]; exact own_raise HS4.out.toks HS4.out.zt, HB4.out.below⟩
end Go.Proofs.YtdajihpfedbihaaGreat.Ly
