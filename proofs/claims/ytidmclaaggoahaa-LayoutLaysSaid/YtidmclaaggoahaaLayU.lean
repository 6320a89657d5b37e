/-
  CONTRACTS of layer layout: a token is laid that opens a braced block where one is due.
-/
import Derived.Test.YtidmclaaggoahaaLayT
namespace Go.Proofs.Ytidmclaaggoahaa.Ly
open Go.RowKit Pl Ar Mm
set_option linter.unusedVariables false
set_option linter.unusedSimpArgs false
set_option maxRecDepth 100000 in
set_option maxHeartbeats 4000000 in
theorem lay_brace {Z : Nat → Prop} {p : Nat} (t : TokM) {T : List TokM} {F : List Fr} {vt vf : Value} (first : Bool) (hbr : openedK t.kind t.text.data.toList = 7) (w : World) (h : Sheet Z w p T F true t.line t.col vt vf) (hn : T.length + F.length ≤ 999999000) :
    Calls Try.prog 24 #[.pointer (some ⟨p, 0, none⟩), tokVal t, .bool first] w (SheetPost Z p (T ++ [t]) (F ++ [⟨7, 0⟩]) false t.line t.col w) := by
  obtain ⟨⟨x0, x1, x2, x3, x4⟩, ⟨f0, f1, f2, f3, f4⟩, zx⟩ := h.cells
  have HS := Lib.hid h
  have H4 := Lib.hid (At4.start h)
  have HBR := Lib.hid hbr
  clear h hbr
  go_enter Try.func24, Try.ntmps24
  go_upto_if 13 with fail
  obtain ⟨W0, hW0⟩ : ∃ W0, w.alloc (.cells #[.int .i64 t.kind, .string t.text, .int .i64 t.num, .int .i64 t.line, .int .i64 t.col, .bool t.made] TT) = W0 := ⟨_, rfl⟩
  obtain ⟨q, hq⟩ : ∃ q, w.heap.size = q := ⟨_, rfl⟩
  have h4 := H4.out
  simp only [tokBox, hW0, hq] at h4
  simp only [hW0, hq]
  clear H4
  have H5 := Lib.hid h4
  have HW0 := Lib.hid hW0
  have HQ := Lib.hid hq
  obtain ⟨i0, hi0⟩ := innerC F
  obtain ⟨c0, hc0⟩ : ∃ c, (innerF F F.length).2 = c := ⟨_, rfl⟩
  rw [hc0] at hi0
  have HI := Lib.hid hi0
  clear hW0 hq hi0 hc0 x0 x1 x2 x3 x4 f0 f1 f2 f3 f4 zx
  obtain ⟨vt0, vf0, ⟨x0, x1, x2, x3, x4⟩, ⟨f0, f1, f2, f3, f4⟩, zx⟩ := h4.cells
  obtain ⟨y0, y1, y2, y3, y4, y5, zq⟩ := h4.toks
  clear h4
  go_wp2_with fail
  refine ((H5.out.off false).inner (by omega) HI.out).mono ?_
  rintro e w1 ⟨rfl, h4⟩
  have H6 := Lib.hid h4
  clear x0 x1 x2 x3 x4 f0 f1 f2 f3 f4 zx y0 y1 y2 y3 y4 y5 zq
  obtain ⟨vt1, vf1, ⟨x0, x1, x2, x3, x4⟩, ⟨f0, f1, f2, f3, f4⟩, zx⟩ := h4.cells
  obtain ⟨y0, y1, y2, y3, y4, y5, zq⟩ := h4.toks
  clear h4
  go_wp2_with fail
  refine (H6.out.opened HBR.out).mono ?_
  rintro e w2 ⟨rfl, h4⟩
  have H7 := Lib.hid h4
  clear x0 x1 x2 x3 x4 f0 f1 f2 f3 f4 zx y0 y1 y2 y3 y4 y5 zq h4
  go_wp2_with fail
  refine (H7.out.put 7 0 (by omega)).mono ?_
  rintro e wc ⟨rfl, h4⟩
  have H8 := Lib.hid h4
  obtain ⟨i1, hi, hz0, hz1, hz2'⟩ := info_parts Ttok
  obtain ⟨vt3, vf3, hs⟩ := h4.sheet
  obtain ⟨a, c, rfl⟩ := own_slice hs.toks
  obtain ⟨⟨x0, x1, x2, x3, x4⟩, ⟨f0, f1, f2, f3, f4⟩, zx⟩ := hs.cells
  obtain ⟨y0, y1, y2, y3, y4, y5, zq⟩ := h4.toks
  have HSS := Lib.hid hs
  clear h4 hs
  go_upto_region 8 with fail
  go_region_law (refine step_append_lies _ ?_ (.tmp 36) (.tmp 38) 22 ?_ 0 35 i1 _ 6 56 Try.underlying22 hi hz0 hz1 hz2' rfl (by decide) (.slice a T.length c) T.length (tmsCells T) ?_ (own_drew (HSS.out.toks.alloc _)) ⟨wc.heap.size, 0, none⟩ 1 1 [.int .i64 t.kind, .string t.text, .int .i64 t.num, .int .i64 t.line, .int .i64 t.col, .bool t.made] ?_ rfl ?_ ?_ (by decide) ?_ ?_ ?_ _ rfl ?_; exact rfl; exact rfl; exact rfl; exact rfl; exact news6 wc _ _ _ _ _ _ _; (intro u hu; simp only [List.mem_cons, List.not_mem_nil, or_false] at hu; rcases hu with rfl | rfl | rfl | rfl | rfl | rfl <;> rfl); (unfold maxLen; omega); omega; (first | (simp; done) | omega); intro g cap w2 hown hgrow hg hlt; have bx := (HSS.out.box.alloc (.cells #[.int .i64 t.kind, .string t.text, .int .i64 t.num, .int .i64 t.line, .int .i64 t.col, .bool t.made] TT)).drew.grown hgrow (own_ne (HSS.out.toks) HSS.out.box (by decide)); have z0 := bx.cell 0; have g0 := bx.free 0; have zy := bx.lt; have HX := Lib.hid bx; have HO := Lib.hid hown; have HG := Lib.hid hgrow; have HW := Lib.hid hg; clear bx hown hgrow hg)
  all_goals
    have hw2 : Value.ownBlock (.slice a T.length c) = some g ∨ wc.heap.size ≤ g := HW.out.imp id (fun e => by rw [e]; simp)
    obtain ⟨q1, q2⟩ := toldEnd (t := t) HSS.out HO.out (drewG HG.out) hw2
    have H9 := Lib.hid (H8.out.next ⟨_, _, q1⟩ q2)
    clear q1 q2 hw2
    go_wp2_with fail
    refine bodyPost_ret (by simp [results, Try.results24, go_sem]; rfl) rfl ?_
    have h8 := H9.out
    rw [← HW0.out, ← HQ.out] at h8
    exact At4.stop HS.out h8
end Go.Proofs.Ytidmclaaggoahaa.Ly
