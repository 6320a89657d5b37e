/-
  CONTRACT: the fixed calls of the statements of layer lex hold.
-/
import Derived.Test.YtigidagcpjmjnaaTokens
namespace Go.Proofs.Ytigidagcpjmjnaa.Lx
open Go.RowKit Pl Ar Dg Pa
set_option linter.unusedVariables false

theorem lexed_one : lexed [102, 32, 120, 32, 61, 32, 120, 43, 49, 32, 45, 45, 32, 111, 110, 101] = ⟨[⟨1, [102], 0, 1, 1⟩, ⟨1, [120], 0, 1, 3⟩, ⟨5, [61], 0, 1, 5⟩, ⟨1, [120], 0, 1, 7⟩, ⟨3, [43], 0, 1, 8⟩, ⟨4, [49], 1, 1, 9⟩], 0, 0, 0⟩ := by rfl
theorem lexed_two : lexed [97, 45, 45, 45, 98] = ⟨[⟨1, [97], 0, 1, 1⟩], 0, 0, 0⟩ := by rfl
theorem lexed_three : lexed [32, 48, 48, 55] = ⟨[], 11, 1, 2⟩ := by rfl
theorem tokens_is {s : ByteArray} {r : Lexed} (hs : s.size ≤ 9223372036854775807) (h : lexed s.data.toList = r) (w : World) : Calls Try.prog 9 #[.string s] w fun e w' =>
    ∃ v, e = .returned (.tuple #[v, .agg #[.int .i64 r.err, .int .i64 r.line, .int .i64 r.col]]) ∧ OwnsT w' w.heap.size v r.toks ∧ Below w.heap.size w w' := by
  have g := tokens_any s hs w
  unfold TokensPost at g
  rw [h] at g
  exact g
theorem owns_cells {w : World} {B : Nat} {v : Value} {l : List Tok} (hl : 0 < l.length) (h : OwnsT w B v l) : ∃ g c, v = .slice (some ⟨g, 0, none⟩) l.length c ∧ B ≤ g ∧ g < w.heap.size ∧ ∀ j, j < l.length * 6 → w.cell? ⟨g, j, none⟩ = (toksCells l)[j]? := by
  have hx := h
  rcases h.2 with ⟨rfl, hn⟩ | ⟨g, cap, cur, rfl, hg, _⟩
  · omega
  · exact ⟨g, cap, rfl, hg, (hx.lt g rfl).2, fun j hj => World.ownsRow.cellAt hx j hj⟩
theorem keep1 {w2 w3 : World} {o : Obj} {g j : Nat} (h : g < w2.heap.size) (hb : Below (w2.alloc o).heap.size (w2.alloc o) w3) : w3.cell? ⟨g, j, none⟩ = w2.cell? ⟨g, j, none⟩ := by
  rw [hb.cell (p := ⟨g, j, none⟩) (by simp; omega), World.cell?_alloc_past _ _ _ (by show g < _; omega)]
theorem keep2 {w1 w2 w3 : World} {o o' : Obj} {g j : Nat} (h : g < w1.heap.size) (hb2 : Below (w1.alloc o).heap.size (w1.alloc o) w2) (hb : Below (w2.alloc o').heap.size (w2.alloc o') w3) : w3.cell? ⟨g, j, none⟩ = w1.cell? ⟨g, j, none⟩ := by
  have := hb2.size
  simp only [World.size_alloc] at this
  rw [keep1 (by omega) hb, keep1 h hb2]
theorem keepL {w2 w3 : World} {cs : Array Value} {t : TypeId} (hb : Below (w2.alloc (.cells cs t)).heap.size (w2.alloc (.cells cs t)) w3) (j : Nat) : w3.cell? ⟨w2.heap.size, j, none⟩ = cs[j]? := by
  rw [hb.cell (p := ⟨w2.heap.size, j, none⟩) (by simp), World.cell?_alloc_at _ _ _ _ rfl]
theorem keepF {w1 w2 w3 : World} {cs : Array Value} {t : TypeId} {o' : Obj} (hb2 : Below (w1.alloc (.cells cs t)).heap.size (w1.alloc (.cells cs t)) w2) (hb : Below (w2.alloc o').heap.size (w2.alloc o') w3) (j : Nat) : w3.cell? ⟨w1.heap.size, j, none⟩ = cs[j]? := by
  have := hb2.size
  simp only [World.size_alloc] at this
  rw [keep1 (by omega) hb, keepL hb2]
theorem all3 {w w1 w2 w3 : World} {o o' : Obj} (h1 : Below w.heap.size w w1) (h2 : Below (w1.alloc o).heap.size (w1.alloc o) w2) (h3 : Below (w2.alloc o').heap.size (w2.alloc o') w3) : Below w.heap.size w w3 := by
  have s1 := h1.size
  have s2 := h2.size
  simp only [World.size_alloc] at s2
  have g2 : Below w.heap.size w w2 := (h1.alloc s1 o).trans (h2.mono (by simp; omega))
  exact (g2.alloc (by omega) o').trans (h3.mono (by simp; omega))
set_option maxHeartbeats 2000000 in
theorem known_any (w : World) : Calls Try.prog 12 #[] w fun e w' => e = .returned (.bool true) ∧ Below w.heap.size w w' := by
  go_enter Try.func12, Try.ntmps12
  go_wp2_with fail
  refine (tokens_is (by decide) lexed_one _).mono ?_
  rintro e w1 ⟨v1, rfl, o1, hb1⟩
  have O1 := Lib.hid o1
  have HB1 := Lib.hid hb1
  obtain ⟨g1, c1, rfl, hg1, hl1, k1⟩ := owns_cells (by decide) o1
  have s1 := hb1.size
  have K4 := k1 24 (by decide)
  have K5 := k1 32 (by decide)
  have HK4 := Lib.hid K4
  have HK5 := Lib.hid K5
  clear o1 hb1 k1 K4 K5
  go_wp2_with fail
  refine (tokens_is (by decide) lexed_two _).mono ?_
  rintro e w2 ⟨v2, rfl, o2, hb2⟩
  have HB2 := Lib.hid hb2
  obtain ⟨g2, c2, rfl, hg2, hl2, k2⟩ := owns_cells (by decide) o2
  have HK1 := Lib.hid (k2 1 (by decide))
  have s2 := hb2.size
  simp only [World.size_alloc] at s2
  clear o2 hb2 k2
  go_wp2_with fail
  refine (tokens_is (by decide) lexed_three _).mono ?_
  rintro e w3 ⟨v3, rfl, o3, hb3⟩
  have HB3 := Lib.hid hb3
  have s3 := hb3.size
  simp only [World.size_alloc] at s3
  clear o3 hb3
  have q4 := (keep2 hl1 HB2.out HB3.out).trans HK4.out
  have q5 := (keep2 hl1 HB2.out HB3.out).trans HK5.out
  have q1 := (keep1 hl2 HB3.out).trans HK1.out
  have f10 := keepF HB2.out HB3.out 0
  have f11 := keepF HB2.out HB3.out 1
  have f12 := keepF HB2.out HB3.out 2
  have f20 := keepL HB3.out 0
  have f21 := keepL HB3.out 1
  have f22 := keepL HB3.out 2
  simp only [toksCells, tokCells, List.flatMap_cons, List.flatMap_nil, List.cons_append, List.nil_append, List.append_nil, List.getElem?_cons_succ, List.getElem?_cons_zero] at q4 q5 q1 f10 f11 f12 f20 f21 f22
  have HB := Lib.hid (all3 HB1.out HB2.out HB3.out)
  have z1 : w1.heap.size < w3.heap.size := by omega
  have z2 : w2.heap.size < w3.heap.size := by omega
  have z3 : g1 < w3.heap.size := by omega
  have z4 : g2 < w3.heap.size := by omega
  go_wp2_with fail
  go_returns
  have hB := HB.out
  exact ⟨rfl, by go_grown⟩
end Go.Proofs.Ytigidagcpjmjnaa.Lx
