/-
  THE LAW HeapOwn: what is put in and what is told is nobody's else; a heap that is not there has nothing.
-/
import Derived.Test.YtbkklnihgejeoaaHpO
namespace Go.Proofs.Ytbkklnihgejeoaa.HeapOwn
open Go.RowKit Mm Tm Hp
set_option linter.unusedVariables false
set_option linter.unusedSimpArgs false
theorem own_room {B : Nat} {e : TypeId} {w : World} {a : Option Addr} {c : Nat} {l : List Int} (h : OwnI B e w (.slice a l.length c) l) (hn : 0 < l.length) : ∃ g cs, a = some ⟨g, 0, none⟩ ∧ B ≤ g ∧ Box w g e cs ∧ l.length ≤ cs.size := by
  rcases h.2 with ⟨_, h3⟩ | ⟨g', cap, cur, h2, hb, hh, hc, _, hs, _⟩
  · omega
  · injection h2 with e1 e2 e3
    exact ⟨g', cur, e1, hb, hh, by omega⟩
theorem vacB {c : Nat} (x : Nd) : IsVac ((Hp.start c).put 0 x) 1 := by
  refine ⟨by show 1 ≤ max 0 (0 + 1); omega, fun a h => ?_, rfl⟩
  obtain rfl : a = 0 := by omega
  show upd (Hp.start c).is 0 1 0 ≠ 0
  rw [upd_same]
  decide
theorem kh_set {B b : Nat} {w0 w : World} {cs : Array Value} (hk : KH B w0 w) (hb : w0.heap.size ≤ b) (hx : Box w b TI cs) {j : Nat} {u : Value} : KH B w0 (w.setCell ⟨b, j, none⟩ u) :=
  Kept.setCell hk (fun q => absurd q (by show ¬ b < _; omega)) u
def S2 (x : Nd) : Hs := ((Hp.start 4).put 0 ⟨0, 0, []⟩).put 1 ⟨x.tag, x.n, List.replicate x.l.length 0⟩
/-- while what was put in is written -/
structure L1 (B : Nat) (h nb lb : Nat) (S : Hs) (x : Nd) (a : Option Addr) (c n : Nat) (d : Nat) (i : Value) (wr : World) : Prop where
  mem : ∃ k : Nat, k + d = n ∧ i = .int .i64 k
  heap : HpI B (fun b => b = lb) wr h S
  arg : Box wr nb TN #[.int .i64 x.tag, .int .i64 x.n, .slice a x.l.length c]
  row : ∃ cs, Box wr lb TI cs ∧ n ≤ cs.size
/-- while what was told is written -/
structure L2 (w0 : World) (nb xb : Nat) (x : Nd) (a : Option Addr) (c n : Nat) (va : Option Addr) (vc : Nat) (d : Nat) (i : Value) (wr : World) : Prop where
  mem : ∃ k : Nat, k + d = n ∧ i = .int .i64 k
  below : Below w0.heap.size w0 wr
  told : Box wr xb TN #[.int .i64 x.tag, .int .i64 x.n, .slice va n vc]
  row : 0 < n → ∃ g cs, va = some ⟨g, 0, none⟩ ∧ w0.heap.size ≤ g ∧ Box wr g TI cs ∧ n ≤ cs.size
set_option maxRecDepth 100000 in
set_option maxHeartbeats 16000000 in
theorem law (x : Nd) (a : Option Addr) (c : Nat) (w : World) (hq : x.l.length * 8 ≤ 140737488351232 ∧ RdI (· < w.heap.size) w a x.l) :
    Calls Try.prog 8 #[.agg #[.int .i64 x.tag, .int .i64 x.n, .slice a x.l.length c]] w fun e w' => e = .returned (.bool true) ∧ Below w.heap.size w w' := by
  have HKN := Lib.hid (fun w => known_any w)
  have hlen := hq.1
  clear hq
  obtain ⟨W0, hW0⟩ : ∃ W0, w.alloc (.cells #[.int .i64 x.tag, .int .i64 x.n, .slice a x.l.length c] TN) = W0 := ⟨_, rfl⟩
  have hB0 : Below w.heap.size w W0 := by rw [← hW0]; exact (Below.refl w.heap.size w).alloc (Nat.le_refl _) _
  have hX0 : Box W0 w.heap.size TN #[.int .i64 x.tag, .int .i64 x.n, .slice a x.l.length c] := by rw [← hW0]; exact Box.new w _ _
  have hz0 : W0.heap.size = w.heap.size + 1 := by rw [← hW0]; simp
  have HN := Lib.hid (new_any (fun _ => False) 4 W0 (by decide) (by decide))
  have HB0 := Lib.hid hB0
  have HX0 := Lib.hid hX0
  have HZ0 := Lib.hid hz0
  clear hB0 hX0 hz0
  go_enter Try.func8, Try.ntmps8
  go_wp2_with fail
  refine HN.out.mono ?_
  rintro e w1 ⟨rfl, hp1, hb1⟩
  have hX1 := HX0.out.below hb1 HX0.out.lt
  have HP1 := Lib.hid hp1
  have HX1 := Lib.hid hX1
  have HB1 := Lib.hid (HB0.out.trans (hb1.mono HB0.out.size))
  have HK1 := Lib.hid (KG.of_below hb1 (Nat.le_refl _) : KH W0.heap.size W0 w1)
  have x2 : w1.cell? ⟨w.heap.size, 2, none⟩ = some (.slice a x.l.length c) := hX1.cell 2
  clear hp1 hX1 hb1 hW0
  by_cases hbig : 100 < x.l.length
  · have g1 : decide (100 < x.l.length) = true := decide_eq_true hbig
    have g2 : decide ((100 : Int) < x.l.length) = true := decide_eq_true (by omega)
    go_wp2_with fail
    refine (HKN.out _).mono ?_
    rintro e w2 ⟨rfl, hb2⟩
    have HB2 := Lib.hid (HB1.out.trans (hb2.mono HB1.out.size))
    clear hb2
    go_wp2_with fail
    go_ret
    exact ⟨rfl, HB2.out⟩
  have g1 : decide (100 < x.l.length) = false := decide_eq_false hbig
  have g2 : decide ((100 : Int) < x.l.length) = false := decide_eq_false (by omega)
  have HA := Lib.hid (alloc_ok (x := ⟨0, 0, []⟩) (a := none) (c := 0) w1 HP1.out (start_good (by decide)) (NdA.zero _ _ _ _) rfl (by decide) (by decide) (fun b q => q.elim))
  simp only [List.length_nil] at HA
  go_wp2_with fail
  with_reducible refine HA.out.mono ?_
  rintro e w2 ⟨k, hv, rfl, hp2, hk2⟩
  obtain rfl := hv.unique vac0
  have hX2 : Box w2 w.heap.size TN _ := hk2.lowbox HX1.out (by rw [HZ0.out]; exact Nat.lt_succ_self _)
  have x2' : w2.cell? ⟨w.heap.size, 2, none⟩ = some (.slice a x.l.length c) := hX2.cell 2
  obtain ⟨i0, hi, hz0, hz1, hz2⟩ := info_parts infoI
  have hmk : (Instr.makeSlice 35 (.int .i64 x.l.length) (.int .i64 x.l.length)).run Try.prog w2 = .ok (.slice (some ⟨w2.heap.size, 0, none⟩) x.l.length x.l.length) (w2.alloc (.cells (madeCells (Value.cells (.int .i64 0)) (x.l.length * 1)) TI)) := by
    have := run_make (P := Try.prog) w2 35 TI i0 (.int .i64 0) Try.underlying35 hi hz0 .i64 .i64 x.l.length x.l.length (by omega) (Int.le_refl _) (by rw [hz2]; omega) (by omega)
    rw [hz1] at this
    simpa using this
  obtain ⟨W3, hW3⟩ : ∃ W3, w2.alloc (.cells (madeCells (Value.cells (.int .i64 0)) (x.l.length * 1)) TI) = W3 := ⟨_, rfl⟩
  rw [hW3] at hmk
  have hB3 : Below w2.heap.size w2 W3 := by rw [← hW3]; exact (Below.refl w2.heap.size w2).alloc (Nat.le_refl _) _
  have hL3 : Box W3 w2.heap.size TI (madeCells (Value.cells (.int .i64 0)) (x.l.length * 1)) := by rw [← hW3]; exact Box.new _ _ _
  have hz3 : W3.heap.size = w2.heap.size + 1 := by rw [← hW3]; simp
  have hX3 := hX2.below hB3 hX2.lt
  have hp3 : HpI W0.heap.size (fun b => b = w2.heap.size) W3 W0.heap.size ((Hp.start 4).put 0 ⟨0, 0, []⟩) := (hp2.less (Y := fun b => b = w2.heap.size) (fun b hb e => by omega)).below hB3
  have hcell : ∀ i, i < x.l.length → W3.cell? ⟨w2.heap.size, i, none⟩ = some (.int .i64 0) := fun i hi => by
    rw [hL3.cell]
    unfold madeCells
    rw [Array.getElem?_map, Array.getElem?_range, if_pos (by omega)]
    show some ((#[Value.int .i64 0] : Array Value)[i % 1]!) = _
    rw [Nat.mod_one]
    rfl
  have hrd : RdI (ZA W0.heap.size W3) W3 (some ⟨w2.heap.size, 0, none⟩) (List.replicate x.l.length 0) := by
    intro i y hy
    have hi : i < x.l.length := by have := (List.getElem?_eq_some_iff.1 hy).1; simpa using this
    rw [List.getElem?_replicate, if_pos hi] at hy
    injection hy with hy
    subst hy
    refine ⟨_, rfl, ⟨by rw [hz3]; exact Nat.lt_succ_self _, .inr ⟨_, hL3⟩⟩, ?_⟩
    have hadd : ((⟨w2.heap.size, 0, none⟩ : Addr).add i) = ⟨w2.heap.size, i, none⟩ := by
      simp [Addr.add]
      try (intro e; omega)
    rw [hadd]
    exact hcell i hi
  have hgood : Hp.Good ((Hp.start 4).put 0 ⟨0, 0, []⟩) := put_good (start_good (by decide)) vac0 (by decide) (fun y h => by simp at h)
  have hhold : ((Hp.start 4).put 0 ⟨0, 0, []⟩).holds (List.replicate x.l.length 0) = true := List.all_eq_true.2 fun y hy => by
    rw [(List.mem_replicate.1 hy).2]
    rfl
  have HA2 := Lib.hid (alloc_ok (x := ⟨x.tag, x.n, List.replicate x.l.length 0⟩) (c := x.l.length) W3 hp3 hgood ⟨hrd, by simp; omega⟩ hhold (by decide) (by decide) (fun b e => by rw [hz3, e]; exact Nat.lt_succ_self _))
  simp only [List.length_replicate] at HA2
  have hlow : W0.heap.size ≤ w2.heap.size := Nat.le_trans HK1.out.size hk2.size
  have HK3 := Lib.hid ((HK1.out.trans hk2).trans (KG.of_below hB3 (Nat.le_refl _)))
  have HX3 := Lib.hid hX3
  have HL3 := Lib.hid hL3
  have HS3 := Lib.hid (size_madeCells (Value.cells (.int .i64 0)) (x.l.length * 1))
  have HLOW := Lib.hid hlow
  have t0 : W3.cell? ⟨w.heap.size, 0, none⟩ = some (.int .i64 x.tag) := hX3.cell 0
  have t1 : W3.cell? ⟨w.heap.size, 1, none⟩ = some (.int .i64 x.n) := hX3.cell 1
  clear hv hp2 hk2 hX2 hB3 hL3 hz3 hX3 hp3 hcell hrd hgood hhold hi hz0 hz1 hz2 hlow
  go_wp2_with fail
  with_reducible refine HA2.out.mono ?_
  rintro e w4 ⟨k, hv, rfl, hp4, hk4⟩
  obtain rfl := hv.unique (vacB _)
  have hS2 : ((Hp.start 4).put 0 ⟨0, 0, []⟩).put 1 ⟨x.tag, x.n, List.replicate x.l.length 0⟩ = S2 x := rfl
  rw [hS2] at hp4
  have HL1 := Lib.hid (show L1 W0.heap.size W0.heap.size w.heap.size w2.heap.size (S2 x) x a c x.l.length x.l.length (.int .i64 0) w4 from
    ⟨⟨0, by omega, rfl⟩, hp4, hk4.lowbox HX3.out (by rw [HZ0.out]; exact Nat.lt_succ_self _), ⟨_, hk4.box HL3.out id not_TP_I, by rw [HS3.out]; omega⟩⟩)
  have HK4 := Lib.hid (HK3.out.trans hk4)
  clear hv hp4 hk4 hS2 t0 t1 hW3 hmk x2 x2'
  go_wp2_with fail
  go_loopg [8] x.l.length (fun d i wr => L1 W0.heap.size W0.heap.size w.heap.size w2.heap.size (S2 x) x a c x.l.length d i wr ∧ KH W0.heap.size W0 wr)
  case atStart => exact ⟨HL1.out, HK4.out⟩
  case round =>
    obtain ⟨⟨⟨k, hd, rfl⟩, hp, hx, cs, hl, hls⟩, hkh⟩ := hrel
    have HP := Lib.hid hp
    have HX := Lib.hid hx
    have HL := Lib.hid hl
    have HLS := Lib.hid hls
    have HD := Lib.hid hd
    have HKH := Lib.hid hkh
    have hkl : k ≤ x.l.length := by omega
    by_cases hlt : k < x.l.length
    · have hc0 : wr.cell? ⟨w2.heap.size, k, none⟩ = some (cs[k]'(by omega)) := by rw [hl.cell]; exact Array.getElem?_eq_getElem (by omega)
      have hf0 := hl.free k
      generalize cs[k]'(by omega) = cv at hc0
      have HE := Lib.hid (show L1 W0.heap.size W0.heap.size w.heap.size w2.heap.size (S2 x) x a c x.l.length (x.l.length - (k + 1)) (.int .i64 ((k : Int) + 1)) (wr.setCell ⟨w2.heap.size, k, none⟩ (.int .i64 9)) ∧ KH W0.heap.size W0 (wr.setCell ⟨w2.heap.size, k, none⟩ (.int .i64 9)) from
        ⟨⟨⟨k + 1, by omega, rfl⟩, hp.aside (kept_set (Kept.refl (fun b => b = w2.heap.size) wr) k _) (fun b e => ⟨e, by rw [e]; exact ⟨cs, hl⟩⟩), hx.far (fun e => by rw [← e] at hx; exact absurd (Box.same hx hl) (by decide)) _, ⟨_, hl.put k _, by simpa using hls⟩⟩,
          kh_set hkh HLOW.out hl⟩)
      clear hp hx hl hls hd hkh
      go_wp2_with fail
      go_roundg (x.l.length - (k + 1))
      case measure => have := HD.out; omega
      case rel => exact HE.out
    · have HG1 : Hid (Calls Try.prog 19 #[.pointer (some ⟨W0.heap.size, 0, none⟩), .int .i64 1] wr (GetP ⟨x.tag, x.n, List.replicate x.l.length 0⟩ wr)) := Lib.hid (get_ok (k := 1) wr hp rfl)
      clear hp hx hl hls hd hkh
      go_wp2_with fail
      with_reducible refine HG1.out.mono ?_
      rintro e w5 ⟨va, vc, rfl, ho5, hb5⟩
      simp only [List.length_replicate]
      have hrow := own_room (l := List.replicate x.l.length 0) (B := wr.heap.size) (by simpa using ho5)
      simp only [List.length_replicate] at hrow
      obtain ⟨W6, hW6⟩ : ∃ W6, w5.alloc (.cells #[.int .i64 x.tag, .int .i64 x.n, .slice va x.l.length vc] TN) = W6 := ⟨_, rfl⟩
      have hb6 : Below w5.heap.size w5 W6 := by rw [← hW6]; exact (Below.refl w5.heap.size w5).alloc (Nat.le_refl _) _
      have hx6 : Box W6 w5.heap.size TN #[.int .i64 x.tag, .int .i64 x.n, .slice va x.l.length vc] := by rw [← hW6]; exact Box.new _ _ _
      have HS5 := Lib.hid hb5.size
      have HL2 := Lib.hid (show L2 wr w.heap.size w5.heap.size x a c x.l.length va vc x.l.length (.int .i64 0) W6 from
        ⟨⟨0, by omega, rfl⟩, hb5.trans (hb6.mono hb5.size), hx6, fun hn => by
          obtain ⟨g, cs, h1, h2, h3, h4⟩ := hrow hn
          exact ⟨g, cs, h1, h2, h3.below hb6 h3.lt, h4⟩⟩)
      clear ho5 hb5 hrow hb6 hx6
      go_wp2_with fail
      clear hW6
      obtain ⟨wq, hwq⟩ : ∃ q, q = wr := ⟨_, rfl⟩
      subst hwq
      go_loopg [11] x.l.length (fun d i wz => L2 wq w.heap.size w5.heap.size x a c x.l.length va vc d i wz)
      case atStart => exact HL2.out
      case round =>
        obtain ⟨⟨k, hd, rfl⟩, hb, ht, hrow⟩ := hrel
        have HD := Lib.hid hd
        have HBW := Lib.hid hb
        have HT := Lib.hid ht
        have HROW := Lib.hid hrow
        have hkl : k ≤ x.l.length := by omega
        have s2 : wr.cell? ⟨w5.heap.size, 2, none⟩ = some (.slice va x.l.length vc) := ht.cell 2
        by_cases hlt : k < x.l.length
        · obtain ⟨g, cs, rfl, hg, hl, hls⟩ := hrow (by omega)
          have hc0 : wr.cell? ⟨g, k, none⟩ = some (cs[k]'(by omega)) := by rw [hl.cell]; exact Array.getElem?_eq_getElem (by omega)
          have hf0 := hl.free k
          generalize cs[k]'(by omega) = cv at hc0
          have hgx : g ≠ w5.heap.size := fun e => by rw [e] at hl; exact absurd (Box.same hl ht) (by decide)
          have HE := Lib.hid (show L2 wq w.heap.size w5.heap.size x a c x.l.length (some ⟨g, 0, none⟩) vc (x.l.length - (k + 1)) (.int .i64 ((k : Int) + 1)) (wr.setCell ⟨g, k, none⟩ (.int .i64 9)) from
            ⟨⟨k + 1, by omega, rfl⟩, hb.setCell (p := ⟨g, k, none⟩) hg _, ht.far hgx _, fun _ => ⟨g, _, rfl, hg, hl.put k _, by simpa using hls⟩⟩)
          clear hd hb ht hrow hl hls hgx
          go_wp2_with fail
          go_roundg (x.l.length - (k + 1))
          case measure => have := HD.out; omega
          case rel => exact HE.out
        · have HP2 := Lib.hid (HP.out.below hb)
          have HX2 := Lib.hid (HX.out.below hb HX.out.lt)
          have HB2 := Lib.hid (show Below w.heap.size w wr from ((HKH.out.trans (KG.of_below hb (Nat.le_refl _) : KH W0.heap.size wq wr)).below (Nat.le_refl _) |> fun q => HB0.out.trans (q.mono HB0.out.size)))
          have HG2 : Hid (Calls Try.prog 19 #[.pointer (some ⟨W0.heap.size, 0, none⟩), .int .i64 1] wr (GetP ⟨x.tag, x.n, List.replicate x.l.length 0⟩ wr)) := Lib.hid (get_ok (k := 1) wr HP2.out rfl)
          clear hd hb ht hrow
          go_wp2_with fail
          with_reducible refine HG2.out.mono ?_
          rintro e w7 ⟨vb, vd, rfl, ho7, hb7⟩
          simp only [List.length_replicate]
          obtain ⟨W8, hW8⟩ : ∃ W8, w7.alloc (.cells #[.int .i64 x.tag, .int .i64 x.n, .slice vb x.l.length vd] TN) = W8 := ⟨_, rfl⟩
          have hb8 : Below w7.heap.size w7 W8 := by rw [← hW8]; exact (Below.refl w7.heap.size w7).alloc (Nat.le_refl _) _
          have hx8 : Box W8 w7.heap.size TN #[.int .i64 x.tag, .int .i64 x.n, .slice vb x.l.length vd] := by rw [← hW8]; exact Box.new _ _ _
          have HB8 := Lib.hid (HB2.out.trans ((hb7.trans (hb8.mono hb7.size)).mono HB2.out.size))
          have HX8 := Lib.hid ((HX2.out.below hb7 HX2.out.lt).below hb8 (by have := HX2.out.lt; have := hb7.size; omega))
          have HY8 := Lib.hid hx8
          have ho7' : w7.ownsRow wr.heap.size TI 1 (.slice vb x.l.length vd) x.l.length (List.replicate x.l.length (.int .i64 0)) := by
            have := ho7
            unfold OwnI at this
            simpa using this
          have HR8 := Lib.hid (show ∀ i, i < x.l.length → ∃ g, vb = some ⟨g, 0, none⟩ ∧ W8.cell? ⟨g, i, none⟩ = some (.int .i64 0) from fun i hi => by
            obtain ⟨g, rfl, _, hg2, _, hc⟩ := own_at ho7' (by omega)
            refine ⟨g, rfl, ?_⟩
            rw [hb8.cell (p := ⟨g, i, none⟩) hg2, hc i (by omega), List.getElem?_replicate, if_pos hi])
          clear ho7'
          clear ho7 hb7 hb8 hx8 hlt s2
          go_wp2_with fail
          clear hW8
          go_loopg [14] x.l.length (fun d i wz => (∃ k : Nat, k + d = x.l.length ∧ i = .int .i64 k) ∧ W8 = wz)
          case atStart => exact ⟨⟨0, by omega, rfl⟩, rfl⟩
          case round =>
            obtain ⟨⟨k, hd, rfl⟩, rfl⟩ := hrel
            have HD3 := Lib.hid hd
            have hkl3 : k ≤ x.l.length := by omega
            have r2 : W8.cell? ⟨w7.heap.size, 2, none⟩ = some (.slice vb x.l.length vd) := HY8.out.cell 2
            clear hd
            by_cases hlt : k < x.l.length
            · obtain ⟨g, rfl, hc⟩ := HR8.out k hlt
              go_wp2_with fail
              go_roundg (x.l.length - (k + 1))
              case measure => have := HD3.out; omega
              case rel => exact ⟨⟨k + 1, by omega, rfl⟩, rfl⟩
            · have r1 : W8.cell? ⟨w7.heap.size, 1, none⟩ = some (.int .i64 x.n) := HY8.out.cell 1
              have p0 : W8.cell? ⟨w.heap.size, 0, none⟩ = some (.int .i64 x.tag) := HX8.out.cell 0
              have p1 : W8.cell? ⟨w.heap.size, 1, none⟩ = some (.int .i64 x.n) := HX8.out.cell 1
              have p2 : W8.cell? ⟨w.heap.size, 2, none⟩ = some (.slice a x.l.length c) := HX8.out.cell 2
              have HN1 := Lib.hid (alloc_nil (x := x) (a := a) (c := c) W8)
              go_wp2_with fail
              with_reducible refine HN1.out.mono ?_
              rintro e w9 ⟨rfl, hb9⟩
              have HX9 := Lib.hid (HX8.out.below hb9 HX8.out.lt)
              have HY9 := Lib.hid (HY8.out.below hb9 HY8.out.lt)
              have HB9 := Lib.hid (HB8.out.trans (hb9.mono HB8.out.size))
              have p2 : w9.cell? ⟨w.heap.size, 2, none⟩ = some (.slice a x.l.length c) := HX9.out.cell 2
              have HN2 := Lib.hid (collect_nil (a := a) (c := c) (n := x.l.length) w9)
              clear hb9
              go_wp2_with fail
              with_reducible refine HN2.out.mono ?_
              rintro e w10 ⟨rfl, hb10⟩
              have HX10 := Lib.hid (HX9.out.below hb10 HX9.out.lt)
              have HY10 := Lib.hid (HY9.out.below hb10 HY9.out.lt)
              have HB10 := Lib.hid (HB9.out.trans (hb10.mono HB9.out.size))
              have HN3 := Lib.hid (get_nil w10)
              clear hb10
              go_wp2_with fail
              with_reducible refine HN3.out.mono ?_
              rintro e w11 ⟨rfl, hb11⟩
              have hb12 : Below w11.heap.size w11 (w11.alloc (.cells #[.int .i64 0, .int .i64 0, .slice none 0 0] TN)) := (Below.refl w11.heap.size w11).alloc (Nat.le_refl _) _
              have hx12 := (HX10.out.below hb11 HX10.out.lt).below hb12 (by have := HX10.out.lt; have := hb11.size; omega)
              have hy12 := (HY10.out.below hb11 HY10.out.lt).below hb12 (by have := HY10.out.lt; have := hb11.size; omega)
              have HX12 := Lib.hid hx12
              have HB12 := Lib.hid (HB10.out.trans ((hb11.trans (hb12.mono hb11.size)).mono HB10.out.size))
              have r2 : (w11.alloc (.cells #[.int .i64 0, .int .i64 0, .slice none 0 0] TN)).cell? ⟨w7.heap.size, 2, none⟩ = some (.slice vb x.l.length vd) := hy12.cell 2
              have r1 : (w11.alloc (.cells #[.int .i64 0, .int .i64 0, .slice none 0 0] TN)).cell? ⟨w7.heap.size, 1, none⟩ = some (.int .i64 x.n) := hy12.cell 1
              have p0 : (w11.alloc (.cells #[.int .i64 0, .int .i64 0, .slice none 0 0] TN)).cell? ⟨w.heap.size, 0, none⟩ = some (.int .i64 x.tag) := hx12.cell 0
              have p1 : (w11.alloc (.cells #[.int .i64 0, .int .i64 0, .slice none 0 0] TN)).cell? ⟨w.heap.size, 1, none⟩ = some (.int .i64 x.n) := hx12.cell 1
              have p2 : (w11.alloc (.cells #[.int .i64 0, .int .i64 0, .slice none 0 0] TN)).cell? ⟨w.heap.size, 2, none⟩ = some (.slice a x.l.length c) := hx12.cell 2
              have HN4 := Lib.hid (set_nil (x := x) (p := 0) (a := a) (c := c) (w11.alloc (.cells #[.int .i64 0, .int .i64 0, .slice none 0 0] TN)))
              clear hb11 hb12 hx12 hy12
              go_wp2_with fail
              with_reducible refine HN4.out.mono ?_
              rintro e w13 ⟨rfl, hb13⟩
              have HB13 := Lib.hid (HB12.out.trans (hb13.mono HB12.out.size))
              have HN5 := Lib.hid (live_nil w13)
              clear hb13
              go_wp2_with fail
              with_reducible refine HN5.out.mono ?_
              rintro e w14 ⟨rfl, hb14⟩
              have HB14 := Lib.hid (HB13.out.trans (hb14.mono HB13.out.size))
              have HN6 := Lib.hid (cap_nil w14)
              clear hb14
              go_wp2_with fail
              with_reducible refine HN6.out.mono ?_
              rintro e w15 ⟨rfl, hb15⟩
              have HB15 := Lib.hid (HB14.out.trans (hb15.mono HB14.out.size))
              have HN7 := Lib.hid (allocs_nil w15)
              clear hb15
              go_wp2_with fail
              with_reducible refine HN7.out.mono ?_
              rintro e w16 ⟨rfl, hb16⟩
              have HB16 := Lib.hid (HB15.out.trans (hb16.mono HB15.out.size))
              clear hb16
              go_wp2_with fail
              refine (HKN.out _).mono ?_
              rintro e w17 ⟨rfl, hb17⟩
              have HB17 := Lib.hid (HB16.out.trans (hb17.mono HB16.out.size))
              clear hb17
              go_wp2_with fail
              go_ret
              exact ⟨rfl, HB17.out⟩
end Go.Proofs.Ytbkklnihgejeoaa.HeapOwn
