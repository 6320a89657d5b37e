/-
  CONTRACTS of the document's own layer lex: its tokens.
-/
import Derived.Test.YtigidagcpjmjnaaLexRefG
namespace Go.Proofs.Ytigidagcpjmjnaa.Lx
open Go.RowKit Pl Ar Dg Pa
set_option linter.unusedVariables false
set_option linter.unusedSimpArgs false
/-- the memory of the walk -/
structure FM (B : Nat) (w wr : World) : Prop where
  r0 : wr.cell? ⟨B, 0, none⟩ = some (.int .i64 0)
  r1 : wr.cell? ⟨B, 1, none⟩ = some (.int .i64 0)
  r2 : wr.cell? ⟨B, 2, none⟩ = some (.int .i64 0)
  fr : ∀ j, wr.frozen? ⟨B, j, none⟩ = false
  be : Below B w wr
  sz : B + 1 ≤ wr.heap.size
theorem FM.below {B : Nat} {w wr w2 : World} (h : FM B w wr) (hb : Below wr.heap.size wr w2) : FM B w w2 := by
  have hz : B < wr.heap.size := h.sz
  refine ⟨(hb.cell (p := ⟨B, 0, none⟩) hz).trans h.r0, (hb.cell (p := ⟨B, 1, none⟩) hz).trans h.r1, (hb.cell (p := ⟨B, 2, none⟩) hz).trans h.r2, fun j => (hb.frozen (p := ⟨B, j, none⟩) hz).trans (h.fr j), h.be.trans (hb.mono (by omega)), ?_⟩
  have := hb.size
  omega
theorem fm_start (w : World) : FM w.heap.size w (w.alloc (.cells #[.int .i64 0, .int .i64 0, .int .i64 0] 27)) := by
  constructor
  · simp [go_sem]
  · simp [go_sem]
  · simp [go_sem]
  · intro j; simp [go_sem]
  · exact (Below.refl _ w).alloc (Nat.le_refl _) _
  · simp
theorem len_is {s : ByteArray} {n : Nat} (h0 : 0 < s.size) (hs : s.size ≤ 1000000000) (h : lenOf s.data.toList = n) (w : World) : Calls Try.prog 23 #[.string s] w fun e w' => e = .returned (.int .i64 n) ∧ w = w' := by
  have g := length_any s h0 hs w
  unfold LenPost at g
  rw [h] at g
  exact g
theorem blank_is {s : ByteArray} {n : Nat} (hs : s.size ≤ 1000000000) (h : bl false s.data.toList = n) (w : World) : Calls Try.prog 22 #[.string s] w fun e w' => e = .returned (.int .i64 n) ∧ w = w' := by
  have g := blank_any s hs w
  rw [h] at g
  exact g
theorem place_is {s : ByteArray} {k : Nat} {ln col : Int} (hk : k ≤ s.size) (hs : s.size ≤ 1000000000) (h : plF (1, 1) (s.data.toList.take k) = (ln, col)) (w : World) : Calls Try.prog 24 #[.string s, .int .i64 k] w fun e w' => e = .returned (posV ln col) ∧ Below w.heap.size w w' := by
  have g := place_any s k hk hs w
  rw [h] at g
  exact g
theorem len_err {l : List UInt8} (h : lenOf l = 0) (h1 : ¬ hcls l = 1) : fErr l = 20 := by
  unfold lenOf at h
  unfold fErr
  by_cases hc : hcls l = 0 ∨ hcls l = 1 ∨ hcls l = 5
  · rw [if_pos (by omega)]
  · rw [if_neg hc] at h
    unfold endLen at h
    omega
theorem len_ok {l : List UInt8} {n : Nat} (h : lenOf l = n) (h0 : 0 < n) : ¬ hcls l = 0 ∧ ¬ hcls l = 1 ∧ ¬ hcls l = 5 ∧ n = endLen l (hcls l) := by
  unfold lenOf at h
  by_cases hc : hcls l = 0 ∨ hcls l = 1 ∨ hcls l = 5
  · rw [if_pos hc] at h; omega
  · rw [if_neg hc] at h
    exact ⟨by omega, by omega, by omega, h.symm⟩
theorem hcls_rng (l : List UInt8) : hcls l = 0 ∨ hcls l = 1 ∨ hcls l = 2 ∨ hcls l = 3 ∨ hcls l = 4 ∨ hcls l = 5 ∨ hcls l = 6 ∨ hcls l = 7 := by
  cases l with
  | nil => exact .inr (.inl rfl)
  | cons c r => exact cls_cases c.toNat
theorem fErr_rerr {l : List UInt8} (h0 : ¬ hcls l = 0) (h5 : ¬ hcls l = 5) : rerr (fText l) (hcls l) = fErr l := by
  unfold rerr fErr
  rw [if_neg (by omega : ¬ (hcls l = 0 ∨ hcls l = 5))]
theorem hcls_text {l : List UInt8} (h : l ≠ []) : hcls (fText l) = hcls l := by
  cases l with
  | nil => exact absurd rfl h
  | cons c r => unfold fText endLen; rw [Nat.add_comm, List.take_succ_cons]; rfl
theorem owns_base1 {w : World} {B : Nat} {v : Value} {acc : List Tok} (h : OwnsT w (B + 1) v acc) : OwnsT w B v acc := by
  refine ⟨h.1, ?_⟩
  rcases h.2 with h2 | ⟨g, cap, cur, hv, hg, r⟩
  · exact Or.inl h2
  · exact Or.inr ⟨g, cap, cur, hv, by omega, r⟩
theorem fm_grown {B : Nat} {w Y w4 : World} {a5 : Option Addr} {n5 c5 : Nat} {acc : List Tok} {o : Obj} (h : FM B w Y) (ho : OwnsT Y (B + 1) (.slice a5 n5 c5) acc)
    (hg : (Y.alloc o).grownBy w4 (Value.ownBlock (.slice a5 n5 c5))) : FM B w w4 := by
  have hz : B < Y.heap.size := h.sz
  have hne : some B ≠ Value.ownBlock (.slice a5 n5 c5) := fun e => by
    have := (ho.lt B e.symm).1
    omega
  have c : ∀ j v, Y.cell? ⟨B, j, none⟩ = some v → w4.cell? ⟨B, j, none⟩ = some v := fun j v hv => by
    refine hg.cell ?_ hne
    rw [World.cell?_alloc_past _ _ _ (by show B < _; omega)]
    exact hv
  have hs := hg.size
  refine ⟨c _ _ h.r0, c _ _ h.r1, c _ _ h.r2, fun j => ?_, ?_, ?_⟩
  · rw [World.frozen?_of_block (w := Y.alloc o) (hg.block B (by simp; omega) hne)]
    rw [World.frozen?_alloc_past _ _ _ (by show B < _; omega)]
    exact h.fr j
  · exact (h.be.alloc (by omega) _).grown hg (by simp; omega) (fun j hj => by have := (ho.lt j hj).1; omega)
  · simp at hs; omega
theorem owns_tok {B : Nat} {w4 : World} {ln col : Int} {v' : Value} {acc : List Tok} {l : List UInt8} {fk fn : Int} {ft : ByteArray}
    (ho : w4.ownsRow (B + 1) 34 6 v' (acc.length + 1) (toksCells acc ++ [.int .i64 fk, .string ft, .int .i64 fn, .int .i64 ln, .int .i64 col, .bool false])) (hk : fKind l = fk) (ht : (⟨(fText l).toArray⟩ : ByteArray) = ft) (hn : fNum l = fn) :
    OwnsT w4 (B + 1) v' (acc ++ [⟨fKind l, fText l, fNum l, ln, col⟩]) := by
  have e : toksCells (acc ++ [⟨fKind l, fText l, fNum l, ln, col⟩]) = toksCells acc ++ [.int .i64 fk, .string ft, .int .i64 fn, .int .i64 ln, .int .i64 col, .bool false] := by
    unfold toksCells
    rw [List.flatMap_append, ← hk, ← ht, ← hn]; rfl
  unfold OwnsT
  rw [e, List.length_append]
  exact ho
theorem news1 (Y : World) (v0 v1 v2 v3 v4 v5 : Value) (b : Nat) (hb : Y.heap.size = b) : ∀ (j : Nat) u, [v0, v1, v2, v3, v4, v5][j]? = some u → (Y.alloc (.cells #[v0, v1, v2, v3, v4, v5] 34)).cell? ((⟨b, 0, none⟩ : Addr).add j) = some u := by
  subst hb
  intro j u hj
  have e : ((⟨Y.heap.size, 0, none⟩ : Addr).add j) = ⟨Y.heap.size, j, none⟩ := by
    simp [Addr.add]
    try (intro e; exact e.symm)
  rw [e, World.cell?_alloc_at _ _ _ _ rfl]
  simpa using hj
theorem kind_same {l : List UInt8} : fKind l = rk (fText l) (hcls l) := rfl
theorem rtokens_long (s : ByteArray) (hs : s.size ≤ 9223372036854775807) (h : 8192 < s.size) (w : World) : Calls Try.prog 10 #[.string s] w (TokensPost s.data.toList w) := by
  have HF := Lib.hid (show lexed s.data.toList = ⟨[], 2, 1, 1⟩ by unfold lexed; rw [if_pos (by rw [← Lib.size_eq]; exact h)])
  have h' : ¬ (s.size : Int) ≤ 8192 := by omega
  have h'' : (8192 : Int) < s.size := by omega
  go_enter Try.func10, Try.ntmps10
  go_wp2
  go_returns
  exact tokensPost HF.out (toksNil _ _) (by go_grown)
set_option maxRecDepth 100000 in
set_option maxHeartbeats 4000000 in
theorem rtokens_fine (s : ByteArray) (h : s.size ≤ 8192) (w : World) : Calls Try.prog 10 #[.string s] w (TokensPost s.data.toList w) := by
  obtain ⟨B, hB⟩ : ∃ B, w.heap.size = B := ⟨_, rfl⟩
  obtain ⟨i0, hi, hz0, hz1, hz2'⟩ := info_parts Ttok
  obtain ⟨b0, hb0⟩ : ∃ n, bl false s.data.toList = n := ⟨_, rfl⟩
  obtain ⟨ln0, col0, hat0⟩ := at2_start (l := s.data.toList) (by rw [← Lib.size_eq]; exact h)
  rw [hb0] at hat0
  have HB0 := Lib.hid hb0
  have HA0 := Lib.hid hat0
  have hb0s : b0 ≤ s.size := by have := hat0.le; rw [← Lib.size_eq] at this; exact this
  clear hb0 hat0
  go_enter Try.func10, Try.ntmps10
  go_wp2_with fail
  refine (blank_is (by omega) HB0.out _).mono ?_
  rintro e w' ⟨rfl, rfl⟩
  go_wp2_with fail
  have HB := Lib.hid hB
  clear hB
  go_loopg [4, 5] (s.size - b0) (fun j v i wr => ∃ (k : Nat) (ln col : Int) (acc : List Tok), j + k = s.size ∧ i = .int .i64 k ∧ At2 s.data.toList k ln col acc ∧ FM B w wr ∧ OwnsT wr (B + 1) v acc)
  case atStart => exact ⟨b0, ln0, col0, [], by omega, rfl, HA0.out, by rw [← HB.out]; exact fm_start w, toksNil _ _⟩
  case round =>
    clear hb0s
    obtain ⟨k, ln, col, acc, hk, rfl, hat, hmem, hown⟩ := hrel
    have HK := Lib.hid hk
    have HAt := Lib.hid hat
    have HMem := Lib.hid hmem
    have HOwn := Lib.hid hown
    have hle : k ≤ s.size := by omega
    clear hk hat hmem hown
    by_cases hlt : k < s.size
    · obtain ⟨D, hD⟩ : ∃ D, s.extract k s.size = D := ⟨_, rfl⟩
      have hd : D.data.toList = s.data.toList.drop k := by rw [← hD, Lib.extract_to_end]
      have hds : D.size = s.size - k := by rw [← hD]; simp
      have hltl : k < s.data.toList.length := by rw [← Lib.size_eq]; exact hlt
      have hg0 := HAt.out.no
      rw [← hd] at hg0
      have hD0 : 0 < D.size := by omega
      have hnc := hcls_no (l := D.data.toList) (by rw [← Lib.size_eq]; exact hD0) hg0
      obtain ⟨n, hn⟩ : ∃ n, lenOf D.data.toList = n := ⟨_, rfl⟩
      have HD := Lib.hid hD
      have Hd := Lib.hid hd
      have HN := Lib.hid hn
      have hdl : D.size ≤ 8192 := by omega
      have HDS := Lib.hid hds
      have HNC := Lib.hid hnc
      clear hD hd hn hds hg0 hnc
      have r0 := HMem.out.r0
      have r1 := HMem.out.r1
      have r2 := HMem.out.r2
      have hpl := HAt.out.pl
      have HPL := Lib.hid hpl
      clear hpl
      go_wp2_with fail
      rw [HD.out]
      refine (len_is hD0 (by omega) HN.out _).mono ?_
      rintro e w' ⟨rfl, rfl⟩
      by_cases hn0 : n = 0
      · have HF := Lib.hid (at_err (f := 20) HAt.out.at_ hltl HAt.out.no (by rw [← Hd.out]; exact len_err (by rw [HN.out]; exact hn0) HNC.out) (by decide))
        have hn0' : ((n : Int) == 0) = true := beq_iff_eq.2 (by omega)
        clear hn0 r0 r1 r2
        go_wp2_with fail
        refine (place_is hle (by omega) HPL.out _).mono ?_
        rintro e w2 ⟨rfl, hb2⟩
        have hM := HMem.out.below hb2
        have hzB : B < w2.heap.size := hM.sz
        have e0 := hM.fr 0
        have e1 := hM.fr 1
        have e2 := hM.fr 2
        have z0 := hM.r0
        have z1 := hM.r1
        have z2 := hM.r2
        obtain ⟨q0, q1, q2⟩ := setFault z0 z1 z2
        have Q0 := Lib.hid q0
        have Q1 := Lib.hid q1
        have Q2 := Lib.hid q2
        have HBW := Lib.hid hM.be
        clear q0 q1 q2 hM hb2
        go_wp2_with fail
        try go_region
        go_wp2
        (try rw [Exit.noGoto_ret])
        refine bodyPost_ret (by simp [results, Try.results10, go_sem, hzB, Q0.out, Q1.out, Q2.out]; try rfl) rfl ?_
        have hbw := HBW.out
        refine tokensPost HF.out (toksNil _ _) ?_
        rw [HB.out]
        go_grown
      · have hn0' : ((n : Int) == 0) = false := beq_eq_false_iff_ne.2 (by omega)
        obtain ⟨c, hc⟩ : ∃ c, hcls D.data.toList = c := ⟨_, rfl⟩
        obtain ⟨c0, c1, c5, hen⟩ := len_ok HN.out (by omega)
        have hfl := (endLen_le (hcls D.data.toList) (l := D.data.toList) (by rw [← Lib.size_eq]; exact hD0)).1
        rw [← hen, ← Lib.size_eq] at hfl
        have hc7 := hcls_rng D.data.toList
        obtain ⟨S, hS⟩ : ∃ S, s.extract k (k + n) = S := ⟨_, rfl⟩
        have hSd : S.data.toList = fText D.data.toList := by
          rw [← hS, Lib.extract_data, show k + n - k = n by omega, Hd.out.symm]
          unfold fText
          rw [← hen]
        have hkn : k + n ≤ s.size := by have := HDS.out; omega
        have hSs : S.size = n := by rw [← hS]; simp; omega
        have hS0 : 0 < S.size := by omega
        have hfe := fErr_rerr c0 c5
        rw [← hSd] at hfe
        have hcS : cls S[0].toNat = c := by
          rw [← hcls_get hS0, hSd, hcls_text (fun e => by have h0 := hD0; rw [Lib.size_eq, e] at h0; exact absurd h0 (by decide))]; exact hc
        rw [hc] at c0 c1 c5 hc7 hfe
        have hc' : c = 2 ∨ c = 3 ∨ c = 4 ∨ c = 6 ∨ c = 7 := by omega
        obtain ⟨f, hf⟩ : ∃ f, fErr D.data.toList = f := ⟨_, rfl⟩
        rw [hf] at hfe
        have HS := Lib.hid hS
        have HSd := Lib.hid hSd
        have HSs := Lib.hid hSs
        have HFE := Lib.hid hfe
        have HCS := Lib.hid hcS
        have HC' := Lib.hid hc'
        have HC := Lib.hid hc
        have HFf := Lib.hid hf
        have hSl : S.size ≤ 1000000000 := by omega
        clear hS hSd hSs hfe hcS hc' hc hf hen c0 c1 c5 hc7
        obtain ⟨a5, cp5, rfl⟩ := owns_form HOwn.out
        have hacc := HAt.out.at_.len
        clear r0 r1 r2
        have wqa : IntKind.i64.wrap ((k : Int) + (n : Int)) = (k : Int) + (n : Int) := IntWalk.i64_in _ (by omega)
        have wqb : (0 : Int) ≤ (k : Int) + (n : Int) := by omega
        have wqc : ((k : Int) + (n : Int)).toNat = k + n := by omega
        have wqd : (k : Int) ≤ (k : Int) + (n : Int) := by omega
        have wqe : (k : Int) + (n : Int) ≤ (s.size : Int) := by omega
        have wqf : k ≤ k + n := by omega
        go_wp2_with fail
        rw [HS.out]
        refine (fault_any S hS0 hSl HC'.out HCS.out HFE.out _).mono ?_
        rintro e w1 ⟨rfl, hb1⟩
        have hM1 := HMem.out.below hb1
        have HM1 := Lib.hid hM1
        have HO1 := Lib.hid (owns_below HOwn.out hb1)
        clear hM1 hb1
        by_cases hf0 : f = 0
        · subst hf0
          by_cases hfull : acc.length = 2048
          · have hfl : ((acc.length : Int) == 2048) = true := beq_iff_eq.2 (by omega)
            have HF := Lib.hid (at_full HAt.out.at_ hltl HAt.out.no (by rw [← Hd.out]; exact HFf.out) hfull)
            clear hfull
            go_wp2_with fail
            refine (place_is hle (by omega) HPL.out _).mono ?_
            rintro e w2 ⟨rfl, hb2⟩
            have hM := HM1.out.below hb2
            have hzB : B < w2.heap.size := hM.sz
            have e0 := hM.fr 0
            have e1 := hM.fr 1
            have e2 := hM.fr 2
            have z0 := hM.r0
            have z1 := hM.r1
            have z2 := hM.r2
            obtain ⟨q0, q1, q2⟩ := setFault z0 z1 z2
            have Q0 := Lib.hid q0
            have Q1 := Lib.hid q1
            have Q2 := Lib.hid q2
            have HBW := Lib.hid hM.be
            clear q0 q1 q2 hM hb2
            go_wp2_with fail
            try go_region
            go_wp2
            (try rw [Exit.noGoto_ret])
            refine bodyPost_ret (by simp [results, Try.results10, go_sem, hzB, Q0.out, Q1.out, Q2.out]; try rfl) rfl ?_
            have hbw := HBW.out
            refine tokensPost HF.out (toksNil _ _) ?_
            rw [HB.out]
            go_grown
          · have hfl : ((acc.length : Int) == 2048) = false := beq_eq_false_iff_ne.2 (by omega)
            obtain ⟨fk, hfk⟩ : ∃ x, rk S.data.toList c = x := ⟨_, rfl⟩
            have HRK := Lib.hid hfk
            have HFU := Lib.hid hfull
            clear hfk hfull
            go_wp2_with fail
            refine (rkind_is hS0 hSl HC'.out HCS.out HRK.out _).mono ?_
            rintro e w2 ⟨rfl, hb2⟩
            have HM2 := Lib.hid (HM1.out.below hb2)
            have HO2 := Lib.hid (owns_below HO1.out hb2)
            clear hb2
            go_wp2_with fail
            refine (place_is hle (by omega) HPL.out _).mono ?_
            rintro e w3 ⟨rfl, hb3⟩
            have HM3 := Lib.hid (HM2.out.below hb3)
            have HO3 := Lib.hid (owns_below HO2.out hb3)
            clear hb3
            have hzB3 : B + 1 ≤ w3.heap.size := HM3.out.sz
            have HKD := Lib.hid (show fKind D.data.toList = fk by rw [kind_same, ← HSd.out, HC.out]; exact HRK.out)
            have HTD := Lib.hid (show (⟨(fText D.data.toList).toArray⟩ : ByteArray) = S from (is_text HSd.out).symm)
            by_cases hk4 : fk = 4
            · have d4 : (fk == 4) = true := beq_iff_eq.2 hk4
              have hc4 : c = 4 := by
                apply Classical.byContradiction
                intro h4
                exact rk_int h4 (HRK.out.trans hk4)
              obtain ⟨⟨nr, ne⟩, hnr⟩ : ∃ p, wholeOf S.data.toList = p := ⟨_, rfl⟩
              have HNR := Lib.hid hnr
              have HND := Lib.hid (show fNum D.data.toList = nr by unfold fNum; rw [HC.out, if_pos hc4, ← HSd.out, hnr])
              clear hk4 hc4 hnr
              go_wp2_with fail
              refine (number_any S (by omega) _).mono ?_
              rw [HNR.out]
              rintro e w4 ⟨rfl, m4, hw4⟩
              have hb4 : Below (w3.alloc (.cells #[.int .i64 fk, .string S, .int .i64 0, .int .i64 ln, .int .i64 col, .bool false] 34)).heap.size (w3.alloc (.cells #[.int .i64 fk, .string S, .int .i64 0, .int .i64 ln, .int .i64 col, .bool false] 34)) w4 := by rw [hw4]; exact belowN (Below.refl _ _) _
              have hz4 : w3.heap.size < w4.heap.size := by have := hb4.size; simp at this; omega
              have cz : ∀ j, w4.cell? ⟨w3.heap.size, j, none⟩ = #[Value.int .i64 fk, .string S, .int .i64 0, .int .i64 ln, .int .i64 col, .bool false][j]? := fun j => by
                rw [hb4.cell (p := ⟨w3.heap.size, j, none⟩) (by show w3.heap.size < _; simp), World.cell?_alloc_at _ _ _ _ rfl]
              have fz : w4.frozen? ⟨w3.heap.size, 2, none⟩ = false := by
                rw [hb4.frozen (p := ⟨w3.heap.size, 2, none⟩) (by show w3.heap.size < _; simp), World.frozen?_alloc_at _ _ _ _ rfl]
              have k2 : w4.cell? ⟨w3.heap.size, 2, none⟩ = some (.int .i64 0) := cz 2
              have y0 : (w4.setCell ⟨w3.heap.size, 2, none⟩ (.int .i64 nr)).cell? ⟨w3.heap.size, 0, none⟩ = some (.int .i64 fk) := by rw [World.cell?_setCell_other _ _ _ _ (by simp)]; exact cz 0
              have y1 : (w4.setCell ⟨w3.heap.size, 2, none⟩ (.int .i64 nr)).cell? ⟨w3.heap.size, 1, none⟩ = some (.string S) := by rw [World.cell?_setCell_other _ _ _ _ (by simp)]; exact cz 1
              have y2 : (w4.setCell ⟨w3.heap.size, 2, none⟩ (.int .i64 nr)).cell? ⟨w3.heap.size, 2, none⟩ = some (.int .i64 nr) := set_same k2
              have y3 : (w4.setCell ⟨w3.heap.size, 2, none⟩ (.int .i64 nr)).cell? ⟨w3.heap.size, 3, none⟩ = some (.int .i64 ln) := by rw [World.cell?_setCell_other _ _ _ _ (by simp)]; exact cz 3
              have y4 : (w4.setCell ⟨w3.heap.size, 2, none⟩ (.int .i64 nr)).cell? ⟨w3.heap.size, 4, none⟩ = some (.int .i64 col) := by rw [World.cell?_setCell_other _ _ _ _ (by simp)]; exact cz 4
              have y5 : (w4.setCell ⟨w3.heap.size, 2, none⟩ (.int .i64 nr)).cell? ⟨w3.heap.size, 5, none⟩ = some (.bool false) := by rw [World.cell?_setCell_other _ _ _ _ (by simp)]; exact cz 5
              have hbY : Below w3.heap.size w3 (w4.setCell ⟨w3.heap.size, 2, none⟩ (.int .i64 nr)) := (((Below.refl w3.heap.size w3).alloc (Nat.le_refl _) (.cells #[.int .i64 fk, .string S, .int .i64 0, .int .i64 ln, .int .i64 col, .bool false] 34)).trans (hb4.mono (by simp))).setCell (Nat.le_refl _) _
              have HMY := Lib.hid (HM3.out.below hbY)
              have HOY := Lib.hid (owns_below HO3.out hbY)
              clear hw4 hb4 cz hbY
              go_wp2_with (at_builtin; refine wpList_append_own _ rfl _ _ 22 rfl (B + 1) 34 i0 _ 6 56 Try.underlying22 hi hz0 hz1 hz2' rfl (by decide) _ _ _ rfl (HOY.out.alloc _) ⟨w4.heap.size, 0, none⟩ 1 1 [.int .i64 fk, .string S, .int .i64 nr, .int .i64 ln, .int .i64 col, .bool false] rfl rfl ?c1 ?c2 ?c3 ?c4 ?c5 ?_)
              case c1 => exact news1 _ _ _ _ _ _ _ _ (by simp)
              case c2 =>
                intro u hu
                simp only [List.mem_cons, List.not_mem_nil, or_false] at hu
                rcases hu with rfl | rfl | rfl | rfl | rfl | rfl <;> rfl
              case c3 => unfold maxLen; omega
              case c4 => omega
              case c5 => simp; omega
              intro v' w5 hown' hgrow _
              have HM5 := Lib.hid (fm_grown HMY.out HOY.out hgrow)
              have HO5 := Lib.hid (owns_tok (l := D.data.toList) hown' HKD.out HTD.out HND.out)
              clear hown' hgrow
              obtain ⟨E, hE⟩ : ∃ E, s.extract (k + n) s.size = E := ⟨_, rfl⟩
              have hEd : E.data.toList = s.data.toList.drop (k + n) := by rw [← hE, Lib.extract_to_end]
              obtain ⟨m, hm⟩ : ∃ m, bl false E.data.toList = m := ⟨_, rfl⟩
              have hml := bl_le false E.data.toList
              rw [hm, hEd, List.length_drop, ← Lib.size_eq] at hml
              have hEs : E.size = s.size - (k + n) := by rw [← hE]; simp
              obtain ⟨ln2, col2, hat2⟩ := at2_tok HAt.out hltl (by rw [← Hd.out]; exact HFf.out) HFU.out (n := n) (by rw [← Hd.out, ← HSd.out, ← Lib.size_eq]; exact HSs.out)
              rw [← hEd, hm, ← Hd.out] at hat2
              have HAT2 := Lib.hid hat2
              have HE := Lib.hid hE
              have HM := Lib.hid hm
              clear hE hEd hm hat2
              go_wp2_with fail
              rw [HE.out]
              refine (blank_is (by omega) HM.out _).mono ?_
              rintro e w' ⟨rfl, rfl⟩
              go_wp2
              go_roundg (s.size - (k + n + m))
              case measure => have := HK.out; omega
              case rel => exact ⟨k + n + m, ln2, col2, _, by omega, by go_num, HAT2.out, HM5.out, HO5.out⟩
            · have d4 : (fk == 4) = false := beq_eq_false_iff_ne.2 hk4
              have hc4 : ¬ c = 4 := by
                intro h4
                rw [h4] at HRK
                exact hk4 (HRK.out.symm.trans rfl)
              have HND := Lib.hid (show fNum D.data.toList = 0 by unfold fNum; rw [HC.out, if_neg hc4])
              have hbY : Below w3.heap.size w3 (w3.alloc (.cells #[.int .i64 fk, .string S, .int .i64 0, .int .i64 ln, .int .i64 col, .bool false] 34)) := (Below.refl w3.heap.size w3).alloc (Nat.le_refl _) (.cells #[.int .i64 fk, .string S, .int .i64 0, .int .i64 ln, .int .i64 col, .bool false] 34)
              have HMY := Lib.hid (HM3.out.below hbY)
              have HOY := Lib.hid (owns_below HO3.out hbY)
              clear hk4 hc4 hbY
              go_wp2_with (at_builtin; refine wpList_append_own _ rfl _ _ 22 rfl (B + 1) 34 i0 _ 6 56 Try.underlying22 hi hz0 hz1 hz2' rfl (by decide) _ _ _ rfl (HOY.out.alloc _) ⟨w3.heap.size + 1, 0, none⟩ 1 1 [.int .i64 fk, .string S, .int .i64 0, .int .i64 ln, .int .i64 col, .bool false] rfl rfl ?c1 ?c2 ?c3 ?c4 ?c5 ?_)
              case c1 => exact news1 _ _ _ _ _ _ _ _ (by simp)
              case c2 =>
                intro u hu
                simp only [List.mem_cons, List.not_mem_nil, or_false] at hu
                rcases hu with rfl | rfl | rfl | rfl | rfl | rfl <;> rfl
              case c3 => unfold maxLen; omega
              case c4 => omega
              case c5 => simp; omega
              intro v' w5 hown' hgrow _
              have HM5 := Lib.hid (fm_grown HMY.out HOY.out hgrow)
              have HO5 := Lib.hid (owns_tok (l := D.data.toList) hown' HKD.out HTD.out HND.out)
              clear hown' hgrow
              obtain ⟨E, hE⟩ : ∃ E, s.extract (k + n) s.size = E := ⟨_, rfl⟩
              have hEd : E.data.toList = s.data.toList.drop (k + n) := by rw [← hE, Lib.extract_to_end]
              obtain ⟨m, hm⟩ : ∃ m, bl false E.data.toList = m := ⟨_, rfl⟩
              have hml := bl_le false E.data.toList
              rw [hm, hEd, List.length_drop, ← Lib.size_eq] at hml
              have hEs : E.size = s.size - (k + n) := by rw [← hE]; simp
              obtain ⟨ln2, col2, hat2⟩ := at2_tok HAt.out hltl (by rw [← Hd.out]; exact HFf.out) HFU.out (n := n) (by rw [← Hd.out, ← HSd.out, ← Lib.size_eq]; exact HSs.out)
              rw [← hEd, hm, ← Hd.out] at hat2
              have HAT2 := Lib.hid hat2
              have HE := Lib.hid hE
              have HM := Lib.hid hm
              clear hE hEd hm hat2
              go_wp2_with fail
              rw [HE.out]
              refine (blank_is (by omega) HM.out _).mono ?_
              rintro e w' ⟨rfl, rfl⟩
              go_wp2
              go_roundg (s.size - (k + n + m))
              case measure => have := HK.out; omega
              case rel => exact ⟨k + n + m, ln2, col2, _, by omega, by go_num, HAT2.out, HM5.out, HO5.out⟩
        · have hf0' : (f == 0) = false := beq_eq_false_iff_ne.2 hf0
          have HF := Lib.hid (at_err (f := f) HAt.out.at_ hltl HAt.out.no (by rw [← Hd.out]; exact HFf.out) hf0)
          clear hf0
          go_wp2_with fail
          refine (place_is hle (by omega) HPL.out _).mono ?_
          rintro e w2 ⟨rfl, hb2⟩
          have hM := HM1.out.below hb2
          have hzB : B < w2.heap.size := hM.sz
          have e0 := hM.fr 0
          have e1 := hM.fr 1
          have e2 := hM.fr 2
          have z0 := hM.r0
          have z1 := hM.r1
          have z2 := hM.r2
          obtain ⟨q0, q1, q2⟩ := setFault z0 z1 z2
          have Q0 := Lib.hid q0
          have Q1 := Lib.hid q1
          have Q2 := Lib.hid q2
          have HBW := Lib.hid hM.be
          clear q0 q1 q2 hM hb2
          go_wp2_with fail
          try go_region
          go_wp2
          (try rw [Exit.noGoto_ret])
          refine bodyPost_ret (by simp [results, Try.results10, go_sem, hzB, Q0.out, Q1.out, Q2.out]; try rfl) rfl ?_
          have hbw := HBW.out
          refine tokensPost HF.out (toksNil _ _) ?_
          rw [HB.out]
          go_grown
    · have hke : k = s.size := by omega
      have HF := Lib.hid (at_end HAt.out.at_ (by rw [← Lib.size_eq]; omega))
      have z0 := HMem.out.r0
      have z1 := HMem.out.r1
      have z2 := HMem.out.r2
      have e0 := HMem.out.fr 0
      have e1 := HMem.out.fr 1
      have e2 := HMem.out.fr 2
      have hzB : B < wr.heap.size := HMem.out.sz
      obtain ⟨q0, q1, q2⟩ := setFault z0 z1 z2
      have Q0 := Lib.hid q0
      have Q1 := Lib.hid q1
      have Q2 := Lib.hid q2
      clear q0 q1 q2
      go_wp2
      (try rw [Exit.noGoto_ret])
      refine bodyPost_ret (by simp [results, Try.results10, go_sem, hzB, Q0.out, Q1.out, Q2.out]; try rfl) rfl ?_
      have hbw := HMem.out.be
      refine tokensPost HF.out ?_ ?_
      · rw [HB.out]
        exact owns_base1 (ownsRow_setCell_below (ownsRow_setCell_below (ownsRow_setCell_below HOwn.out (by show B < B + 1; omega) _) (by show B < B + 1; omega) _) (by show B < B + 1; omega) _)
      · rw [HB.out]
        go_grown
/-- the document's Tokens, WHATEVER THE SOURCE. -/
theorem rtokens_any (s : ByteArray) (hs : s.size ≤ 9223372036854775807) (w : World) : Calls Try.prog 10 #[.string s] w (TokensPost s.data.toList w) := by
  by_cases h : 8192 < s.size
  · exact rtokens_long s hs h w
  · exact rtokens_fine s (by omega) w
end Go.Proofs.Ytigidagcpjmjnaa.Lx
