/-
  CONTRACTS of layer unify: slices.Backward at changes: what was told, from the last of it on.
-/
import Derived.Test.YtcaioffdcbjbjaaGA
import Derived.Test.YtcaioffdcbjbjaaGX
import Derived.Stop.RegionWithIn
namespace Go.Proofs.Ytcaioffdcbjbjaa.Un
open Go.RowKit Go.Shelf Mm Tm Mk Go.Maps Go.ChangeMaps Go.MapKept Go.WideMaps Rg
set_option linter.unusedVariables false
set_option linter.unusedSimpArgs false
abbrev TChs : TypeId := 50
/-- a change: the variable, was something known of it, and what -/
abbrev CA := Int × Bool × Fact
abbrev caV (e : CA) : Value := .agg #[.int .i64 e.1, .bool e.2.1, .int .i64 e.2.2.kd, .int .i64 e.2.2.n, .string e.2.2.nm, .slice e.2.2.a e.2.2.args.len e.2.2.c, .int .i64 e.2.2.least, .int .i64 e.2.2.depth, .bool e.2.2.held]
abbrev caC (e : CA) : Array Value := #[.int .i64 e.1, .bool e.2.1, .int .i64 e.2.2.kd, .int .i64 e.2.2.n, .string e.2.2.nm, .slice e.2.2.a e.2.2.args.len e.2.2.c, .int .i64 e.2.2.least, .int .i64 e.2.2.depth, .bool e.2.2.held]
/-- the cells of the changes of a row -/
def RowK (w : World) (b : Option Addr) (es : List CA) : Prop := ∀ (i : Nat) (e : CA), es[i]? = some e → ∃ g, b = some ⟨g, 0, none⟩ ∧ ∀ j v, (caC e)[j]? = some v → w.cell? ⟨g, i * 9 + j, none⟩ = some v
theorem backC_any (b : Option Addr) (n c : Nat) (w : World) : Calls Try.prog 27 #[.slice b n c] w fun e w' => e = .returned (.func (.func 34) #[] #[.pointer (some ⟨w.heap.size, 0, none⟩)]) ∧ w' = w.alloc (.cells #[.slice b n c] TChs) := by
  go_enter Try.func27, Try.ntmps27
  go_wp2
  go_ret
  exact ⟨rfl, rfl⟩
attribute [local go_sem] Oper.semAt_some
abbrev encC {G : CA → Prop} (x : Int × { e : CA // G e }) : Array Value := #[.int .i64 x.1, caV x.2.1]
set_option maxRecDepth 100000 in
set_option maxHeartbeats 2000000 in
theorem backC_seq {n : Nat} (hn : 1 ≤ n) {X : World → Nat → Prop} {Bs c : Nat} {b : Option Addr} {G : CA → Prop} {es : List { e : CA // G e }} (w0 : World) (hBs : Box w0 Bs TChs #[.slice b es.length c]) (hc : RowK w0 b (es.map (·.1))) (hl : es.length * 96 ≤ 140737488355328)
    (hX : ∀ A k, k = Bs ∨ (es ≠ [] ∧ ∃ ad, b = some ad ∧ k = ad.block) → ¬ X A k) :
    Rg.Seq Try.prog n X 34 #[.pointer (some ⟨Bs, 0, none⟩)] encC (fun xs => xs.map (·.2) = es.reverse) (fun _ => True) es.length w0 := by
  intro l J Jx W hW hlo hlt hXl hJ hJx hY h0
  have hlen : es.length ≤ 140737488355328 := by omega
  have keep : ∀ {A C : World}, Rounds X l A C → Box A Bs TChs #[.slice b es.length c] → RowK A b (es.map (·.1)) → w0.heap.size ≤ A.heap.size → Box C Bs TChs #[.slice b es.length c] ∧ RowK C b (es.map (·.1)) := by
    intro A C hr hbx hrc hsz
    have hBl : Bs < w0.heap.size := hBs.lt
    refine ⟨hr.box hbx (fun e => e.elim (fun e => by omega) (hX A Bs (.inl rfl))), fun i e he => ?_⟩
    obtain ⟨g, e1, c0⟩ := hrc i e he
    have had : g < w0.heap.size := by
      obtain ⟨g', e1', c0'⟩ := hc i e he
      rw [e1] at e1'
      injection e1' with e1'
      injection e1' with e1'
      have := World.block_lt_of_cell? _ _ (c0' 0 _ rfl)
      rw [e1']
      exact this
    have hne : es ≠ [] := by rintro rfl; simp at he
    have hnx : ¬ (g = l ∨ X A g) := fun e => e.elim (fun q => by omega) (hX A g (.inr ⟨hne, _, e1, rfl⟩))
    exact ⟨g, e1, fun j v hj => hr.cell (c0 j v hj) hnx⟩
  have hB1 : Box W Bs TChs #[.slice b es.length c] := hBs.below hW hBs.lt
  have hC1 : RowK W b (es.map (·.1)) := fun i e he => by
    obtain ⟨g, e1, c0⟩ := hc i e he
    have had := World.block_lt_of_cell? _ _ (c0 0 _ rfl)
    exact ⟨g, e1, fun j v hj => (hW.cell (p := ⟨g, i * 9 + j, none⟩) had).trans (c0 j v hj)⟩
  refine callsIn_of_wp Try.func34 rfl trivial ?_ rfl
  simp only [Try.ntmps34, List.size_toArray, List.length_cons, List.length_nil, Nat.reduceAdd, Nat.reduceSub, Array.replicate_succ, Array.replicate_zero, List.push_toArray, List.append_toArray, List.nil_append, List.cons_append]
  have b0 : W.cell? ⟨Bs, 0, none⟩ = some (.slice b es.length c) := hB1.cell 0
  have hw1 : wrap64 ((es.length : Int) - 1) = (es.length : Int) - 1 := IntWalk.wrap64_in _ (by omega)
  gi_wp2
  gi_loopw [3] (fun i wr => ∃ (k : Nat) (pre : List (Int × { e : CA // G e })), k ≤ es.length ∧ i = .int .i64 ((k : Int) - 1) ∧ pre.map (·.2) = (es.drop k).reverse ∧ J pre wr ∧ Box wr Bs TChs #[.slice b es.length c] ∧ RowK wr b (es.map (·.1)) ∧ w0.heap.size ≤ wr.heap.size)
    (fun i _ => ((intOf i) + 1).toNat)
  case atStart => exact ⟨es.length, [], Nat.le_refl _, rfl, by simp, h0, hB1, hC1, hW.size⟩
  case round =>
    obtain ⟨k, pre, hk, rfl, hpre, hJs, hbx, hrc, hsz⟩ := hrel
    have b1 : wr.cell? ⟨Bs, 0, none⟩ = some (.slice b es.length c) := hbx.cell 0
    cases k with
    | zero =>
      have hneg : ¬ (0 : Int) ≤ ((0 : Nat) : Int) - 1 := by omega
      gi_wp2
      go_end0
      exact ⟨⟨_, rfl⟩, .inl ⟨pre, by rw [hpre, List.drop_zero], hJs⟩⟩
    | succ j =>
      have hi : (((j + 1 : Nat) : Int) - 1) = (j : Int) := by omega
      rw [hi]
      have hjl : j < es.length := by omega
      obtain ⟨e, he⟩ : ∃ e, es[j]? = some e := ⟨_, List.getElem?_eq_getElem hjl⟩
      obtain ⟨g, rfl, cc⟩ := hrc j e.1 (by rw [List.getElem?_map, he]; rfl)
      have c0 : wr.cell? ⟨g, j * 9, none⟩ = some (.int .i64 e.1.1) := cc 0 _ rfl
      have c1 : wr.cell? ⟨g, j * 9 + 1, none⟩ = some (.bool e.1.2.1) := cc 1 _ rfl
      have c2 : wr.cell? ⟨g, j * 9 + 2, none⟩ = some (.int .i64 e.1.2.2.kd) := cc 2 _ rfl
      have c3 : wr.cell? ⟨g, j * 9 + 3, none⟩ = some (.int .i64 e.1.2.2.n) := cc 3 _ rfl
      have c4 : wr.cell? ⟨g, j * 9 + 4, none⟩ = some (.string e.1.2.2.nm) := cc 4 _ rfl
      have c5 : wr.cell? ⟨g, j * 9 + 5, none⟩ = some (.slice e.1.2.2.a e.1.2.2.args.len e.1.2.2.c) := cc 5 _ rfl
      have c6 : wr.cell? ⟨g, j * 9 + 6, none⟩ = some (.int .i64 e.1.2.2.least) := cc 6 _ rfl
      have c7 : wr.cell? ⟨g, j * 9 + 7, none⟩ = some (.int .i64 e.1.2.2.depth) := cc 7 _ rfl
      have c8 : wr.cell? ⟨g, j * 9 + 8, none⟩ = some (.bool e.1.2.2.held) := cc 8 _ rfl
      have HNX := hY pre ((j : Int), e) wr hJs (by have := congrArg List.length hpre; simp at this; omega)
      obtain ⟨fn, tmps, assign, body, hy, hR⟩ := HNX
      have hge : (0 : Int) ≤ (j : Int) := by omega
      have hjl' : (j : Int) < es.length := by omega
      have hw2 : wrap64 ((j : Int) - 1) = (j : Int) - 1 := IntWalk.wrap64_in _ (by omega)
      have hd : (pre ++ [((j : Int), e)]).map (·.2) = (es.drop j).reverse := by
        rw [List.map_append, hpre, List.drop_eq_getElem_cons hjl, List.reverse_cons]
        rw [List.getElem?_eq_getElem hjl] at he
        injection he with he
        rw [he]
        rfl
      simp only [encC, caV] at hy
      clear cc
      gi_wp2
      refine hR.mono ?_
      rintro e3 W3 (⟨rfl, hJ3, hk3⟩ | ⟨rfl, hJx3, _⟩)
      · have hkk := keep hk3 hbx hrc hsz
        have hs3 := hk3.size
        gi_wp2
        go_roundw
        case rel => exact ⟨j, _, by omega, by first | rfl | (rw [hw2]), hd, hJ3, hkk.1, hkk.2, Nat.le_trans hsz hs3⟩
        case measure => simp [intOf]
      · gi_wp2
        refine bodyPost_ret (results_none rfl _ _ _) rfl ?_
        exact ⟨⟨_, rfl⟩, .inr ⟨_, trivial, hJx3⟩⟩
end Go.Proofs.Ytcaioffdcbjbjaa.Un
/-
  CONTRACT of layer unify: what was told in vain is taken back.
-/
namespace Go.Proofs.Ytcaioffdcbjbjaa.Un
open Go.RowKit Go.Shelf Mm Tm Mk Go.Maps Go.ChangeMaps Go.MapKept Go.WideMaps Rg
set_option linter.unusedVariables false
set_option linter.unusedSimpArgs false
attribute [local go_sem] Oper.semAt_some
/-- one change is taken back, as it lies in memory -/
def undoK1 (s : KS × Nat) (e : CA) : KS × Nat := ((fun y => if y = e.1 then (if e.2.1 then some e.2.2 else none) else s.1 y), if e.2.1 then (if (s.1 e.1).isSome then s.2 else s.2 + 1) else (if (s.1 e.1).isSome then s.2 - 1 else s.2))
inductive OldE (Z : Nat → Prop) (w : World) : List CA → List (Int × Option PF) → Prop where
  | nil : OldE Z w [] []
  | cons {e : CA} {x : Int × Option PF} {es : List CA} {l : List (Int × Option PF)} : e.1 = x.1 → e.2.1 = x.2.isSome → ChangeR Z w e.2.2 x.2 → OldE Z w es l → OldE Z w (e :: es) (x :: l)
theorem OldE.len {Z : Nat → Prop} {w : World} {es : List CA} {l : List (Int × Option PF)} (h : OldE Z w es l) : es.length = l.length := by
  induction h with
  | nil => rfl
  | cons _ _ _ _ ih => rw [List.length_cons, List.length_cons, ih]
theorem old_es {Z : Nat → Prop} {w : World} : ∀ (l : List (Int × Option PF)) (vs : List Value), OldR Z w vs l → ∃ es, OldE Z w es l ∧ ∀ i e, es[i]? = some e → ∀ j v, (caC e)[j]? = some v → vs[i * 9 + j]? = some v
  | [], vs, h => ⟨[], .nil, fun i e he => by simp at he⟩
  | x :: l, vs, ⟨g, r, h1, h2, h3⟩ => by
    obtain ⟨es, e1, e2⟩ := old_es l r h3
    refine ⟨(x.1, x.2.isSome, g) :: es, .cons rfl rfl h2 e1, fun i e he j v hj => ?_⟩
    subst h1
    cases i with
    | zero =>
      simp only [List.getElem?_cons_zero, Option.some.injEq] at he
      subst he
      rw [Nat.zero_mul, Nat.zero_add]
      have hj9 : j < 9 := by
        have := (Array.getElem?_eq_some_iff.1 hj).1
        simpa using this
      rw [List.getElem?_append_left (by simpa using hj9)]
      rw [Array.getElem?_toList.symm] at hj
      exact hj
    | succ i =>
      rw [List.getElem?_append_right (by simp; omega)]
      have := e2 i e (by simpa using he) j v hj
      rw [← this]
      congr 1
      simp
      omega
/-- what is known in memory, as it is told back -/
def KnE (Z : Nat → Prop) (w : World) (s : KS × Nat) (t : PS × Nat) : Prop := (∀ n, ErO Z w (s.1 n) (t.1 n)) ∧ s.2 = t.2
theorem KnE.step {Z : Nat → Prop} {w : World} {s : KS × Nat} {t : PS × Nat} {e : CA} {x : Int × Option PF} (h : KnE Z w s t) (h1 : e.1 = x.1) (h2 : e.2.1 = x.2.isSome) (h3 : ChangeR Z w e.2.2 x.2) : KnE Z w (undoK1 s e) (undo1 t x) := by
  refine ⟨fun n => ?_, ?_⟩
  · unfold undoK1 undo1
    simp only [h1]
    by_cases hn : n = x.1
    · rw [if_pos hn, hn, updP_same, h2]
      cases hx : x.2 with
      | none => trivial
      | some f => rw [hx] at h3; exact h3
    · rw [if_neg hn, updP_other _ _ hn]
      exact h.1 n
  · unfold undoK1 undo1
    simp only [h1, h2]
    rw [h.2, (h.1 x.1).some_iff]
theorem KnE.all {Z : Nat → Prop} {w : World} {s : KS × Nat} {t : PS × Nat} {es : List CA} {l : List (Int × Option PF)} (h : KnE Z w s t) (ho : OldE Z w es l) : KnE Z w (es.foldr (fun e q => undoK1 q e) s) (undoS t l) := by
  induction ho with
  | nil => exact h
  | cons h1 h2 h3 _ ih => exact ih.step h1 h2 h3
theorem map_putF {w : World} {m c : Nat} {K : KS} {n : Int} (g : Fact) (h : MapK w Try.prog TI m (storeF K) c) (hc : c < 300000000000) (hr : inI n = true) :
    ∃ w', (Instr.mapUpdate TMK (.map (some m)) (.int .i64 n) (factV g)).run Try.prog w = .ok () w' ∧ MapK w' Try.prog TI m (storeF (fun y => if y = n then some g else K y)) (if (K n).isSome then c else c + 1) ∧ w.grownBy w' (some m) := by
  obtain ⟨D, h1, h2, h3⟩ := h
  obtain ⟨w', hrun, u1, u2⟩ := World.ownsMap.update h1 keyI Try.underlying42 (by unfold maxLen; omega) (key_int (inI_iff.1 hr)) (show rawK (factV g) = some (.held (factV g), []) from rfl)
  have h4 := put_sizeK h1 keyI h2 (lit_int n) h3 (.held (factV g))
  have hm : MapK w' Try.prog TI m (updK (storeF K) (.int .i64 n) (factV g)) (cntPut (storeF K) (.int .i64 n) c) := ⟨_, by rw [← h4]; exact own_tight u1, put_isK h1.isMap h2 _ (lit_int n) (factV g), h4⟩
  refine ⟨w', hrun, ?_, u2⟩
  have e : cntPut (storeF K) (.int .i64 n) c = if (K n).isSome then c else c + 1 := cntPut_eq rfl
  rw [e] at hm
  exact hm.congr (storeF_upd K n g)
theorem storeF_del (K : KS) (n : Int) (s : Lit) : delK (storeF K) (.int .i64 n) s = storeF (fun y => if y = n then none else K y) s := by
  unfold delK
  by_cases h : s = .int .i64 n
  · subst h
    rw [if_pos rfl, storeF_int, if_pos rfl]
    rfl
  · rw [if_neg h]
    cases s <;> try rfl
    rename_i k x
    cases k <;> try rfl
    rw [storeF_int, storeF_int, if_neg (fun e => h (by rw [e]))]
theorem map_delF {w : World} {m c : Nat} {K : KS} {n : Int} (ty : TypeId) (h : MapK w Try.prog TI m (storeF K) c) (hr : inI n = true) :
    ∃ w', (Builtin.delete_ #[TMK, TI] ty #[.map (some m), .int .i64 n]).run Try.prog w = .ok (.tuple #[]) w' ∧ MapK w' Try.prog TI m (storeF (fun y => if y = n then none else K y)) (if (K n).isSome then c - 1 else c) ∧ w.grownBy w' (some m) := by
  obtain ⟨D, h1, h2, h3⟩ := h
  obtain ⟨w', hrun, u1, u2⟩ := h1.drop keyI Try.underlying42 (key_int (inI_iff.1 hr)) ty
  have h4 := del_sizeK h1 keyI h2 (lit_int n) h3
  have hm : MapK w' Try.prog TI m (delK (storeF K) (.int .i64 n)) (cntDel (storeF K) (.int .i64 n) c) := ⟨_, by rw [← h4]; exact own_tight u1, del_isK h2 _, h4⟩
  refine ⟨w', hrun, ?_, (turned_same u2).1⟩
  have e : cntDel (storeF K) (.int .i64 n) c = if (K n).isSome then c - 1 else c := by unfold cntDel; rw [storeF_int, Option.isSome_map]
  rw [e] at hm
  exact hm.congr (storeF_del K n)
end Go.Proofs.Ytcaioffdcbjbjaa.Un
/-
  CONTRACTS of layer unify: what a round of 'undo' does to what is known.
-/
namespace Go.Proofs.Ytcaioffdcbjbjaa.Un
open Go.RowKit Go.Shelf Mm Tm Mk Go.Maps Go.ChangeMaps Go.MapKept Go.WideMaps Rg
set_option linter.unusedVariables false
set_option linter.unusedSimpArgs false
attribute [local go_sem] Oper.semAt_some
abbrev TPMg : TypeId := 47
set_option maxRecDepth 100000 in
set_option maxHeartbeats 8000000 in
theorem del_round {n l2 pb Bx mk s m : Nat} {cn nx : Int} {cf : Bool} {cg : Fact} {tv pv ov : Value} {W' : World} {Q : Exit → Act → World → Prop} (w : World) (b0 b2 b4 b5 b6 b7 b8 b9 b10 b11 b12 b13 b14 b15 b16 b17 b18 b19 b20 b21 b22 b23 b24 b25 b26 b27 b28 b29 b30 b31 b32 : Value) (hp : Box w pb TPMg #[.pointer (some ⟨mk, 0, none⟩)]) (hm : Box w mk TMg #[.pointer (some ⟨s, 0, none⟩), tv, pv, ov]) (hs : Box w s TSt #[.map (some m), .int .i64 nx]) (hb : Box w Bx TCh (caC (cn, cf, cg)))
    (hup : (Builtin.delete_ #[TMK, TI] 0 #[.map (some m), .int .i64 cn]).run Try.prog w.drew = .ok (.tuple #[]) W')
    (hQ : ∀ c24 c25 c26 c27 c28 c29 c30 c31 c32 : Value, Q .normal { tmps := #[b0, .pointer (some ⟨pb, 0, none⟩), b2, .pointer (some ⟨Bx, 0, none⟩), b4, b5, b6, b7, b8, b9, b10, b11, b12, b13, b14, b15, b16, b17, b18, b19, b20, b21, b22, b23, c24, c25, c26, c27, c28, c29, c30, c31, c32], defers := [] } W') :
    (Code.region 5 #[{ dst := some 24, op := Op.load TPMg (Operand.tmp 1), type := TPMg, pos := "unify.go:155", after := #[], guard := none }, { dst := some 25, op := Op.nilCheck (Operand.tmp 24), type := 0, pos := "unify.go:155", after := #[{ on := 0, ground := Ground.data }], guard := none }, { dst := some 26, op := Op.fieldAddr TMg (Operand.tmp 25) 0, type := 0, pos := "unify.go:155", after := #[{ on := 1, ground := Ground.data }], guard := none }, { dst := some 27, op := Op.load TPSt (Operand.tmp 26), type := TPSt, pos := "unify.go:155", after := #[{ on := 2, ground := Ground.data }], guard := none }, { dst := some 28, op := Op.nilCheck (Operand.tmp 27), type := 0, pos := "unify.go:155", after := #[{ on := 3, ground := Ground.data }], guard := none }, { dst := some 29, op := Op.fieldAddr TSt (Operand.tmp 28) 0, type := 0, pos := "unify.go:155", after := #[{ on := 4, ground := Ground.data }], guard := none }, { dst := some 30, op := Op.load TMK (Operand.tmp 29), type := TMK, pos := "unify.go:155", after := #[{ on := 5, ground := Ground.data }], guard := none }, { dst := some 31, op := Op.fieldAddr TCh (Operand.tmp 3) 0, type := 0, pos := "unify.go:155", after := #[], guard := none }, { dst := some 32, op := Op.load TI (Operand.tmp 31), type := TI, pos := "unify.go:155", after := #[{ on := 7, ground := Ground.data }], guard := none }, { dst := none, op := Op.call { callee := Callee.builtin Builtin.delete, args := #[Operand.tmp 30, Operand.tmp 32], argTypes := #[TMK, TI] }, type := 0, pos := "unify.go:155", after := #[{ on := 6, ground := Ground.data }, { on := 8, ground := Ground.data }], guard := none }] true).wpIn (Fence.wide.inRound l2) n Try.prog Q { tmps := #[b0, .pointer (some ⟨pb, 0, none⟩), b2, .pointer (some ⟨Bx, 0, none⟩), b4, b5, b6, b7, b8, b9, b10, b11, b12, b13, b14, b15, b16, b17, b18, b19, b20, b21, b22, b23, b24, b25, b26, b27, b28, b29, b30, b31, b32], defers := [] } w := by
  have p0 : w.cell? ⟨pb, 0, none⟩ = some (.pointer (some ⟨mk, 0, none⟩)) := hp.cell 0
  obtain ⟨q0, _⟩ := hm.cells4
  obtain ⟨s0, _⟩ := hs.cells2
  obtain ⟨c0, c1, c2, c3, c4, c5, c6, c7, c8⟩ := Box.cells9 (show Box w Bx TCh #[.int .i64 cn, .bool cf, .int .i64 cg.kd, .int .i64 cg.n, .string cg.nm, .slice cg.a cg.args.len cg.c, .int .i64 cg.least, .int .i64 cg.depth, .bool cg.held] from hb)
  have HQ := Lib.hid hQ
  clear hp hm hs hb hQ
  gi_region_with (fail)
  all_goals exact HQ.out _ _ _ _ _ _ _ _ _
end Go.Proofs.Ytcaioffdcbjbjaa.Un
/-
  CONTRACT of layer unify: what a round of 'undo' does where something was known.
-/
namespace Go.Proofs.Ytcaioffdcbjbjaa.Un
open Go.RowKit Go.Shelf Mm Tm Mk Go.Maps Go.ChangeMaps Go.MapKept Go.WideMaps Rg
set_option linter.unusedVariables false
set_option linter.unusedSimpArgs false
theorem opIn_round {l n : Nat} {P : Program} {ops : Array Oper} {Q : Exit → Act → World → Prop} {i : Nat} {K : Act → World → Prop} {a : Act} {w : World} (hnd : ∀ o ∈ ops.toList, ∀ c, o.op ≠ .defer c) (h : wpOpIn Fence.wide n P ops Q i K a w) : wpOpIn (Fence.wide.inRound l) n P ops Q i K a w := by
  unfold wpOpIn at h ⊢
  cases ho : ops[i]? with
  | none => rw [ho] at h; exact h
  | some o =>
    rw [ho] at h
    simp only at h ⊢
    split
    · rename_i hw
      rw [if_pos hw] at h
      unfold Oper.wpIn at h ⊢
      rw [Oper.semAt_eq _ _ _ (hnd o (List.mem_of_getElem? (by rw [Array.getElem?_toList]; exact ho)))] at h ⊢
      exact h
    · rename_i hw
      rw [if_neg hw] at h
      exact h
theorem anyIn_round {l n : Nat} {P : Program} {md : Region.Mode} {ops : Array Oper} {Q : Exit → Act → World → Prop} (hnd : ∀ o ∈ ops.toList, ∀ c, o.op ≠ .defer c) : ∀ (fuel : Nat) (listed : Array Bool) (a : Act) (w : World), wpAnyIn Fence.wide n P md ops Q fuel listed a w → wpAnyIn (Fence.wide.inRound l) n P md ops Q fuel listed a w
  | 0, _, _, _, h => h
  | fuel + 1, listed, a, w, h => ⟨h.1, fun i hi => opIn_round hnd (wpOpIn_mono (fun a w => anyIn_round hnd fuel _ a w) (h.2 i hi))⟩
theorem region_round {l n id : Nat} {P : Program} {ops : Array Oper} {Q : Exit → Act → World → Prop} {a : Act} {w : World} (hm : P.follows .mixedOrders = true) (hnd : ∀ o ∈ ops.toList, ∀ c, o.op ≠ .defer c) (h : wpAnyIn Fence.wide n P .any ops Q ops.size (Array.replicate ops.size false) a w.drew) : (Code.region id ops true).wpIn (Fence.wide.inRound l) n P Q a w :=
  wpIn_region_any hm (anyIn_round hnd _ _ _ _ h)
set_option maxRecDepth 100000 in
set_option maxHeartbeats 8000000 in
theorem put_round {n l2 pb Bx mk s m : Nat} {cn nx : Int} {cf : Bool} {cg : Fact} {tv pv ov : Value} {W' : World} {Q : Exit → Act → World → Prop} (w : World) (b0 b2 b4 b5 b6 b7 b8 b9 b10 b11 b12 b13 b14 b15 b16 b17 b18 b19 b20 b21 b22 b23 b24 b25 b26 b27 b28 b29 b30 b31 b32 : Value) (hp : Box w pb TPMg #[.pointer (some ⟨mk, 0, none⟩)]) (hm : Box w mk TMg #[.pointer (some ⟨s, 0, none⟩), tv, pv, ov]) (hs : Box w s TSt #[.map (some m), .int .i64 nx]) (hb : Box w Bx TCh (caC (cn, cf, cg)))
    (hup : (Instr.mapUpdate TMK (.map (some m)) (.int .i64 cn) (.agg #[.int .i64 cg.kd, .int .i64 cg.n, .string cg.nm, .slice cg.a cg.args.len cg.c, .int .i64 cg.least, .int .i64 cg.depth, .bool cg.held])).run Try.prog w.drew = .ok () W')
    (hQ : ∀ c13 c14 c15 c16 c17 c18 c19 c20 c21 c22 c23 : Value, Q .normal { tmps := #[b0, .pointer (some ⟨pb, 0, none⟩), b2, .pointer (some ⟨Bx, 0, none⟩), b4, b5, b6, b7, b8, b9, b10, b11, b12, c13, c14, c15, c16, c17, c18, c19, c20, c21, c22, c23, b24, b25, b26, b27, b28, b29, b30, b31, b32], defers := [] } W') :
    (Code.region 4 #[{ dst := some 13, op := Op.load TPMg (Operand.tmp 1), type := TPMg, pos := "unify.go:153", after := #[], guard := none }, { dst := some 14, op := Op.nilCheck (Operand.tmp 13), type := 0, pos := "unify.go:153", after := #[{ on := 0, ground := Ground.data }], guard := none }, { dst := some 15, op := Op.fieldAddr TMg (Operand.tmp 14) 0, type := 0, pos := "unify.go:153", after := #[{ on := 1, ground := Ground.data }], guard := none }, { dst := some 16, op := Op.load TPSt (Operand.tmp 15), type := TPSt, pos := "unify.go:153", after := #[{ on := 2, ground := Ground.data }], guard := none }, { dst := some 17, op := Op.nilCheck (Operand.tmp 16), type := 0, pos := "unify.go:153", after := #[{ on := 3, ground := Ground.data }], guard := none }, { dst := some 18, op := Op.fieldAddr TSt (Operand.tmp 17) 0, type := 0, pos := "unify.go:153", after := #[{ on := 4, ground := Ground.data }], guard := none }, { dst := some 19, op := Op.load TMK (Operand.tmp 18), type := TMK, pos := "unify.go:153", after := #[{ on := 5, ground := Ground.data }], guard := none }, { dst := some 20, op := Op.fieldAddr TCh (Operand.tmp 3) 0, type := 0, pos := "unify.go:153", after := #[], guard := none }, { dst := some 21, op := Op.load TI (Operand.tmp 20), type := TI, pos := "unify.go:153", after := #[{ on := 7, ground := Ground.data }], guard := none }, { dst := some 22, op := Op.fieldAddr TCh (Operand.tmp 3) 2, type := 0, pos := "unify.go:153", after := #[], guard := none }, { dst := some 23, op := Op.load TF (Operand.tmp 22), type := TF, pos := "unify.go:153", after := #[{ on := 9, ground := Ground.data }], guard := none }, { dst := none, op := Op.mapUpdate TMK (Operand.tmp 19) (Operand.tmp 21) (Operand.tmp 23), type := 0, pos := "unify.go:153", after := #[{ on := 6, ground := Ground.data }, { on := 8, ground := Ground.data }, { on := 10, ground := Ground.data }, { on := 0, ground := Ground.phase }, { on := 1, ground := Ground.phase }, { on := 2, ground := Ground.phase }, { on := 3, ground := Ground.phase }, { on := 4, ground := Ground.phase }, { on := 5, ground := Ground.phase }, { on := 6, ground := Ground.phase }, { on := 7, ground := Ground.phase }, { on := 8, ground := Ground.phase }, { on := 9, ground := Ground.phase }, { on := 10, ground := Ground.phase }], guard := none }] true).wpIn (Fence.wide.inRound l2) n Try.prog Q { tmps := #[b0, .pointer (some ⟨pb, 0, none⟩), b2, .pointer (some ⟨Bx, 0, none⟩), b4, b5, b6, b7, b8, b9, b10, b11, b12, b13, b14, b15, b16, b17, b18, b19, b20, b21, b22, b23, b24, b25, b26, b27, b28, b29, b30, b31, b32], defers := [] } w := by
  have p0 : w.cell? ⟨pb, 0, none⟩ = some (.pointer (some ⟨mk, 0, none⟩)) := hp.cell 0
  obtain ⟨q0, _⟩ := hm.cells4
  obtain ⟨s0, _⟩ := hs.cells2
  obtain ⟨c0, c1, c2, c3, c4, c5, c6, c7, c8⟩ := Box.cells9 (show Box w Bx TCh #[.int .i64 cn, .bool cf, .int .i64 cg.kd, .int .i64 cg.n, .string cg.nm, .slice cg.a cg.args.len cg.c, .int .i64 cg.least, .int .i64 cg.depth, .bool cg.held] from hb)
  have HQ := Lib.hid hQ
  clear hp hm hs hb hQ
  refine wpIn_mono (Q := fun e a w => e = .normal ∧ Q .normal a w) ?_ (fun e a w h => by rw [h.1]; exact h.2)
  refine region_round (by kernel_rfl) (by simp) ?_
  refine wpAnyIn_take (i := 7) (v := ?_) rfl rfl (by kernel_rfl) (by kernel_rfl) (by kernel_rfl) (fun _ _ _ h => absurd h.1 (by simp)) ⟨Or.inl ⟨by rfl, ?_⟩, fun _ => rfl⟩ ?_
  rotate_left
  focus (intro w; go_simp; try with_reducible rfl)
  refine wpAnyIn_take (i := 9) (v := ?_) rfl rfl (by kernel_rfl) (by kernel_rfl) (by kernel_rfl) (fun _ _ _ h => absurd h.1 (by simp)) ⟨Or.inl ⟨by rfl, ?_⟩, fun _ => rfl⟩ ?_
  rotate_left
  focus (intro w; go_simp; try with_reducible rfl)
  refine wpAnyIn_ready (rs := [0, 8, 10]) (by kernel_rfl) (by simp) ?_
  refine AllReadyIn.cons rfl (fun K hK => ?_) ?_
  · go_simp
    refine hK _ _ ?_
    clear hK K
    refine wpAnyIn_take (i := 1) (v := ?_) rfl rfl (by kernel_rfl) (by kernel_rfl) (by kernel_rfl) (fun _ _ _ h => absurd h.1 (by simp)) ⟨Or.inl ⟨by rfl, ?_⟩, fun _ => rfl⟩ ?_
    rotate_left
    focus (intro w; go_simp; try with_reducible rfl)
    refine wpAnyIn_take (i := 2) (v := ?_) rfl rfl (by kernel_rfl) (by kernel_rfl) (by kernel_rfl) (fun _ _ _ h => absurd h.1 (by simp)) ⟨Or.inl ⟨by rfl, ?_⟩, fun _ => rfl⟩ ?_
    rotate_left
    focus (intro w; go_simp; try with_reducible rfl)
    refine wpAnyIn_ready (rs := [3, 8, 10]) (by kernel_rfl) (by simp) ?_
    refine AllReadyIn.cons rfl (fun K hK => ?_) ?_
    · go_simp
      refine hK _ _ ?_
      clear hK K
      refine wpAnyIn_take (i := 4) (v := ?_) rfl rfl (by kernel_rfl) (by kernel_rfl) (by kernel_rfl) (fun _ _ _ h => absurd h.1 (by simp)) ⟨Or.inl ⟨by rfl, ?_⟩, fun _ => rfl⟩ ?_
      rotate_left
      focus (intro w; go_simp; try with_reducible rfl)
      refine wpAnyIn_take (i := 5) (v := ?_) rfl rfl (by kernel_rfl) (by kernel_rfl) (by kernel_rfl) (fun _ _ _ h => absurd h.1 (by simp)) ⟨Or.inl ⟨by rfl, ?_⟩, fun _ => rfl⟩ ?_
      rotate_left
      focus (intro w; go_simp; try with_reducible rfl)
      refine wpAnyIn_ready (rs := [6, 8, 10]) (by kernel_rfl) (by simp) ?_
      refine AllReadyIn.cons rfl (fun K hK => ?_) ?_
      · go_simp
        refine hK _ _ ?_
        clear hK K
        refine wpAnyIn_ready (rs := [8, 10]) (by kernel_rfl) (by simp) ?_
        refine AllReadyIn.cons rfl (fun K hK => ?_) ?_
        · go_simp
          refine hK _ _ ?_
          clear hK K
          refine wpAnyIn_ready (rs := [10]) (by kernel_rfl) (by simp) ?_
          refine AllReadyIn.cons rfl (fun K hK => ?_) ?_
          · go_simp
            refine hK _ _ ?_
            clear hK K
            refine wpAnyIn_ready (rs := [11]) (by kernel_rfl) (by simp) ?_
            refine AllReadyIn.cons rfl (fun K hK => ?_) ?_
            · go_simp
              refine hK _ _ ?_
              clear hK K
              refine wpAnyIn_done (by kernel_rfl) ?_ _
              exact ⟨rfl, HQ.out _ _ _ _ _ _ _ _ _ _ _⟩
            exact AllReadyIn.nil
          exact AllReadyIn.nil
        refine AllReadyIn.cons rfl (fun K hK => ?_) ?_
        · go_simp
          refine hK _ _ ?_
          clear hK K
          refine wpAnyIn_ready (rs := [8]) (by kernel_rfl) (by simp) ?_
          refine AllReadyIn.cons rfl (fun K hK => ?_) ?_
          · go_simp
            refine hK _ _ ?_
            clear hK K
            refine wpAnyIn_ready (rs := [11]) (by kernel_rfl) (by simp) ?_
            refine AllReadyIn.cons rfl (fun K hK => ?_) ?_
            · go_simp
              refine hK _ _ ?_
              clear hK K
              refine wpAnyIn_done (by kernel_rfl) ?_ _
              exact ⟨rfl, HQ.out _ _ _ _ _ _ _ _ _ _ _⟩
            exact AllReadyIn.nil
          exact AllReadyIn.nil
        exact AllReadyIn.nil
      refine AllReadyIn.cons rfl (fun K hK => ?_) ?_
      · go_simp
        refine hK _ _ ?_
        clear hK K
        refine wpAnyIn_ready (rs := [6, 10]) (by kernel_rfl) (by simp) ?_
        refine AllReadyIn.cons rfl (fun K hK => ?_) ?_
        · go_simp
          refine hK _ _ ?_
          clear hK K
          refine wpAnyIn_ready (rs := [10]) (by kernel_rfl) (by simp) ?_
          refine AllReadyIn.cons rfl (fun K hK => ?_) ?_
          · go_simp
            refine hK _ _ ?_
            clear hK K
            refine wpAnyIn_ready (rs := [11]) (by kernel_rfl) (by simp) ?_
            refine AllReadyIn.cons rfl (fun K hK => ?_) ?_
            · go_simp
              refine hK _ _ ?_
              clear hK K
              refine wpAnyIn_done (by kernel_rfl) ?_ _
              exact ⟨rfl, HQ.out _ _ _ _ _ _ _ _ _ _ _⟩
            exact AllReadyIn.nil
          exact AllReadyIn.nil
        refine AllReadyIn.cons rfl (fun K hK => ?_) ?_
        · go_simp
          refine hK _ _ ?_
          clear hK K
          refine wpAnyIn_ready (rs := [6]) (by kernel_rfl) (by simp) ?_
          refine AllReadyIn.cons rfl (fun K hK => ?_) ?_
          · go_simp
            refine hK _ _ ?_
            clear hK K
            refine wpAnyIn_ready (rs := [11]) (by kernel_rfl) (by simp) ?_
            refine AllReadyIn.cons rfl (fun K hK => ?_) ?_
            · go_simp
              refine hK _ _ ?_
              clear hK K
              refine wpAnyIn_done (by kernel_rfl) ?_ _
              exact ⟨rfl, HQ.out _ _ _ _ _ _ _ _ _ _ _⟩
            exact AllReadyIn.nil
          exact AllReadyIn.nil
        exact AllReadyIn.nil
      refine AllReadyIn.cons rfl (fun K hK => ?_) ?_
      · go_simp
        refine hK _ _ ?_
        clear hK K
        refine wpAnyIn_ready (rs := [6, 8]) (by kernel_rfl) (by simp) ?_
        refine AllReadyIn.cons rfl (fun K hK => ?_) ?_
        · go_simp
          refine hK _ _ ?_
          clear hK K
          refine wpAnyIn_ready (rs := [8]) (by kernel_rfl) (by simp) ?_
          refine AllReadyIn.cons rfl (fun K hK => ?_) ?_
          · go_simp
            refine hK _ _ ?_
            clear hK K
            refine wpAnyIn_ready (rs := [11]) (by kernel_rfl) (by simp) ?_
            refine AllReadyIn.cons rfl (fun K hK => ?_) ?_
            · go_simp
              refine hK _ _ ?_
              clear hK K
              refine wpAnyIn_done (by kernel_rfl) ?_ _
              exact ⟨rfl, HQ.out _ _ _ _ _ _ _ _ _ _ _⟩
            exact AllReadyIn.nil
          exact AllReadyIn.nil
        refine AllReadyIn.cons rfl (fun K hK => ?_) ?_
        · go_simp
          refine hK _ _ ?_
          clear hK K
          refine wpAnyIn_ready (rs := [6]) (by kernel_rfl) (by simp) ?_
          refine AllReadyIn.cons rfl (fun K hK => ?_) ?_
          · go_simp
            refine hK _ _ ?_
            clear hK K
            refine wpAnyIn_ready (rs := [11]) (by kernel_rfl) (by simp) ?_
            refine AllReadyIn.cons rfl (fun K hK => ?_) ?_
            · go_simp
              refine hK _ _ ?_
              clear hK K
              refine wpAnyIn_done (by kernel_rfl) ?_ _
              exact ⟨rfl, HQ.out _ _ _ _ _ _ _ _ _ _ _⟩
            exact AllReadyIn.nil
          exact AllReadyIn.nil
        exact AllReadyIn.nil
      exact AllReadyIn.nil
    refine AllReadyIn.cons rfl (fun K hK => ?_) ?_
    · go_simp
      refine hK _ _ ?_
      clear hK K
      refine wpAnyIn_ready (rs := [3, 10]) (by kernel_rfl) (by simp) ?_
      refine AllReadyIn.cons rfl (fun K hK => ?_) ?_
      · go_simp
        refine hK _ _ ?_
        clear hK K
        refine wpAnyIn_take (i := 4) (v := ?_) rfl rfl (by kernel_rfl) (by kernel_rfl) (by kernel_rfl) (fun _ _ _ h => absurd h.1 (by simp)) ⟨Or.inl ⟨by rfl, ?_⟩, fun _ => rfl⟩ ?_
        rotate_left
        focus (intro w; go_simp; try with_reducible rfl)
        refine wpAnyIn_take (i := 5) (v := ?_) rfl rfl (by kernel_rfl) (by kernel_rfl) (by kernel_rfl) (fun _ _ _ h => absurd h.1 (by simp)) ⟨Or.inl ⟨by rfl, ?_⟩, fun _ => rfl⟩ ?_
        rotate_left
        focus (intro w; go_simp; try with_reducible rfl)
        refine wpAnyIn_ready (rs := [6, 10]) (by kernel_rfl) (by simp) ?_
        refine AllReadyIn.cons rfl (fun K hK => ?_) ?_
        · go_simp
          refine hK _ _ ?_
          clear hK K
          refine wpAnyIn_ready (rs := [10]) (by kernel_rfl) (by simp) ?_
          refine AllReadyIn.cons rfl (fun K hK => ?_) ?_
          · go_simp
            refine hK _ _ ?_
            clear hK K
            refine wpAnyIn_ready (rs := [11]) (by kernel_rfl) (by simp) ?_
            refine AllReadyIn.cons rfl (fun K hK => ?_) ?_
            · go_simp
              refine hK _ _ ?_
              clear hK K
              refine wpAnyIn_done (by kernel_rfl) ?_ _
              exact ⟨rfl, HQ.out _ _ _ _ _ _ _ _ _ _ _⟩
            exact AllReadyIn.nil
          exact AllReadyIn.nil
        refine AllReadyIn.cons rfl (fun K hK => ?_) ?_
        · go_simp
          refine hK _ _ ?_
          clear hK K
          refine wpAnyIn_ready (rs := [6]) (by kernel_rfl) (by simp) ?_
          refine AllReadyIn.cons rfl (fun K hK => ?_) ?_
          · go_simp
            refine hK _ _ ?_
            clear hK K
            refine wpAnyIn_ready (rs := [11]) (by kernel_rfl) (by simp) ?_
            refine AllReadyIn.cons rfl (fun K hK => ?_) ?_
            · go_simp
              refine hK _ _ ?_
              clear hK K
              refine wpAnyIn_done (by kernel_rfl) ?_ _
              exact ⟨rfl, HQ.out _ _ _ _ _ _ _ _ _ _ _⟩
            exact AllReadyIn.nil
          exact AllReadyIn.nil
        exact AllReadyIn.nil
      refine AllReadyIn.cons rfl (fun K hK => ?_) ?_
      · go_simp
        refine hK _ _ ?_
        clear hK K
        refine wpAnyIn_ready (rs := [3]) (by kernel_rfl) (by simp) ?_
        refine AllReadyIn.cons rfl (fun K hK => ?_) ?_
        · go_simp
          refine hK _ _ ?_
          clear hK K
          refine wpAnyIn_take (i := 4) (v := ?_) rfl rfl (by kernel_rfl) (by kernel_rfl) (by kernel_rfl) (fun _ _ _ h => absurd h.1 (by simp)) ⟨Or.inl ⟨by rfl, ?_⟩, fun _ => rfl⟩ ?_
          rotate_left
          focus (intro w; go_simp; try with_reducible rfl)
          refine wpAnyIn_take (i := 5) (v := ?_) rfl rfl (by kernel_rfl) (by kernel_rfl) (by kernel_rfl) (fun _ _ _ h => absurd h.1 (by simp)) ⟨Or.inl ⟨by rfl, ?_⟩, fun _ => rfl⟩ ?_
          rotate_left
          focus (intro w; go_simp; try with_reducible rfl)
          refine wpAnyIn_ready (rs := [6]) (by kernel_rfl) (by simp) ?_
          refine AllReadyIn.cons rfl (fun K hK => ?_) ?_
          · go_simp
            refine hK _ _ ?_
            clear hK K
            refine wpAnyIn_ready (rs := [11]) (by kernel_rfl) (by simp) ?_
            refine AllReadyIn.cons rfl (fun K hK => ?_) ?_
            · go_simp
              refine hK _ _ ?_
              clear hK K
              refine wpAnyIn_done (by kernel_rfl) ?_ _
              exact ⟨rfl, HQ.out _ _ _ _ _ _ _ _ _ _ _⟩
            exact AllReadyIn.nil
          exact AllReadyIn.nil
        exact AllReadyIn.nil
      exact AllReadyIn.nil
    refine AllReadyIn.cons rfl (fun K hK => ?_) ?_
    · go_simp
      refine hK _ _ ?_
      clear hK K
      refine wpAnyIn_ready (rs := [3, 8]) (by kernel_rfl) (by simp) ?_
      refine AllReadyIn.cons rfl (fun K hK => ?_) ?_
      · go_simp
        refine hK _ _ ?_
        clear hK K
        refine wpAnyIn_take (i := 4) (v := ?_) rfl rfl (by kernel_rfl) (by kernel_rfl) (by kernel_rfl) (fun _ _ _ h => absurd h.1 (by simp)) ⟨Or.inl ⟨by rfl, ?_⟩, fun _ => rfl⟩ ?_
        rotate_left
        focus (intro w; go_simp; try with_reducible rfl)
        refine wpAnyIn_take (i := 5) (v := ?_) rfl rfl (by kernel_rfl) (by kernel_rfl) (by kernel_rfl) (fun _ _ _ h => absurd h.1 (by simp)) ⟨Or.inl ⟨by rfl, ?_⟩, fun _ => rfl⟩ ?_
        rotate_left
        focus (intro w; go_simp; try with_reducible rfl)
        refine wpAnyIn_ready (rs := [6, 8]) (by kernel_rfl) (by simp) ?_
        refine AllReadyIn.cons rfl (fun K hK => ?_) ?_
        · go_simp
          refine hK _ _ ?_
          clear hK K
          refine wpAnyIn_ready (rs := [8]) (by kernel_rfl) (by simp) ?_
          refine AllReadyIn.cons rfl (fun K hK => ?_) ?_
          · go_simp
            refine hK _ _ ?_
            clear hK K
            refine wpAnyIn_ready (rs := [11]) (by kernel_rfl) (by simp) ?_
            refine AllReadyIn.cons rfl (fun K hK => ?_) ?_
            · go_simp
              refine hK _ _ ?_
              clear hK K
              refine wpAnyIn_done (by kernel_rfl) ?_ _
              exact ⟨rfl, HQ.out _ _ _ _ _ _ _ _ _ _ _⟩
            exact AllReadyIn.nil
          exact AllReadyIn.nil
        refine AllReadyIn.cons rfl (fun K hK => ?_) ?_
        · go_simp
          refine hK _ _ ?_
          clear hK K
          refine wpAnyIn_ready (rs := [6]) (by kernel_rfl) (by simp) ?_
          refine AllReadyIn.cons rfl (fun K hK => ?_) ?_
          · go_simp
            refine hK _ _ ?_
            clear hK K
            refine wpAnyIn_ready (rs := [11]) (by kernel_rfl) (by simp) ?_
            refine AllReadyIn.cons rfl (fun K hK => ?_) ?_
            · go_simp
              refine hK _ _ ?_
              clear hK K
              refine wpAnyIn_done (by kernel_rfl) ?_ _
              exact ⟨rfl, HQ.out _ _ _ _ _ _ _ _ _ _ _⟩
            exact AllReadyIn.nil
          exact AllReadyIn.nil
        exact AllReadyIn.nil
      refine AllReadyIn.cons rfl (fun K hK => ?_) ?_
      · go_simp
        refine hK _ _ ?_
        clear hK K
        refine wpAnyIn_ready (rs := [3]) (by kernel_rfl) (by simp) ?_
        refine AllReadyIn.cons rfl (fun K hK => ?_) ?_
        · go_simp
          refine hK _ _ ?_
          clear hK K
          refine wpAnyIn_take (i := 4) (v := ?_) rfl rfl (by kernel_rfl) (by kernel_rfl) (by kernel_rfl) (fun _ _ _ h => absurd h.1 (by simp)) ⟨Or.inl ⟨by rfl, ?_⟩, fun _ => rfl⟩ ?_
          rotate_left
          focus (intro w; go_simp; try with_reducible rfl)
          refine wpAnyIn_take (i := 5) (v := ?_) rfl rfl (by kernel_rfl) (by kernel_rfl) (by kernel_rfl) (fun _ _ _ h => absurd h.1 (by simp)) ⟨Or.inl ⟨by rfl, ?_⟩, fun _ => rfl⟩ ?_
          rotate_left
          focus (intro w; go_simp; try with_reducible rfl)
          refine wpAnyIn_ready (rs := [6]) (by kernel_rfl) (by simp) ?_
          refine AllReadyIn.cons rfl (fun K hK => ?_) ?_
          · go_simp
            refine hK _ _ ?_
            clear hK K
            refine wpAnyIn_ready (rs := [11]) (by kernel_rfl) (by simp) ?_
            refine AllReadyIn.cons rfl (fun K hK => ?_) ?_
            · go_simp
              refine hK _ _ ?_
              clear hK K
              refine wpAnyIn_done (by kernel_rfl) ?_ _
              exact ⟨rfl, HQ.out _ _ _ _ _ _ _ _ _ _ _⟩
            exact AllReadyIn.nil
          exact AllReadyIn.nil
        exact AllReadyIn.nil
      exact AllReadyIn.nil
    exact AllReadyIn.nil
  refine AllReadyIn.cons rfl (fun K hK => ?_) ?_
  · go_simp
    refine hK _ _ ?_
    clear hK K
    refine wpAnyIn_ready (rs := [0, 10]) (by kernel_rfl) (by simp) ?_
    refine AllReadyIn.cons rfl (fun K hK => ?_) ?_
    · go_simp
      refine hK _ _ ?_
      clear hK K
      refine wpAnyIn_take (i := 1) (v := ?_) rfl rfl (by kernel_rfl) (by kernel_rfl) (by kernel_rfl) (fun _ _ _ h => absurd h.1 (by simp)) ⟨Or.inl ⟨by rfl, ?_⟩, fun _ => rfl⟩ ?_
      rotate_left
      focus (intro w; go_simp; try with_reducible rfl)
      refine wpAnyIn_take (i := 2) (v := ?_) rfl rfl (by kernel_rfl) (by kernel_rfl) (by kernel_rfl) (fun _ _ _ h => absurd h.1 (by simp)) ⟨Or.inl ⟨by rfl, ?_⟩, fun _ => rfl⟩ ?_
      rotate_left
      focus (intro w; go_simp; try with_reducible rfl)
      refine wpAnyIn_ready (rs := [3, 10]) (by kernel_rfl) (by simp) ?_
      refine AllReadyIn.cons rfl (fun K hK => ?_) ?_
      · go_simp
        refine hK _ _ ?_
        clear hK K
        refine wpAnyIn_take (i := 4) (v := ?_) rfl rfl (by kernel_rfl) (by kernel_rfl) (by kernel_rfl) (fun _ _ _ h => absurd h.1 (by simp)) ⟨Or.inl ⟨by rfl, ?_⟩, fun _ => rfl⟩ ?_
        rotate_left
        focus (intro w; go_simp; try with_reducible rfl)
        refine wpAnyIn_take (i := 5) (v := ?_) rfl rfl (by kernel_rfl) (by kernel_rfl) (by kernel_rfl) (fun _ _ _ h => absurd h.1 (by simp)) ⟨Or.inl ⟨by rfl, ?_⟩, fun _ => rfl⟩ ?_
        rotate_left
        focus (intro w; go_simp; try with_reducible rfl)
        refine wpAnyIn_ready (rs := [6, 10]) (by kernel_rfl) (by simp) ?_
        refine AllReadyIn.cons rfl (fun K hK => ?_) ?_
        · go_simp
          refine hK _ _ ?_
          clear hK K
          refine wpAnyIn_ready (rs := [10]) (by kernel_rfl) (by simp) ?_
          refine AllReadyIn.cons rfl (fun K hK => ?_) ?_
          · go_simp
            refine hK _ _ ?_
            clear hK K
            refine wpAnyIn_ready (rs := [11]) (by kernel_rfl) (by simp) ?_
            refine AllReadyIn.cons rfl (fun K hK => ?_) ?_
            · go_simp
              refine hK _ _ ?_
              clear hK K
              refine wpAnyIn_done (by kernel_rfl) ?_ _
              exact ⟨rfl, HQ.out _ _ _ _ _ _ _ _ _ _ _⟩
            exact AllReadyIn.nil
          exact AllReadyIn.nil
        refine AllReadyIn.cons rfl (fun K hK => ?_) ?_
        · go_simp
          refine hK _ _ ?_
          clear hK K
          refine wpAnyIn_ready (rs := [6]) (by kernel_rfl) (by simp) ?_
          refine AllReadyIn.cons rfl (fun K hK => ?_) ?_
          · go_simp
            refine hK _ _ ?_
            clear hK K
            refine wpAnyIn_ready (rs := [11]) (by kernel_rfl) (by simp) ?_
            refine AllReadyIn.cons rfl (fun K hK => ?_) ?_
            · go_simp
              refine hK _ _ ?_
              clear hK K
              refine wpAnyIn_done (by kernel_rfl) ?_ _
              exact ⟨rfl, HQ.out _ _ _ _ _ _ _ _ _ _ _⟩
            exact AllReadyIn.nil
          exact AllReadyIn.nil
        exact AllReadyIn.nil
      refine AllReadyIn.cons rfl (fun K hK => ?_) ?_
      · go_simp
        refine hK _ _ ?_
        clear hK K
        refine wpAnyIn_ready (rs := [3]) (by kernel_rfl) (by simp) ?_
        refine AllReadyIn.cons rfl (fun K hK => ?_) ?_
        · go_simp
          refine hK _ _ ?_
          clear hK K
          refine wpAnyIn_take (i := 4) (v := ?_) rfl rfl (by kernel_rfl) (by kernel_rfl) (by kernel_rfl) (fun _ _ _ h => absurd h.1 (by simp)) ⟨Or.inl ⟨by rfl, ?_⟩, fun _ => rfl⟩ ?_
          rotate_left
          focus (intro w; go_simp; try with_reducible rfl)
          refine wpAnyIn_take (i := 5) (v := ?_) rfl rfl (by kernel_rfl) (by kernel_rfl) (by kernel_rfl) (fun _ _ _ h => absurd h.1 (by simp)) ⟨Or.inl ⟨by rfl, ?_⟩, fun _ => rfl⟩ ?_
          rotate_left
          focus (intro w; go_simp; try with_reducible rfl)
          refine wpAnyIn_ready (rs := [6]) (by kernel_rfl) (by simp) ?_
          refine AllReadyIn.cons rfl (fun K hK => ?_) ?_
          · go_simp
            refine hK _ _ ?_
            clear hK K
            refine wpAnyIn_ready (rs := [11]) (by kernel_rfl) (by simp) ?_
            refine AllReadyIn.cons rfl (fun K hK => ?_) ?_
            · go_simp
              refine hK _ _ ?_
              clear hK K
              refine wpAnyIn_done (by kernel_rfl) ?_ _
              exact ⟨rfl, HQ.out _ _ _ _ _ _ _ _ _ _ _⟩
            exact AllReadyIn.nil
          exact AllReadyIn.nil
        exact AllReadyIn.nil
      exact AllReadyIn.nil
    refine AllReadyIn.cons rfl (fun K hK => ?_) ?_
    · go_simp
      refine hK _ _ ?_
      clear hK K
      refine wpAnyIn_ready (rs := [0]) (by kernel_rfl) (by simp) ?_
      refine AllReadyIn.cons rfl (fun K hK => ?_) ?_
      · go_simp
        refine hK _ _ ?_
        clear hK K
        refine wpAnyIn_take (i := 1) (v := ?_) rfl rfl (by kernel_rfl) (by kernel_rfl) (by kernel_rfl) (fun _ _ _ h => absurd h.1 (by simp)) ⟨Or.inl ⟨by rfl, ?_⟩, fun _ => rfl⟩ ?_
        rotate_left
        focus (intro w; go_simp; try with_reducible rfl)
        refine wpAnyIn_take (i := 2) (v := ?_) rfl rfl (by kernel_rfl) (by kernel_rfl) (by kernel_rfl) (fun _ _ _ h => absurd h.1 (by simp)) ⟨Or.inl ⟨by rfl, ?_⟩, fun _ => rfl⟩ ?_
        rotate_left
        focus (intro w; go_simp; try with_reducible rfl)
        refine wpAnyIn_ready (rs := [3]) (by kernel_rfl) (by simp) ?_
        refine AllReadyIn.cons rfl (fun K hK => ?_) ?_
        · go_simp
          refine hK _ _ ?_
          clear hK K
          refine wpAnyIn_take (i := 4) (v := ?_) rfl rfl (by kernel_rfl) (by kernel_rfl) (by kernel_rfl) (fun _ _ _ h => absurd h.1 (by simp)) ⟨Or.inl ⟨by rfl, ?_⟩, fun _ => rfl⟩ ?_
          rotate_left
          focus (intro w; go_simp; try with_reducible rfl)
          refine wpAnyIn_take (i := 5) (v := ?_) rfl rfl (by kernel_rfl) (by kernel_rfl) (by kernel_rfl) (fun _ _ _ h => absurd h.1 (by simp)) ⟨Or.inl ⟨by rfl, ?_⟩, fun _ => rfl⟩ ?_
          rotate_left
          focus (intro w; go_simp; try with_reducible rfl)
          refine wpAnyIn_ready (rs := [6]) (by kernel_rfl) (by simp) ?_
          refine AllReadyIn.cons rfl (fun K hK => ?_) ?_
          · go_simp
            refine hK _ _ ?_
            clear hK K
            refine wpAnyIn_ready (rs := [11]) (by kernel_rfl) (by simp) ?_
            refine AllReadyIn.cons rfl (fun K hK => ?_) ?_
            · go_simp
              refine hK _ _ ?_
              clear hK K
              refine wpAnyIn_done (by kernel_rfl) ?_ _
              exact ⟨rfl, HQ.out _ _ _ _ _ _ _ _ _ _ _⟩
            exact AllReadyIn.nil
          exact AllReadyIn.nil
        exact AllReadyIn.nil
      exact AllReadyIn.nil
    exact AllReadyIn.nil
  refine AllReadyIn.cons rfl (fun K hK => ?_) ?_
  · go_simp
    refine hK _ _ ?_
    clear hK K
    refine wpAnyIn_ready (rs := [0, 8]) (by kernel_rfl) (by simp) ?_
    refine AllReadyIn.cons rfl (fun K hK => ?_) ?_
    · go_simp
      refine hK _ _ ?_
      clear hK K
      refine wpAnyIn_take (i := 1) (v := ?_) rfl rfl (by kernel_rfl) (by kernel_rfl) (by kernel_rfl) (fun _ _ _ h => absurd h.1 (by simp)) ⟨Or.inl ⟨by rfl, ?_⟩, fun _ => rfl⟩ ?_
      rotate_left
      focus (intro w; go_simp; try with_reducible rfl)
      refine wpAnyIn_take (i := 2) (v := ?_) rfl rfl (by kernel_rfl) (by kernel_rfl) (by kernel_rfl) (fun _ _ _ h => absurd h.1 (by simp)) ⟨Or.inl ⟨by rfl, ?_⟩, fun _ => rfl⟩ ?_
      rotate_left
      focus (intro w; go_simp; try with_reducible rfl)
      refine wpAnyIn_ready (rs := [3, 8]) (by kernel_rfl) (by simp) ?_
      refine AllReadyIn.cons rfl (fun K hK => ?_) ?_
      · go_simp
        refine hK _ _ ?_
        clear hK K
        refine wpAnyIn_take (i := 4) (v := ?_) rfl rfl (by kernel_rfl) (by kernel_rfl) (by kernel_rfl) (fun _ _ _ h => absurd h.1 (by simp)) ⟨Or.inl ⟨by rfl, ?_⟩, fun _ => rfl⟩ ?_
        rotate_left
        focus (intro w; go_simp; try with_reducible rfl)
        refine wpAnyIn_take (i := 5) (v := ?_) rfl rfl (by kernel_rfl) (by kernel_rfl) (by kernel_rfl) (fun _ _ _ h => absurd h.1 (by simp)) ⟨Or.inl ⟨by rfl, ?_⟩, fun _ => rfl⟩ ?_
        rotate_left
        focus (intro w; go_simp; try with_reducible rfl)
        refine wpAnyIn_ready (rs := [6, 8]) (by kernel_rfl) (by simp) ?_
        refine AllReadyIn.cons rfl (fun K hK => ?_) ?_
        · go_simp
          refine hK _ _ ?_
          clear hK K
          refine wpAnyIn_ready (rs := [8]) (by kernel_rfl) (by simp) ?_
          refine AllReadyIn.cons rfl (fun K hK => ?_) ?_
          · go_simp
            refine hK _ _ ?_
            clear hK K
            refine wpAnyIn_ready (rs := [11]) (by kernel_rfl) (by simp) ?_
            refine AllReadyIn.cons rfl (fun K hK => ?_) ?_
            · go_simp
              refine hK _ _ ?_
              clear hK K
              refine wpAnyIn_done (by kernel_rfl) ?_ _
              exact ⟨rfl, HQ.out _ _ _ _ _ _ _ _ _ _ _⟩
            exact AllReadyIn.nil
          exact AllReadyIn.nil
        refine AllReadyIn.cons rfl (fun K hK => ?_) ?_
        · go_simp
          refine hK _ _ ?_
          clear hK K
          refine wpAnyIn_ready (rs := [6]) (by kernel_rfl) (by simp) ?_
          refine AllReadyIn.cons rfl (fun K hK => ?_) ?_
          · go_simp
            refine hK _ _ ?_
            clear hK K
            refine wpAnyIn_ready (rs := [11]) (by kernel_rfl) (by simp) ?_
            refine AllReadyIn.cons rfl (fun K hK => ?_) ?_
            · go_simp
              refine hK _ _ ?_
              clear hK K
              refine wpAnyIn_done (by kernel_rfl) ?_ _
              exact ⟨rfl, HQ.out _ _ _ _ _ _ _ _ _ _ _⟩
            exact AllReadyIn.nil
          exact AllReadyIn.nil
        exact AllReadyIn.nil
      refine AllReadyIn.cons rfl (fun K hK => ?_) ?_
      · go_simp
        refine hK _ _ ?_
        clear hK K
        refine wpAnyIn_ready (rs := [3]) (by kernel_rfl) (by simp) ?_
        refine AllReadyIn.cons rfl (fun K hK => ?_) ?_
        · go_simp
          refine hK _ _ ?_
          clear hK K
          refine wpAnyIn_take (i := 4) (v := ?_) rfl rfl (by kernel_rfl) (by kernel_rfl) (by kernel_rfl) (fun _ _ _ h => absurd h.1 (by simp)) ⟨Or.inl ⟨by rfl, ?_⟩, fun _ => rfl⟩ ?_
          rotate_left
          focus (intro w; go_simp; try with_reducible rfl)
          refine wpAnyIn_take (i := 5) (v := ?_) rfl rfl (by kernel_rfl) (by kernel_rfl) (by kernel_rfl) (fun _ _ _ h => absurd h.1 (by simp)) ⟨Or.inl ⟨by rfl, ?_⟩, fun _ => rfl⟩ ?_
          rotate_left
          focus (intro w; go_simp; try with_reducible rfl)
          refine wpAnyIn_ready (rs := [6]) (by kernel_rfl) (by simp) ?_
          refine AllReadyIn.cons rfl (fun K hK => ?_) ?_
          · go_simp
            refine hK _ _ ?_
            clear hK K
            refine wpAnyIn_ready (rs := [11]) (by kernel_rfl) (by simp) ?_
            refine AllReadyIn.cons rfl (fun K hK => ?_) ?_
            · go_simp
              refine hK _ _ ?_
              clear hK K
              refine wpAnyIn_done (by kernel_rfl) ?_ _
              exact ⟨rfl, HQ.out _ _ _ _ _ _ _ _ _ _ _⟩
            exact AllReadyIn.nil
          exact AllReadyIn.nil
        exact AllReadyIn.nil
      exact AllReadyIn.nil
    refine AllReadyIn.cons rfl (fun K hK => ?_) ?_
    · go_simp
      refine hK _ _ ?_
      clear hK K
      refine wpAnyIn_ready (rs := [0]) (by kernel_rfl) (by simp) ?_
      refine AllReadyIn.cons rfl (fun K hK => ?_) ?_
      · go_simp
        refine hK _ _ ?_
        clear hK K
        refine wpAnyIn_take (i := 1) (v := ?_) rfl rfl (by kernel_rfl) (by kernel_rfl) (by kernel_rfl) (fun _ _ _ h => absurd h.1 (by simp)) ⟨Or.inl ⟨by rfl, ?_⟩, fun _ => rfl⟩ ?_
        rotate_left
        focus (intro w; go_simp; try with_reducible rfl)
        refine wpAnyIn_take (i := 2) (v := ?_) rfl rfl (by kernel_rfl) (by kernel_rfl) (by kernel_rfl) (fun _ _ _ h => absurd h.1 (by simp)) ⟨Or.inl ⟨by rfl, ?_⟩, fun _ => rfl⟩ ?_
        rotate_left
        focus (intro w; go_simp; try with_reducible rfl)
        refine wpAnyIn_ready (rs := [3]) (by kernel_rfl) (by simp) ?_
        refine AllReadyIn.cons rfl (fun K hK => ?_) ?_
        · go_simp
          refine hK _ _ ?_
          clear hK K
          refine wpAnyIn_take (i := 4) (v := ?_) rfl rfl (by kernel_rfl) (by kernel_rfl) (by kernel_rfl) (fun _ _ _ h => absurd h.1 (by simp)) ⟨Or.inl ⟨by rfl, ?_⟩, fun _ => rfl⟩ ?_
          rotate_left
          focus (intro w; go_simp; try with_reducible rfl)
          refine wpAnyIn_take (i := 5) (v := ?_) rfl rfl (by kernel_rfl) (by kernel_rfl) (by kernel_rfl) (fun _ _ _ h => absurd h.1 (by simp)) ⟨Or.inl ⟨by rfl, ?_⟩, fun _ => rfl⟩ ?_
          rotate_left
          focus (intro w; go_simp; try with_reducible rfl)
          refine wpAnyIn_ready (rs := [6]) (by kernel_rfl) (by simp) ?_
          refine AllReadyIn.cons rfl (fun K hK => ?_) ?_
          · go_simp
            refine hK _ _ ?_
            clear hK K
            refine wpAnyIn_ready (rs := [11]) (by kernel_rfl) (by simp) ?_
            refine AllReadyIn.cons rfl (fun K hK => ?_) ?_
            · go_simp
              refine hK _ _ ?_
              clear hK K
              refine wpAnyIn_done (by kernel_rfl) ?_ _
              exact ⟨rfl, HQ.out _ _ _ _ _ _ _ _ _ _ _⟩
            exact AllReadyIn.nil
          exact AllReadyIn.nil
        exact AllReadyIn.nil
      exact AllReadyIn.nil
    exact AllReadyIn.nil
  exact AllReadyIn.nil
end Go.Proofs.Ytcaioffdcbjbjaa.Un
/-
  CONTRACT of layer unify: what was told in vain is taken back: the function.
-/
namespace Go.Proofs.Ytcaioffdcbjbjaa.Un
open Go.RowKit Go.Shelf Mm Tm Mk Go.Maps Go.ChangeMaps Go.MapKept Go.WideMaps Rg
set_option linter.unusedVariables false
set_option linter.unusedSimpArgs false
attribute [local go_sem] Oper.semAt_some
def UndoPost (base s m : Nat) (nx : Int) (t : PS × Nat) (w : World) (e : Ending) (w' : World) : Prop := e = .returned (.tuple #[]) ∧ KnI (ZT base N0 w') w' m t.1 t.2 ∧ Box w' s TSt #[.map (some m), .int .i64 nx] ∧ Kept (fun b => b = m) w w'
def foldU {G : CA → Prop} (s : KS × Nat) (pre : List (Int × { e : CA // G e })) : KS × Nat := pre.foldl (fun q x => undoK1 q x.2.1) s
theorem foldU_snoc {G : CA → Prop} (s : KS × Nat) (pre : List (Int × { e : CA // G e })) (x : Int × { e : CA // G e }) : foldU s (pre ++ [x]) = undoK1 (foldU s pre) x.2.1 := by simp [foldU]
theorem foldU_all {G : CA → Prop} (s : KS × Nat) (xs : List (Int × { e : CA // G e })) (eg : List { e : CA // G e }) (h : xs.map (·.2) = eg.reverse) : foldU s xs = (eg.map (·.1)).foldr (fun e q => undoK1 q e) s := by
  have h1 : foldU s xs = (xs.map (·.2)).foldl (fun q x => undoK1 q x.1) s := by
    unfold foldU
    rw [List.foldl_map]
  rw [h1, h, List.foldl_reverse, List.foldr_map]
theorem undoK1_cnt (s : KS × Nat) (e : CA) : (undoK1 s e).2 ≤ s.2 + 1 := by
  unfold undoK1
  split <;> split <;> simp <;> omega
theorem old_good {Z : Nat → Prop} {w : World} {es : List CA} {l : List (Int × Option PF)} (h : OldE Z w es l) (hin : ∀ x ∈ l, inI x.1 = true) : ∀ e ∈ es, inI e.1 = true ∧ (e.2.1 = true → FactR Z w e.2.2) := by
  induction h with
  | nil => intro e he; simp at he
  | @cons e x es l h1 h2 h3 _ ih =>
    intro e' he
    rcases List.mem_cons.1 he with rfl | q
    · refine ⟨by rw [h1]; exact hin x (by simp), fun hf => ?_⟩
      rw [h2] at hf
      cases hx : x.2 with
      | none => rw [hx] at hf; cases hf
      | some f => rw [hx] at h3; exact h3.2
    · exact ih (fun y hy => hin y (by simp [hy])) e' q
theorem exists_subC {G : CA → Prop} : ∀ es : List CA, (∀ e ∈ es, G e) → ∃ eg : List { e : CA // G e }, eg.map (·.1) = es
  | [], _ => ⟨[], rfl⟩
  | e :: es, h => by
    obtain ⟨eg, q⟩ := exists_subC es fun x hx => h x (by simp [hx])
    exact ⟨⟨e, h e (by simp)⟩ :: eg, by simp [q]⟩
set_option maxRecDepth 100000 in
set_option maxHeartbeats 8000000 in
theorem undo_any {base mk s m : Nat} {nx : Int} {tv pv ov : Value} {st : St} (w : World) (hI : SetI base N0 w mk s m nx tv pv ov st) (hb : base ≤ w.heap.size) (hin : ∀ x ∈ st.old, inI x.1 = true) (hl : st.old.length ≤ 100000000000) (hc : st.cnt ≤ 100000000000) :
    Calls Try.prog 18 #[.pointer (some ⟨mk, 0, none⟩)] w (UndoPost base s m nx (undoS (st.K, st.cnt) st.old) w) := by
  obtain ⟨KS0, hm, her⟩ := hI.kn
  obtain ⟨vs, o1, o2⟩ := hI.old
  obtain ⟨es, ho, hcs⟩ := old_es _ _ o2
  have hlen := ho.len
  obtain ⟨ao, co, rfl⟩ := own_slice o1
  obtain ⟨w6, hw6⟩ : ∃ w6, (w.alloc (.cells #[.pointer (some ⟨mk, 0, none⟩)] TPMg)).alloc (.cells #[.slice ao st.old.length co] TChs) = w6 := ⟨_, rfl⟩
  have hB6 : Below w.heap.size w w6 := by rw [← hw6]; exact ((Below.refl w.heap.size w).alloc (Nat.le_refl _) _).alloc (by simp) _
  have hz6 : w6.heap.size = w.heap.size + 2 := by rw [← hw6]; simp
  have hPb : Box w6 w.heap.size TPMg #[.pointer (some ⟨mk, 0, none⟩)] := by rw [← hw6]; exact (Box.new w _ _).alloc _
  have hBs : Box w6 (w.heap.size + 1) TChs #[.slice ao st.old.length co] := by rw [← hw6]; exact Box.at_ _ _ (by simp)
  have hMk := hI.box.below hB6 hI.box.lt
  have hS := hI.sbox.below hB6 hI.sbox.lt
  have hm6 := hm.below hB6 hm.lt
  obtain ⟨G, hG⟩ : ∃ G : CA → Prop, G = fun e => inI e.1 = true ∧ (e.2.1 = true → FactR (ZT base N0 w) w e.2.2) := ⟨_, rfl⟩
  obtain ⟨eg, heg⟩ := exists_subC (G := G) es (by rw [hG]; exact old_good ho hin)
  have hgl : eg.length = st.old.length := by rw [← hlen, ← heg, List.length_map]
  have hRK : RowK w6 ao (eg.map (·.1)) := by
    rw [heg]
    intro i e he
    have hi : i < es.length := (List.getElem?_eq_some_iff.1 he).1
    obtain ⟨g, e1, g1, g2, _, hcell⟩ := own_at o1 (by omega)
    refine ⟨g, e1, fun j v hj => (hB6.cell (p := ⟨g, i * 9 + j, none⟩) g2).trans ((hcell _ ?_).trans (hcs i e he j v hj))⟩
    have hj9 : j < 9 := by
      have := (Array.getElem?_eq_some_iff.1 hj).1
      simpa using this
    omega
  have hgb : ∀ g, ao = some ⟨g, 0, none⟩ → eg ≠ [] → g < w.heap.size ∧ TyB TCh w g := fun g e hne => by
    obtain ⟨g', e1, g1, g2, _, _⟩ := own_at o1 (by have := List.length_pos_iff.2 hne; omega)
    rw [e] at e1
    injection e1 with e1
    injection e1 with e1
    rw [e1]
    refine ⟨g2, (own_tyB o1 (k := g') ?_).2⟩
    rw [e, e1]
    rfl
  have hXX : ∀ (A : World) k, k = w.heap.size + 1 ∨ (eg ≠ [] ∧ ∃ ad, ao = some ad ∧ k = ad.block) → ¬ k = m := by
    rintro A k (rfl | ⟨hne, ad, e, rfl⟩) q
    · have := hm.lt; omega
    · obtain ⟨g', e1, _, _, _, _⟩ := own_at o1 (by have := List.length_pos_iff.2 hne; omega)
      rw [e] at e1
      injection e1 with e1
      have := (hgb g' (by rw [e, e1]) hne).2
      rw [← show ad.block = g' by rw [e1], q] at this
      exact map_notTyB hm this
  have hmk : mk ≠ m := fun e => hm.ne hI.box e.symm
  have hsm : s ≠ m := fun e => hm.ne hI.sbox e.symm
  obtain ⟨a0, a1, a2, a3, _⟩ := hMk.cells4
  obtain ⟨a0', a1', a2', a3', _⟩ := (hI.box.alloc (.cells #[.pointer (some ⟨mk, 0, none⟩)] TPMg)).cells4
  have zmk := hI.box.lt
  have zs := hI.sbox.lt
  have zm := hm.lt
  have HI := Lib.hid hI
  have HB6 := Lib.hid hB6
  have HX := Lib.hid (And.intro hPb (And.intro hMk hS))
  have HM6 := Lib.hid hm6
  have HE := Lib.hid (And.intro ho (And.intro heg her))
  have HBS := Lib.hid hBs
  have HGL := Lib.hid hgl
  have HW6 := Lib.hid hw6
  clear hI hm her o1 o2 ho hcs hB6 hPb hBs hMk hS hm6 heg hlen hgl hgb
  refine (callsIn_wide (n := 20)).1 ?_
  refine callsIn_of_wp_marks Try.func18 rfl trivial ?_ rfl
  simp only [Try.ntmps18, List.size_toArray, List.length_cons, List.length_nil, Nat.reduceAdd, Nat.reduceSub, Array.replicate_succ, Array.replicate_zero, List.push_toArray, List.append_toArray, List.nil_append, List.cons_append]
  refine wpIn_wide.2 ?_
  clear hw6
  go_wp2_with fail
  refine (backC_any ao st.old.length co _).mono ?_
  rintro e w6' ⟨rfl, rfl⟩
  rw [show (w.alloc (.cells #[.pointer (some ⟨mk, 0, none⟩)] TPMg)).heap.size = w.heap.size + 1 by simp, HW6.out]
  clear a0' a1' a2' a3' a0 a1 a2 a3
  go_wp2_with fail
  refine wpIn_wide.1 (range_own (n := 20) (X := fun _ k => k = m) (by omega) (gf := 34) (lb := #[.pointer (some ⟨w.heap.size + 1, 0, none⟩)]) rfl (enters_of Try.func34 (by kernel_rfl) rfl)
    (backC_seq (n := 19) (G := G) (es := eg) (Bs := w.heap.size + 1) (b := ao) (c := co) (by omega) w6 (by rw [HGL.out]; exact HBS.out) hRK (by rw [HGL.out]; omega) hXX) (Below.refl _ _) (fun _ => rfl) (fun A b o h1 h2 _ _ q => by omega) (fun A C b _ h => h)
    (fun pre W' => Kept (fun b => b = m ∨ w6.heap.size ≤ b) w6 W' ∧ MapK W' Try.prog TI m (storeF (foldU (KS0, st.cnt) pre).1) (foldU (KS0, st.cnt) pre).2 ∧ (foldU (KS0, st.cnt) pre).2 ≤ st.cnt + pre.length)
    (fun _ _ _ => False) (fun s' A C h hs => ⟨h.1.trans (Kept.mono hs fun k _ q => .inr q.1), h.2.1.same (hs.block m h.2.1.lt (fun q => q.2 rfl)), h.2.2⟩) (fun _ _ _ _ h _ => h) ⟨Kept.refl _ _, HM6.out, by simp [foldU]⟩
    (fun xi ai W' => ∃ Bx, Box W' Bx TCh (caC xi.2.1) ∧ ∃ (b0 b2 b4 b5 b6 b7 b8 b9 b10 b11 b12 b13 b14 b15 b16 b17 b18 b19 b20 b21 b22 b23 b24 b25 b26 b27 b28 b29 b30 b31 b32 : Value), ai = { tmps := #[b0, .pointer (some ⟨w.heap.size, 0, none⟩), b2, .pointer (some ⟨Bx, 0, none⟩), b4, b5, b6, b7, b8, b9, b10, b11, b12, b13, b14, b15, b16, b17, b18, b19, b20, b21, b22, b23, b24, b25, b26, b27, b28, b29, b30, b31, b32], defers := [] })
    (fun x a' A k o o' ⟨Bx, hb, ha⟩ ho hc => ⟨Bx, (World.putObj_heap_other (fun e => by unfold Box at hb; rw [e, ho] at hb; injection hb with hb; rw [hb] at hc; cases hc)).trans hb, ha⟩) ?_ ?_ ?_ ?_)
  · rintro l2 pre xi Wa Ka hPA hsza hKa
    obtain ⟨xn, ⟨⟨cn, cf, cg⟩, xg⟩⟩ := xi
    simp only [encC, caV]
    gi_wp2
    refine hKa _ _ ((Below.refl _ Wa).alloc (Nat.le_refl _) (.cells (caC (cn, cf, cg)) TCh)) ⟨Wa.heap.size, Box.new _ _ _, ?_⟩
    (repeat apply Exists.intro)
    rfl
  · rintro l2 pre xi ai Wb hl2 hl2b ⟨hkp, hmb, hcb⟩ hlen ⟨Bx, hBx, hax⟩
    obtain ⟨xn, ⟨⟨cn, cf, cg⟩, xg⟩⟩ := xi
    obtain ⟨b0, b2, b4, b5, b6, b7, b8, b9, b10, b11, b12, b13, b14, b15, b16, b17, b18, b19, b20, b21, b22, b23, b24, b25, b26, b27, b28, b29, b30, b31, b32, rfl⟩ := hax
    have xg' := xg
    rw [hG] at xg'
    have hci : inI cn = true := xg'.1
    have p0 : Wb.cell? ⟨w.heap.size, 0, none⟩ = some (.pointer (some ⟨mk, 0, none⟩)) := (Kept.box hkp HX.out.1 (fun q => by omega)).cell 0
    obtain ⟨q0, _⟩ := (Kept.box hkp HX.out.2.1 (fun q => q.elim hmk fun q => by omega)).cells4
    obtain ⟨s0, _⟩ := (Kept.box hkp HX.out.2.2 (fun q => q.elim hsm fun q => by omega)).cells2
    obtain ⟨c0, c1, c2, c3, c4, c5, c6, c7, c8⟩ := Box.cells9 (show Box Wb Bx TCh #[.int .i64 cn, .bool cf, .int .i64 cg.kd, .int .i64 cg.n, .string cg.nm, .slice cg.a cg.args.len cg.c, .int .i64 cg.least, .int .i64 cg.depth, .bool cg.held] from hBx)
    have hpb := Kept.box hkp HX.out.1 (fun q => by omega)
    have hmb2 := Kept.box hkp HX.out.2.1 (fun q => q.elim hmk fun q => by omega)
    have hsb := Kept.box hkp HX.out.2.2 (fun q => q.elim hsm fun q => by omega)
    have hbb := hBx
    have hcl : (foldU (KS0, st.cnt) pre).2 < 300000000000 := by have := HGL.out; omega
    have HKP := Lib.hid hkp
    have HMB := Lib.hid hmb
    have HCB := Lib.hid hcb
    have HFS := Lib.hid (foldU_snoc (KS0, st.cnt) pre (xn, ⟨(cn, cf, cg), xg⟩))
    have HCI := Lib.hid hci
    cases cf with
    | true =>
      obtain ⟨W', hup, hm', hg'⟩ := map_putF (n := cn) cg (hmb.drew) hcl hci
      have HN := Lib.hid (And.intro hm' hg')
      clear hkp hmb hcb hBx hm' hg' hcl hci xg'
      gi_wp2
      refine put_round Wb _ _ _ _ _ _ _ _ _ _ _ _ _ _ _ _ _ _ _ _ _ _ _ _ _ _ _ _ _ _ _ hpb hmb2 hsb hbb hup fun c13 c14 c15 c16 c17 c18 c19 c20 c21 c22 c23 => ?_
      · 
        obtain ⟨hm', hg'⟩ := HN.out
        have hk' : Kept (fun b => b = m) Wb W' := Kept.grown ((Kept.refl _ Wb).drew) hg' (fun k e _ => by injection e with e; exact e.symm)
        have hkk : Kept (fun b => b = m ∨ w6.heap.size ≤ b) w6 W' := HKP.out.trans (hk'.mono fun k _ e => .inl e)
        refine ⟨hk', hkk, ?_, ?_⟩
        · rw [HFS.out]
          exact hm'
        · rw [HFS.out, List.length_append]
          have := undoK1_cnt (foldU (KS0, st.cnt) pre) (cn, true, cg)
          have := HCB.out
          simp only [List.length_cons, List.length_nil]
          omega
    | false =>
      obtain ⟨W', hup, hm', hg'⟩ := map_delF (n := cn) 0 (hmb.drew) hci
      have HN := Lib.hid (And.intro hm' hg')
      clear hkp hmb hcb hBx hm' hg' hcl hci xg'
      gi_wp2
      refine del_round Wb _ _ _ _ _ _ _ _ _ _ _ _ _ _ _ _ _ _ _ _ _ _ _ _ _ _ _ _ _ _ _ hpb hmb2 hsb hbb hup fun c24 c25 c26 c27 c28 c29 c30 c31 c32 => ?_
      · 
        obtain ⟨hm', hg'⟩ := HN.out
        have hk' : Kept (fun b => b = m) Wb W' := Kept.grown ((Kept.refl _ Wb).drew) hg' (fun k e _ => by injection e with e; exact e.symm)
        have hkk : Kept (fun b => b = m ∨ w6.heap.size ≤ b) w6 W' := HKP.out.trans (hk'.mono fun k _ e => .inl e)
        refine ⟨hk', hkk, ?_, ?_⟩
        · rw [HFS.out]
          exact hm'
        · rw [HFS.out, List.length_append]
          have := undoK1_cnt (foldU (KS0, st.cnt) pre) (cn, false, cg)
          have := HCB.out
          simp only [List.length_cons, List.length_nil]
          omega
  · rintro D xs Wd hD hS ⟨hkp, hmd, _⟩ hDef
    rw [foldU_all _ _ _ hS, HE.out.2.1] at hmd
    have HMD := Lib.hid hmd
    have HKP := Lib.hid hkp
    clear hmd hkp
    go_wp2_with fail
    refine leaves_one Wd hDef ?_
    intro w8 hk8
    have hDl := (Array.getElem?_eq_some_iff.1 hDef).1
    have hkE : KnE (ZT base N0 w) w (es.foldr (fun e q => undoK1 q e) (KS0, st.cnt)) (undoS (st.K, st.cnt) st.old) := KnE.all (s := (KS0, st.cnt)) (t := (st.K, st.cnt)) ⟨HE.out.2.2, rfl⟩ HE.out.1
    have hkw : Kept (fun b => b = m ∨ w.heap.size ≤ b) w Wd := (Kept.of_below HB6.out (Nat.le_refl _) _).trans (HKP.out.mono fun k _ q => q.imp id fun q => by omega)
    have hkn : KnI (ZT base N0 Wd) Wd m (undoS (st.K, st.cnt) st.old).1 (undoS (st.K, st.cnt) st.old).2 := by
      refine ⟨_, ?_, fun n => (hkE.1 n).frame (fun ad hz => World.cell?_of_block (hkw.block _ hz.lt (fun q => q.elim (fun e => ?_) fun q => by have := hz.lt; omega))) fun b hz => ⟨hz.1, hz.2.1.same (hkw.block b hz.lt (fun q => q.elim (fun e => ?_) fun q => by have := hz.lt; omega)), hz.2.2⟩⟩
      · rw [← hkE.2]; exact HMD.out
      · obtain ⟨KSx, qx, _⟩ := HI.out.kn
        exact map_notTyB qx (by rw [← e]; exact hz.2.1)
      · obtain ⟨KSx, qx, _⟩ := HI.out.kn
        exact map_notTyB qx (by rw [← e]; exact hz.2.1)
    refine ⟨_, results_none rfl _ _ _, rfl, hkn.kept hk8 (fun e => by omega) (fun b e q => ?_), ?_, ?_⟩
    · obtain ⟨cs, hc⟩ := q
      rw [e, hDef] at hc
      injection hc with hc
      cases hc
    · exact hk8.box (Kept.box HKP.out HX.out.2.2 (fun q => q.elim hsm fun q => by omega)) (by omega)
    · exact (hkw.trans (hk8.mono fun k _ e => .inr (by omega))).mono fun k hk q => q.elim id fun q => by omega
  · rintro D cst pre Wd hD hSp hf
    exact hf.elim
end Go.Proofs.Ytcaioffdcbjbjaa.Un
