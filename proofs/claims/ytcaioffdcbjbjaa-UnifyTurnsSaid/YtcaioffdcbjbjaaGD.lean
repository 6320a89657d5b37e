/-
  CONTRACTS of layer unify: unlike types; a side as a type; pairs of variables that were made the same ahead.
-/
import Derived.Test.YtcaioffdcbjbjaaGA
import Derived.Test.YtcaioffdcbjbjaaGC
import Derived.WideKeyEntry
import Derived.DeepKeys4
import Derived.RangeFuncBox
import Derived.WalkKit
import Derived.OwnWalkIn
import Derived.TacticsInMore
import Derived.LoopNIn
import Derived.LoopIn
import Derived.Maps.AppendAt
import Derived.Stop.RegionWithIn
import Derived.Deep.AppendLies
namespace Go.Proofs.Ytcaioffdcbjbjaa.Un
open Go.RowKit Mm Tm Mk Go.Maps Go.ChangeMaps Go.MapKept Go.WideMaps
set_option linter.unusedVariables false
set_option linter.unusedSimpArgs false
abbrev T2I : TypeId := 82
abbrev TMP : TypeId := 48
theorem laidOut : laidOutB Try.prog = true := by kernel_rfl
theorem row2I : T2I < Try.prog.types.size := of_decide_eq_true (by kernel_rfl)
theorem wide2I : (match Try.prog.underlying T2I with | some (.array _ _) | some (.struct _) => true | _ => false) = true := by rw [Try.underlying82]
set_option maxRecDepth 100000 in
theorem law2I : WideMaps.KeyLaw Try.prog T2I := deep_law_laid laidOut (m := 2) (by omega) row2I (by kernel_rfl) wide2I
theorem key2I : Keyed Try.prog T2I := Keyed.of_law law2I
theorem cells2I : Try.prog.cellsOf T2I = 2 := by kernel_rfl
theorem cellsI : Try.prog.cellsOf TI = 1 := by kernel_rfl
theorem deep2I : Try.prog.keyType T2I = true := by kernel_rfl
theorem formed2I {c0 c1 : Value} : (Value.agg #[c0, c1]).formed Try.prog T2I = true := by simp [Value.formed, Try.underlying82, cells2I]
abbrev pairV (a b : Int) : Value := .agg #[.int .i64 a, .int .i64 b]
def litP (a b : Int) : Lit := .string (keyBytes [.int .i64 a, .int .i64 b])
theorem litP_key (a b : Int) : WideAt.IsKeyLit (litP a b) := by simp [litP, WideAt.IsKeyLit]
theorem wf_int {n : Int} (h : inI n = true) : (Lit.int .i64 n).wf = true := by
  have h := inI_iff.1 h
  have hm : IntKind.i64.min = -9223372036854775808 := by decide
  have hx : IntKind.i64.max = 9223372036854775807 := by decide
  simp [Lit.wf, hm, hx]
  omega
theorem key_pair {a b : Int} (ha : inI a = true) (hb : inI b = true) : keyOf Try.prog T2I (pairV a b) = some (litP a b) := by
  obtain ⟨m, hm⟩ : ∃ m, Try.prog.types.size = m + 1 := ⟨Try.prog.types.size - 1, by have : 1 ≤ Try.prog.types.size := of_decide_eq_true (by kernel_rfl); omega⟩
  have e0 : (Value.agg #[.int .i64 a, .int .i64 b]).cells.toList = [.int .i64 a, .int .i64 b] := rfl
  unfold keyOf
  rw [Try.underlying82]
  simp only [deep2I, formed2I, Bool.and_self, if_true, e0, hm]
  have q : ∀ n, inI n = true → Try.prog.keyLits (m + 1) TI [.int .i64 n] = some [.int .i64 n] := fun n hn => by
    unfold Program.keyLits
    rw [Try.underlying3]
    simp [wf_int hn]
  unfold Program.keyLits
  rw [Try.underlying82]
  simp [cells2I, cellsI, List.range_succ, q a ha, q b hb, litP]
set_option maxRecDepth 100000 in
set_option maxHeartbeats 4000000 in
theorem unlike_any {x y : Ty} {a b : Option Addr} {c d : Nat} (w : World) :
    Calls Try.prog 31 #[.agg #[.int .i64 x.kd, .int .i64 x.n, .string x.nm, .slice a x.args.len c], .agg #[.int .i64 y.kd, .int .i64 y.n, .string y.nm, .slice b y.args.len d]] w (BoolB (decide (x.kd ≠ y.kd ∨ x.nm ≠ y.nm ∨ x.args.len ≠ y.args.len)) w) := by
  obtain ⟨W0, hW0⟩ : ∃ W0, (w.alloc (.cells #[.int .i64 x.kd, .int .i64 x.n, .string x.nm, .slice a x.args.len c] TT)).alloc (.cells #[.int .i64 y.kd, .int .i64 y.n, .string y.nm, .slice b y.args.len d] TT) = W0 := ⟨_, rfl⟩
  have HB0 := Lib.hid (show Below w.heap.size w W0 by rw [← hW0]; exact ((Below.refl w.heap.size w).alloc (Nat.le_refl _) _).alloc (by simp) _)
  have hX0 : Box W0 w.heap.size TT #[.int .i64 x.kd, .int .i64 x.n, .string x.nm, .slice a x.args.len c] := by rw [← hW0]; exact (Box.new w _ _).alloc _
  have hY0 : Box W0 (w.heap.size + 1) TT #[.int .i64 y.kd, .int .i64 y.n, .string y.nm, .slice b y.args.len d] := by rw [← hW0]; exact Box.at_ _ _ (by simp)
  obtain ⟨x0, x1, x2, x3, _⟩ := hX0.cells4
  obtain ⟨y0, y1, y2, y3, _⟩ := hY0.cells4
  clear hX0 hY0
  go_enter Try.func31, Try.ntmps31
  by_cases h1 : x.kd = y.kd
  · have q1 : (x.kd != y.kd) = false := by simp [h1]
    by_cases h2 : x.nm = y.nm
    · have q2 : (x.nm.toList == y.nm.toList) = true := by rw [h2]; simp
      by_cases h3 : x.args.len = y.args.len
      · have q3 : ((x.args.len : Int) != y.args.len) = false := by simp [h3]
        have HE := Lib.hid (show decide (x.kd ≠ y.kd ∨ x.nm ≠ y.nm ∨ x.args.len ≠ y.args.len) = false by simp [h1, h2, h3])
        have h3' := Lib.hid h3
        clear h1 h2 h3
        go_wp2_with fail
        go_ret
        exact ⟨by rw [HE.out]; rfl, HB0.out⟩
      · have q3 : ((x.args.len : Int) != y.args.len) = true := by
          have h4 : ¬ ((x.args.len : Int) = y.args.len) := by omega
          simpa using h4
        have HE := Lib.hid (show decide (x.kd ≠ y.kd ∨ x.nm ≠ y.nm ∨ x.args.len ≠ y.args.len) = true by simp [h3])
        clear h1 h2 h3
        go_wp2_with fail
        go_ret
        exact ⟨by rw [HE.out]; rfl, HB0.out⟩
    · have q2 : (x.nm.toList == y.nm.toList) = false := by
        rw [beq_eq_false_iff_ne]
        intro e
        rw [ByteArray.toList_eq, ByteArray.toList_eq] at e
        exact h2 (WideShapes.bytes_inj e)
      have HE := Lib.hid (show decide (x.kd ≠ y.kd ∨ x.nm ≠ y.nm ∨ x.args.len ≠ y.args.len) = true by simp [h2])
      clear h1 h2
      go_wp2_with fail
      go_ret
      exact ⟨by rw [HE.out]; rfl, HB0.out⟩
  · have q1 : (x.kd != y.kd) = true := by simpa using h1
    have HE := Lib.hid (show decide (x.kd ≠ y.kd ∨ x.nm ≠ y.nm ∨ x.args.len ≠ y.args.len) = true by simp [h1])
    clear h1
    go_wp2_with fail
    go_ret
    exact ⟨by rw [HE.out]; rfl, HB0.out⟩
abbrev sideC' (s : Side) : Array Value := #[.int .i64 s.f.kd, .int .i64 s.f.n, .string s.f.nm, .slice s.f.a s.f.args.len s.f.c, .int .i64 s.f.least, .int .i64 s.f.depth, .bool s.f.held, .bool s.isVar, .int .i64 s.n]
/-- a side as a type -/
def asTyV (s : Side) : Value := if s.isVar then .agg #[.int .i64 1, .int .i64 s.n, .string noN, .slice none 0 0] else .agg #[.int .i64 s.f.kd, .int .i64 s.f.n, .string s.f.nm, .slice s.f.a s.f.args.len s.f.c]
set_option maxRecDepth 100000 in
set_option maxHeartbeats 4000000 in
theorem asType_any {s : Side} (w : World) : Calls Try.prog 37 #[sideV s] w (ValB (asTyV s) w) := by
  obtain ⟨W0, hW0⟩ : ∃ W0, (w.alloc (.cells (sideC' s) TSide)).alloc (.cells zeroT TT) = W0 := ⟨_, rfl⟩
  have HB0 := Lib.hid (show Below w.heap.size w W0 by rw [← hW0]; exact ((Below.refl w.heap.size w).alloc (Nat.le_refl _) _).alloc (by simp) _)
  have hX0 : Box W0 w.heap.size TSide (sideC' s) := by rw [← hW0]; exact (Box.new w _ _).alloc _
  have hR0 : Box W0 (w.heap.size + 1) TT zeroT := by rw [← hW0]; exact Box.at_ _ _ (by simp)
  have HR0 := Lib.hid hR0
  obtain ⟨x0, x1, x2, x3, x4, x5, x6, x7, x8⟩ := hX0.cells9
  obtain ⟨r0, r1, r2, r3, rf0, rf1, rf2, rf3⟩ := hR0.cells4
  have HV := Lib.hid (variable_any s.n W0)
  clear hX0 hR0
  go_enter Try.func37, Try.ntmps37
  cases hv : s.isVar with
  | true =>
    have HVV := Lib.hid hv
    rw [hv] at x7
    clear hv
    go_wp2_with fail
    refine HV.out.mono ?_
    rintro e w3 ⟨rfl, hb3⟩
    have hR3 := HR0.out.below hb3 HR0.out.lt
    obtain ⟨W4, hW4, hbx, hwr⟩ := hR3.write4 (.int .i64 1) (.int .i64 s.n) (.string noN) (.slice none 0 0)
    obtain ⟨q0, q1, q2, q3, _⟩ := hbx.cells4
    have HQ := Lib.hid (And.intro q0 (And.intro q1 (And.intro q2 q3)))
    have HB4 := Lib.hid (hwr.below (HB0.out.trans (hb3.mono HB0.out.size)) (by omega))
    obtain ⟨s0, s1, s2, s3, sf0, sf1, sf2, sf3⟩ := hR3.cells4
    clear hb3 hR3 hbx hwr q0 q1 q2 q3 x0 x1 x2 x3 x4 x5 x6 x7 x8 r0 r1 r2 r3 rf0 rf1 rf2 rf3
    go_wp2_with fail
    obtain ⟨q0, q1, q2, q3⟩ := HQ.out
    refine bodyPost_ret (v := .agg #[.int .i64 1, .int .i64 s.n, .string noN, .slice none 0 0]) (by simp [results, Try.results37, go_sem, q0, q1, q2, q3]) rfl ?_
    exact ⟨by unfold asTyV; rw [HVV.out]; rfl, HB4.out⟩
  | false =>
    have HVV := Lib.hid hv
    rw [hv] at x7
    obtain ⟨W4, hW4, hbx, hwr⟩ := HR0.out.write4 (.int .i64 s.f.kd) (.int .i64 s.f.n) (.string s.f.nm) (.slice s.f.a s.f.args.len s.f.c)
    obtain ⟨q0, q1, q2, q3, _⟩ := hbx.cells4
    have HQ := Lib.hid (And.intro q0 (And.intro q1 (And.intro q2 q3)))
    have HB4 := Lib.hid (hwr.below HB0.out (by omega))
    clear hv hbx hwr q0 q1 q2 q3
    go_wp2_with fail
    obtain ⟨q0, q1, q2, q3⟩ := HQ.out
    refine bodyPost_ret (v := .agg #[.int .i64 s.f.kd, .int .i64 s.f.n, .string s.f.nm, .slice s.f.a s.f.args.len s.f.c]) (by simp [results, Try.results37, go_sem, q0, q1, q2, q3]) rfl ?_
    exact ⟨by unfold asTyV; rw [HVV.out]; rfl, HB4.out⟩
end Go.Proofs.Ytcaioffdcbjbjaa.Un
/-
  CONTRACT of layer unify: were two variables' types made the same ahead?
-/
namespace Go.Proofs.Ytcaioffdcbjbjaa.Un
open Go.RowKit Mm Tm Mk Go.Maps Go.ChangeMaps Go.MapKept Go.WideMaps
set_option linter.unusedVariables false
set_option linter.unusedSimpArgs false
/-- The pairs' map: how often each pair was made the same. -/
def PrI (w : World) (pm : Nat) (M : PM) (c : Nat) : Prop := ∃ F, MapK w Try.prog T2I pm F c ∧ ∀ a b, inI a = true → inI b = true → (F (litP a b)).getD (.int .i64 0) = .int .i64 (M a b)
theorem PrI.lt {w : World} {pm c : Nat} {M : PM} (h : PrI w pm M c) : pm < w.heap.size := by
  obtain ⟨F, h1, _⟩ := h
  exact h1.lt
theorem PrI.same {w w' : World} {pm c : Nat} {M : PM} (h : PrI w pm M c) (hb : w'.heap[pm]? = w.heap[pm]?) : PrI w' pm M c := by
  obtain ⟨F, h1, h2⟩ := h
  exact ⟨F, h1.same hb, h2⟩
theorem PrI.below {w w' : World} {pm c : Nat} {M : PM} (h : PrI w pm M c) (hb : Below w.heap.size w w') : PrI w' pm M c := h.same (hb.block pm h.lt)
def AheadPost (pm c : Nat) (M' : PM) (r : Bool) (w : World) (e : Ending) (w' : World) : Prop := e = .returned (.bool r) ∧ (∃ c', c' ≤ c + 1 ∧ PrI w' pm M' c') ∧ Kept (· = pm) w w'
theorem litP_inj {a b x y : Int} (ha : inI a = true) (hb : inI b = true) (hx : inI x = true) (hy : inI y = true) (h : litP a b = litP x y) : a = x ∧ b = y := by
  have h1 := key_pair ha hb
  have h2 := key_pair hx hy
  rw [← h] at h2
  have h3 := law2I.inj h1 h2
  injection h3 with h3
  simp at h3
  exact h3
theorem zeroI (u : World) : (zeroValue TI).run Try.prog u = .ok (.int .i64 0) u := by kernel_rfl
theorem setBlock_two (w : World) (b : Nat) (o o' : Obj) : setBlock (setBlock w b o) b o' = setBlock w b o' := by
  unfold setBlock
  simp
theorem setBlock_self {w : World} {b : Nat} {o : Obj} (h : w.heap[b]? = some o) : setBlock w b o = w := by
  unfold setBlock
  have hs : w.heap.setIfInBounds b o = w.heap := by
    apply Array.ext'
    rw [Array.toList_setIfInBounds]
    exact WideElems.set_self _ _ _ (by simpa using h)
  rw [hs]
/-- behind the entry's making a look-up tells what it told -/
theorem entry_look {P : Program} {w : World} {t k e : TypeId} {b : Nat} {es : Array MapEntry} {clock : Nat} (K : Keyed P k) (ht : P.underlying t = some (.map k e)) {z : Value} (hz : ∀ u : World, (zeroValue e).run P u = .ok z u) (hb : w.heap[b]? = some (.map es clock)) (F : WideElems.Fit P k rawK es clock) {key : Value} {kl : Lit} (hkey : keyOf P k key = some kl) {v : Value} (hv : (Instr.lookup t (.map (some b)) key false).run P w = .ok v w) {u : Value} {W2 : World} (h2 : (Instr.mapEntry t (.map (some b)) key).run P w = .ok u W2) :
    (Instr.lookup t (.map (some b)) key false).run P W2 = .ok v W2 := by
  rcases K.find w hkey es.toList F.keys with ⟨h1, hn⟩ | ⟨j, e0, h1, hj, he⟩
  · have hw2 : W2 = setBlock w b (.map (es.push ⟨key, z, clock⟩) (clock + 1)) := by
      simp [Instr.mapEntry, run_underlying ht, MapKept.run_getObj_map hb, K.check w false hkey, h1, hz, MapKept.run_setObj_map _ hb, Result.andThen, setBlock] at h2 ⊢
      exact h2.2.symm
    have hvz : v = z := by
      simp [Instr.lookup, run_underlying ht, MapKept.run_getObj_map hb, K.check w es.isEmpty hkey, h1, hz, Result.andThen] at hv
      exact hv.symm
    have hb2 : W2.heap[b]? = some (.map (es.push ⟨key, z, clock⟩) (clock + 1)) := by rw [hw2]; exact heap_setBlock_same hb _
    rw [hvz]
    rcases K.find W2 hkey (es.push ⟨key, z, clock⟩).toList (by
      intro x hx
      rw [Array.toList_push, List.mem_append] at hx
      rcases hx with q | q
      · exact F.keys x q
      · simp only [List.mem_singleton] at q
        subst q
        exact ⟨_, hkey⟩) with ⟨_, q2⟩ | ⟨j', e', q1, q2, q3⟩
    · exact absurd rfl (q2 ⟨key, z, clock⟩ (by simp))
    · have hm : e' ∈ (es.push ⟨key, z, clock⟩).toList := List.mem_of_getElem? q2
      rw [Array.toList_push, List.mem_append] at hm
      rcases hm with q | q
      · exact absurd q3 (hn e' q)
      · simp only [List.mem_singleton] at q
        subst q
        simp only [Array.toList_push] at q1
        simp [Instr.lookup, run_underlying ht, MapKept.run_getObj_map hb2, K.check W2 _ hkey, q1, hz, Result.andThen]
  · have hw2 : W2 = w := by
      have hj' : es[j]? = some e0 := by simpa using hj
      have hsame : es.modify j (fun e => { e with key := key }) = es := by
        apply Array.ext'
        rw [Array.toList_modify, modify_eq_set _ _ _ _ hj]
        have : ({ e0 with key := key } : MapEntry) = e0 := by rw [← he]
        rw [this]
        exact WideElems.set_self _ _ _ hj
      simp [Instr.mapEntry, run_underlying ht, MapKept.run_getObj_map hb, K.check w false hkey, h1, hj', he, K.stays w hkey, hsame, MapKept.run_setObj_map _ hb, Result.andThen] at h2
      rw [← h2.2]
      exact setBlock_self hb
    rw [hw2]
    exact hv
theorem pr_put {w : World} {pm c : Nat} {M : PM} {lo hi : Int} (h : PrI w pm M c) (hc : c < 1000000000) (hl : inI lo = true) (hh : inI hi = true) :
    ∃ (W2 W4 : World) (st : Int) (v0 : Value), (Instr.lookup TMP (.map (some pm)) (pairV lo hi) false).run Try.prog w = .ok (.int .i64 (M lo hi)) w ∧ (Instr.mapEntry TMP (.map (some pm)) (pairV lo hi)).run Try.prog w = .ok (.tuple #[v0, .int .i64 st]) W2 ∧
      (∃ c', c' ≤ c + 1 ∧ PrI W4 pm (updM M lo hi (wr (M lo hi + 1))) c') ∧ (Instr.entryStore TMP (.map (some pm)) (.int .i64 st) (.int .i64 (wrap64 (M lo hi + 1)))).run Try.prog W2 = .ok () W4 ∧ (Instr.lookup TMP (.map (some pm)) (pairV lo hi) false).run Try.prog W2 = .ok (.int .i64 (M lo hi)) W2 ∧ (w.grownBy W4 (some pm) ∧ W2.heap.size = w.heap.size) ∧
      ∀ W, W = W4 → (Instr.lookup TMP (.map (some pm)) (pairV lo hi) false).run Try.prog W.drew = .ok (.int .i64 (wrap64 (M lo hi + 1))) W.drew := by
  obtain ⟨F, hm, hF⟩ := h
  have hkey := key_pair hl hh
  have hlook := hm.look key2I Try.underlying48 (zeroI w) hkey (litP_key lo hi)
  rw [hF lo hi hl hh] at hlook
  obtain ⟨D, ⟨es, clock, k1, k2, k3, k4⟩, hr, hsz⟩ := hm
  obtain ⟨v0, st, es1, clock1, e1, e2, e3⟩ := WideElems.entry_then_store law2I Try.underlying48 zeroI k1 k2 hkey
  have hb2 : (setBlock w pm (.map es1 clock1)).heap[pm]? = some (.map es1 clock1) := heap_setBlock_same k1 _
  obtain ⟨es', clock', e4, e5⟩ := e3 (setBlock w pm (.map es1 clock1)) (.int .i64 (wrap64 (M lo hi + 1))) hb2
  rw [setBlock_two] at e4
  obtain ⟨w', hrun, u1, u2⟩ := World.ownsMap.update (⟨es, clock, k1, k2, k3, k4⟩ : w.ownsMap Try.prog T2I rawK pm c D) key2I Try.underlying48 (by unfold maxLen; omega) hkey (show rawK (.int .i64 (wrap64 (M lo hi + 1))) = some (.held _, []) from rfl)
  rw [e5] at hrun
  injection hrun with _ hrun
  subst hrun
  have hread := put_isK (World.ownsMap.isMap (⟨es, clock, k1, k2, k3, k4⟩ : w.ownsMap Try.prog T2I rawK pm c D)) hr (litP lo hi) (litP_key lo hi) (.int .i64 (wrap64 (M lo hi + 1)))
  have hsize := put_sizeK (⟨es, clock, k1, k2, k3, k4⟩ : w.ownsMap Try.prog T2I rawK pm c D) key2I hr (litP_key lo hi) hsz (.held (.int .i64 (wrap64 (M lo hi + 1))))
  have hmk : MapK (setBlock w pm (.map es' clock')) Try.prog T2I pm (updK F (litP lo hi) (.int .i64 (wrap64 (M lo hi + 1)))) (cntPut F (litP lo hi) c) := ⟨_, by rw [← hsize]; exact own_tight u1, hread, hsize⟩
  refine ⟨_, _, st, v0, hlook, e1, ⟨_, ?_, _, hmk, fun x y hx hy => ?_⟩, e4, entry_look key2I Try.underlying48 zeroI k1 k2 hkey hlook e1, ⟨u2, by simp [setBlock]⟩, ?_⟩
  · unfold cntPut; split <;> omega
  · unfold updK updM
    by_cases q : x = lo ∧ y = hi
    · obtain ⟨rfl, rfl⟩ := q
      rw [if_pos rfl, if_pos ⟨rfl, rfl⟩]
      rfl
    · rw [if_neg q, if_neg (fun e => q (litP_inj hx hy hl hh e))]
      exact hF x y hx hy
  · rintro W rfl
    have := MapK.look (w := (setBlock w pm (.map es' clock')).drew) hmk key2I Try.underlying48 (zeroI _) hkey (litP_key lo hi)
    rw [this]
    unfold updK
    rw [if_pos rfl]
    rfl
set_option maxRecDepth 100000 in
set_option maxHeartbeats 4000000 in
theorem ahead_lt {mk pm c : Nat} {M : PM} {a b : Int} {sv tv ov : Value} (w : World) (hbx : Box w mk TMg #[sv, tv, .map (some pm), ov]) (hp : PrI w pm M c) (hc : c < 1000000000) (ha : inI a = true) (hb : inI b = true) (hlt : a < b) :
    Calls Try.prog 32 #[.pointer (some ⟨mk, 0, none⟩), .int .i64 a, .int .i64 b] w (AheadPost pm c (updM M a b (wr (M a b + 1))) (decide (1 < wr (M a b + 1))) w) := by
  have hlt2 : ¬ b < a := by omega
  obtain ⟨W1, hW1⟩ : ∃ W1, w.alloc (.cells #[.int .i64 a, .int .i64 b] T2I) = W1 := ⟨_, rfl⟩
  have hB1 : Below w.heap.size w W1 := by rw [← hW1]; exact (Below.refl w.heap.size w).alloc (Nat.le_refl _) _
  have hX1 : Box W1 w.heap.size T2I #[.int .i64 a, .int .i64 b] := by rw [← hW1]; exact Box.new _ _ _
  obtain ⟨W2, W4, st, v0, h1, h2, h3, h4, h4l, h5, h6⟩ := pr_put (w := W1.drew) (hp.below hB1.drew) hc ha hb
  have hbx1 := hbx.below hB1 hbx.lt
  obtain ⟨a0, a1, a2, a3, _⟩ := hbx1.cells4
  obtain ⟨x0, x1, _⟩ := hX1.cells2
  have hne : mk ≠ pm := fun e => by
    obtain ⟨F, q, _⟩ := hp
    exact q.ne hbx e.symm
  have hbx4 : Box W4 mk TMg #[sv, tv, .map (some pm), ov] := hbx1.drew.grown h5.1 (fun e => hne (by injection e))
  have hX4 : Box W4 w.heap.size T2I #[.int .i64 a, .int .i64 b] := hX1.drew.grown h5.1 (fun e => by
    injection e with e
    have := hp.lt
    omega)
  have HBX4 := Lib.hid hbx4
  have HX4 := Lib.hid hX4
  have H3 := Lib.hid h3
  have H6 := Lib.hid h6
  have HK := Lib.hid (show Kept (· = pm) w W4 from ((Kept.refl (· = pm) w).trans (Kept.of_below hB1 (Nat.le_refl _) _)).drew.grown h5.1 (fun k hk _ => by injection hk with hk; exact hk.symm))
  clear hX1 hbx hbx1 hp hbx4 hX4 h5 h6 hB1 hne
  have h4w : (Instr.entryStore TMP (.map (some pm)) (.int .i64 st) (.int .i64 (IntKind.i64.wrap (M a b + 1)))).run Try.prog W2 = .ok () W4 := by rw [IntWalk.i64_left]; exact h4
  go_enter Try.func32, Try.ntmps32
  go_wp2_with fail
  clear hW1
  go_region
  obtain ⟨y0, y1, y2, y3, _⟩ := HBX4.out.cells4
  obtain ⟨z0, z1, _⟩ := HX4.out.cells2
  clear a0 a1 a2 a3 x0 x1 h1 h2 h3 h4 h4l h4w
  have h7 := H6.out W4 rfl
  by_cases hgt : 1 < wrap64 (M a b + 1)
  · have HE := Lib.hid (show decide (1 < wr (M a b + 1)) = true from decide_eq_true hgt)
    go_wp2_with fail
    go_region
    go_wp2_with fail
    go_ret
    exact ⟨by rw [HE.out]; rfl, H3.out, HK.out.drew⟩
  · have HE := Lib.hid (show decide (1 < wr (M a b + 1)) = false from decide_eq_false hgt)
    have hgf : decide (1 < wrap64 (M a b + 1)) = false := decide_eq_false hgt
    clear hgt
    go_wp2_with fail
    go_region
    go_wp2_with fail
    go_ret
    exact ⟨by rw [HE.out]; rfl, H3.out, HK.out.drew⟩
set_option maxRecDepth 100000 in
set_option maxHeartbeats 4000000 in
theorem ahead_gt {mk pm c : Nat} {M : PM} {a b : Int} {sv tv ov : Value} (w : World) (hbx : Box w mk TMg #[sv, tv, .map (some pm), ov]) (hp : PrI w pm M c) (hc : c < 1000000000) (ha : inI a = true) (hb : inI b = true) (hlt : b < a) :
    Calls Try.prog 32 #[.pointer (some ⟨mk, 0, none⟩), .int .i64 a, .int .i64 b] w (AheadPost pm c (updM M b a (wr (M b a + 1))) (decide (1 < wr (M b a + 1))) w) := by
  have hlt2 : ¬ a < b := by omega
  obtain ⟨W1, hW1⟩ : ∃ W1, w.alloc (.cells #[.int .i64 b, .int .i64 a] T2I) = W1 := ⟨_, rfl⟩
  have hB1 : Below w.heap.size w W1 := by rw [← hW1]; exact (Below.refl w.heap.size w).alloc (Nat.le_refl _) _
  have hX1 : Box W1 w.heap.size T2I #[.int .i64 b, .int .i64 a] := by rw [← hW1]; exact Box.new _ _ _
  obtain ⟨W2, W4, st, v0, h1, h2, h3, h4, h4l, h5, h6⟩ := pr_put (w := W1.drew) (hp.below hB1.drew) hc hb ha
  have hbx1 := hbx.below hB1 hbx.lt
  obtain ⟨a0, a1, a2, a3, _⟩ := hbx1.cells4
  obtain ⟨x0, x1, _⟩ := hX1.cells2
  have hne : mk ≠ pm := fun e => by
    obtain ⟨F, q, _⟩ := hp
    exact q.ne hbx e.symm
  have hbx4 : Box W4 mk TMg #[sv, tv, .map (some pm), ov] := hbx1.drew.grown h5.1 (fun e => hne (by injection e))
  have hX4 : Box W4 w.heap.size T2I #[.int .i64 b, .int .i64 a] := hX1.drew.grown h5.1 (fun e => by
    injection e with e
    have := hp.lt
    omega)
  have HBX4 := Lib.hid hbx4
  have HX4 := Lib.hid hX4
  have H3 := Lib.hid h3
  have H6 := Lib.hid h6
  have HK := Lib.hid (show Kept (· = pm) w W4 from ((Kept.refl (· = pm) w).trans (Kept.of_below hB1 (Nat.le_refl _) _)).drew.grown h5.1 (fun k hk _ => by injection hk with hk; exact hk.symm))
  clear hX1 hbx hbx1 hp hbx4 hX4 h5 h6 hB1 hne
  have h4w : (Instr.entryStore TMP (.map (some pm)) (.int .i64 st) (.int .i64 (IntKind.i64.wrap (M b a + 1)))).run Try.prog W2 = .ok () W4 := by rw [IntWalk.i64_left]; exact h4
  go_enter Try.func32, Try.ntmps32
  go_wp2_with fail
  clear hW1
  go_region
  obtain ⟨y0, y1, y2, y3, _⟩ := HBX4.out.cells4
  obtain ⟨z0, z1, _⟩ := HX4.out.cells2
  clear a0 a1 a2 a3 x0 x1 h1 h2 h3 h4 h4l h4w
  have h7 := H6.out W4 rfl
  by_cases hgt : 1 < wrap64 (M b a + 1)
  · have HE := Lib.hid (show decide (1 < wr (M b a + 1)) = true from decide_eq_true hgt)
    go_wp2_with fail
    go_region
    go_wp2_with fail
    go_ret
    exact ⟨by rw [HE.out]; rfl, H3.out, HK.out.drew⟩
  · have HE := Lib.hid (show decide (1 < wr (M b a + 1)) = false from decide_eq_false hgt)
    have hgf : decide (1 < wrap64 (M b a + 1)) = false := decide_eq_false hgt
    clear hgt
    go_wp2_with fail
    go_region
    go_wp2_with fail
    go_ret
    exact ⟨by rw [HE.out]; rfl, H3.out, HK.out.drew⟩
set_option maxRecDepth 100000 in
set_option maxHeartbeats 4000000 in
theorem ahead_eq {mk pm c : Nat} {M : PM} {a : Int} {sv tv ov : Value} (w : World) (hbx : Box w mk TMg #[sv, tv, .map (some pm), ov]) (hp : PrI w pm M c) (hc : c < 1000000000) (ha : inI a = true) (hlt : ¬ a < a) :
    Calls Try.prog 32 #[.pointer (some ⟨mk, 0, none⟩), .int .i64 a, .int .i64 a] w (AheadPost pm c (updM M a a (wr (M a a + 1))) (decide (1 < wr (M a a + 1))) w) := by
  obtain ⟨W1, hW1⟩ : ∃ W1, w.alloc (.cells #[.int .i64 a, .int .i64 a] T2I) = W1 := ⟨_, rfl⟩
  have hB1 : Below w.heap.size w W1 := by rw [← hW1]; exact (Below.refl w.heap.size w).alloc (Nat.le_refl _) _
  have hX1 : Box W1 w.heap.size T2I #[.int .i64 a, .int .i64 a] := by rw [← hW1]; exact Box.new _ _ _
  obtain ⟨W2, W4, st, v0, h1, h2, h3, h4, h4l, h5, h6⟩ := pr_put (w := W1.drew) (hp.below hB1.drew) hc ha ha
  have hbx1 := hbx.below hB1 hbx.lt
  obtain ⟨a0, a1, a2, a3, _⟩ := hbx1.cells4
  obtain ⟨x0, x1, _⟩ := hX1.cells2
  have hne : mk ≠ pm := fun e => by
    obtain ⟨F, q, _⟩ := hp
    exact q.ne hbx e.symm
  have hbx4 : Box W4 mk TMg #[sv, tv, .map (some pm), ov] := hbx1.drew.grown h5.1 (fun e => hne (by injection e))
  have hX4 : Box W4 w.heap.size T2I #[.int .i64 a, .int .i64 a] := hX1.drew.grown h5.1 (fun e => by
    injection e with e
    have := hp.lt
    omega)
  have HBX4 := Lib.hid hbx4
  have HX4 := Lib.hid hX4
  have H3 := Lib.hid h3
  have H6 := Lib.hid h6
  have HK := Lib.hid (show Kept (· = pm) w W4 from ((Kept.refl (· = pm) w).trans (Kept.of_below hB1 (Nat.le_refl _) _)).drew.grown h5.1 (fun k hk _ => by injection hk with hk; exact hk.symm))
  clear hX1 hbx hbx1 hp hbx4 hX4 h5 h6 hB1 hne
  have h4w : (Instr.entryStore TMP (.map (some pm)) (.int .i64 st) (.int .i64 (IntKind.i64.wrap (M a a + 1)))).run Try.prog W2 = .ok () W4 := by rw [IntWalk.i64_left]; exact h4
  go_enter Try.func32, Try.ntmps32
  go_wp2_with fail
  clear hW1
  go_region
  obtain ⟨y0, y1, y2, y3, _⟩ := HBX4.out.cells4
  obtain ⟨z0, z1, _⟩ := HX4.out.cells2
  clear a0 a1 a2 a3 x0 x1 h1 h2 h3 h4 h4l h4w
  have h7 := H6.out W4 rfl
  by_cases hgt : 1 < wrap64 (M a a + 1)
  · have HE := Lib.hid (show decide (1 < wr (M a a + 1)) = true from decide_eq_true hgt)
    go_wp2_with fail
    go_region
    go_wp2_with fail
    go_ret
    exact ⟨by rw [HE.out]; rfl, H3.out, HK.out.drew⟩
  · have HE := Lib.hid (show decide (1 < wr (M a a + 1)) = false from decide_eq_false hgt)
    have hgf : decide (1 < wrap64 (M a a + 1)) = false := decide_eq_false hgt
    clear hgt
    go_wp2_with fail
    go_region
    go_wp2_with fail
    go_ret
    exact ⟨by rw [HE.out]; rfl, H3.out, HK.out.drew⟩
theorem ahead_any {mk pm c : Nat} {M : PM} {a b : Int} {sv tv ov : Value} (w : World) (hbx : Box w mk TMg #[sv, tv, .map (some pm), ov]) (hp : PrI w pm M c) (hc : c < 1000000000) (ha : inI a = true) (hb : inI b = true) :
    Calls Try.prog 32 #[.pointer (some ⟨mk, 0, none⟩), .int .i64 a, .int .i64 b] w (AheadPost pm c (aheadP M a b).1 (aheadP M a b).2 w) := by
  unfold aheadP
  by_cases h : b < a
  · rw [show min a b = b by omega, show max a b = a by omega]
    exact ahead_gt w hbx hp hc ha hb h
  · by_cases h2 : a < b
    · rw [show min a b = a by omega, show max a b = b by omega]
      exact ahead_lt w hbx hp hc ha hb h2
    · obtain rfl : a = b := by omega
      rw [show min a a = a by omega, show max a a = a by omega]
      exact ahead_eq w hbx hp hc ha h2
end Go.Proofs.Ytcaioffdcbjbjaa.Un
/-
  CONTRACTS of layer unify: slices.Backward at types: the row's types from the last one on.
-/
namespace Go.Proofs.Ytcaioffdcbjbjaa.Un
open Go.RowKit Go.Shelf Mm Tm Mk Go.Maps Go.ChangeMaps Go.MapKept Go.WideMaps Rg
set_option linter.unusedVariables false
set_option linter.unusedSimpArgs false
abbrev TTs : TypeId := 27
/-- a type and where its parts lie -/
abbrev TA := Ty × Option Addr × Nat
abbrev taV (e : TA) : Value := tyV e.1 e.2.1 e.2.2
/-- the cells of the types of a row -/
def RowC (w : World) (b : Option Addr) (es : List TA) : Prop := ∀ (i : Nat) (e : TA), es[i]? = some e → ∃ ad, b = some ad ∧ w.cell? (ad.add (i * 4)) = some (.int .i64 e.1.kd) ∧ w.cell? ⟨(ad.add (i * 4)).block, (ad.add (i * 4)).off + 1, none⟩ = some (.int .i64 e.1.n) ∧ w.cell? ⟨(ad.add (i * 4)).block, (ad.add (i * 4)).off + 2, none⟩ = some (.string e.1.nm) ∧
  w.cell? ⟨(ad.add (i * 4)).block, (ad.add (i * 4)).off + 3, none⟩ = some (.slice e.2.1 e.1.args.len e.2.2)
/-- types that are read, with where their parts lie -/
theorem rd_rowc {Z : Nat → Prop} {w : World} {b : Option Addr} : ∀ (t : Tys) (k : Nat), RdT Z w b t k → ∃ es : List TA, es.map (·.1) = t.toL ∧ (∀ (i : Nat) (e : TA), es[i]? = some e → ∃ ad, b = some ad ∧ w.cell? (ad.add ((k + i) * 4)) = some (.int .i64 e.1.kd) ∧ w.cell? ⟨(ad.add ((k + i) * 4)).block, (ad.add ((k + i) * 4)).off + 1, none⟩ = some (.int .i64 e.1.n) ∧ w.cell? ⟨(ad.add ((k + i) * 4)).block, (ad.add ((k + i) * 4)).off + 2, none⟩ = some (.string e.1.nm) ∧
    w.cell? ⟨(ad.add ((k + i) * 4)).block, (ad.add ((k + i) * 4)).off + 3, none⟩ = some (.slice e.2.1 e.1.args.len e.2.2) ∧ e.1.nm.size ≤ 9223372036854775807 ∧ e.1.args.len * 56 ≤ 140737488355328 ∧ RdT Z w e.2.1 e.1.args 0 ∧ Z ad.block)
  | .nil, k, _ => ⟨[], rfl, fun i e h => by simp at h⟩
  | .cons kd n nm args rest, k, ⟨⟨ad, a2, c2, e, h2, h3, h4, h5, h6, h7, h8, h9⟩, hr⟩ => by
    obtain ⟨es, e1, e2⟩ := rd_rowc rest (k + 1) hr
    refine ⟨(⟨kd, n, nm, args⟩, a2, c2) :: es, by rw [List.map_cons, e1]; rfl, fun i x hx => ?_⟩
    cases i with
    | zero =>
      simp at hx
      subst hx
      exact ⟨ad, e, h3, h4, h5, h6, h7, h8, h9, h2⟩
    | succ i =>
      have := e2 i x (by simpa using hx)
      rwa [show k + (i + 1) = k + 1 + i by omega]
theorem backT_any (b : Option Addr) (n c : Nat) (w : World) : Calls Try.prog 40 #[.slice b n c] w fun e w' => e = .returned (.func (.func 44) #[] #[.pointer (some ⟨w.heap.size, 0, none⟩)]) ∧ w' = w.alloc (.cells #[.slice b n c] TTs) := by
  go_enter Try.func40, Try.ntmps40
  go_wp2
  go_ret
  exact ⟨rfl, rfl⟩
attribute [local go_sem] Oper.semAt_some
abbrev encT {G : TA → Prop} (x : Int × { e : TA // G e }) : Array Value := #[.int .i64 x.1, taV x.2.1]
set_option maxRecDepth 100000 in
set_option maxHeartbeats 2000000 in
theorem backT_seq {n : Nat} (hn : 1 ≤ n) {X : World → Nat → Prop} {Bs c : Nat} {b : Option Addr} {G : TA → Prop} {es : List { e : TA // G e }} (w0 : World) (hBs : Box w0 Bs TTs #[.slice b es.length c]) (hc : RowC w0 b (es.map (·.1))) (hl : es.length * 56 ≤ 140737488355328)
    (hX : ∀ A k, k = Bs ∨ (es ≠ [] ∧ ∃ ad, b = some ad ∧ k = ad.block) → ¬ X A k) :
    Rg.Seq Try.prog n X 44 #[.pointer (some ⟨Bs, 0, none⟩)] encT (fun xs => xs.map (·.2) = es.reverse) (fun _ => True) es.length w0 := by
  intro l J Jx W hW hlo hlt hXl hJ hJx hY h0
  have hlen : es.length ≤ 140737488355328 := by omega
  have keep : ∀ {A C : World}, Rounds X l A C → Box A Bs TTs #[.slice b es.length c] → RowC A b (es.map (·.1)) → w0.heap.size ≤ A.heap.size → Box C Bs TTs #[.slice b es.length c] ∧ RowC C b (es.map (·.1)) := by
    intro A C hr hbx hrc hsz
    have hBl : Bs < w0.heap.size := hBs.lt
    refine ⟨hr.box hbx (fun e => e.elim (fun e => by omega) (hX A Bs (.inl rfl))), fun i e he => ?_⟩
    obtain ⟨ad, e1, c0, c1, c2, c3⟩ := hrc i e he
    have had : ad.block < w0.heap.size := by
      obtain ⟨ad', e1', c0', _⟩ := hc i e he
      rw [e1] at e1'
      injection e1' with e1'
      have := World.block_lt_of_cell? _ _ c0'
      rw [add_block, ← e1'] at this
      exact this
    have hne : es ≠ [] := by rintro rfl; simp at he
    have hnx : ∀ k, k = ad.block → ¬ (k = l ∨ X A k) := fun k hk e => e.elim (fun q => by omega) (hX A k (.inr ⟨hne, ad, e1, hk⟩))
    exact ⟨ad, e1, hr.cell c0 (hnx _ (add_block _ _)), hr.cell c1 (hnx _ (add_block _ _)), hr.cell c2 (hnx _ (add_block _ _)), hr.cell c3 (hnx _ (add_block _ _))⟩
  have hB1 : Box W Bs TTs #[.slice b es.length c] := hBs.below hW hBs.lt
  have hC1 : RowC W b (es.map (·.1)) := fun i e he => by
    obtain ⟨ad, e1, c0, c1, c2, c3⟩ := hc i e he
    have had := World.block_lt_of_cell? _ _ c0
    exact ⟨ad, e1, (hW.cell had).trans c0, (hW.cell (p := ⟨_, _, none⟩) had).trans c1, (hW.cell (p := ⟨_, _, none⟩) had).trans c2, (hW.cell (p := ⟨_, _, none⟩) had).trans c3⟩
  refine callsIn_of_wp Try.func44 rfl trivial ?_ rfl
  simp only [Try.ntmps44, List.size_toArray, List.length_cons, List.length_nil, Nat.reduceAdd, Nat.reduceSub, Array.replicate_succ, Array.replicate_zero, List.push_toArray, List.append_toArray, List.nil_append, List.cons_append]
  have b0 : W.cell? ⟨Bs, 0, none⟩ = some (.slice b es.length c) := hB1.cell 0
  have hw1 : wrap64 ((es.length : Int) - 1) = (es.length : Int) - 1 := IntWalk.wrap64_in _ (by omega)
  gi_wp2
  gi_loopw [3] (fun i wr => ∃ (k : Nat) (pre : List (Int × { e : TA // G e })), k ≤ es.length ∧ i = .int .i64 ((k : Int) - 1) ∧ pre.map (·.2) = (es.drop k).reverse ∧ J pre wr ∧ Box wr Bs TTs #[.slice b es.length c] ∧ RowC wr b (es.map (·.1)) ∧ w0.heap.size ≤ wr.heap.size)
    (fun i _ => ((intOf i) + 1).toNat)
  case atStart => exact ⟨es.length, [], Nat.le_refl _, rfl, by simp, h0, hB1, hC1, hW.size⟩
  case round =>
    obtain ⟨k, pre, hk, rfl, hpre, hJs, hbx, hrc, hsz⟩ := hrel
    have b1 : wr.cell? ⟨Bs, 0, none⟩ = some (.slice b es.length c) := hbx.cell 0
    cases k with
    | zero =>
      have hneg : ¬ (0 : Int) ≤ ((0 : Nat) : Int) - 1 := by omega
      gi_wp2
      go_end0
      exact ⟨⟨_, rfl⟩, .inl ⟨pre, by rw [hpre, List.drop_zero], hJs⟩⟩
    | succ j =>
      have hi : (((j + 1 : Nat) : Int) - 1) = (j : Int) := by omega
      rw [hi]
      have hjl : j < es.length := by omega
      obtain ⟨e, he⟩ : ∃ e, es[j]? = some e := ⟨_, List.getElem?_eq_getElem hjl⟩
      obtain ⟨ad, rfl, c0, c1, c2, c3⟩ := hrc j e.1 (by rw [List.getElem?_map, he]; rfl)
      have HNX := hY pre ((j : Int), e) wr hJs (by have := congrArg List.length hpre; simp at this; omega)
      obtain ⟨fn, tmps, assign, body, hy, hR⟩ := HNX
      have hge : (0 : Int) ≤ (j : Int) := by omega
      have hjl' : (j : Int) < es.length := by omega
      have hw2 : wrap64 ((j : Int) - 1) = (j : Int) - 1 := IntWalk.wrap64_in _ (by omega)
      have hd : (pre ++ [((j : Int), e)]).map (·.2) = (es.drop j).reverse := by
        rw [List.map_append, hpre, List.drop_eq_getElem_cons hjl, List.reverse_cons]
        rw [List.getElem?_eq_getElem hjl] at he
        injection he with he
        rw [he]
        rfl
      simp only [encT, taV, tyV] at hy
      gi_wp2
      refine hR.mono ?_
      rintro e3 W3 (⟨rfl, hJ3, hk3⟩ | ⟨rfl, hJx3, _⟩)
      · have hkk := keep hk3 hbx hrc hsz
        have hs3 := hk3.size
        gi_wp2
        go_roundw
        case rel => exact ⟨j, _, by omega, by first | rfl | (rw [hw2]), hd, hJ3, hkk.1, hkk.2, Nat.le_trans hsz hs3⟩
        case measure => simp [intOf]
      · gi_wp2
        refine bodyPost_ret (results_none rfl _ _ _) rfl ?_
        exact ⟨⟨_, rfl⟩, .inr ⟨_, trivial, hJx3⟩⟩
end Go.Proofs.Ytcaioffdcbjbjaa.Un
/-
  CONTRACT of layer unify: a type is put behind the row of those still to be looked at, in a round of an iterator.
-/
namespace Go.Proofs.Ytcaioffdcbjbjaa.Un
open Go.RowKit Go.Shelf Mm Tm Mk Go.Maps Go.ChangeMaps Go.MapKept Go.WideMaps Rg
set_option linter.unusedVariables false
set_option linter.unusedSimpArgs false
attribute [local go_sem] Oper.semAt_some
attribute [-go_sem] Builtin.append_
abbrev tyL (kd nn : Int) (nm : ByteArray) (a2 : Option Addr) (la c2 : Nat) : List Value := [.int .i64 kd, .int .i64 nn, .string nm, .slice a2 la c2]
theorem set_new4 {vs : List Value} {k : Nat} (hl : vs.length = k * 4) (z0 z1 z2 z3 v0 v1 v2 v3 : Value) :
    (((((vs ++ [z0, z1, z2, z3]).set (k * 4) v0).set (k * 4 + 1) v1).set (k * 4 + 2) v2).set (k * 4 + 3) v3) = vs ++ [v0, v1, v2, v3] := by
  rw [List.set_append_right _ _ (by omega), List.set_append_right _ _ (by omega), List.set_append_right _ _ (by omega), List.set_append_right _ _ (by omega), hl]
  simp [show k * 4 + 1 - k * 4 = 1 by omega, show k * 4 + 2 - k * 4 = 2 by omega, show k * 4 + 3 - k * 4 = 3 by omega]
/-- a type behind a row -/
def PutT (base k cg b6 : Nat) (ag : Option Addr) (vs news : List Value) (w W' : World) : Prop :=
  ∃ (ag' : Option Addr) (cg' : Nat), Box W' b6 TTs #[.slice ag' (k + 1) cg'] ∧ W'.ownsRow base TT 4 (.slice ag' (k + 1) cg') (k + 1) (vs ++ news) ∧ (∀ g, (Value.slice ag' (k + 1) cg').ownBlock = some g → (Value.slice ag k cg).ownBlock = some g ∨ w.heap.size ≤ g) ∧ Kept (fun b => b = b6 ∨ (Value.slice ag k cg).ownBlock = some b) w W'
set_option maxRecDepth 100000 in
set_option maxHeartbeats 8000000 in
theorem push_round {n l2 base k cg Bx b6 la c2 : Nat} {kd nn : Int} {nm : ByteArray} {ag a2 : Option Addr} {vs : List Value} {Q : Exit → Act → World → Prop} (w : World) (b0 b1 b2 b3 b4 b5 b7 b8 b10 b11 b12 b13 b14 b15 b16 b17 b18 b19 b20 b21 b22 b23 b24 b25 b26 b27 b28 b29 b30 b31 b32 b33 b34 b35 b36 b37 b38 b39 b40 b41 b42 b43 b44 b45 b46 b47 b48 b49 b50 b51 b52 b53 b54 b55 b56 b57 b58 b59 b60 b61 b62 b63 b64 b65 b66 b67 b68 b69 b70 b71 b72 b73 : Value)
    (hB : Box w Bx TT #[.int .i64 kd, .int .i64 nn, .string nm, .slice a2 la c2]) (h6 : Box w b6 TTs #[.slice ag k cg]) (ho : w.ownsRow base TT 4 (.slice ag k cg) k vs) (hb : base ≤ w.heap.size) (hk : k ≤ 1100000000)
    (hQ : ∀ W', PutT base k cg b6 ag vs (tyL kd nn nm a2 la c2) w W' → ∀ c68 c69 c70 c71 c72 c73 : Value, Q .normal { tmps := #[b0, b1, b2, b3, b4, b5, .pointer (some ⟨b6, 0, none⟩), b7, b8, .pointer (some ⟨Bx, 0, none⟩), b10, b11, b12, b13, b14, b15, b16, b17, b18, b19, b20, b21, b22, b23, b24, b25, b26, b27, b28, b29, b30, b31, b32, b33, b34, b35, b36, b37, b38, b39, b40, b41, b42, b43, b44, b45, b46, b47, b48, b49, b50, b51, b52, b53, b54, b55, b56, b57, b58, b59, b60, b61, b62, b63, b64, b65, b66, b67, c68, c69, c70, c71, c72, c73], defers := [] } W') :
    (Code.region 11
      #[{ dst := some 68, op := Op.load TTs (Operand.tmp 6), type := TTs, pos := "store.go:101", after := #[], guard := none },
        { dst := some 69, op := Op.load TT (Operand.tmp 9), type := TT, pos := "store.go:101", after := #[], guard := none },
        { dst := some 70, op := Op.call { callee := Callee.builtin Builtin.len, args := #[Operand.tmp 68], argTypes := #[TTs] }, type := TI, pos := "store.go:101", after := #[{ on := 0, ground := Ground.data }], guard := none },
        { dst := some 71, op := Op.buildSlice TTs 1 #[(0, Operand.const (Value.agg #[Value.int IntKind.i64 0, Value.int IntKind.i64 0, Value.string { data := #[] }, Value.slice none 0 0]))], type := TTs, pos := "store.go:101", after := #[], guard := none },
        { dst := some 72, op := Op.call { callee := Callee.builtin Builtin.append, args := #[Operand.tmp 68, Operand.tmp 71], argTypes := #[TTs, TTs] }, type := TTs, pos := "store.go:101",
          after := #[{ on := 0, ground := Ground.data }, { on := 3, ground := Ground.data }, { on := 0, ground := Ground.phase }, { on := 1, ground := Ground.phase }, { on := 2, ground := Ground.phase }, { on := 3, ground := Ground.phase }], guard := none },
        { dst := some 73, op := Op.indexAddr TTs (Operand.tmp 72) (Operand.tmp 70), type := 0, pos := "store.go:101",
          after := #[{ on := 4, ground := Ground.data }, { on := 2, ground := Ground.data }, { on := 0, ground := Ground.phase }, { on := 1, ground := Ground.phase }, { on := 2, ground := Ground.phase }, { on := 3, ground := Ground.phase }, { on := 4, ground := Ground.phase }, { on := 7, ground := Ground.gcOnly Departure.appendInPlace }], guard := none },
        { dst := none, op := Op.store TT (Operand.tmp 73) (Operand.tmp 69), type := 0, pos := "store.go:101",
          after := #[{ on := 5, ground := Ground.data }, { on := 1, ground := Ground.data }, { on := 4, ground := Ground.chain }, { on := 0, ground := Ground.phase }, { on := 1, ground := Ground.phase }, { on := 2, ground := Ground.phase }, { on := 3, ground := Ground.phase }, { on := 4, ground := Ground.phase }, { on := 7, ground := Ground.gcOnly Departure.appendInPlace }], guard := none },
        { dst := none, op := Op.store TTs (Operand.tmp 6) (Operand.tmp 72), type := 0, pos := "store.go:101",
          after := #[{ on := 4, ground := Ground.data }, { on := 4, ground := Ground.chain }, { on := 6, ground := Ground.textOnly Departure.appendInPlace }, { on := 0, ground := Ground.phase }, { on := 1, ground := Ground.phase }, { on := 2, ground := Ground.phase }, { on := 3, ground := Ground.phase }, { on := 4, ground := Ground.phase }, { on := 5, ground := Ground.textOnly Departure.appendInPlace }, { on := 6, ground := Ground.textOnly Departure.appendInPlace }], guard := none }]
      true).wpIn (Fence.wide.inRound l2) n Try.prog Q { tmps := #[b0, b1, b2, b3, b4, b5, .pointer (some ⟨b6, 0, none⟩), b7, b8, .pointer (some ⟨Bx, 0, none⟩), b10, b11, b12, b13, b14, b15, b16, b17, b18, b19, b20, b21, b22, b23, b24, b25, b26, b27, b28, b29, b30, b31, b32, b33, b34, b35, b36, b37, b38, b39, b40, b41, b42, b43, b44, b45, b46, b47, b48, b49, b50, b51, b52, b53, b54, b55, b56, b57, b58, b59, b60, b61, b62, b63, b64, b65, b66, b67, b68, b69, b70, b71, b72, b73], defers := [] } w := by
  obtain ⟨i0, hi, hz0, hz1, hz2'⟩ := info_parts Ttype
  obtain ⟨W1, hW1⟩ : ∃ W1, w.drew.alloc (.cells zeroT TT) = W1 := ⟨_, rfl⟩
  have hB1 : Below w.heap.size w W1 := by rw [← hW1]; exact ((Below.refl _ w).drew).alloc (Nat.le_refl _) _
  have hzz : W1.heap.size = w.heap.size + 1 := by rw [← hW1]; simp
  have hN1 : Box W1 w.heap.size TT zeroT := by rw [← hW1]; exact Box.new w.drew zeroT TT
  have ho1 := own_here ho hB1
  obtain ⟨v', w2, hr, hown', hgrow, _, hlies⟩ := run_append_own_at (P := Try.prog) (w := W1) base TTs TTs TT i0 _ 4 56 Try.underlying27 hi hz0 hz1 hz2' rfl (by decide) (.slice ag k cg) k vs ho1 ⟨w.heap.size, 0, none⟩ 1 1 zeroT.toList rfl
    (by intro j u hu; obtain ⟨n0, n1, n2, n3, _⟩ := hN1.cells4
        match j with
        | 0 => simp at hu; subst hu; exact n0
        | 1 => simp at hu; subst hu; exact n1
        | 2 => simp at hu; subst hu; exact n2
        | 3 => simp at hu; subst hu; exact n3
        | j + 4 => simp at hu)
    (by intro u hu; simp at hu; rcases hu with rfl | rfl | rfl | rfl <;> rfl) (by unfold maxLen; omega) (by omega) (by omega)
  obtain ⟨g', cap', rfl⟩ := ownsRow_succ hown'
  have h6ne : ∀ o, (Value.slice ag k cg).ownBlock = some o → o ≠ b6 := fun o e q => by
    subst q
    obtain ⟨cs, hc⟩ := (own_tyB ho e).2
    unfold Box at h6
    rw [hc] at h6
    injection h6 with h6
    injection h6 with _ h6
    exact absurd h6 (by decide)
  have h62 : Box w2 b6 TTs #[.slice ag k cg] := hgrow.block b6 (by have := h6.lt; omega) (fun e => h6ne _ e.symm rfl) |>.trans (h6.below hB1 h6.lt)
  have hgne : g' ≠ b6 := by
    rintro rfl
    obtain ⟨cs, hc⟩ := (own_tyB hown' rfl).2
    unfold Box at h62
    rw [hc] at h62
    injection h62 with h62
    injection h62 with _ h62
    exact absurd h62 (by decide)
  have hOld : ∀ g, g = g' → g < w.heap.size → (Value.slice ag k cg).ownBlock = some g := fun g e hlt => by
    subst e
    rcases hlies with q | q
    · exact q.symm.trans rfl |>.trans rfl |> fun h => by rw [← q]; rfl
    · have : g = W1.heap.size := by injection q
      omega
  have hKw : Kept (fun b => b = b6 ∨ (Value.slice ag k cg).ownBlock = some b) w w2 := Kept.grown (Kept.of_below hB1 (Nat.le_refl _) _) hgrow (fun q e _ => .inr e)
  have hlies2 : ∀ g, (Value.slice (some ⟨g', 0, none⟩) (k + 1) cap').ownBlock = some g → (Value.slice ag k cg).ownBlock = some g ∨ w.heap.size ≤ g := fun g e => by
    rcases hlies with q | q
    · exact .inl (q.symm.trans e)
    · refine .inr ?_
      have : some g = some W1.heap.size := e.symm.trans q
      injection this
      omega
  have hlen : vs.length = k * 4 := ho.1
  have hzl : zeroT.toList = [.int .i64 0, .int .i64 0, .string ⟨#[]⟩, .slice none 0 0] := rfl
  rw [hzl] at hown'
  have set4K : ∀ {A B : World} (v0 v1 v2 v3 : Value), Kept (fun b => b = b6 ∨ (Value.slice ag k cg).ownBlock = some b) A B → A.heap.size = w.heap.size → Kept (fun b => b = b6 ∨ (Value.slice ag k cg).ownBlock = some b) A ((((B.setCell ⟨g', k * 4, none⟩ v0).setCell ⟨g', k * 4 + 1, none⟩ v1).setCell ⟨g', k * 4 + 2, none⟩ v2).setCell ⟨g', k * 4 + 3, none⟩ v3) := fun v0 v1 v2 v3 h hA =>
    (((h.setCell (a := ⟨g', k * 4, none⟩) (fun q => .inr (hOld _ rfl (by show g' < _; rw [← hA]; exact q))) v0).setCell (a := ⟨g', k * 4 + 1, none⟩) (fun q => .inr (hOld _ rfl (by show g' < _; rw [← hA]; exact q))) v1).setCell (a := ⟨g', k * 4 + 2, none⟩) (fun q => .inr (hOld _ rfl (by show g' < _; rw [← hA]; exact q))) v2).setCell (a := ⟨g', k * 4 + 3, none⟩) (fun q => .inr (hOld _ rfl (by show g' < _; rw [← hA]; exact q))) v3
  obtain ⟨o3, r3⟩ := own_set4 hown' k (.int .i64 kd) (.int .i64 nn) (.string nm) (.slice a2 la c2)
  rw [set_new4 hlen] at o3
  have hP1 : (PutT base k cg b6 ag vs (tyL kd nn nm a2 la c2) w (((((w2.setCell ⟨g', k * 4, none⟩ (.int .i64 kd)).setCell ⟨g', k * 4 + 1, none⟩ (.int .i64 nn)).setCell ⟨g', k * 4 + 2, none⟩ (.string nm)).setCell ⟨g', k * 4 + 3, none⟩ (.slice a2 la c2)).setCell ⟨b6, 0, none⟩ (.slice (some ⟨g', 0, none⟩) (k + 1) cap'))) :=
    ⟨_, _, (h62.wrote r3 hgne.symm).put 0 _, own_far o3 (h62.wrote r3 hgne.symm) (by decide) 0 _, hlies2, (set4K _ _ _ _ hKw rfl).setCell (a := ⟨b6, 0, none⟩) (fun _ => .inl rfl) _⟩
  have h63 := h62.put 0 (.slice (some ⟨g', 0, none⟩) (k + 1) cap')
  obtain ⟨o4, r4⟩ := own_set4 (own_far hown' h62 (by decide) 0 (.slice (some ⟨g', 0, none⟩) (k + 1) cap')) k (.int .i64 kd) (.int .i64 nn) (.string nm) (.slice a2 la c2)
  rw [set_new4 hlen] at o4
  have hP2 : (PutT base k cg b6 ag vs (tyL kd nn nm a2 la c2) w (((((w2.setCell ⟨b6, 0, none⟩ (.slice (some ⟨g', 0, none⟩) (k + 1) cap')).setCell ⟨g', k * 4, none⟩ (.int .i64 kd)).setCell ⟨g', k * 4 + 1, none⟩ (.int .i64 nn)).setCell ⟨g', k * 4 + 2, none⟩ (.string nm)).setCell ⟨g', k * 4 + 3, none⟩ (.slice a2 la c2))) :=
    ⟨_, _, h63.wrote r4 hgne.symm, o4, hlies2, set4K _ _ _ _ (hKw.setCell (a := ⟨b6, 0, none⟩) (fun _ => .inl rfl) _) rfl⟩
  have j6 : w.cell? ⟨b6, 0, none⟩ = some (.slice ag k cg) := h6.cell 0
  have k6 : W1.cell? ⟨b6, 0, none⟩ = some (.slice ag k cg) := (h6.below hB1 h6.lt).cell 0
  obtain ⟨j0, j1, j2, j3, _⟩ := hB.cells4
  obtain ⟨k0, k1, k2, k3, _⟩ := (hB.below hB1 hB.lt).cells4
  have f6 := h62.free 0
  have f0 := hown'.frozenAt (k * 4)
  have f1 := hown'.frozenAt (k * 4 + 1)
  have f2 := hown'.frozenAt (k * 4 + 2)
  have f3 := hown'.frozenAt (k * 4 + 3)
  have m6 : w2.cell? ⟨b6, 0, none⟩ = some (.slice ag k cg) := h62.cell 0
  obtain ⟨gg, hgg, _, _, _, hcs⟩ := own_at hown' (by omega)
  injection hgg with hgg
  injection hgg with hgg _ _
  subst hgg
  have m0 := hcs (k * 4) (by omega)
  have m1 := hcs (k * 4 + 1) (by omega)
  have m2 := hcs (k * 4 + 2) (by omega)
  have m3 := hcs (k * 4 + 3) (by omega)
  rw [List.getElem?_append_right (by omega), hlen, Nat.sub_self] at m0
  rw [List.getElem?_append_right (by omega), hlen, show k * 4 + 1 - k * 4 = 1 by omega] at m1
  rw [List.getElem?_append_right (by omega), hlen, show k * 4 + 2 - k * 4 = 2 by omega] at m2
  rw [List.getElem?_append_right (by omega), hlen, show k * 4 + 3 - k * 4 = 3 by omega] at m3
  simp only [List.getElem?_cons_zero, List.getElem?_cons_succ] at m0 m1 m2 m3
  clear hcs
  have hk0 : (0 : Int) ≤ (k : Int) := by omega
  have hk1 : (k : Int) < (k : Int) + 1 := by omega
  have HQ := Lib.hid hQ
  have HP1 := Lib.hid hP1
  have HP2 := Lib.hid hP2
  clear hQ hP1 hP2
  clear hown' hgrow hlies hB1 hN1 ho1 ho hB h6 hi hz0 hz1 hz2' h6ne h62 hOld hKw hlies2 hlen hzl set4K o3 r3 h63 o4 r4
  gi_region_with (fail)
  all_goals
    refine HQ.out _ ?_ _ _ _ _ _ _
    first
    | with_reducible exact HP1.out
    | with_reducible exact HP2.out
    | trace_state
end Go.Proofs.Ytcaioffdcbjbjaa.Un
/-
  CONTRACT of layer unify: the open variables of a type: an iterator with memory of its own: what a round goes by.
-/
namespace Go.Proofs.Ytcaioffdcbjbjaa.Un
open Go.RowKit Go.Shelf Mm Tm Mk Go.Maps Go.ChangeMaps Go.MapKept Go.WideMaps Rg
set_option linter.unusedVariables false
set_option linter.unusedSimpArgs false
abbrev TB : TypeId := 4
/-- marks that lie in memory, from B on -/
def Marks (B : Nat) : List Deferred → World → Prop
  | [], _ => True
  | d :: ds, w => (∃ D, d = { target := .collected D, args := #[] } ∧ B ≤ D ∧ w.heap[D]? = some (.deferred (some [])) ∧ ∀ d' ∈ ds, d'.target ≠ .collected D) ∧ Marks B ds w
theorem Marks.frame {B : Nat} {w w' : World} : ∀ {ds : List Deferred}, Marks B ds w → (∀ D, (∃ d ∈ ds, d.target = .collected D) → w.heap[D]? = some (.deferred (some [])) → w'.heap[D]? = w.heap[D]?) → Marks B ds w'
  | [], _, _ => trivial
  | d :: ds, ⟨⟨D, h1, h2, h3, h4⟩, hr⟩, h => ⟨⟨D, h1, h2, (h D ⟨d, by simp, by rw [h1]⟩ h3).trans h3, h4⟩, hr.frame fun D' ⟨d', hd, e⟩ => h D' ⟨d', by simp [hd], e⟩⟩
theorem Marks.lt {B : Nat} {w : World} : ∀ {ds : List Deferred}, Marks B ds w → ∀ d ∈ ds, ∃ D, d.target = .collected D ∧ D < w.heap.size
  | d :: ds, ⟨⟨D, h1, h2, h3, h4⟩, hr⟩, d', hd => by
    rcases List.mem_cons.1 hd with rfl | q
    · exact ⟨D, by rw [h1], (Array.getElem?_eq_some_iff.1 h3).1⟩
    · exact hr.lt d' q
theorem Marks.ge {B : Nat} {w : World} : ∀ {ds : List Deferred}, Marks B ds w → ∀ d ∈ ds, ∀ D, d.target = .collected D → B ≤ D
  | d :: ds, ⟨⟨D, h1, h2, h3, h4⟩, hr⟩, d', hd, D', e => by
    rcases List.mem_cons.1 hd with rfl | q
    · rw [h1] at e
      injection e with e
      omega
    · exact hr.ge d' q D' e
/-- what lies behind marks that are taken -/
theorem leaves_all {P : Program} {n : Nat} {fn : Func} {tmps : Array Value} {R : Ending → World → Prop} {B : Nat} : ∀ (ds : List Deferred) (w : World), Marks B ds w → (∀ w', Kept (fun b => B ≤ b) w w' → LeavesInM Fence.wide n P fn tmps R [] .returning w') → LeavesInM Fence.wide n P fn tmps R ds .returning w
  | [], w, _, h => h w (Kept.refl _ w)
  | d :: ds, w, ⟨⟨D, h1, h2, h3, h4⟩, hr⟩, h => by
    refine ⟨by simp, .inl ⟨D, _, by rw [h1], run_takeDeferred h3, leaves_all ds _ (hr.frame fun D' ⟨d', hd, e⟩ _ => World.putObj_heap_other (fun e' => h4 d' hd (by rw [e, e']))) fun w' hk => h w' (Kept.trans (kept_put (X := fun b => B ≤ b) w D _ h2) hk)⟩⟩
abbrev encF (x : Int × Fact) : Array Value := #[.int .i64 x.1, factV x.2]
def PF.least : PF → Int
  | .opn l _ _ => l
  | _ => 0
theorem TtypeT : (Try.prog.info? 29).map (fun i => (i.zero, i.size, i.bytes)) = some (some (.agg #[.int .i64 0, .int .i64 0, .string ByteArray.empty, .slice none 0 0]), 4, 56) := Ttype
/-- what a round of the look goes by -/
structure OpenR (Zw : Nat → Prop) (w0 W : World) (q : Nat) (K : PS) (deep : Bool) (l : Nat) (J : List (Int × Fact) → World → Prop) (L : List (Int × PF)) (d0 d : Nat) (ds : List Deferred) (wr : World) (seen : SN) (tdr td : List Ty) (pre : List (Int × Fact)) (rest : List (Int × PF)) (ag : Option Addr) (cg : Nat) (vs : List Value) (Fs : FK) (cs : Nat) : Prop where
  run : openL q K deep d seen tdr = some rest
  all : L.map (fun y => (y.1, y.2.least)) = pre.map (fun y => (y.1, y.2.least)) ++ rest.map (fun y => (y.1, y.2.least))
  j : J pre wr
  kept : Kept (fun b => W.heap.size ≤ b ∨ b = l) W wr
  bx6 : Box wr (W.heap.size + 2) TTs #[.slice ag td.length cg]
  own : wr.ownsRow W.heap.size TT 4 (.slice ag td.length cg) td.length vs
  row : RowT Zw wr vs td.reverse
  sm : MapK wr Try.prog TI W.heap.size Fs cs
  sn : ∀ n, inI n = true → (Fs (.int .i64 n)).getD (.int .i64 0) = .int .i64 (seen n)
  csd : cs + d ≤ d0
  marks : Marks W.heap.size ds wr
  tdl : td.length ≤ 1000000000
  big : W.heap.size + 2 < wr.heap.size
  prl : pre.length + d ≤ d0
theorem sizeTT (W : World) : (sizeOf (Try.prog.elem TTs)).run Try.prog W = .ok 4 W := by kernel_rfl
def OpenI (Zw : Nat → Prop) (w0 W : World) (q : Nat) (K : PS) (deep : Bool) (l : Nat) (J : List (Int × Fact) → World → Prop) (L : List (Int × PF)) (d0 d : Nat) (ds : List Deferred) (wr : World) : Prop :=
  ∃ seen td pre rest ag cg vs Fs cs, OpenR Zw w0 W q K deep l J L d0 d ds wr seen td td pre rest ag cg vs Fs cs
theorem slice_last {a : Option Addr} {n c4 k : Nat} (hk : k ≤ c4) (W : World) : (Instr.slice TTs (.slice a n c4) none (some (.int .i64 (k : Int))) none).run Try.prog W = .ok (.slice a k c4) W := by
  rw [run_slice_h (P := Try.prog) (w := W) TTs a n c4 (by kernel_rfl) .i64 (k : Int) (by omega) (by omega), sizeTT]
  simp only [Result.andThen, sliced, Int.toNat_natCast, Nat.sub_zero]
  cases a <;> simp [Addr.add]
theorem RowT.cut {Z : Nat → Prop} {w : World} {x : Ty} : ∀ {vs : List Value} {l : List Ty}, RowT Z w vs (l ++ [x]) → RowT Z w (vs.take (l.length * 4)) l
  | vs, [], h => by simp [RowT]
  | vs, y :: l, ⟨a2, c2, r, h1, h2, h3, h4, h5⟩ => by
    subst h1
    refine ⟨a2, c2, r.take (l.length * 4), ?_, h2, h3, h4, RowT.cut h5⟩
    rw [List.length_cons, show (l.length + 1) * 4 = l.length * 4 + 4 by omega]
    rfl
theorem KnI.low {Z : Nat → Prop} {w0 w : World} {m : Nat} {K : PS} {c : Nat} (h : KnI Z w0 m K c) (hb : Below w0.heap.size w0 w) (hz : ∀ b, Z b → b < w0.heap.size) : KnI Z w m K c :=
  h.frame (hb.block m h.lt) (fun ad hZ => hb.cell (hz _ hZ)) fun _ q => q
theorem OpenR.low {Zw : Nat → Prop} {w0 W : World} {q : Nat} {K : PS} {deep : Bool} {l : Nat} {J : List (Int × Fact) → World → Prop} {L : List (Int × PF)} {d0 d : Nat} {ds : List Deferred} {wr : World} {seen : SN} {tdr td : List Ty} {pre : List (Int × Fact)} {rest : List (Int × PF)} {ag : Option Addr} {cg : Nat} {vs : List Value} {Fs : FK} {cs : Nat}
    (h : OpenR Zw w0 W q K deep l J L d0 d ds wr seen tdr td pre rest ag cg vs Fs cs) (hW : Below w0.heap.size w0 W) (hlo : w0.heap.size ≤ l) : Below w0.heap.size w0 wr := by
  refine hW.trans ⟨h.kept.os, h.kept.tape, h.kept.output, h.kept.size, fun k hk => h.kept.block k (Nat.lt_of_lt_of_le hk hW.size) fun e => ?_⟩
  have := hW.size
  rcases e with e | e <;> omega
section
variable {Zw : Nat → Prop} {w0 W : World} {q : Nat} {K : PS} {deep : Bool} {l : Nat} {J : List (Int × Fact) → World → Prop} {L : List (Int × PF)} {d0 d : Nat} {ds : List Deferred} {wr : World} {seen : SN} {tdr td : List Ty} {pre : List (Int × Fact)} {rest : List (Int × PF)} {ag : Option Addr} {cg : Nat} {vs : List Value} {Fs : FK} {cs : Nat}
/-- the look, through a step that leaves what lies as it lay -/
theorem OpenR.here (h : OpenR Zw w0 W q K deep l J L d0 d ds wr seen tdr td pre rest ag cg vs Fs cs) (hJ : ∀ s A C, J s A → Rg.Steps (fun _ _ => False) W.heap.size A C → J s C) (hz : ∀ b, Zw b → b < W.heap.size) {w' : World} (hb : Below wr.heap.size wr w') : OpenR Zw w0 W q K deep l J L d0 d ds w' seen tdr td pre rest ag cg vs Fs cs :=
  ⟨h.run, h.all, hJ _ _ _ h.j (Kept.of_below hb (Nat.le_refl _) _), h.kept.trans (Kept.of_below hb (Nat.le_refl _) _), h.bx6.below hb h.bx6.lt, own_here h.own hb, h.row.below hb (fun b hb' => by have := hz b hb'; have := h.big; omega), h.sm.below hb h.sm.lt, h.sn, h.csd, h.marks.frame (fun D _ hD => hb.block D (Array.getElem?_eq_some_iff.1 hD).1), h.tdl, Nat.lt_of_lt_of_le h.big hb.size, h.prl⟩
/-- the last type is taken off -/
theorem OpenR.pop {x' : Ty} {td' : List Ty} {g : Nat} {tdr' : List Ty} (h : OpenR Zw w0 W q K deep l J L d0 (d + 1) ds wr seen tdr (x' :: td') pre rest (some ⟨g, 0, none⟩) cg vs Fs cs) (hJ : ∀ s A C, J s A → Rg.Steps (fun _ _ => False) W.heap.size A C → J s C) (hz : ∀ b, Zw b → b < W.heap.size) (hrun : openL q K deep d seen tdr' = some rest) :
    OpenR Zw w0 W q K deep l J L d0 d ds (wr.setCell ⟨W.heap.size + 2, 0, none⟩ (.slice (some ⟨g, 0, none⟩) td'.length cg)) seen tdr' td' pre rest (some ⟨g, 0, none⟩) cg (vs.take (td'.length * 4)) Fs cs := by
  have hg := own_tyB h.own (k := g) rfl
  have hcut := own_cut h.own (m := td'.length) (by simp)
  have hrow := RowT.cut (x := x') (l := td'.reverse) (by have := h.row; rwa [List.reverse_cons] at this)
  rw [List.length_reverse] at hrow
  have hm6 := h.sm.ne h.bx6
  have hb6 : ∀ k, k ≠ W.heap.size + 2 → (wr.setCell ⟨W.heap.size + 2, 0, none⟩ (.slice (some ⟨g, 0, none⟩) td'.length cg)).heap[k]? = wr.heap[k]? := fun k hk => Below.heap_setCell wr ⟨W.heap.size + 2, 0, none⟩ _ k hk
  have hbg := h.big
  refine ⟨hrun, h.all, hJ _ _ _ h.j ((Kept.refl _ wr).setCell (a := ⟨W.heap.size + 2, 0, none⟩) (fun _ => ⟨by show _ ≤ W.heap.size + 2; omega, fun q => q⟩) _), h.kept.trans ((Kept.refl _ wr).setCell (a := ⟨W.heap.size + 2, 0, none⟩) (fun _ => .inl (by show _ ≤ W.heap.size + 2; omega)) _), h.bx6.put 0 _, own_far hcut h.bx6 (by decide) 0 _, hrow.frame (fun b o hb => World.cell?_of_block (hb6 b (by have := hz b hb; omega))) (fun ad hb => World.cell?_of_block (hb6 _ (by have := hz _ hb; omega))) (fun _ h => h), h.sm.same (hb6 _ hm6), h.sn, by have := h.csd; omega, h.marks.frame (fun D _ hD => hb6 D (fun e => by have q := h.bx6; unfold Box at q; rw [← e, hD] at q; injection q with q; cases q)), Nat.le_trans (Nat.le_succ _) h.tdl, by rw [World.size_setCell]; exact h.big, by have := h.prl; omega⟩
end
/-- what a type is taken as -/
def SideR (Z : Nat → Prop) (w : World) (x : Ty) (a : Option Addr) (c : Nat) : Sd → Side → Prop
  | .typ y, sd => y = x ∧ sd = ⟨tyFact x a c, false, 0⟩ ∧ x.kd ≠ 1 ∧ x.kd ≠ 0
  | .var r f, sd => sd.isVar = true ∧ sd.n = r ∧ ErF sd.f f ∧ FactR Z w sd.f ∧ f.isLink = false ∧ inI r = true
theorem taken_side {Z : Nat → Prop} {w : World} {s m q cnt : Nat} {nx : Int} {K : PS} {x : Ty} {a : Option Addr} {c : Nat} {sdp : Sd} (hs : Box w s TSt #[.map (some m), .int .i64 nx]) (hk : KnI Z w m K cnt) (ht : takenP q K x = some sdp) :
    ∃ sd, SideR Z w x a c sdp sd ∧ ∀ wq, Below w.heap.size w wq → Calls Try.prog 26 #[.pointer (some ⟨s, 0, none⟩), .agg #[.int .i64 x.kd, .int .i64 x.n, .string x.nm, .slice a x.args.len c]] wq (ValB (sideV sd) wq) := by
  obtain ⟨KS, hm, her⟩ := hk
  unfold takenP at ht
  split at ht
  · rename_i h1
    obtain ⟨rf, he, hsd⟩ := Option.map_eq_some_iff.1 ht
    obtain ⟨d, g, hen, hg, hr, hnl, hir⟩ := endP_endN her q x.n rf.1 rf.2 he
    subst hsd
    exact ⟨⟨g, true, rf.1⟩, ⟨rfl, rfl, hg, hr, hnl, hir⟩, fun wq hb => taken_any wq (hs.below hb hs.lt) (hm.below hb hm.lt) (.var h1 hen)⟩
  · split at ht
    · cases ht
    · rename_i h1 h0
      injection ht with ht
      subst ht
      exact ⟨⟨tyFact x a c, false, 0⟩, ⟨rfl, rfl, h1, h0⟩, fun wq hb => taken_any wq (hs.below hb hs.lt) (hm.below hb hm.lt) (.typ h1)⟩
theorem zeroN (u : World) : (zeroValue TI).run Try.prog u = .ok (.int .i64 0) u := zeroI u
theorem ofVars_toL : ∀ xs : List Int, (ofVars xs).toL = xs.map fun n => (⟨1, n, noN, .nil⟩ : Ty)
  | [] => rfl
  | x :: l => by rw [ofVars, Tys.toL, ofVars_toL l]; rfl
theorem exists_sub {G : TA → Prop} : ∀ es : List TA, (∀ e ∈ es, G e) → ∃ eg : List { e : TA // G e }, eg.map (·.1) = es
  | [], _ => ⟨[], rfl⟩
  | e :: es, h => by
    obtain ⟨eg, q⟩ := exists_sub es fun x hx => h x (by simp [hx])
    exact ⟨⟨e, h e (by simp)⟩ :: eg, by simp [q]⟩
theorem kept_own {X : Nat → Prop} {w w' : World} {B n size : Nat} {e : TypeId} {v : Value} {xs : List Value} (h : Kept X w w') (o : w.ownsRow B e size v n xs) (hl : ∀ g, v.ownBlock = some g → ¬ X g) : w'.ownsRow B e size v n xs := by
  refine ⟨o.1, ?_⟩
  rcases o.2 with h2 | ⟨g, cap, cur, rfl, hg, hh, r⟩
  · exact .inl h2
  · exact .inr ⟨g, cap, cur, rfl, hg, (h.block g (Array.getElem?_eq_some_iff.1 hh).1 (hl g rfl)).trans hh, r⟩
/-- the blocks that the rounds of the inner range write -/
def PushX (B g : Nat) (w6 : World) : World → Nat → Prop := fun _ k => k = B + 2 ∨ k = g ∨ w6.heap.size + 2 ≤ k
/-- the row of those still to be looked at, some put behind it -/
structure PushR {G : TA → Prop} (Zw : Nat → Prop) (B g : Nat) (w6 : World) (td' : List Ty) (prei : List (Int × { e : TA // G e })) (W' : World) (ag' : Option Addr) (cg' : Nat) (vs' : List Value) : Prop where
  bx : Box W' (B + 2) TTs #[.slice ag' (td'.length + prei.length) cg']
  own : W'.ownsRow B TT 4 (.slice ag' (td'.length + prei.length) cg') (td'.length + prei.length) vs'
  row : RowT Zw W' vs' (td'.reverse ++ prei.map (fun p => p.2.1.1))
  ob : ∀ k, (Value.slice ag' (td'.length + prei.length) cg').ownBlock = some k → k = g ∨ w6.heap.size + 2 ≤ k
  kp : Kept (fun b => b = B + 2 ∨ b = g ∨ w6.heap.size ≤ b) w6 W'
def PushI {G : TA → Prop} (Zw : Nat → Prop) (B g : Nat) (w6 : World) (td' : List Ty) (prei : List (Int × { e : TA // G e })) (W' : World) : Prop := ∃ ag' cg' vs', PushR Zw B g w6 td' prei W' ag' cg' vs'
section
variable {G : TA → Prop} {Zw : Nat → Prop} {B g : Nat} {w6 : World} {td' : List Ty} {prei : List (Int × { e : TA // G e })} {A C : World} {ag' : Option Addr} {cg' : Nat} {vs' : List Value}
theorem PushI.step (h : PushI Zw B g w6 td' prei A) (hs : Rg.Steps (PushX B g w6) w6.heap.size A C) (hB : B + 2 < w6.heap.size) (hg : g < w6.heap.size) (hz : ∀ b, Zw b → b < B) : PushI Zw B g w6 td' prei C := by
  obtain ⟨ag', cg', vs', h⟩ := h
  have hsz := h.kp.size
  have hc : ∀ ad : Addr, Zw ad.block → C.cell? ad = A.cell? ad := fun ad hZ => World.cell?_of_block (hs.block ad.block (by have := hz _ hZ; omega) (fun q => by have := q.1; have := hz _ hZ; omega))
  refine ⟨ag', cg', vs', hs.box h.bx (fun q => by have := q.1; omega), kept_own hs h.own (fun k e q => ?_), h.row.frame (fun b o hZ => hc ⟨b, o, none⟩ hZ) hc (fun _ q => q), h.ob, h.kp.trans (Kept.mono hs fun k _ q => .inr (.inr q.1))⟩
  rcases h.ob k e with e' | e'
  · exact q.2 (.inr (.inl e'))
  · exact q.2 (.inr (.inr e'))
theorem pushX_o (hB : B + 2 < w6.heap.size) (hg : g < w6.heap.size) (A : World) (b : Nat) (o : Obj) (h1 : w6.heap.size ≤ b) (h2 : b ≤ w6.heap.size + 1) (_ : A.heap[b]? = some o) (_ : o.isCells = false) : ¬ PushX B g w6 A b := by
  rintro (e | e | e) <;> omega
/-- a type more -/
theorem PushR.next (h : PushR Zw B g w6 td' prei A ag' cg' vs') {W' : World} {xn : Int} {xt : Ty} {xa : Option Addr} {xc : Nat} {xg : G (xt, xa, xc)} (hp : PutT B (td'.length + prei.length) cg' (B + 2) ag' vs' (tyL xt.kd xt.n xt.nm xa xt.args.len xc) A W') (hsz : w6.heap.size + 2 ≤ A.heap.size)
    (hz : ∀ b, Zw b → b < B) (hgB : B ≤ g) (h1 : xt.nm.size ≤ 9223372036854775807) (h2 : xt.args.len * 56 ≤ 140737488355328) (h3 : RdT Zw w6 xa xt.args 0) (hB : B ≤ w6.heap.size) :
    Kept (PushX B g w6 A) A W' ∧ PushI Zw B g w6 td' (prei ++ [(xn, ⟨(xt, xa, xc), xg⟩)]) W' := by
  obtain ⟨a2, c2, b2, o2, l2, k2⟩ := hp
  have hX : Kept (PushX B g w6 A) A W' := k2.mono fun k _ q => by
    rcases q with e | e
    · exact .inl e
    · exact (h.ob k e).imp (fun q => q) (fun q => q) |> .inr
  have hlen : td'.length + (prei ++ [((xn, ⟨(xt, xa, xc), xg⟩) : Int × { e : TA // G e })]).length = td'.length + prei.length + 1 := by simp; omega
  have hcA : ∀ ad : Addr, Zw ad.block → A.cell? ad = w6.cell? ad := fun ad hZ => World.cell?_of_block (h.kp.block ad.block (by have := hz _ hZ; omega) (fun q => by have := hz _ hZ; omega))
  have hcW : ∀ ad : Addr, Zw ad.block → W'.cell? ad = A.cell? ad := fun ad hZ => World.cell?_of_block (hX.block ad.block (by have := hz _ hZ; omega) (fun q => by have := hz _ hZ; rcases q with e | e | e <;> omega))
  refine ⟨hX, a2, c2, _, ⟨by rw [hlen]; exact b2, by rw [hlen]; exact o2, ?_, ?_, ?_⟩⟩
  · rw [List.map_append, ← List.append_assoc]
    exact RowT.snoc h1 h2 (h3.frame (fun b o hZ => (hcW ⟨b, o, none⟩ hZ).trans (hcA ⟨b, o, none⟩ hZ)) (fun ad hZ => (hcW ad hZ).trans (hcA ad hZ)) fun _ q => q) (h.row.frame (fun b o hZ => hcW ⟨b, o, none⟩ hZ) hcW fun _ q => q)
  · rw [hlen]
    intro k e
    rcases l2 k e with q | q
    · exact h.ob k q
    · exact .inr (by omega)
  · refine h.kp.trans (hX.mono fun k _ q => ?_)
    rcases q with e | e | e
    · exact .inl e
    · exact .inr (.inl e)
    · exact .inr (.inr (by omega))
end
section
variable {Zw : Nat → Prop} {w0 W w6 : World} {q : Nat} {K : PS} {deep : Bool} {l : Nat} {J : List (Int × Fact) → World → Prop} {L : List (Int × PF)} {d0 d : Nat} {ds : List Deferred} {seen : SN} {xs' td' : List Ty} {pre : List (Int × Fact)} {rest : List (Int × PF)} {g : Nat} {cg : Nat} {vs : List Value} {Fs : FK} {cs : Nat}
theorem OpenR.push0 {G : TA → Prop} (h : OpenR Zw w0 W q K deep l J L d0 d ds w6 seen (xs' ++ td') td' pre rest (some ⟨g, 0, none⟩) cg vs Fs cs) : PushI (G := G) Zw W.heap.size g w6 td' [] w6 :=
  ⟨_, _, _, ⟨h.bx6, h.own, by simpa using h.row, fun k e => .inl (by injection e with e; exact e.symm), Kept.refl _ _⟩⟩
theorem OpenR.pushed {G : TA → Prop} {prei : List (Int × { e : TA // G e })} {Wd : World} {D : Nat} (h : OpenR Zw w0 W q K deep l J L d0 d ds w6 seen (xs' ++ td') td' pre rest (some ⟨g, 0, none⟩) cg vs Fs cs)
    (hp : PushI Zw W.heap.size g w6 td' prei Wd) (hx : prei.map (fun p => p.2.1.1) = xs'.reverse) (hl : xs'.length + td'.length < limT) (hD : w6.heap.size ≤ D) (hDef : Wd.heap[D]? = some (.deferred (some [])))
    (hJ : ∀ s A C, J s A → Rg.Steps (fun _ _ => False) W.heap.size A C → J s C) : OpenI Zw w0 W q K deep l J L d0 d ({ target := .collected D, args := #[] } :: ds) Wd := by
  obtain ⟨ag', cg', vs', hp⟩ := hp
  obtain ⟨hgB, hgT⟩ := own_tyB h.own (k := g) rfl
  have hlx : prei.length = xs'.length := by have := congrArg List.length hx; simpa using this
  have hlen : (xs' ++ td').length = td'.length + prei.length := by simp; omega
  have hbg := h.big
  have cellsNe : ∀ {k : Nat} {o : Obj}, w6.heap[k]? = some o → o.isCells = false → k ≠ W.heap.size + 2 ∧ k ≠ g := fun hk ho => by
    constructor
    · rintro rfl
      have := h.bx6
      unfold Box at this
      rw [hk] at this
      injection this with this
      rw [this] at ho
      cases ho
    · rintro rfl
      exact Rg.obj_ne hk ho hgT
  refine ⟨seen, xs' ++ td', pre, rest, ag', cg', vs', Fs, cs, ⟨h.run, h.all, hJ _ _ _ h.j (hp.kp.mono fun k _ q => ⟨by rcases q with e | e | e <;> omega, fun q => q⟩), h.kept.trans (hp.kp.mono fun k _ q => .inl (by rcases q with e | e | e <;> omega)), by rw [hlen]; exact hp.bx, by rw [hlen]; exact hp.own, by rw [List.reverse_append, ← hx]; exact hp.row, ?_, h.sn, h.csd, ?_, ?_, Nat.lt_of_lt_of_le h.big hp.kp.size, h.prl⟩⟩
  · refine h.sm.same (hp.kp.block _ h.sm.lt ?_)
    rintro (e | e | e)
    · omega
    · have := h.sm.ne (show Box w6 g TT hgT.choose from hgT.choose_spec)
      exact this e
    · omega
  · refine ⟨⟨D, rfl, by omega, hDef, fun d' hd' e => ?_⟩, h.marks.frame fun D' ⟨d', hd', e⟩ hD' => hp.kp.block D' (Array.getElem?_eq_some_iff.1 hD').1 ?_⟩
    · obtain ⟨D', e', hlt⟩ := h.marks.lt d' hd'
      rw [e] at e'
      injection e' with e'
      omega
    · obtain ⟨n1, n2⟩ := cellsNe hD' rfl
      have := (Array.getElem?_eq_some_iff.1 hD').1
      rintro (e | e | e)
      · exact n1 e
      · exact n2 e
      · omega
  · rw [List.length_append]
    unfold limT at hl
    omega
end
theorem row_elem2 {Z : Nat → Prop} {w : World} {B n c g : Nat} {vs : List Value} {l : List Ty} (ho : w.ownsRow B TT 4 (.slice (some ⟨g, 0, none⟩) n c) n vs) (hr : RowT Z w vs l) {k : Nat} {y : Ty} (hk : k < n) (hy : l[k]? = some y) :
    ∃ a2 c2, w.cell? ⟨g, k * 4, none⟩ = some (.int .i64 y.kd) ∧ w.cell? ⟨g, k * 4 + 1, none⟩ = some (.int .i64 y.n) ∧ w.cell? ⟨g, k * 4 + 2, none⟩ = some (.string y.nm) ∧ w.cell? ⟨g, k * 4 + 3, none⟩ = some (.slice a2 y.args.len c2) ∧ y.nm.size ≤ 9223372036854775807 ∧ y.args.len * 56 ≤ 140737488355328 ∧ RdT Z w a2 y.args 0 := by
  obtain ⟨g', hg, _, _, _, hc⟩ := own_at ho (by omega)
  injection hg with hg
  injection hg with hg
  subst hg
  obtain ⟨a2, c2, g0, g1, g2, g3, g4⟩ := hr.get k y hy
  exact ⟨a2, c2, (hc _ (by omega)).trans g0, (hc _ (by omega)).trans g1, (hc _ (by omega)).trans g2, (hc _ (by omega)).trans g3, g4⟩
theorem seen_put {Fs : FK} {seen : SN} {r : Int} (hsn : ∀ n, inI n = true → (Fs (.int .i64 n)).getD (.int .i64 0) = .int .i64 (seen n)) :
    ∀ n, inI n = true → (updK Fs (.int .i64 r) (.int .i64 (wr (seen r + 1))) (.int .i64 n)).getD (.int .i64 0) = .int .i64 (updN seen r (wr (seen r + 1)) n) := by
  intro n hn
  unfold updK updN
  by_cases e : n = r
  · subst e
    rw [if_pos rfl, if_pos rfl]
    rfl
  · rw [if_neg (fun q => e (by injection q)), if_neg e]
    exact hsn n hn
theorem map_put_run {w : World} {m c : Nat} {F : FK} {r : Int} (v : Value) (h : MapK w Try.prog TI m F c) (hc : c < 2000000000) (hr : inI r = true) :
    ∃ w', (Instr.mapUpdate 85 (.map (some m)) (.int .i64 r) v).run Try.prog w = .ok () w' ∧ MapK w' Try.prog TI m (updK F (.int .i64 r) v) (cntPut F (.int .i64 r) c) ∧ w.grownBy w' (some m) := by
  obtain ⟨D, h1, h2, h3⟩ := h
  obtain ⟨w', hrun, u1, u2⟩ := World.ownsMap.update h1 keyI Try.underlying85 (by unfold maxLen; omega) (key_int (inI_iff.1 hr)) (show rawK v = some (.held v, []) from rfl)
  have h4 := put_sizeK h1 keyI h2 (lit_int r) h3 (.held v)
  exact ⟨w', hrun, ⟨_, by rw [← h4]; exact own_tight u1, put_isK h1.isMap h2 _ (lit_int r) v, h4⟩, u2⟩
theorem cntPut_le (F : FK) (s : Lit) (c : Nat) : cntPut F s c ≤ c + 1 := by unfold cntPut; split <;> omega
section
variable {Zw : Nat → Prop} {w0 W : World} {q : Nat} {K : PS} {deep : Bool} {l : Nat} {J : List (Int × Fact) → World → Prop} {L L' : List (Int × PF)} {d0 d : Nat} {ds : List Deferred} {wr w' : World} {seen seen' : SN} {tdr tdr' td' : List Ty} {x' : Ty} {pre : List (Int × Fact)} {rest rest' : List (Int × PF)} {g : Nat} {cg : Nat} {vs : List Value} {Fs Fs' : FK} {cs cs' : Nat}
/-- the last type is taken off, and the variable is counted -/
theorem OpenR.bump (h : OpenR Zw w0 W q K deep l J L d0 (d + 1) ds wr seen tdr (x' :: td') pre rest (some ⟨g, 0, none⟩) cg vs Fs cs) (hJ : ∀ s A C, J s A → Rg.Steps (fun _ _ => False) W.heap.size A C → J s C) (hz : ∀ b, Zw b → b < W.heap.size)
    (hturn : (wr.setCell ⟨W.heap.size + 2, 0, none⟩ (.slice (some ⟨g, 0, none⟩) td'.length cg)).grownBy w' (some W.heap.size)) (hmk : MapK w' Try.prog TI W.heap.size Fs' cs') (hsn : ∀ n, inI n = true → (Fs' (.int .i64 n)).getD (.int .i64 0) = .int .i64 (seen' n)) (hcs : cs' ≤ cs + 1)
    (hrun : openL q K deep d seen' tdr' = some rest') (hall : L'.map (fun y => (y.1, y.2.least)) = pre.map (fun y => (y.1, y.2.least)) ++ rest'.map (fun y => (y.1, y.2.least))) :
    OpenR Zw w0 W q K deep l J L' d0 d ds w' seen' tdr' td' pre rest' (some ⟨g, 0, none⟩) cg (vs.take (td'.length * 4)) Fs' cs' := by
  have hg := own_tyB h.own (k := g) rfl
  have hcut := own_cut h.own (m := td'.length) (by simp)
  have hrow := RowT.cut (x := x') (l := td'.reverse) (by have := h.row; rwa [List.reverse_cons] at this)
  rw [List.length_reverse] at hrow
  have hbg := h.big
  have hK5 : Kept (fun b => b = W.heap.size + 2 ∨ b = W.heap.size) wr (wr.setCell ⟨W.heap.size + 2, 0, none⟩ (.slice (some ⟨g, 0, none⟩) td'.length cg)) := Kept.setCell (X := fun b => b = W.heap.size + 2 ∨ b = W.heap.size) (Kept.refl _ wr) (a := ⟨W.heap.size + 2, 0, none⟩) (fun _ => .inl rfl) _
  have hK := Kept.grown hK5 hturn (fun k e _ => by injection e with e; exact .inr e.symm)
  have hK6 : Kept (fun b => b = W.heap.size) (wr.setCell ⟨W.heap.size + 2, 0, none⟩ (.slice (some ⟨g, 0, none⟩) td'.length cg)) w' := Kept.grown (Kept.refl _ _) hturn (fun k e _ => by injection e with e; exact e.symm)
  have hgm : W.heap.size ≠ g := by
    obtain ⟨cs, hc⟩ := hg.2
    exact h.sm.ne (show Box wr g TT cs from hc)
  have hcell : ∀ ad : Addr, Zw ad.block → w'.cell? ad = wr.cell? ad := fun ad hZ => World.cell?_of_block (hK.block ad.block (by have := hz _ hZ; omega) (fun q => by have := hz _ hZ; omega))
  refine ⟨hrun, hall, hJ _ _ _ h.j (hK.mono fun k _ q => ⟨by omega, fun q => q⟩), h.kept.trans (hK.mono fun k _ q => .inl (by omega)), hK6.box (h.bx6.put 0 _) (by omega), kept_own hK6 (own_far hcut h.bx6 (by decide) 0 _) (fun g' e q => hgm (by rw [← q]; injection e with e; exact e.symm)), hrow.frame (fun b o hb => hcell ⟨b, o, none⟩ hb) hcell (fun _ h => h), hmk, hsn, by have := h.csd; omega, h.marks.frame (fun D _ hD => hK.block D (Array.getElem?_eq_some_iff.1 hD).1 ?_), Nat.le_trans (Nat.le_succ _) h.tdl, Nat.lt_of_lt_of_le h.big hK.size, by have := h.prl; omega⟩
  rintro (e | e)
  · have q := h.bx6
    unfold Box at q
    rw [← e, hD] at q
    injection q with q
    cases q
  · obtain ⟨D0, ⟨es, clock, k1, _⟩, _⟩ := h.sm
    rw [← e, hD] at k1
    injection k1 with k1
    cases k1
/-- a variable is told, and the round goes on -/
theorem OpenR.yielded {td : List Ty} {ag : Option Addr} {x : Int × Fact} (h : OpenR Zw w0 W q K deep l J L' d0 d ds wr seen tdr td pre rest ag cg vs Fs cs) (hz : ∀ b, Zw b → b < w0.heap.size) (hlo : w0.heap.size ≤ l) (hlt : l < W.heap.size) (hr : Rg.Rounds (fun _ _ => False) l wr w') (hj : J (pre ++ [x]) w')
    (hall : L.map (fun y => (y.1, y.2.least)) = (pre ++ [x]).map (fun y => (y.1, y.2.least)) ++ rest.map (fun y => (y.1, y.2.least))) (hp : pre.length + (d + 1) ≤ d0) :
    OpenR Zw w0 W q K deep l J L d0 d ds w' seen tdr td (pre ++ [x]) rest ag cg vs Fs cs := by
  have hbg := h.big
  have hne : ∀ k, W.heap.size ≤ k → ¬ (k = l ∨ False) := fun k hk q => q.elim (fun e => by omega) fun e => e
  have hcell : ∀ ad : Addr, Zw ad.block → w'.cell? ad = wr.cell? ad := fun ad hZ => World.cell?_of_block (hr.block ad.block (by have := hz _ hZ; omega) (fun q => q.elim (fun e => by have := hz _ hZ; omega) fun e => e))
  refine ⟨h.run, hall, hj, h.kept.trans (hr.mono fun k _ q => .inr (q.elim (fun e => e) fun e => e.elim)), hr.box h.bx6 (hne _ (by omega)), kept_own hr h.own (fun g' e => hne _ (own_tyB h.own e).1), h.row.frame (fun b o hb => hcell ⟨b, o, none⟩ hb) hcell (fun _ h => h), h.sm.same (hr.block _ h.sm.lt (hne _ (Nat.le_refl _))), h.sn, h.csd, h.marks.frame (fun D ⟨d', hd', e⟩ hD => hr.block D (Array.getElem?_eq_some_iff.1 hD).1 (hne _ (h.marks.ge d' hd' D e))), h.tdl, Nat.lt_of_lt_of_le h.big hr.size, by rw [List.length_append]; simp only [List.length_cons, List.length_nil]; omega⟩
end
end Go.Proofs.Ytcaioffdcbjbjaa.Un
/-
  CONTRACT of layer unify: the parts of a type are put behind the row of those still to be looked at: the inner range of the look, for any frame.
-/
namespace Go.Proofs.Ytcaioffdcbjbjaa.Un
open Go.RowKit Go.Shelf Mm Tm Mk Go.Maps Go.ChangeMaps Go.MapKept Go.WideMaps Rg
set_option linter.unusedVariables false
set_option linter.unusedSimpArgs false
attribute [local go_sem] Oper.semAt_some
set_option maxRecDepth 100000 in
set_option maxHeartbeats 8000000 in
theorem inner_loop {base q l d0 d' cg g fc cs : Nat} {Y : Nat → Prop} {w0 W w5 : World} {K : PS} {deep : Bool} {J : List (Int × Fact) → World → Prop} {L : List (Int × PF)} {ds : List Deferred} {seen : SN} {td' : List Ty} {pre : List (Int × Fact)} {rest : List (Int × PF)} {vs : List Value} {Fs : FK} {args : Tys} {fa : Option Addr} {Q : Exit → Act → World → Prop}
    (hM : OpenR (ZU base Y w0) w0 W q K deep l J L d0 d' ds w5 seen (args.toL ++ td') td' pre rest (some ⟨g, 0, none⟩) cg vs Fs cs) (hA : RdT (ZU base Y w0) w5 fa args 0 ∧ args.len * 56 ≤ 140737488355328 ∧ args.len + td'.length < limT)
    (hJ : ∀ s A C, J s A → Rg.Steps (fun _ _ => False) W.heap.size A C → J s C) (hzB : ∀ b, ZU base Y w0 b → b < W.heap.size) (w6 : World) (hw6 : w5.alloc (.cells #[.slice fa args.len fc] TTs) = w6) (r0 r1 r2 r3 r4 r5 r7 r8 r9 r10 r11 r12 r13 r14 r15 r16 r17 r18 r19 r20 r21 r22 r23 r24 r25 r26 r27 r28 r29 r30 r31 r32 r33 r34 r35 r36 r37 r38 r39 r40 r41 r42 r43 r44 r45 r46 r47 r48 r49 r50 r51 r52 r53 r54 r55 r56 r57 r58 r59 r60 r61 r62 r63 r64 r66 r67 r68 r69 r70 r71 r72 r73 : Value)
    (hQ : ∀ D Wd, OpenI (ZU base Y w0) w0 W q K deep l J L d0 d' ({ target := .collected D, args := #[] } :: ds) Wd → Q .normal { tmps := #[r0, r1, r2, r3, r4, r5, .pointer (some ⟨W.heap.size + 2, 0, none⟩), r7, r8, r9, r10, r11, r12, r13, r14, r15, r16, r17, r18, r19, r20, r21, r22, r23, r24, r25, r26, r27, r28, r29, r30, r31, r32, r33, r34, r35, r36, r37, r38, r39, r40, r41, r42, r43, r44, r45, r46, r47, r48, r49, r50, r51, r52, r53, r54, r55, r56, r57, r58, r59, r60, r61, r62, r63, r64, .func (.func 44) #[] #[.pointer (some ⟨w5.heap.size, 0, none⟩)], r66, r67, r68, r69, r70, r71, r72, r73], defers := { target := .collected D, args := #[] } :: ds } Wd) :
    (Code.rangeFunc (Operand.tmp 65) #[66, 67] (Code.region 10 #[{ dst := some 9, op := Op.alloc TT, type := 0, pos := "store.go:100", after := #[], guard := none }, { dst := none, op := Op.store TT (Operand.tmp 9) (Operand.tmp 67), type := 0, pos := "store.go:100", after := #[{ on := 0, ground := Ground.data }, { on := 0, ground := Ground.phase }], guard := none }] false) (Code.block 3 (Code.region 11 #[{ dst := some 68, op := Op.load TTs (Operand.tmp 6), type := TTs, pos := "store.go:101", after := #[], guard := none }, { dst := some 69, op := Op.load TT (Operand.tmp 9), type := TT, pos := "store.go:101", after := #[], guard := none }, { dst := some 70, op := Op.call { callee := Callee.builtin Builtin.len, args := #[Operand.tmp 68], argTypes := #[TTs] }, type := TI, pos := "store.go:101", after := #[{ on := 0, ground := Ground.data }], guard := none }, { dst := some 71, op := Op.buildSlice TTs 1 #[(0, Operand.const (Value.agg #[Value.int IntKind.i64 0, Value.int IntKind.i64 0, Value.string { data := #[] }, Value.slice none 0 0]))], type := TTs, pos := "store.go:101", after := #[], guard := none }, { dst := some 72, op := Op.call { callee := Callee.builtin Builtin.append, args := #[Operand.tmp 68, Operand.tmp 71], argTypes := #[TTs, TTs] }, type := TTs, pos := "store.go:101", after := #[{ on := 0, ground := Ground.data }, { on := 3, ground := Ground.data }, { on := 0, ground := Ground.phase }, { on := 1, ground := Ground.phase }, { on := 2, ground := Ground.phase }, { on := 3, ground := Ground.phase }], guard := none }, { dst := some 73, op := Op.indexAddr TTs (Operand.tmp 72) (Operand.tmp 70), type := 0, pos := "store.go:101", after := #[{ on := 4, ground := Ground.data }, { on := 2, ground := Ground.data }, { on := 0, ground := Ground.phase }, { on := 1, ground := Ground.phase }, { on := 2, ground := Ground.phase }, { on := 3, ground := Ground.phase }, { on := 4, ground := Ground.phase }, { on := 7, ground := Ground.gcOnly Departure.appendInPlace }], guard := none }, { dst := none, op := Op.store TT (Operand.tmp 73) (Operand.tmp 69), type := 0, pos := "store.go:101", after := #[{ on := 5, ground := Ground.data }, { on := 1, ground := Ground.data }, { on := 4, ground := Ground.chain }, { on := 0, ground := Ground.phase }, { on := 1, ground := Ground.phase }, { on := 2, ground := Ground.phase }, { on := 3, ground := Ground.phase }, { on := 4, ground := Ground.phase }, { on := 7, ground := Ground.gcOnly Departure.appendInPlace }], guard := none }, { dst := none, op := Op.store TTs (Operand.tmp 6) (Operand.tmp 72), type := 0, pos := "store.go:101", after := #[{ on := 4, ground := Ground.data }, { on := 4, ground := Ground.chain }, { on := 6, ground := Ground.textOnly Departure.appendInPlace }, { on := 0, ground := Ground.phase }, { on := 1, ground := Ground.phase }, { on := 2, ground := Ground.phase }, { on := 3, ground := Ground.phase }, { on := 4, ground := Ground.phase }, { on := 5, ground := Ground.textOnly Departure.appendInPlace }, { on := 6, ground := Ground.textOnly Departure.appendInPlace }], guard := none }] true))).wp Try.prog Q { tmps := #[r0, r1, r2, r3, r4, r5, .pointer (some ⟨W.heap.size + 2, 0, none⟩), r7, r8, r9, r10, r11, r12, r13, r14, r15, r16, r17, r18, r19, r20, r21, r22, r23, r24, r25, r26, r27, r28, r29, r30, r31, r32, r33, r34, r35, r36, r37, r38, r39, r40, r41, r42, r43, r44, r45, r46, r47, r48, r49, r50, r51, r52, r53, r54, r55, r56, r57, r58, r59, r60, r61, r62, r63, r64, .func (.func 44) #[] #[.pointer (some ⟨w5.heap.size, 0, none⟩)], r66, r67, r68, r69, r70, r71, r72, r73], defers := ds } w6 := by
  have hB56 : Below w5.heap.size w5 w6 := by rw [← hw6]; exact (Below.refl _ w5).alloc (Nat.le_refl _) _
  have hBs : Box w6 w5.heap.size TTs #[.slice fa args.len fc] := by rw [← hw6]; exact Box.new _ _ _
  have hz6 : w6.heap.size = w5.heap.size + 1 := by rw [← hw6]; simp
  have HM6 := Lib.hid (hM.here hJ hzB hB56)
  have hg5 := (hM.own.lt g rfl)
  have hb5 := hM.big
  obtain ⟨es, hes, hrc⟩ := rd_rowc args 0 (hA.1.below hB56 (fun b hb => by have := hzB b hb; omega))
  have hlen5 : args.len = es.length := by rw [← Tys.toL_len, ← hes, List.length_map]
  obtain ⟨G, hG⟩ : ∃ G : TA → Prop, G = fun e => e.1.nm.size ≤ 9223372036854775807 ∧ e.1.args.len * 56 ≤ 140737488355328 ∧ RdT (ZU base Y w0) w6 e.2.1 e.1.args 0 := ⟨_, rfl⟩
  obtain ⟨eg, heg⟩ := exists_sub (G := G) es (fun e he => by
    obtain ⟨i, hi⟩ := List.getElem?_of_mem he
    obtain ⟨ad, _, _, _, _, _, h5, h6, h7, _⟩ := hrc i e hi
    rw [hG]
    exact ⟨h5, h6, h7⟩)
  have hgl : eg.length = es.length := by rw [← heg, List.length_map]
  have hRC : RowC w6 fa (eg.map (·.1)) := by
    rw [heg]
    intro i e he
    obtain ⟨ad, e1, q0, q1, q2, q3, _⟩ := hrc i e he
    rw [Nat.zero_add] at q0 q1 q2 q3
    exact ⟨ad, e1, q0, q1, q2, q3⟩
  have hXX : ∀ A k, k = w5.heap.size ∨ (eg ≠ [] ∧ ∃ ad, fa = some ad ∧ k = ad.block) → ¬ PushX W.heap.size g w6 A k := by
    rintro A k (rfl | ⟨hne, ad, e, rfl⟩) q
    · rcases q with q | q | q <;> omega
    · have : 0 < es.length := by rw [← hgl]; exact List.length_pos_iff.2 hne
      obtain ⟨ad', e', _, _, _, _, _, _, _, hz⟩ := hrc 0 es[0] (List.getElem?_eq_getElem this)
      rw [e] at e'
      injection e' with e'
      have := hzB _ hz
      rw [← e'] at this
      rcases q with q | q | q <;> omega
  have HES := Lib.hid hes
  have HEG := Lib.hid heg
  have HARG := Lib.hid hA
  have HJ := Lib.hid hJ
  clear hw6 hes heg hrc hM hA hJ
  refine wpIn_wide.1 (range_own (n := 9) (X := PushX W.heap.size g w6) (by omega) (gf := 44) (lb := #[.pointer (some ⟨w5.heap.size, 0, none⟩)]) rfl (enters_of Try.func44 (by kernel_rfl) rfl)
    (backT_seq (G := G) (es := eg) (Bs := w5.heap.size) (b := fa) (c := fc) (by omega) w6 (by rw [hgl, ← hlen5]; exact hBs) hRC (by rw [hgl, ← hlen5]; exact HARG.out.2.1) hXX) (Below.refl _ _) (fun _ => rfl) (pushX_o (by omega) (by omega)) (fun A C b _ h => h)
    (fun prei W' => PushI (ZU base Y w0) W.heap.size g w6 td' prei W')
    (fun _ _ _ => False) (fun s A C h hs => h.step hs (by omega) (by omega) hzB) (fun _ _ _ _ h _ => h) HM6.out.push0
    (fun xi ai W' => ∃ Bx, Box W' Bx TT #[.int .i64 xi.2.1.1.kd, .int .i64 xi.2.1.1.n, .string xi.2.1.1.nm, .slice xi.2.1.2.1 xi.2.1.1.args.len xi.2.1.2.2] ∧ ∃ (b0 b1 b2 b3 b4 b5 b7 b8 b10 b11 b12 b13 b14 b15 b16 b17 b18 b19 b20 b21 b22 b23 b24 b25 b26 b27 b28 b29 b30 b31 b32 b33 b34 b35 b36 b37 b38 b39 b40 b41 b42 b43 b44 b45 b46 b47 b48 b49 b50 b51 b52 b53 b54 b55 b56 b57 b58 b59 b60 b61 b62 b63 b64 b65 b66 b67 b68 b69 b70 b71 b72 b73 : Value), ai = { tmps := #[b0, b1, b2, b3, b4, b5, .pointer (some ⟨W.heap.size + 2, 0, none⟩), b7, b8, .pointer (some ⟨Bx, 0, none⟩), b10, b11, b12, b13, b14, b15, b16, b17, b18, b19, b20, b21, b22, b23, b24, b25, b26, b27, b28, b29, b30, b31, b32, b33, b34, b35, b36, b37, b38, b39, b40, b41, b42, b43, b44, b45, b46, b47, b48, b49, b50, b51, b52, b53, b54, b55, b56, b57, b58, b59, b60, b61, b62, b63, b64, b65, b66, b67, b68, b69, b70, b71, b72, b73], defers := [] })
    (fun x a' A k o o' ⟨Bx, hb, ha⟩ ho hc => ⟨Bx, (World.putObj_heap_other (fun e => by unfold Box at hb; rw [e, ho] at hb; injection hb with hb; rw [hb] at hc; cases hc)).trans hb, ha⟩) ?_ ?_ ?_ ?_)
  · rintro l2 prei xi Wa Ka hPA hsza hKa
    obtain ⟨ag', cg', vs', hPA⟩ := hPA
    obtain ⟨xn, ⟨⟨xt, xa, xc⟩, xg⟩⟩ := xi
    simp only [encT, taV, tyV]
    gi_wp2
    refine hKa _ _ ((Below.refl _ Wa).alloc (Nat.le_refl _) (.cells #[.int .i64 xt.kd, .int .i64 xt.n, .string xt.nm, .slice xa xt.args.len xc] TT)) ⟨Wa.heap.size, Box.new _ _ _, ?_⟩
    (repeat apply Exists.intro)
    rfl
  · rintro l2 prei xi ai Wb hl2 hl2b ⟨ag', cg', vs', hPR⟩ hlen ⟨Bx, hBx, haa⟩
    obtain ⟨xn, ⟨⟨xt, xa, xc⟩, xg⟩⟩ := xi
    obtain ⟨b0, b1, b2, b3, b4, b5, b7, b8, b10, b11, b12, b13, b14, b15, b16, b17, b18, b19, b20, b21, b22, b23, b24, b25, b26, b27, b28, b29, b30, b31, b32, b33, b34, b35, b36, b37, b38, b39, b40, b41, b42, b43, b44, b45, b46, b47, b48, b49, b50, b51, b52, b53, b54, b55, b56, b57, b58, b59, b60, b61, b62, b63, b64, b65, b66, b67, b68, b69, b70, b71, b72, b73, rfl⟩ := haa
    have xg' := xg
    rw [hG] at xg'
    gi_wp2
    refine push_round (base := W.heap.size) (k := td'.length + prei.length) Wb b0 b1 b2 b3 b4 b5 b7 b8 b10 b11 b12 b13 b14 b15 b16 b17 b18 b19 b20 b21 b22 b23 b24 b25 b26 b27 b28 b29 b30 b31 b32 b33 b34 b35 b36 b37 b38 b39 b40 b41 b42 b43 b44 b45 b46 b47 b48 b49 b50 b51 b52 b53 b54 b55 b56 b57 b58 b59 b60 b61 b62 b63 b64 b65 b66 b67 b68 b69 b70 b71 b72 b73 hBx hPR.bx hPR.own (by omega) (by have := HARG.out.2.2; unfold limT at this; rw [hgl, ← hlen5] at hlen; omega) ?_
    rintro W' hput c68 c69 c70 c71 c72 c73
    exact hPR.next hput (by omega) hzB hg5.1 xg'.1 xg'.2.1 xg'.2.2 (by omega)
  · rintro D xs Wd hD hS hPX hDef
    have hOI := HM6.out.pushed (D := D) hPX (by
      have := congrArg (List.map (fun e : { e : TA // G e } => e.1.1)) hS
      rw [List.map_map, List.map_reverse] at this
      rw [← HES.out, ← HEG.out, List.map_map]
      exact this) (by rw [Tys.toL_len]; exact HARG.out.2.2) hD hDef HJ.out
    exact hQ D Wd hOI
  · rintro D cst prest Wd hD hSp hf
    exact hf.elim
end Go.Proofs.Ytcaioffdcbjbjaa.Un
