/-
  CONTRACTS of layer unify: types being made the same, in memory; what is known of a variable is set.
-/
import Derived.Test.YtcaioffdcbjbjaaGA
import Derived.Test.YtcaioffdcbjbjaaGB
import Derived.Deep.Fields
import Derived.Deep.Cut
import Derived.Laws.OwnMore
import Derived.Deep.AppendLies
import Derived.Deep.RegionLaw
import Derived.OwnWalk
namespace Go.Proofs.Ytcaioffdcbjbjaa.Un
open Go.RowKit Mm Tm Mk Go.Maps Go.ChangeMaps Go.MapKept Go.WideMaps
set_option linter.unusedVariables false
set_option linter.unusedSimpArgs false
abbrev TMg : TypeId := 52
abbrev TCh : TypeId := 71
theorem Tchange : (Try.prog.info? 71).map (fun i => (i.zero, i.size, i.bytes)) = some (some (.agg #[.int .i64 0, .bool false, .int .i64 0, .int .i64 0, .string ByteArray.empty, .slice none 0 0, .int .i64 0, .int .i64 0, .bool false]), 9, 96) := by kernel_rfl
theorem news_new (w : World) (cs : Array Value) (t : TypeId) : ∀ j u, cs.toList[j]? = some u → (w.alloc (.cells cs t)).cell? ((⟨w.heap.size, 0, none⟩ : Addr).add j) = some u := by
  intro j u hj
  have e : ((⟨w.heap.size, 0, none⟩ : Addr).add j) = ⟨w.heap.size, j, none⟩ := by
    simp [Addr.add]
    try (intro e; omega)
  rw [e, (Box.new w cs t).cell j]
  simpa using hj
abbrev chCells (n : Int) (k : Bool) (g : Fact) : List Value := [.int .i64 n, .bool k, .int .i64 g.kd, .int .i64 g.n, .string g.nm, .slice g.a g.args.len g.c, .int .i64 g.least, .int .i64 g.depth, .bool g.held]
abbrev chArr (n : Int) (k : Bool) (g : Fact) : Array Value := #[.int .i64 n, .bool k, .int .i64 g.kd, .int .i64 g.n, .string g.nm, .slice g.a g.args.len g.c, .int .i64 g.least, .int .i64 g.depth, .bool g.held]
def ChangeR (Z : Nat → Prop) (w : World) (g : Fact) : Option PF → Prop
  | none => True
  | some f => ErF g f ∧ FactR Z w g
/-- the cells of what was known before -/
def OldR (Z : Nat → Prop) (w : World) : List Value → List (Int × Option PF) → Prop
  | vs, [] => vs = []
  | vs, x :: l => ∃ g r, vs = chCells x.1 x.2.isSome g ++ r ∧ ChangeR Z w g x.2 ∧ OldR Z w r l
theorem ChangeR.frame {Z Z' : Nat → Prop} {w w' : World} {g : Fact} {o : Option PF} (h : ChangeR Z w g o) (ha : ∀ ad : Addr, Z ad.block → w'.cell? ad = w.cell? ad) (hz : ∀ b, Z b → Z' b) : ChangeR Z' w' g o := by
  cases o
  · trivial
  · exact ⟨h.1, h.2.frame ha hz⟩
theorem OldR.frame {Z Z' : Nat → Prop} {w w' : World} (ha : ∀ ad : Addr, Z ad.block → w'.cell? ad = w.cell? ad) (hz : ∀ b, Z b → Z' b) : ∀ {vs : List Value} {l : List (Int × Option PF)}, OldR Z w vs l → OldR Z' w' vs l
  | _, [], h => h
  | _, x :: l, ⟨g, r, h1, h2, h3⟩ => ⟨g, r, h1, h2.frame ha hz, OldR.frame ha hz h3⟩
theorem OldR.snoc {Z : Nat → Prop} {w : World} {x : Int × Option PF} {g : Fact} (hc : ChangeR Z w g x.2) : ∀ {vs : List Value} {l : List (Int × Option PF)}, OldR Z w vs l → OldR Z w (vs ++ chCells x.1 x.2.isSome g) (l ++ [x])
  | vs, [], h => by rw [show vs = [] from h]; exact ⟨g, [], rfl, hc, rfl⟩
  | vs, y :: l, ⟨g', r, h1, h2, h3⟩ => by
    subst h1
    exact ⟨g', r ++ chCells x.1 x.2.isSome g, List.append_assoc _ _ _, h2, OldR.snoc hc h3⟩
theorem OldR.get {Z : Nat → Prop} {w : World} : ∀ {vs : List Value} {l : List (Int × Option PF)}, OldR Z w vs l → ∀ (i : Nat) (x : Int × Option PF), l[i]? = some x → ∃ g, ChangeR Z w g x.2 ∧ ∀ j, j < 9 → vs[i * 9 + j]? = (chCells x.1 x.2.isSome g)[j]?
  | vs, [], h, i, x, hx => by simp at hx
  | vs, y :: l, ⟨g', r, h1, h2, h3⟩, 0, x, hx => by
    simp at hx
    subst hx
    subst h1
    exact ⟨g', h2, fun j hj => by rw [Nat.zero_mul, Nat.zero_add, List.getElem?_append_left (by simpa using hj)]⟩
  | vs, y :: l, ⟨g', r, h1, h2, h3⟩, i + 1, x, hx => by
    obtain ⟨g, k1, k2⟩ := OldR.get h3 i x (by simpa using hx)
    subst h1
    refine ⟨g, k1, fun j hj => ?_⟩
    rw [List.getElem?_append_right (by simp; omega), ← k2 j hj]
    congr 1
    simp
    omega
/-- What is being made, in memory: the making's block mk, the store's s, the map m; tv: what is still to be made the same; pv: the pairs that were; ov: what was known before. -/
structure SetI (base : Nat) (Y : Nat → Prop) (w : World) (mk s m : Nat) (nx : Int) (tv pv ov : Value) (st : St) : Prop where
  box : Box w mk TMg #[.pointer (some ⟨s, 0, none⟩), tv, pv, ov]
  sbox : Box w s TSt #[.map (some m), .int .i64 nx]
  kn : KnI (ZT base Y w) w m st.K st.cnt
  old : ∃ vs, w.ownsRow base TCh 9 ov st.old.length vs ∧ OldR (ZT base Y w) w vs st.old
  bmk : base ≤ mk
  bm : base ≤ m
/-- what a call that sets may turn -/
abbrev SK (base mk m : Nat) (w w' : World) : Prop := KG base (· = TCh) (fun b => b = mk ∨ b = m) w w'
def SetPost (base : Nat) (Y : Nat → Prop) (mk s m : Nat) (nx : Int) (tv pv : Value) (st' : St) (w : World) (e : Ending) (w' : World) : Prop := e = .returned (.tuple #[]) ∧ ∃ ov', SetI base Y w' mk s m nx tv pv ov' st' ∧ SK base mk m w w'
theorem KG.zt {base : Nat} {Y : Nat → Prop} {T : TypeId → Prop} {D : Nat → Prop} {w w' : World} (h : KG base T D w w') (hD : ∀ b, D b → ¬ TyB TT w b) (hT : ¬ T TT) : (∀ ad : Addr, ZT base Y w ad.block → w'.cell? ad = w.cell? ad) ∧ ∀ b, ZT base Y w b → ZT base Y w' b :=
  ⟨fun ad hz => h.cellT hz.2.1 (fun e => hD _ e hz.2.1) hT, fun b hz => ⟨hz.1, h.tyB hz.2.1 (fun e => hD _ e hz.2.1) hT, hz.2.2⟩⟩
theorem Box.notTyB {w : World} {g : Nat} {t u : TypeId} {cs : Array Value} (h : Box w g t cs) (hne : t ≠ u) : ¬ TyB u w g := by
  rintro ⟨cs', hc⟩
  exact hne (Box.same h (show Box w g u cs' from hc))
theorem map_notTyB {w : World} {k : TypeId} {b c : Nat} {F : FK} {u : TypeId} (h : MapK w Try.prog k b F c) : ¬ TyB u w b := by
  rintro ⟨cs', hc⟩
  exact h.ne (show Box w b u cs' from hc) rfl
theorem own_tyB {w : World} {B : Nat} {e : TypeId} {size n : Nat} {v : Value} {xs : List Value} (h : w.ownsRow B e size v n xs) {k : Nat} (hk : v.ownBlock = some k) : B ≤ k ∧ TyB e w k := by
  rcases h.2 with ⟨rfl, _⟩ | ⟨g, cap, cur, rfl, hg, hh, _⟩
  · cases hk
  · injection hk with hk
    subst hk
    exact ⟨hg, cur, hh⟩
def zF : Fact := ⟨0, 0, noN, .nil, none, 0, 0, 0, false⟩
open Classical in
theorem storeF_upd (KS : KS) (n : Int) (g : Fact) (s : Lit) : updK (storeF KS) (.int .i64 n) (factV g) s = storeF (fun x => if x = n then some g else KS x) s := by
  unfold updK
  by_cases h : s = .int .i64 n
  · subst h
    rw [if_pos rfl, storeF_int, if_pos rfl]
    rfl
  · rw [if_neg h]
    cases s <;> try rfl
    rename_i k x
    cases k <;> try rfl
    rw [storeF_int, storeF_int, if_neg (fun e => h (by rw [e]))]
theorem ErO.some_iff {Z : Nat → Prop} {w : World} {g : Option Fact} {f : Option PF} (h : ErO Z w g f) : g.isSome = f.isSome := by
  cases g <;> cases f <;> first | rfl | exact h.elim
theorem cntPut_eq {KS : KS} {n : Int} {c : Nat} {b : Bool} (h : (KS n).isSome = b) : cntPut (storeF KS) (.int .i64 n) c = if b then c else c + 1 := by
  unfold cntPut
  rw [storeF_int, Option.isSome_map, h]
set_option maxRecDepth 100000 in
set_option maxHeartbeats 4000000 in
theorem set_any {base : Nat} {Y : Nat → Prop} {mk s m : Nat} {nx n : Int} {tv pv ov : Value} {st st' : St} {g : Fact} {f : PF} (w : World) (hI : SetI base Y w mk s m nx tv pv ov st) (hg : ErF g f) (hr : FactR (ZT base Y w) w g) (hb : base ≤ w.heap.size) (hst : setP st n f = some st') :
    Calls Try.prog 35 #[.pointer (some ⟨mk, 0, none⟩), .int .i64 n, factV g] w (SetPost base Y mk s m nx tv pv st' w) := by
  obtain ⟨i0, hi0, hi1, hi2, hi3⟩ := info_parts Tchange
  unfold setP at hst
  split at hst
  case isFalse => cases hst
  case isTrue hc =>
  simp only [Bool.and_eq_true, decide_eq_true_eq] at hc
  obtain ⟨⟨hin, hc1⟩, hc2⟩ := hc
  unfold lim at hc1 hc2
  injection hst with hst
  obtain ⟨KS, hm, her⟩ := hI.kn
  obtain ⟨vs, ho1, ho2⟩ := hI.old
  have hkey := key_int (inI_iff.1 hin)
  obtain ⟨g0, hg0, hr0⟩ : ∃ g0, (storeF KS (.int .i64 n)).getD zeroFactV = factV g0 ∧ ChangeR (ZT base Y w) w g0 (st.K n) := by
    have h := her n
    rw [storeF_int]
    cases hk : KS n with
    | none =>
      rw [hk] at h
      cases hK : st.K n with
      | none => exact ⟨zF, rfl, trivial⟩
      | some f => rw [hK] at h; exact h.elim
    | some g0 =>
      rw [hk] at h
      cases hK : st.K n with
      | none => rw [hK] at h; exact h.elim
      | some f => rw [hK] at h; exact ⟨g0, rfl, h⟩
  have hsome : (storeF KS (.int .i64 n)).isSome = (st.K n).isSome := by rw [storeF_int, Option.isSome_map]; exact (her n).some_iff
  obtain ⟨kn, hkn⟩ : ∃ kn, (st.K n).isSome = kn := ⟨_, rfl⟩
  have hcnt : cntPut (storeF KS) (.int .i64 n) st.cnt = if (st.K n).isSome then st.cnt else st.cnt + 1 := cntPut_eq (her n).some_iff
  rw [hkn] at hsome
  obtain ⟨W1, hW1⟩ : ∃ W1, (w.alloc (.cells (factC g) TF)).alloc (.cells (factC g0) TF) = W1 := ⟨_, rfl⟩
  have hB1 : Below w.heap.size w W1 := by rw [← hW1]; exact ((Below.refl w.heap.size w).alloc (Nat.le_refl _) _).alloc (by simp) _
  have hz1 : W1.heap.size = w.heap.size + 2 := by rw [← hW1]; simp
  have hX5 : Box W1 w.heap.size TF (factC g) := by rw [← hW1]; exact (Box.new w _ _).alloc _
  have hX6 : Box W1 (w.heap.size + 1) TF (factC g0) := by rw [← hW1]; exact Box.at_ _ _ (by simp)
  have hMk1 := hI.box.below hB1 hI.box.lt
  have hS1 := hI.sbox.below hB1 hI.sbox.lt
  have hM1 := hm.below hB1 hm.lt
  have hO1 := own_here ho1 hB1
  have hMM0 := hm.below ((Below.refl w.heap.size w).alloc (Nat.le_refl _) (.cells (factC g) TF)) hm.lt
  have hMk0 := hI.box.alloc (.cells (factC g) TF)
  have hS0 := hI.sbox.alloc (.cells (factC g) TF)
  have HX5 := Lib.hid hX5
  have HX6 := Lib.hid hX6
  have HMk1 := Lib.hid hMk1
  have HS1 := Lib.hid hS1
  have HM1 := Lib.hid hM1
  have HO1 := Lib.hid hO1
  have HM0 := Lib.hid hMM0
  have HB1 := Lib.hid hB1
  have HI := Lib.hid hI
  have HG0 := Lib.hid hg0
  have HKEY := Lib.hid hkey
  have HSO := Lib.hid hsome
  have hbm := hI.bm
  have hbk := hI.bmk
  have hmks : mk ≠ s := by
    rintro rfl
    exact absurd (hI.box.same hI.sbox) (by decide)
  have hmkm : m ≠ mk := hm.ne hI.box
  have hms : m ≠ s := hm.ne hI.sbox
  have HLT := Lib.hid (And.intro hI.box.lt (And.intro hI.sbox.lt hm.lt))
  have HNE := Lib.hid (And.intro hmks (And.intro hmkm hms))
  obtain ⟨a0, a1, a2, a3, _⟩ := hMk0.cells4
  obtain ⟨b0, b1, _⟩ := hS0.cells2
  have HREST := Lib.hid (And.intro hr (And.intro hg (And.intro her (And.intro ho2 (And.intro hr0 (And.intro hst (And.intro hcnt hkn)))))))
  clear hX5 hX6 hMk1 hS1 hM1 hO1 hMM0 hMk0 hS0 hI hm ho1 hB1 hg0 hkey hsome hmks hmkm hms hr hg her ho2 hr0 hst hcnt hkn
  obtain ⟨ov, hovv⟩ : ∃ ov', ov = ov' := ⟨_, rfl⟩
  subst hovv
  obtain ⟨ao, co, hovs⟩ := own_slice HO1.out
  rw [hovs] at a3
  go_enter Try.func35, Try.ntmps35
  go_wp2_with (at_lookup; refine wpList_look_okK _ rfl _ _ TMK rfl TI TF keyI Try.underlying42 (zeroFact _) m _ _ rfl HM0.out _ _ (lit_int _) rfl HKEY.out ?_; rw [HG0.out, HSO.out])
  clear hW1 a0 a1 a2 a3 b0 b1
  obtain ⟨a0, a1, a2, a3, _⟩ := HMk1.out.cells4
  rw [hovs] at a3
  obtain ⟨x0, x1, x2, x3, x4, x5, x6⟩ := HX6.out.cells7
  have HO1d := Lib.hid (show W1.ownsRow base TCh 9 (.slice ao st.old.length co) st.old.length vs by have := HO1.out; rw [hovs] at this; exact this)
  have hb1 : base ≤ W1.heap.size := by omega
  have HOV := Lib.hid hovs
  have HZ1 := Lib.hid hz1
  have zmk := HMk1.out.lt
  have zx6 := HX6.out.lt
  clear hovs hz1
  go_region_law (refine step_append_lies _ ?_ (.tmp 24) (.tmp 29) 50 ?_ base TCh i0 _ 9 96 Try.underlying50 hi0 hi1 hi2 hi3 rfl (by decide) (.slice ao st.old.length co) st.old.length vs ?_ (own_drew (HO1d.out.alloc _)) ⟨W1.heap.size, 0, none⟩ 1 1 (chCells n kn g0) ?_ rfl ?_ ?_ (by decide) ?_ ?_ ?_ _ rfl ?_; exact rfl; exact rfl; exact rfl; exact rfl; exact news_new W1 (chArr n kn g0) TCh; (intro u hu; simp only [List.mem_cons, List.not_mem_nil, or_false] at hu; rcases hu with rfl | rfl | rfl | rfl | rfl | rfl | rfl | rfl | rfl <;> rfl); (unfold maxLen; omega); omega; (simp; omega); intro g5 c5 w3 hown hgrow hat hlt5; have hMk3 := ((HMk1.out.alloc (.cells (chArr n kn g0) TCh)).drew).grown hgrow (own_ne HO1d.out HMk1.out (by decide)); have m3 := hMk3.cell 3; have f3 := hMk3.free 3; have HOWN := Lib.hid hown; have HGR := Lib.hid hgrow; have HMk3 := Lib.hid hMk3; clear hMk3 hown hgrow hat hlt5)
  all_goals
    have hgrow := HGR.out
    have k3 := ((KG.refl base (· = TCh) (fun b => b = mk ∨ b = m) w |>.trans (KG.of_below HB1.out (Nat.le_refl _))).alloc (.cells (chArr n kn g0) TCh)).drew.grown hgrow (fun k hk hlt => by
      obtain ⟨q1, q2⟩ := own_tyB HO1.out (by rw [HOV.out]; exact hk)
      exact ⟨q1, .inr ⟨TCh, rfl, q2.same (HB1.out.block k hlt).symm⟩⟩)
    have HK3 := Lib.hid k3
    have HS3 := Lib.hid (k3.box HI.out.sbox (fun e => e.elim (fun q => HNE.out.1 q.symm) fun q => HNE.out.2.2 q.symm) (by decide))
    have HM3 := Lib.hid (((HM1.out.alloc (.cells (chArr n kn g0) TCh)).drew).kept hgrow (fun e => map_notTyB HM1.out (own_tyB HO1.out (by rw [HOV.out]; exact e.symm)).2))
    have HX53 := Lib.hid ((HX5.out.alloc (.cells (chArr n kn g0) TCh)).drew.grown hgrow (own_ne HO1d.out HX5.out (by decide)))
    have hX53ne : w.heap.size ≠ mk := by have := HLT.out.1; omega
    obtain ⟨W4, hW4⟩ : ∃ W4, w3.setCell ⟨mk, 3, none⟩ (.slice (some ⟨g5, 0, none⟩) (st.old.length + 1) c5) = W4 := ⟨_, rfl⟩
    have HMk4 := Lib.hid (show Box W4 mk TMg #[.pointer (some ⟨s, 0, none⟩), tv, pv, .slice (some ⟨g5, 0, none⟩) (st.old.length + 1) c5] by rw [← hW4]; exact HMk3.out.put 3 _)
    have HS4 := Lib.hid (show Box W4 s TSt #[.map (some m), .int .i64 nx] by rw [← hW4]; exact HS3.out.far (fun e => HNE.out.1 e) _)
    have HM4 := Lib.hid (show MapK W4 Try.prog TI m (storeF KS) st.cnt by rw [← hW4]; exact HM3.out.setCell (fun e => HNE.out.2.1 e) _)
    have HX54 := Lib.hid (show Box W4 w.heap.size TF (factC g) by rw [← hW4]; exact HX53.out.far (fun e => hX53ne e.symm) _)
    have HK4 := Lib.hid (show SK base mk m w W4 by rw [← hW4]; exact HK3.out.setCell (a := ⟨mk, 3, none⟩) hbk (fun _ => .inl (.inl rfl)) _)
    have HKK := Lib.hid (show KG base (fun _ => False) (fun b => b = mk ∨ b = m) w3 W4 by rw [← hW4]; exact (KG.refl _ _ _ w3).setCell (a := ⟨mk, 3, none⟩) hbk (fun _ => .inl (.inl rfl)) _)
    obtain ⟨c0, c1, c2, c3, _⟩ := HMk4.out.cells4
    obtain ⟨d0, d1, _⟩ := HS4.out.cells2
    obtain ⟨y0, y1, y2, y3, y4, y5, y6⟩ := HX54.out.cells7
    rw [hW4]
    clear k3 hgrow a0 a1 a2 a3 x0 x1 x2 x3 x4 x5 x6 hX53ne m3 f3
    go_wp2_with fail
    clear hW4
    go_still_tail 9, (by kernel_rfl)
    change wpList _ _ _ _ _ W4.drew
    go_wp2_with (at_mapUpdate; refine wpList_putK _ rfl _ _ _ TMK rfl TI TF keyI Try.underlying42 m _ _ rfl HM4.out.drew (by unfold maxLen; omega) _ _ _ (lit_int _) rfl rfl HKEY.out ?_)
    intro w5 hm5 ht5
    have hgb := (turned_same ht5).1
    have k5 := HK4.out.drew.grown hgb (fun k hk hlt => by injection hk with hk; subst hk; exact ⟨hbm, .inl (.inr rfl)⟩)
    have kk5 := HKK.out.drew.grown hgb (fun k hk hlt => by injection hk with hk; subst hk; exact ⟨hbm, .inl (.inr rfl)⟩)
    have HFIN := Lib.hid (And.intro hm5 (And.intro k5 (And.intro kk5 hgb)))
    clear hm5 ht5 hgb k5 kk5
    go_wp2_with fail
    go_end0
    obtain ⟨hm5, k5, kk5, hgb⟩ := HFIN.out
    obtain ⟨hr, hg, her, ho2, hr0, hst, hcnt, hkn⟩ := HREST.out
    have hD : ∀ b, (b = mk ∨ b = m) → ¬ TyB TT w b := by
      rintro b (rfl | rfl)
      · exact Box.notTyB HI.out.box (by decide)
      · obtain ⟨KS0, q, _⟩ := HI.out.kn
        exact map_notTyB q
    obtain ⟨z1, z2⟩ := KG.zt k5 hD (by decide)
    refine ⟨rfl, .slice (some ⟨g5, 0, none⟩) (st.old.length + 1) c5, ⟨?_, ?_, ?_, ?_, hbk, hbm⟩, k5⟩
    · exact (show Box W4.drew mk TMg _ from HMk4.out).grown hgb (fun e => HNE.out.2.1 (by injection e with e; exact e.symm))
    · exact k5.box HI.out.sbox (fun e => e.elim (fun q => HNE.out.1 q.symm) fun q => HNE.out.2.2 q.symm) (by decide)
    · rw [← hst]
      refine ⟨fun x => if x = n then some g else KS x, ?_, fun x => ?_⟩
      · rw [← hcnt]
        exact hm5.congr (storeF_upd KS n g)
      · by_cases hx : x = n
        · subst hx
          show ErO _ _ (if x = x then some g else KS x) (updP st.K x (some f) x)
          rw [if_pos rfl, updP_same]
          exact ⟨hg, hr.frame z1 z2⟩
        · show ErO _ _ (if x = n then some g else KS x) (updP st.K n (some f) x)
          rw [if_neg hx, updP_other _ _ hx]
          exact (her x).frame z1 z2
    · rw [← hst]
      refine ⟨vs ++ chCells n kn g0, ?_, ?_⟩
      · have := kk5.own HOWN.out (fun g hg hd => by
          have q := (own_tyB HOWN.out hg).2
          rcases hd with rfl | rfl
          · exact Box.notTyB HMk3.out (by decide) q
          · exact map_notTyB HM3.out q) (fun q => q)
        show w5.ownsRow base TCh 9 _ (st.old ++ [(n, st.K n)]).length _
        rw [List.length_append]
        exact this
      · rw [← hkn]
        exact OldR.snoc (x := (n, st.K n)) (hr0.frame z1 z2) (ho2.frame z1 z2)
end Go.Proofs.Ytcaioffdcbjbjaa.Un
/-
  CONTRACTS of layer unify: a variable that stands in a type; a variable of the store's own.
-/
namespace Go.Proofs.Ytcaioffdcbjbjaa.Un
open Go.RowKit Mm Tm Mk Go.Maps Go.ChangeMaps Go.MapKept Go.WideMaps
set_option linter.unusedVariables false
set_option linter.unusedSimpArgs false
def PF.isLink : PF → Bool
  | .link _ => true
  | _ => false
theorem endP_endN {Z : Nat → Prop} {w : World} {KS : KS} {K : PS} (her : ∀ n, ErO Z w (KS n) (K n)) : ∀ (q : Nat) (n r : Int) (f : PF), endP K q n = some (r, f) → ∃ d g, EndN KS d n r g ∧ ErF g f ∧ FactR Z w g ∧ f.isLink = false ∧ inI r = true := by
  intro q
  induction q with
  | zero => intro n r f h; cases h
  | succ q ih =>
    intro n r f h
    unfold endP at h
    split at h
    case isFalse => cases h
    case isTrue hi =>
    have hI := inI_iff.1 hi
    have hn := her n
    split at h
    · rename_i hk
      rw [hk] at hn
      cases hg : KS n with
      | some g => rw [hg] at hn; exact hn.elim
      | none =>
        injection h with h
        injection h with h1 h2
        subst h1 h2
        exact ⟨0, noFact n, .none hI hg, ⟨rfl, rfl, rfl, rfl, rfl⟩, ⟨trivial, by simp [noFact, Tys.len], Nat.zero_le _⟩, rfl, hi⟩
    · rename_i r' hk
      rw [hk] at hn
      cases hg : KS n with
      | none => rw [hg] at hn; exact hn.elim
      | some g =>
        rw [hg] at hn
        obtain ⟨⟨e1, e2⟩, _⟩ := hn
        obtain ⟨d, g', h1, h2⟩ := ih r' r f h
        exact ⟨d + 1, g', .step hI hg e1 (by rw [e2]; exact h1), h2⟩
    · rename_i f' hl hk
      rw [hk] at hn
      injection h with h
      injection h with h1 h2
      subst h1 h2
      cases hg : KS n with
      | none => rw [hg] at hn; exact hn.elim
      | some g =>
        rw [hg] at hn
        have hnl : f'.isLink = false := by
          cases f' with
          | link r => exact absurd rfl (hl r)
          | opn => rfl
          | typ => rfl
        refine ⟨0, g, .stop hI hg ?_, hn.1, hn.2, hnl, hi⟩
        have h3 := hn.1
        cases f' with
        | link r => cases hnl
        | opn l d h => rw [h3.1]; decide
        | typ kd nm xs => rw [h3.1]; exact h3.2.2.1
theorem SetI.below {base : Nat} {Y : Nat → Prop} {w w' : World} {mk s m : Nat} {nx : Int} {tv pv ov : Value} {st : St} (h : SetI base Y w mk s m nx tv pv ov st) (hb : Below w.heap.size w w') : SetI base Y w' mk s m nx tv pv ov st := by
  obtain ⟨vs, o1, o2⟩ := h.old
  refine ⟨h.box.below hb h.box.lt, h.sbox.below hb h.sbox.lt, h.kn.below hb, ⟨vs, own_here o1 hb, ?_⟩, h.bmk, h.bm⟩
  exact o2.frame (fun ad hz => hb.cell hz.lt) fun b hz => ⟨hz.1, hz.2.1.below hb, hz.2.2⟩
theorem FactR.below {base : Nat} {Y : Nat → Prop} {w w' : World} {g : Fact} (h : FactR (ZT base Y w) w g) (hb : Below w.heap.size w w') : FactR (ZT base Y w') w' g :=
  h.frame (fun ad hz => hb.cell hz.lt) fun b hz => ⟨hz.1, hz.2.1.below hb, hz.2.2⟩
theorem SetPost.from {base : Nat} {Y : Nat → Prop} {mk s m : Nat} {nx : Int} {tv pv : Value} {st' : St} {w w1 : World} {e : Ending} {w' : World} (h : SetPost base Y mk s m nx tv pv st' w1 e w') (hb : Below w.heap.size w w1) : SetPost base Y mk s m nx tv pv st' w e w' := by
  obtain ⟨h1, ov', h2, h3⟩ := h
  exact ⟨h1, ov', h2, (KG.of_below hb (Nat.le_refl _)).trans h3⟩
set_option maxRecDepth 100000 in
set_option maxHeartbeats 4000000 in
theorem hold_any {base : Nat} {Y : Nat → Prop} {mk s m q : Nat} {nx n : Int} {tv pv ov : Value} {st st' : St} (w : World) (hI : SetI base Y w mk s m nx tv pv ov st) (hb : base ≤ w.heap.size) (hst : holdP q st n = some st') :
    Calls Try.prog 42 #[.pointer (some ⟨mk, 0, none⟩), .int .i64 n] w (SetPost base Y mk s m nx tv pv st' w) := by
  obtain ⟨KS, hm, her⟩ := hI.kn
  unfold holdP at hst
  cases he : endP st.K q n with
  | none => rw [he] at hst; cases hst
  | some rf =>
  obtain ⟨r, f⟩ := rf
  rw [he] at hst
  obtain ⟨d, g, hen, hg, hr, hnl, hir⟩ := endP_endN her q n r f he
  have HE := Lib.hid (end_any (Z := fun _ => True) w hI.sbox hm hen)
  have HI := Lib.hid hI
  have HR := Lib.hid hr
  have HG := Lib.hid hg
  obtain ⟨a0, a1, a2, a3, _⟩ := hI.box.cells4
  clear hm her he hen hI hr
  go_enter Try.func42, Try.ntmps42
  go_wp2_with fail
  refine HE.out.mono ?_
  rintro e w3 ⟨rfl, hb3⟩
  obtain ⟨W4, hW4⟩ : ∃ W4, w3.alloc (.cells (factC g) TF) = W4 := ⟨_, rfl⟩
  have hX4 : Box W4 w3.heap.size TF (factC g) := by rw [← hW4]; exact Box.new _ _ _
  have hB4 : Below w.heap.size w W4 := by rw [← hW4]; exact hb3.alloc hb3.size _
  have HB4 := Lib.hid hB4
  have HX4 := Lib.hid hX4
  have hz3 := hb3.size
  obtain ⟨x0, x1, x2, x3, x4, x5, x6⟩ := hX4.cells7
  obtain ⟨f0, f1, f2, f3, f4, f5, f6⟩ := hX4.free7
  clear hb3 hX4 hB4 a0 a1 a2 a3
  cases f with
  | link r' => cases hnl
  | typ kd nm xs =>
    obtain ⟨e1, e2, e3, e4⟩ := HG.out
    have hk0 : (g.kd == 0) = false := by rw [e1]; simpa using e2
    have HST := Lib.hid (show st = st' by injection hst)
    clear e1 e2 e3 e4 hst hg
    go_wp2_with fail
    go_end0
    refine ⟨rfl, ov, ?_, KG.of_below HB4.out (Nat.le_refl _)⟩
    rw [← HST.out]
    exact HI.out.below HB4.out
  | opn l dd h =>
    obtain ⟨e1, e2, e3, e4, e5⟩ := HG.out
    have hk0 : (g.kd == 0) = true := by rw [e1]; rfl
    cases h with
    | true =>
      have HST := Lib.hid (show st = st' by injection hst)
      have x6' := x6
      rw [e5] at x6'
      clear e1 e2 e3 e4 e5 hst hg x6
      go_wp2_with fail
      go_end0
      refine ⟨rfl, ov, ?_, KG.of_below HB4.out (Nat.le_refl _)⟩
      rw [← HST.out]
      exact HI.out.below HB4.out
    | false =>
      have HST := Lib.hid (show setP st r (.opn l dd true) = some st' from hst)
      have hH : g.held = false := e5
      obtain ⟨g1, hg1⟩ : ∃ g1 : Fact, g1 = ⟨g.kd, g.n, g.nm, g.args, g.a, g.c, g.least, g.depth, true⟩ := ⟨_, rfl⟩
      obtain ⟨W5, hW5⟩ : ∃ W5, W4.setCell ⟨w3.heap.size, 6, none⟩ (.bool true) = W5 := ⟨_, rfl⟩
      have hX5 : Box W5 w3.heap.size TF (factC g1) := by rw [← hW5, hg1]; exact HX4.out.put 6 (.bool true)
      have hB5 : Below w.heap.size w W5 := by rw [← hW5]; exact HB4.out.setCell (p := ⟨w3.heap.size, 6, none⟩) hz3 _
      have HSET := Lib.hid (set_any (g := g1) (f := .opn l dd true) (n := r) W5 (HI.out.below hB5) (by rw [hg1]; exact ⟨e1, e2, e3, e4, rfl⟩) (by rw [hg1]; exact (FactR.below HR.out hB5)) (Nat.le_trans hb hB5.size) HST.out)
      have HB5 := Lib.hid hB5
      have x6' := x6
      rw [hH] at x6'
      obtain ⟨y0, y1, y2, y3, y4, y5, y6⟩ := hX5.cells7
      have HG1 := Lib.hid hg1
      clear e1 e2 e3 e4 e5 hst hg hH hX5 hB5 hg1 x6
      go_wp2_with fail
      refine HSET.out.mono ?_
      rintro e w6 hp
      have HP := Lib.hid (SetPost.from hp HB5.out)
      have he := hp.1
      subst he
      clear hp
      go_wp2_with fail
      go_end0
      exact HP.out
set_option maxRecDepth 100000 in
set_option maxHeartbeats 4000000 in
theorem inner_any {base : Nat} {Y : Nat → Prop} {mk s m : Nat} {nx i : Int} {tv pv ov : Value} {st st' : St} {x : Ty} {xs : List Int} {a : Option Addr} {c : Nat} (w : World) (hI : SetI base Y w mk s m nx tv pv ov st) (hb : base ≤ w.heap.size) (h0 : x.kd ≠ 0) (h1 : x.kd ≠ 1) (hx : x.args = ofVars xs) (hr : RdT (ZT base Y w) w a x.args 0) (hl : x.args.len * 56 ≤ 140737488355328) (hn : x.nm.size ≤ 9223372036854775807) (hst : innerP st (.typ x.kd x.nm xs) = some (st', i)) :
    Calls Try.prog 43 #[.pointer (some ⟨mk, 0, none⟩), .agg #[.int .i64 x.kd, .int .i64 x.n, .string x.nm, .slice a x.args.len c]] w (fun e w' => e = .returned (.int .i64 i) ∧ SetPost base Y mk s m nx tv pv st' w (.returned (.tuple #[])) w') := by
  unfold innerP at hst
  cases hs : setP st (-1 - (st.cnt : Int)) (.typ x.kd x.nm xs) with
  | none => rw [hs] at hst; cases hst
  | some s1 =>
  rw [hs] at hst
  simp only [Option.map_some, Option.some.injEq, Prod.mk.injEq] at hst
  obtain ⟨rfl, rfl⟩ := hst
  have hc1 : st.cnt < 100000000000 := by
    unfold setP lim at hs
    split at hs
    case isFalse => cases hs
    case isTrue h => simp only [Bool.and_eq_true, decide_eq_true_eq] at h; exact h.1.2
  obtain ⟨KS, hm, her⟩ := hI.kn
  obtain ⟨g, hg⟩ : ∃ g : Fact, g = ⟨x.kd, x.n, x.nm, x.args, a, c, 0, 0, false⟩ := ⟨_, rfl⟩
  obtain ⟨W1, hW1⟩ : ∃ W1, w.alloc (.cells #[.int .i64 x.kd, .int .i64 x.n, .string x.nm, .slice a x.args.len c] TT) = W1 := ⟨_, rfl⟩
  have hB1 : Below w.heap.size w W1 := by rw [← hW1]; exact (Below.refl w.heap.size w).alloc (Nat.le_refl _) _
  have hX1 : Box W1 w.heap.size TT #[.int .i64 x.kd, .int .i64 x.n, .string x.nm, .slice a x.args.len c] := by rw [← hW1]; exact Box.new _ _ _
  have hI1 := hI.below hB1
  have hlen := fun ty => (hm.below hB1 hm.lt).len Try.underlying42 ty
  have HSET := Lib.hid (set_any (g := g) (n := -1 - (st.cnt : Int)) W1 hI1 (by rw [hg]; exact ⟨rfl, h0, h1, rfl, hx⟩) (by rw [hg]; exact FactR.below ⟨hr, hl, hn⟩ hB1) (Nat.le_trans hb hB1.size) hs)
  have hw1 : IntKind.i64.wrap (-1 - (st.cnt : Int)) = -1 - (st.cnt : Int) := (IntWalk.i64_left _).trans (IntWalk.wrap64_in _ (by omega))
  obtain ⟨a0, a1, a2, a3, _⟩ := hI1.box.cells4
  obtain ⟨b0, b1, _⟩ := hI1.sbox.cells2
  obtain ⟨x0, x1, x2, x3, _⟩ := hX1.cells4
  have HB1 := Lib.hid hB1
  obtain ⟨kd, n, nm, args⟩ := x
  subst hg
  clear hI hm her hI1 hr hl hn hs hB1 hX1 h0 h1 hx
  go_enter Try.func43, Try.ntmps43
  go_wp2_with fail
  refine HSET.out.mono ?_
  rintro e w6 hp
  have HP := Lib.hid (SetPost.from hp HB1.out)
  have he := hp.1
  subst he
  clear hp
  go_wp2_with fail
  go_ret
  exact ⟨rfl, HP.out⟩
end Go.Proofs.Ytcaioffdcbjbjaa.Un
/-
  CONTRACT of layer unify: a row of types in new memory.
-/
namespace Go.Proofs.Ytcaioffdcbjbjaa.Un
open Go.RowKit Mm Tm Mk Go.Maps Go.ChangeMaps Go.MapKept Go.WideMaps
set_option linter.unusedVariables false
set_option linter.unusedSimpArgs false
theorem Ttype : (Try.prog.info? 29).map (fun i => (i.zero, i.size, i.bytes)) = some (some (.agg #[.int .i64 0, .int .i64 0, .string ByteArray.empty, .slice none 0 0]), 4, 56) := by kernel_rfl
theorem add_add (ad : Addr) (a r : Nat) (hr : 0 < r) : (⟨(ad.add a).block, (ad.add a).off + r, none⟩ : Addr) = ad.add (a + r) := by
  unfold Addr.add
  by_cases h : a = 0
  · subst h
    rw [if_pos rfl, if_neg (by omega), Nat.zero_add]
  · rw [if_neg h, if_neg (by omega)]
    simp
    omega
/-- the cells of types that are read -/
theorem rd_cells {Z : Nat → Prop} {w : World} {ad : Addr} : ∀ (t : Tys) (k : Nat), RdT Z w (some ad) t k → ∃ vs, RowT Z w vs t.toL ∧ (∀ j u, vs[j]? = some u → w.cell? (ad.add (k * 4 + j)) = some u) ∧ ∀ u ∈ vs, u.oneCell' = true
  | .nil, k, _ => ⟨[], rfl, fun j u h => by simp at h, fun u h => by simp at h⟩
  | .cons kd n nm args rest, k, ⟨⟨ad', a2, c2, e, h2, h3, h4, h5, h6, h7, h8, h9⟩, hr⟩ => by
    injection e with e
    subst e
    obtain ⟨r, r1, r2, r3⟩ := rd_cells rest (k + 1) hr
    refine ⟨[.int .i64 kd, .int .i64 n, .string nm, .slice a2 args.len c2] ++ r, ⟨a2, c2, r, rfl, h7, h8, h9, r1⟩, fun j u hu => ?_, fun u hu => ?_⟩
    · match j, hu with
      | 0, hu => injection hu with hu; subst hu; exact h3
      | 1, hu => injection hu with hu; subst hu; rw [← add_add _ _ _ (by omega)]; exact h4
      | 2, hu => injection hu with hu; subst hu; rw [← add_add _ _ _ (by omega)]; exact h5
      | 3, hu => injection hu with hu; subst hu; rw [← add_add _ _ _ (by omega)]; exact h6
      | j + 4, hu =>
        rw [show k * 4 + (j + 4) = (k + 1) * 4 + j by omega]
        exact r2 j u (by simpa using hu)
    · rcases List.mem_append.1 hu with q | q
      · simp only [List.mem_cons, List.not_mem_nil, or_false] at q
        rcases q with rfl | rfl | rfl | rfl <;> rfl
      · exact r3 u q
theorem run_eql_slice_nil {P : Program} (w : World) (t e : TypeId) (a : Option Addr) (l c : Nat) (h : P.underlying t = some (.slice e)) : (binOp .eql t (.slice a l c) (.slice none 0 0)).run P w = .ok (.bool a.isNone) w := by
  simp only [binOp]
  simp [run_equal_slice_nil w t e a l c h]
/-- a row of types in new memory: the same cells -/
def ClonePost (Z : Nat → Prop) (L : List Ty) (w : World) (e : Ending) (w' : World) : Prop := ∃ v vs, e = .returned v ∧ w'.ownsRow w.heap.size TT 4 v L.length vs ∧ RowT Z w' vs L ∧ Below w.heap.size w w'
set_option maxRecDepth 100000 in
set_option maxHeartbeats 2000000 in
theorem clone_any {Z : Nat → Prop} {b : Option Addr} {n c : Nat} {t : Tys} (w : World) (h : RdT Z w b t 0) (hn : t.len = n) (hz : ∀ x, Z x → x < w.heap.size) (hl : n * 56 ≤ 140737488355328) :
    Calls Try.prog 41 #[.slice b n c] w (ClonePost Z t.toL w) := by
  obtain ⟨i0, hi, hz0, hz1, hz2'⟩ := info_parts Ttype
  cases b with
  | none =>
    have hL : t = .nil := by
      cases t with
      | nil => rfl
      | cons kd n nm args rest => obtain ⟨⟨ad, _, _, e, _⟩, _⟩ := h; cases e
    subst hL
    obtain rfl : 0 = n := hn
    go_enter Try.func41, Try.ntmps41
    have E1 : ∀ w, (binOp .eql 27 (.slice none 0 c) (.slice none 0 0)).run Try.prog w = .ok (.bool true) w := fun w => run_eql_slice_nil w _ _ none 0 c Try.underlying27
    go_wp2
    refine bodyPost_ret (v := .slice none 0 0) (by simp [results, Try.results41, go_sem]) rfl ?_
    exact ⟨_, [], rfl, World.ownsRow_nil _ _ _ _, rfl, Below.refl _ _⟩
  | some ad =>
    have E1 : ∀ w, (binOp .eql 27 (.slice (some ad) n c) (.slice none 0 0)).run Try.prog w = .ok (.bool false) w := fun w => run_eql_slice_nil w _ _ (some ad) n c Try.underlying27
    have hlen : t.toL.length = n := by rw [Tys.toL_len, hn]
    have hb0 := (Below.refl w.heap.size w).alloc (Nat.le_refl _) (.cells #[] TT)
    obtain ⟨vs, hv1, hv2, hv3⟩ := rd_cells t 0 (h.below hb0 hz)
    have HV1 := Lib.hid hv1
    have HV2 := Lib.hid (show ∀ j u, vs[j]? = some u → (w.alloc (.cells #[] TT)).cell? (ad.add j) = some u from fun j u hu => by have := hv2 j u hu; rwa [Nat.zero_mul, Nat.zero_add] at this)
    have HV3 := Lib.hid hv3
    have HLV := Lib.hid (show vs.length = n * 4 by rw [hv1.len, hlen])
    have HZ := Lib.hid hz
    have HLN := Lib.hid hlen
    clear h hn hz hb0 hv1 hv2 hv3 hlen
    go_enter Try.func41, Try.ntmps41
    have ho : (w.alloc (.cells #[] TT)).ownsRow w.heap.size TT 4 (.slice (some ⟨w.heap.size, 0, none⟩) 0 0) 0 [] :=
      ⟨rfl, .inr ⟨w.heap.size, 0, #[], rfl, Nat.le_refl _, heap_alloc_new w _, Nat.le_refl _, Nat.zero_le _, rfl, rfl⟩⟩
    have HO := Lib.hid ho
    clear ho
    go_wp2_with (at_builtin; refine wpList_append_own _ rfl _ _ 27 rfl w.heap.size 29 i0 _ 4 56 Try.underlying27 hi hz0 hz1 hz2' rfl (by decide) _ _ _ rfl HO.out ad n c vs rfl HLV.out HV2.out HV3.out ?c3 ?c4 ?c5 ?_)
    case c3 => unfold maxLen; omega
    case c4 => omega
    case c5 => simp
    intro v' w5 hown hgrow _
    have HO5 := Lib.hid hown
    have HB5 := Lib.hid (show Below w.heap.size w w5 from ((Below.refl w.heap.size w).alloc (Nat.le_refl _) (.cells #[] TT)).grown hgrow (by simp) (fun g hg => by
      have : w.heap.size = g := by simpa [Value.ownBlock] using hg
      omega))
    have HR5 := Lib.hid (HV1.out.grown hgrow (fun x hx => ⟨by have := HZ.out x hx; simp; omega, fun e => by
      have : w.heap.size = x := by simpa [Value.ownBlock] using e
      have := HZ.out x hx
      omega⟩))
    clear hown hgrow
    go_wp2
    refine bodyPost_ret (v := v') (by simp [results, Try.results41, go_sem]) rfl ?_
    have ho5 := HO5.out
    exact ⟨_, vs, rfl, by rw [HLN.out]; exact ho5, HR5.out, HB5.out⟩
end Go.Proofs.Ytcaioffdcbjbjaa.Un
/-
  WORDS ON MEMORY for layer unify: types that are given, or made; a row whose types are replaced by variables, one by one.
-/
namespace Go.Proofs.Ytcaioffdcbjbjaa.Un
open Go.RowKit Mm Tm Mk Go.Maps Go.ChangeMaps Go.MapKept Go.WideMaps
set_option linter.unusedVariables false
set_option linter.unusedSimpArgs false
def varTy (n : Int) : Ty := ⟨1, n, noN, .nil⟩
theorem ofVars_eq : ∀ l : List Int, ofVars l = Tys.ofL (l.map varTy)
  | [] => rfl
  | x :: l => by rw [ofVars, List.map_cons, Tys.ofL, ofVars_eq l]; rfl
/-- where types that are given may lie -/
def ZU (base : Nat) (Y : Nat → Prop) (w : World) (b : Nat) : Prop := (b < base ∧ b < w.heap.size) ∨ ZT base Y w b
theorem ZU.lt {base : Nat} {Y : Nat → Prop} {w : World} {b : Nat} (h : ZU base Y w b) : b < w.heap.size := h.elim (fun q => q.2) ZT.lt
theorem KG.zu {base : Nat} {Y : Nat → Prop} {T : TypeId → Prop} {D : Nat → Prop} {w w' : World} (h : KG base T D w w') (hD : ∀ b, D b → ¬ TyB TT w b) (hT : ¬ T TT) : (∀ ad : Addr, ZU base Y w ad.block → w'.cell? ad = w.cell? ad) ∧ ∀ b, ZU base Y w b → ZU base Y w' b := by
  obtain ⟨z1, z2⟩ := KG.zt (Y := Y) h hD hT
  exact ⟨fun ad hz => hz.elim (fun q => h.cell q.1 q.2) (z1 ad), fun b hz => hz.imp (fun q => ⟨q.1, Nat.lt_of_lt_of_le q.2 h.size⟩) (z2 b)⟩
theorem SetI.mono {base : Nat} {Y Y' : Nat → Prop} {w : World} {mk s m : Nat} {nx : Int} {tv pv ov : Value} {st : St} (h : SetI base Y w mk s m nx tv pv ov st) (hz : ∀ b, ZT base Y w b → ¬ Y' b) : SetI base Y' w mk s m nx tv pv ov st := by
  obtain ⟨vs, o1, o2⟩ := h.old
  exact ⟨h.box, h.sbox, h.kn.frame rfl (fun _ _ => rfl) fun b hb => ⟨hb.1, hb.2.1, hz b hb⟩, ⟨vs, o1, o2.frame (fun _ _ => rfl) fun b hb => ⟨hb.1, hb.2.1, hz b hb⟩⟩, h.bmk, h.bm⟩
theorem SetI.notTT {base : Nat} {Y : Nat → Prop} {w : World} {mk s m : Nat} {nx : Int} {tv pv ov : Value} {st : St} (h : SetI base Y w mk s m nx tv pv ov st) : ∀ b, (b = mk ∨ b = m) → ¬ TyB TT w b := by
  rintro b (rfl | rfl)
  · exact Box.notTyB h.box (by decide)
  · obtain ⟨KS0, q, _⟩ := h.kn
    exact map_notTyB q
/-- a block of types that is being written -/
theorem SetI.busy {base : Nat} {Y : Nat → Prop} {w : World} {mk s m g : Nat} {nx : Int} {tv pv ov : Value} {st : St} {cs : Array Value} (h : SetI base Y w mk s m nx tv pv ov st) (hg : Box w g TT cs) (hY : Y g ∨ ∀ b, ZT base Y w b → b ≠ g) (j : Nat) (u : Value) : SetI base Y (w.setCell ⟨g, j, none⟩ u) mk s m nx tv pv ov st := by
  obtain ⟨vs, o1, o2⟩ := h.old
  have hne : ∀ b, ZT base Y w b → b ≠ g := by
    rcases hY with q | q
    · rintro b hb rfl
      exact hb.2.2 q
    · exact q
  have hc : ∀ ad : Addr, ZT base Y w ad.block → (w.setCell ⟨g, j, none⟩ u).cell? ad = w.cell? ad := fun ad hz => World.cell?_of_block (Below.heap_setCell w ⟨g, j, none⟩ u _ (hne _ hz))
  have hz : ∀ b, ZT base Y w b → ZT base Y (w.setCell ⟨g, j, none⟩ u) b := fun b hb => ⟨hb.1, hb.2.1.same (Below.heap_setCell w ⟨g, j, none⟩ u _ (hne _ hb)), hb.2.2⟩
  have hmk : g ≠ mk := by
    rintro rfl
    exact absurd (hg.same h.box) (by decide)
  have hs : g ≠ s := by
    rintro rfl
    exact absurd (hg.same h.sbox) (by decide)
  have hm : m ≠ g := h.kn.ne hg
  exact ⟨h.box.far hmk u, h.sbox.far hs u, h.kn.frame (Below.heap_setCell w ⟨g, j, none⟩ u m hm) hc hz, ⟨vs, own_far o1 hg (by decide) j u, o2.frame hc hz⟩, h.bmk, h.bm⟩
theorem set4_cons (a b c d : Value) (r : List Value) (k : Nat) (v0 v1 v2 v3 : Value) :
    ((((([a, b, c, d] ++ r).set ((k + 1) * 4) v0).set ((k + 1) * 4 + 1) v1).set ((k + 1) * 4 + 2) v2).set ((k + 1) * 4 + 3) v3) = [a, b, c, d] ++ ((((r.set (k * 4) v0).set (k * 4 + 1) v1).set (k * 4 + 2) v2).set (k * 4 + 3) v3) := by
  rw [show (k + 1) * 4 = k * 4 + 4 by omega]
  rfl
/-- a type of a row written anew -/
theorem RowT.put {Z : Nat → Prop} {w : World} {x : Ty} {a2 : Option Addr} {c2 : Nat} (h2 : x.nm.size ≤ 9223372036854775807) (h3 : x.args.len * 56 ≤ 140737488355328) (h4 : RdT Z w a2 x.args 0) : ∀ {k : Nat} {vs : List Value} {l : List Ty}, RowT Z w vs l → k < l.length →
    RowT Z w ((((vs.set (k * 4) (.int .i64 x.kd)).set (k * 4 + 1) (.int .i64 x.n)).set (k * 4 + 2) (.string x.nm)).set (k * 4 + 3) (.slice a2 x.args.len c2)) (l.set k x)
  | _, _, [], _, hk => by simp at hk
  | 0, _, y :: l, ⟨b2, d2, r, h1, q2, q3, q4, q5⟩, _ => by
    subst h1
    exact ⟨a2, c2, r, rfl, h2, h3, h4, q5⟩
  | k + 1, _, y :: l, ⟨b2, d2, r, h1, q2, q3, q4, q5⟩, hk => by
    subst h1
    rw [set4_cons]
    exact ⟨b2, d2, _, rfl, q2, q3, q4, RowT.put h2 h3 h4 q5 (by simpa using hk)⟩
/-- a row of variables that is the call's own is read -/
theorem own_vars {base B : Nat} {Y : Nat → Prop} {Z : Nat → Prop} {w : World} {a : Option Addr} {n c : Nat} {vs : List Value} {l : List Int} (h : w.ownsRow B TT 4 (.slice a n c) n vs) (hr : RowT Z w vs (l.map varTy)) (hn : n = l.length) (hB : base ≤ B) (hY : ∀ b, Y b → b < B) : RdT (ZT base Y w) w a (ofVars l) 0 := by
  subst hn
  rw [ofVars_eq]
  refine RdT.mk fun i x hx => ?_
  rw [Tys.toL_ofL] at hx
  have hi : i < l.length := by have := (List.getElem?_eq_some_iff.1 hx).1; simpa using this
  obtain ⟨g, rfl, hg1, hg2, _, hc⟩ := own_at h (by omega)
  obtain ⟨cur, hcur⟩ := own_block h
  obtain ⟨a2, c2, g0, g1, g2, g3, g4, g5, g6⟩ := hr.get i x hx
  have hadd : ((⟨g, 0, none⟩ : Addr).add ((0 + i) * 4)) = ⟨g, i * 4, none⟩ := by
    rw [Nat.zero_add]
    simp [Addr.add]
    try (intro e; omega)
  have hnil : x.args = .nil := by
    rw [List.getElem?_map] at hx
    obtain ⟨y, _, hy⟩ := Option.map_eq_some_iff.1 hx
    rw [← hy]
    rfl
  refine ⟨⟨g, 0, none⟩, a2, c2, rfl, ⟨by show base ≤ g; omega, ⟨cur, hcur⟩, fun q => by have := hY g q; omega⟩, ?_, ?_, ?_, ?_, g4, g5, by rw [hnil]; trivial⟩
  · rw [hadd, hc _ (by omega)]; exact g0
  · rw [hadd]; show w.cell? ⟨g, i * 4 + 1, none⟩ = _; rw [hc _ (by omega)]; exact g1
  · rw [hadd]; show w.cell? ⟨g, i * 4 + 2, none⟩ = _; rw [hc _ (by omega)]; exact g2
  · rw [hadd]; show w.cell? ⟨g, i * 4 + 3, none⟩ = _; rw [hc _ (by omega)]; exact g3
end Go.Proofs.Ytcaioffdcbjbjaa.Un
/-
  CONTRACT of layer unify: a type with variables in the place of its parts.
-/
namespace Go.Proofs.Ytcaioffdcbjbjaa.Un
open Go.RowKit Mm Tm Mk Go.Maps Go.ChangeMaps Go.MapKept Go.WideMaps
set_option linter.unusedVariables false
set_option linter.unusedSimpArgs false
def FlatPost (base : Nat) (Y : Nat → Prop) (mk s m : Nat) (nx : Int) (tv pv : Value) (st' : St) (x : Ty) (xs : List Int) (w : World) (e : Ending) (w' : World) : Prop :=
  ∃ a' c', e = .returned (.agg #[.int .i64 x.kd, .int .i64 x.n, .string x.nm, .slice a' xs.length c']) ∧ RdT (ZT base Y w') w' a' (ofVars xs) 0 ∧ xs.length = x.args.len ∧ SetPost base Y mk s m nx tv pv st' w (.returned (.tuple #[])) w'
theorem flatL_len : ∀ (q : Nat) (t : Tys) (s s' : St) (l : List Int), flatL q s t = some (s', l) → l.length = t.len
  | q, .nil, s, s', l, h => by
    injection h with h
    injection h with h1 h2
    subst h2
    rfl
  | q, .cons kd n nm args rest, s, s', l, h => by
    unfold flatL at h
    split at h
    · split at h
      case isFalse => cases h
      case isTrue =>
      obtain ⟨s1, _, h⟩ := Option.bind_eq_some_iff.1 h
      obtain ⟨r, h1, h2⟩ := Option.map_eq_some_iff.1 h
      injection h2 with h3 h4
      rw [← h4, List.length_cons, flatL_len q rest s1 r.1 r.2 h1]
      rfl
    · split at h
      · cases h
      obtain ⟨r, _, h⟩ := Option.bind_eq_some_iff.1 h
      obtain ⟨i, _, h⟩ := Option.bind_eq_some_iff.1 h
      obtain ⟨z, h1, h2⟩ := Option.map_eq_some_iff.1 h
      injection h2 with h3 h4
      rw [← h4, List.length_cons, flatL_len q rest i.1 z.1 z.2 h1]
      rfl
/-- what a round of flat goes by: the variables that are there, those that come -/
structure FlatR (base : Nat) (Y' : Nat → Prop) (Zw : Nat → Prop) (B : Nat) (q : Nat) (w wr : World) (mk s m : Nat) (nx : Int) (tv pv : Value) (st' : St) (L : List Ty) (xs : List Int) (v : Value) (k : Nat) (st : St) (done rest : List Int) (vs : List Value) (ov : Value) : Prop where
  run : flatL q st (Tys.ofL (L.drop k)) = some (st', rest)
  all : xs = done ++ rest
  len : done.length = k
  si : SetI base Y' wr mk s m nx tv pv ov st
  sk : SK base mk m w wr
  own : wr.ownsRow B TT 4 v L.length vs
  row : RowT Zw wr vs (done.map varTy ++ L.drop k)
theorem FlatR.next {base : Nat} {Y' Zw : Nat → Prop} {B q : Nat} {w wr : World} {mk s m : Nat} {nx : Int} {tv pv : Value} {st' : St} {L : List Ty} {xs : List Int} {v : Value} {k : Nat} {st : St} {done rest : List Int} {vs : List Value} {ov : Value}
    (h : FlatR base Y' Zw B q w wr mk s m nx tv pv st' L xs v k st done rest vs ov) (hk : k < L.length) {y : Ty} (hy : L[k]? = some y) (h1 : y.kd = 1) :
    y = varTy y.n ∧ ∃ s1 rest', holdP q st y.n = some s1 ∧ rest = y.n :: rest' ∧ flatL q s1 (Tys.ofL (L.drop (k + 1))) = some (st', rest') := by
  have hd : L.drop k = y :: L.drop (k + 1) := by
    rw [List.drop_eq_getElem_cons hk]
    rw [List.getElem?_eq_getElem hk] at hy
    injection hy with hy
    rw [hy]
  have hr := h.run
  rw [hd] at hr
  unfold Tys.ofL flatL at hr
  rw [if_pos h1] at hr
  split at hr
  case isFalse => cases hr
  case isTrue hc =>
  simp only [Bool.and_eq_true, decide_eq_true_eq] at hc
  obtain ⟨s1, h2, h3⟩ := Option.bind_eq_some_iff.1 hr
  obtain ⟨r, h4, h5⟩ := Option.map_eq_some_iff.1 h3
  injection h5 with h6 h7
  refine ⟨?_, s1, r.2, h2, h7.symm, by rw [h4, ← h6]⟩
  obtain ⟨kd, n, nm, args⟩ := y
  obtain ⟨c1, c2⟩ := hc
  simp only at h1 c1 c2
  subst h1 c1
  cases args with
  | nil => rfl
  | cons => simp [Tys.len] at c2
theorem FlatR.nest {base : Nat} {Y' Zw : Nat → Prop} {B q : Nat} {w wr : World} {mk s m : Nat} {nx : Int} {tv pv : Value} {st' : St} {L : List Ty} {xs : List Int} {v : Value} {k : Nat} {st : St} {done rest : List Int} {vs : List Value} {ov : Value}
    (h : FlatR base Y' Zw B q w wr mk s m nx tv pv st' L xs v k st done rest vs ov) (hk : k < L.length) {y : Ty} (hy : L[k]? = some y) (h1 : y.kd ≠ 1) :
    y.kd ≠ 0 ∧ ∃ s1 ys s2 i rest', flatL q st y.args = some (s1, ys) ∧ innerP s1 (.typ y.kd y.nm ys) = some (s2, i) ∧ rest = i :: rest' ∧ flatL q s2 (Tys.ofL (L.drop (k + 1))) = some (st', rest') := by
  have hd : L.drop k = y :: L.drop (k + 1) := by
    rw [List.drop_eq_getElem_cons hk]
    rw [List.getElem?_eq_getElem hk] at hy
    injection hy with hy
    rw [hy]
  have hr := h.run
  rw [hd] at hr
  unfold Tys.ofL flatL at hr
  rw [if_neg h1] at hr
  split at hr
  · cases hr
  · rename_i h0
    obtain ⟨r, h2, h3⟩ := Option.bind_eq_some_iff.1 hr
    obtain ⟨i, h4, h5⟩ := Option.bind_eq_some_iff.1 h3
    obtain ⟨z, h6, h7⟩ := Option.map_eq_some_iff.1 h5
    injection h7 with h8 h9
    exact ⟨h0, r.1, r.2, i.1, i.2, z.2, h2, h4, h9.symm, by rw [h6, ← h8]⟩
theorem FlatR.elem {base : Nat} {Y' : Nat → Prop} {Zw : Nat → Prop} {B q : Nat} {w wr : World} {mk s m : Nat} {nx : Int} {tv pv : Value} {st' : St} {L : List Ty} {xs : List Int} {v : Value} {k : Nat} {st : St} {done rest : List Int} {vs : List Value} {ov : Value}
    (h : FlatR base Y' Zw B q w wr mk s m nx tv pv st' L xs v k st done rest vs ov) (hk : k < L.length) {y : Ty} (hy : L[k]? = some y) :
    ∃ g c a2 c2, v = .slice (some ⟨g, 0, none⟩) L.length c ∧ B ≤ g ∧ g < wr.heap.size ∧ wr.cell? ⟨g, k * 4, none⟩ = some (.int .i64 y.kd) ∧ wr.cell? ⟨g, k * 4 + 1, none⟩ = some (.int .i64 y.n) ∧ wr.cell? ⟨g, k * 4 + 2, none⟩ = some (.string y.nm) ∧ wr.cell? ⟨g, k * 4 + 3, none⟩ = some (.slice a2 y.args.len c2) ∧ y.nm.size ≤ 9223372036854775807 ∧ y.args.len * 56 ≤ 140737488355328 ∧ RdT Zw wr a2 y.args 0 := by
  have hown := h.own
  obtain ⟨a, c, hv⟩ := own_slice hown
  rw [hv] at hown
  obtain ⟨g, rfl, hg1, hg2, _, hc⟩ := own_at hown (by omega)
  obtain ⟨a2, c2, g0, g1, g2, g3, g4, g5, g6⟩ := h.row.get k y (by rw [List.getElem?_append_right (by rw [List.length_map, h.len]; exact Nat.le_refl _), List.length_map, h.len, Nat.sub_self, List.getElem?_drop]; exact hy)
  exact ⟨g, c, a2, c2, hv, hg1, hg2, (hc _ (by omega)).trans g0, (hc _ (by omega)).trans g1, (hc _ (by omega)).trans g2, (hc _ (by omega)).trans g3, g4, g5, g6⟩
/-- the row, through a call that sets -/
theorem FlatR.through {base : Nat} {Y Y' : Nat → Prop} {B q : Nat} {w wr w4 : World} {mk s m : Nat} {nx : Int} {tv pv : Value} {st' : St} {L : List Ty} {xs : List Int} {v : Value} {k : Nat} {st : St} {done rest : List Int} {vs : List Value} {ov : Value}
    (h : FlatR base Y' (ZU base Y w) B q w wr mk s m nx tv pv st' L xs v k st done rest vs ov) (hw : ∀ b, (b = mk ∨ b = m) → ¬ TyB TT w b) (h4 : SK base mk m wr w4) :
    w4.ownsRow B TT 4 v L.length vs ∧ RowT (ZU base Y w) w4 vs (done.map varTy ++ L.drop k) ∧ SK base mk m w w4 := by
  have hD := h.si.notTT
  refine ⟨h4.own h.own (fun g hg hd => hD g hd (own_tyB h.own hg).2) (by decide), ?_, h.sk.trans h4⟩
  obtain ⟨_, z2⟩ := KG.zu (Y := Y) h.sk hw (by decide)
  obtain ⟨z3, _⟩ := KG.zu (Y := Y) h4 hD (by decide)
  exact h.row.frame (fun b o hz => z3 ⟨b, o, none⟩ (z2 b hz)) (fun ad hz => z3 ad (z2 _ hz)) fun _ hz => hz
theorem row_elem {Z : Nat → Prop} {w : World} {B n c g : Nat} {vs : List Value} {l : List Ty} (ho : w.ownsRow B TT 4 (.slice (some ⟨g, 0, none⟩) n c) n vs) (hr : RowT Z w vs l) {k : Nat} {y : Ty} (hk : k < n) (hy : l[k]? = some y) :
    ∃ a2 c2, w.cell? ⟨g, k * 4, none⟩ = some (.int .i64 y.kd) ∧ w.cell? ⟨g, k * 4 + 1, none⟩ = some (.int .i64 y.n) ∧ w.cell? ⟨g, k * 4 + 2, none⟩ = some (.string y.nm) ∧ w.cell? ⟨g, k * 4 + 3, none⟩ = some (.slice a2 y.args.len c2) := by
  obtain ⟨g', hg, _, _, _, hc⟩ := own_at ho (by omega)
  injection hg with hg
  injection hg with hg
  subst hg
  obtain ⟨a2, c2, g0, g1, g2, g3, _⟩ := hr.get k y hy
  exact ⟨a2, c2, (hc _ (by omega)).trans g0, (hc _ (by omega)).trans g1, (hc _ (by omega)).trans g2, (hc _ (by omega)).trans g3⟩
theorem own_wrote {w W : World} {B g n : Nat} {e : TypeId} {size : Nat} {v : Value} {vs : List Value} (h : w.ownsRow B e size v n vs) (hw : Wrote w W g) (hne : v.ownBlock ≠ some g) : W.ownsRow B e size v n vs := by
  refine ⟨h.1, ?_⟩
  rcases h.2 with h2 | ⟨g', cap, cur, rfl, hg, hh, r⟩
  · exact .inl h2
  · exact .inr ⟨g', cap, cur, rfl, hg, (hw.block g' (fun e => hne (by rw [← e]; rfl))).trans hh, r⟩
theorem SetI.wrote {base : Nat} {Y : Nat → Prop} {w W : World} {mk s m g : Nat} {nx : Int} {tv pv ov : Value} {st : St} {cs : Array Value} (h : SetI base Y w mk s m nx tv pv ov st) (hg : Box w g TT cs) (hY : Y g) (hw : Wrote w W g) : SetI base Y W mk s m nx tv pv ov st := by
  obtain ⟨vs, o1, o2⟩ := h.old
  have hne : ∀ b, ZT base Y w b → b ≠ g := by
    rintro b hb rfl
    exact hb.2.2 hY
  have hc : ∀ ad : Addr, ZT base Y w ad.block → W.cell? ad = w.cell? ad := fun ad hz => hw.cell ad (hne _ hz)
  have hz : ∀ b, ZT base Y w b → ZT base Y W b := fun b hb => ⟨hb.1, hb.2.1.same (hw.block _ (hne _ hb)), hb.2.2⟩
  have hmk : mk ≠ g := by
    rintro rfl
    exact absurd (hg.same h.box) (by decide)
  have hs : s ≠ g := by
    rintro rfl
    exact absurd (hg.same h.sbox) (by decide)
  have hm : m ≠ g := h.kn.ne hg
  refine ⟨h.box.wrote hw hmk, h.sbox.wrote hw hs, h.kn.frame (hw.block m hm) hc hz, ⟨vs, own_wrote o1 hw (fun e => ?_), o2.frame hc hz⟩, h.bmk, h.bm⟩
  exact Box.notTyB hg (by decide) (own_tyB o1 e).2
theorem KG.then_below {base : Nat} {T : TypeId → Prop} {D : Nat → Prop} {w w' w'' : World} {B : Nat} (h : KG base T D w w') (hb : Below B w' w'') (hB : w.heap.size ≤ B) : KG base T D w w'' :=
  ⟨hb.os.trans h.os, hb.tape.trans h.tape, hb.output.trans h.output, Nat.le_trans h.size hb.size, fun k hk hx => (hb.block k (by omega)).trans (h.block k hk hx)⟩
theorem own_set4 {w : World} {B n c g : Nat} {vs : List Value} (h : w.ownsRow B TT 4 (.slice (some ⟨g, 0, none⟩) n c) n vs) (k : Nat) (v0 v1 v2 v3 : Value) :
    (((((w.setCell ⟨g, k * 4, none⟩ v0).setCell ⟨g, k * 4 + 1, none⟩ v1).setCell ⟨g, k * 4 + 2, none⟩ v2).setCell ⟨g, k * 4 + 3, none⟩ v3)).ownsRow B TT 4 (.slice (some ⟨g, 0, none⟩) n c) n ((((vs.set (k * 4) v0).set (k * 4 + 1) v1).set (k * 4 + 2) v2).set (k * 4 + 3) v3) ∧ Wrote w (((((w.setCell ⟨g, k * 4, none⟩ v0).setCell ⟨g, k * 4 + 1, none⟩ v1).setCell ⟨g, k * 4 + 2, none⟩ v2).setCell ⟨g, k * 4 + 3, none⟩ v3)) g :=
  ⟨((((h.stored (k * 4) v0).1.stored (k * 4 + 1) v1).1.stored (k * 4 + 2) v2).1.stored (k * 4 + 3) v3).1, ((((Wrote.refl w g).set _ v0).set _ v1).set _ v2).set _ v3⟩
theorem drop_set {α : Type} {A R : List α} {k : Nat} {y x : α} (hA : A.length = k) (h : R = y :: R.drop 1) : (A ++ R).set k x = A ++ (x :: R.drop 1) := by
  rw [List.set_append_right _ _ (by omega), hA, Nat.sub_self]
  rw [h]
  rfl
theorem snoc_map (done : List Int) (i : Int) (R : List Ty) : done.map varTy ++ (varTy i :: R) = (done ++ [i]).map varTy ++ R := by simp
theorem inner_vars {base : Nat} {Y : Nat → Prop} {mk s m : Nat} {nx i kd n : Int} {nm : ByteArray} {tv pv ov : Value} {st st' : St} {ys : List Int} {a : Option Addr} {c : Nat} (w : World) (hI : SetI base Y w mk s m nx tv pv ov st) (hb : base ≤ w.heap.size) (h0 : kd ≠ 0) (h1 : kd ≠ 1) (hr : RdT (ZT base Y w) w a (ofVars ys) 0) (hl : ys.length * 56 ≤ 140737488355328) (hn : nm.size ≤ 9223372036854775807) (hst : innerP st (.typ kd nm ys) = some (st', i)) :
    Calls Try.prog 43 #[.pointer (some ⟨mk, 0, none⟩), .agg #[.int .i64 kd, .int .i64 n, .string nm, .slice a ys.length c]] w (fun e w' => e = .returned (.int .i64 i) ∧ SetPost base Y mk s m nx tv pv st' w (.returned (.tuple #[])) w') := by
  have h := inner_any (x := ⟨kd, n, nm, ofVars ys⟩) (a := a) (c := c) w hI hb h0 h1 rfl hr (by rw [ofVars_len]; exact hl) hn hst
  simp only [ofVars_len] at h
  exact h
end Go.Proofs.Ytcaioffdcbjbjaa.Un
/-
  CONTRACT of layer unify: a type with variables in the place of its parts: the walk.
-/
namespace Go.Proofs.Ytcaioffdcbjbjaa.Un
open Go.RowKit Mm Tm Mk Go.Maps Go.ChangeMaps Go.MapKept Go.WideMaps
set_option linter.unusedVariables false
set_option linter.unusedSimpArgs false
abbrev zeroT : Array Value := #[.int .i64 0, .int .i64 0, .string ⟨#[]⟩, .slice none 0 0]
set_option maxRecDepth 100000 in
set_option maxHeartbeats 8000000 in
theorem flat_of {base : Nat} {Y : Nat → Prop} {mk s m q : Nat} {nx : Int} {tv pv ov : Value} {st st' : St} {x : Ty} {xs : List Int} {a : Option Addr} {c : Nat} (w : World) (hI : SetI base Y w mk s m nx tv pv ov st) (hb : base ≤ w.heap.size) (hY : ∀ b, Y b → b < w.heap.size) (hr : RdT (ZU base Y w) w a x.args 0) (hl : x.args.len * 56 ≤ 140737488355328) (hst : flatL q st x.args = some (st', xs))
    (hC : ∀ y ∈ x.args.toL, ∀ Y' a2 c2 w1 ov1 st1 st1' xs1, SetI base Y' w1 mk s m nx tv pv ov1 st1 → base ≤ w1.heap.size → (∀ b, Y' b → b < w1.heap.size) → RdT (ZU base Y' w1) w1 a2 y.args 0 → y.args.len * 56 ≤ 140737488355328 → flatL q st1 y.args = some (st1', xs1) → Calls Try.prog 38 #[.pointer (some ⟨mk, 0, none⟩), tyV y a2 c2] w1 (FlatPost base Y' mk s m nx tv pv st1' y xs1 w1)) :
    Calls Try.prog 38 #[.pointer (some ⟨mk, 0, none⟩), .agg #[.int .i64 x.kd, .int .i64 x.n, .string x.nm, .slice a x.args.len c]] w (FlatPost base Y mk s m nx tv pv st' x xs w) := by
  obtain ⟨L, hL⟩ : ∃ L, x.args.toL = L := ⟨_, rfl⟩
  have hLn : x.args.len = L.length := by rw [← hL, Tys.toL_len]
  obtain ⟨W0, hW0⟩ : ∃ W0, (w.alloc (.cells #[.int .i64 x.kd, .int .i64 x.n, .string x.nm, .slice a x.args.len c] TT)).alloc (.cells zeroT TT) = W0 := ⟨_, rfl⟩
  have hB0 : Below w.heap.size w W0 := by rw [← hW0]; exact ((Below.refl w.heap.size w).alloc (Nat.le_refl _) _).alloc (by simp) _
  have hz0 : W0.heap.size = w.heap.size + 2 := by rw [← hW0]; simp
  have hX0 : Box W0 w.heap.size TT #[.int .i64 x.kd, .int .i64 x.n, .string x.nm, .slice a x.args.len c] := by rw [← hW0]; exact (Box.new w _ _).alloc _
  have hR0 : Box W0 (w.heap.size + 1) TT zeroT := by rw [← hW0]; exact Box.at_ _ _ (by simp)
  have HCL := Lib.hid (clone_any (Z := ZU base Y w) (n := x.args.len) (c := c) W0 (hr.below hB0 fun b hb => hb.lt) rfl (fun b hb => by have := hb.lt; omega) hl)
  obtain ⟨x0, x1, x2, x3, _, _, _, f3⟩ := hX0.cells4
  have HX0 := Lib.hid hX0
  have HR0 := Lib.hid hR0
  have HB0 := Lib.hid hB0
  have HI := Lib.hid hI
  have HY := Lib.hid hY
  have HST := Lib.hid (show flatL q st (Tys.ofL L) = some (st', xs) by rw [← hL, Tys.ofL_toL]; exact hst)
  have HC := Lib.hid (show ∀ y ∈ L, ∀ Y' a2 c2 w1 ov1 st1 st1' xs1, SetI base Y' w1 mk s m nx tv pv ov1 st1 → base ≤ w1.heap.size → (∀ b, Y' b → b < w1.heap.size) → RdT (ZU base Y' w1) w1 a2 y.args 0 → y.args.len * 56 ≤ 140737488355328 → flatL q st1 y.args = some (st1', xs1) → Calls Try.prog 38 #[.pointer (some ⟨mk, 0, none⟩), tyV y a2 c2] w1 (FlatPost base Y' mk s m nx tv pv st1' y xs1 w1) by rw [← hL]; exact hC)
  have HLN := Lib.hid hLn
  have hll : L.length * 56 ≤ 140737488355328 := by rw [← hLn]; exact hl
  have hlen : L.length ≤ 140737488355328 := by omega
  have HNT := Lib.hid hI.notTT
  rw [hL] at HCL
  clear hI hY hst hC hL hLn hX0 hR0 hB0 hr hl
  go_enter Try.func38, Try.ntmps38
  go_wp2_with fail
  refine HCL.out.mono ?_
  rintro e w1 ⟨v, vs, rfl, ho, hrow, hb1⟩
  obtain ⟨ag, cg, rfl⟩ := own_slice ho
  obtain ⟨W2, hW2⟩ : ∃ W2, w1.setCell ⟨w.heap.size, 3, none⟩ (.slice ag L.length cg) = W2 := ⟨_, rfl⟩
  have hX1 := HX0.out.below hb1 HX0.out.lt
  have hR1 := HR0.out.below hb1 HR0.out.lt
  have hX2 : Box W2 w.heap.size TT #[.int .i64 x.kd, .int .i64 x.n, .string x.nm, .slice ag L.length cg] := by rw [← hW2]; exact hX1.put 3 _
  have hR2 : Box W2 (w.heap.size + 1) TT zeroT := by rw [← hW2]; exact hR1.far (by show w.heap.size ≠ _; omega) _
  have hB2 : Below w.heap.size w W2 := by rw [← hW2]; exact (HB0.out.trans (hb1.mono HB0.out.size)).setCell (p := ⟨w.heap.size, 3, none⟩) (Nat.le_refl _) _
  have ho2 : W2.ownsRow W0.heap.size TT 4 (.slice ag L.length cg) L.length vs := by
    rw [← hW2]
    exact ownsRow_setCell_other ho (fun e => by have := (ho.lt _ e).1; simp only at this; omega) _
  have hrow2 : RowT (ZU base Y w) W2 vs L := by
    rw [← hW2]
    exact hrow.frame (fun b o hz => World.cell?_of_block (Below.heap_setCell w1 ⟨w.heap.size, 3, none⟩ _ b (by have := hz.lt; show b ≠ w.heap.size; omega))) (fun ad hz => World.cell?_of_block (Below.heap_setCell w1 ⟨w.heap.size, 3, none⟩ _ _ (by have := hz.lt; show ad.block ≠ w.heap.size; omega))) fun _ h => h
  obtain ⟨Y', hY'⟩ : ∃ Y' : Nat → Prop, Y' = fun b => Y b ∨ (Value.slice ag L.length cg).ownBlock = some b ∨ b = w.heap.size ∨ b = w.heap.size + 1 := ⟨_, rfl⟩
  have hYlow : ∀ b, b < w.heap.size → Y' b → Y b := by
    intro b hbl hyb
    rw [hY'] at hyb
    rcases hyb with q | q | q | q
    · exact q
    · have := (ho.lt _ q).1; omega
    · omega
    · omega
  have hI2 : SetI base Y' W2 mk s m nx tv pv ov st := (HI.out.mono (fun b hb hy => hb.2.2 (hYlow b hb.lt hy))).below hB2
  have HYL := Lib.hid hYlow
  have HYE := Lib.hid hY'
  have HB2 := Lib.hid hB2
  have HO2 := Lib.hid ho2
  have HX2 := Lib.hid hX2
  have HR2 := Lib.hid hR2
  have HFR := Lib.hid (show FlatR base Y' (ZU base Y w) W0.heap.size q w W2 mk s m nx tv pv st' L xs (.slice ag L.length cg) 0 st [] xs vs ov from ⟨HST.out, rfl, rfl, hI2, KG.of_below hB2 (Nat.le_refl _), ho2, hrow2⟩)
  have hz1 := hb1.size
  obtain ⟨v0, v1, v2, v3, _, _, _, vf3⟩ := hX1.cells4
  obtain ⟨y0, y1, y2, y3, _⟩ := hX2.cells4
  clear ho hrow hb1 hX1 hR1 hX2 hR2 hB2 ho2 hrow2 hYlow hY' hI2 x0 x1 x2 x3 f3
  go_wp2_with fail
  clear hW2 v0 v1 v2 v3 vf3
  obtain ⟨TC, hTC⟩ : ∃ TC : Array Value, TC = #[.int .i64 x.kd, .int .i64 x.n, .string x.nm, .slice ag L.length cg] := ⟨_, rfl⟩
  go_loopg [5, 6, 14] L.length (fun d v5 v6 v wr => ∃ (k : Nat) (stk : St) (done rest : List Int) (vsk : List Value) (ovk : Value), k + d = L.length ∧ v = .int .i64 k ∧ FlatR base Y' (ZU base Y w) W0.heap.size q w wr mk s m nx tv pv st' L xs (.slice ag L.length cg) k stk done rest vsk ovk ∧ Box wr w.heap.size TT TC ∧ Box wr (w.heap.size + 1) TT zeroT)
  case atStart => exact ⟨0, st, [], xs, vs, ov, by omega, rfl, HFR.out, by rw [hTC]; exact HX2.out, HR2.out⟩
  case round =>
    obtain ⟨k, stk, done, rest, vsk, ovk, hkd, rfl, hfr, hx, hrr⟩ := hrel
    have HK := Lib.hid hkd
    have HF := Lib.hid hfr
    have HX := Lib.hid hx
    have HR := Lib.hid hrr
    have hzr : w.heap.size + 1 < wr.heap.size := hrr.lt
    have hkle : k ≤ L.length := by omega
    have hx' := hx
    rw [hTC] at hx'
    obtain ⟨y0, y1, y2, y3, _⟩ := hx'.cells4
    clear hkd hfr hx hrr hx'
    by_cases hlt : k < L.length
    · have hlt' : (k : Int) < L.length := by omega
      obtain ⟨y, hy⟩ : ∃ y, L[k]? = some y := ⟨_, List.getElem?_eq_getElem hlt⟩
      obtain ⟨g, cg', a2, c2, hv, hgB, hgW, z0, z1, z2, z3, hyn, hyl, hyr⟩ := HF.out.elem hlt hy
      obtain ⟨rfl, rfl⟩ : ag = some ⟨g, 0, none⟩ ∧ cg = cg' := by injection hv with q1 q2 q3; exact ⟨q1, q3⟩
      clear hv
      obtain ⟨W3, hW3⟩ : ∃ W3, wr.alloc (.cells #[.int .i64 y.kd, .int .i64 y.n, .string y.nm, .slice a2 y.args.len c2] TT) = W3 := ⟨_, rfl⟩
      have hB3 : Below wr.heap.size wr W3 := by rw [← hW3]; exact (Below.refl wr.heap.size wr).alloc (Nat.le_refl _) _
      have hA3 : Box W3 wr.heap.size TT #[.int .i64 y.kd, .int .i64 y.n, .string y.nm, .slice a2 y.args.len c2] := by rw [← hW3]; exact Box.new _ _ _
      have hz3 : W3.heap.size = wr.heap.size + 1 := by rw [← hW3]; simp
      have HA3 := Lib.hid hA3
      have HB3 := Lib.hid hB3
      have HYB := Lib.hid hyl
      have HYN := Lib.hid hyn
      have HYK := Lib.hid hy
      have HMM := Lib.hid (List.mem_of_getElem? hy)
      have hI3 := HF.out.si.below hB3
      have hb3 : base ≤ W3.heap.size := by have := HB2.out.size; omega
      have HI3 := Lib.hid hI3
      obtain ⟨u0, u1, u2, u3, _⟩ := hA3.cells4
      by_cases h1 : y.kd = 1
      · obtain ⟨hyv, s1, rest', hh, hrest, hrun⟩ := HF.out.next hlt hy h1
        have HH := Lib.hid (hold_any W3 hI3 hb3 hh)
        have HREST := Lib.hid (And.intro hyv (And.intro hrest hrun))
        have qk : (y.kd == 1) = true := by simpa using h1
        clear hyv hh hrest hrun h1 hI3 hyr hB3 hA3 hyl hyn hy
        go_wp2_with fail
        refine HH.out.mono ?_
        rintro e w4 ⟨rfl, ov4, hi4, hs4⟩
        have HI4 := Lib.hid hi4
        have HS4 := Lib.hid ((KG.of_below (T := (· = TCh)) (D := fun b => b = mk ∨ b = m) (base := base) HB3.out (Nat.le_refl _)).trans hs4)
        clear hi4 hs4
        go_wp2_with fail
        go_roundg (L.length - (k + 1))
        case measure => have := HK.out; omega
        case rel =>
          obtain ⟨hyv, hrest, hrun⟩ := HREST.out
          obtain ⟨o1, o2, o3⟩ := HF.out.through HNT.out HS4.out
          have hD : ∀ b, (b = mk ∨ b = m) → b < wr.heap.size := fun b hb => hb.elim (fun q => by rw [q]; exact HF.out.si.box.lt) fun q => by rw [q]; exact HF.out.si.kn.lt
          refine ⟨k + 1, s1, done ++ [y.n], rest', vsk, ov4, by have := HK.out; omega, by go_num, ⟨hrun, by rw [HF.out.all, hrest]; simp, by rw [List.length_append, HF.out.len]; rfl, HI4.out, o3, o1, ?_⟩, ?_, ?_⟩
          · have hd : L.drop k = y :: L.drop (k + 1) := by
              rw [List.drop_eq_getElem_cons hlt]
              have := HYK.out
              rw [List.getElem?_eq_getElem hlt] at this
              injection this with this
              rw [this]
            rw [← snoc_map, ← hyv, ← hd]
            exact o2
          · exact HS4.out.box HX.out (fun e => HF.out.si.notTT _ e ⟨_, HX.out⟩) (by decide)
          · exact HS4.out.box HR.out (fun e => HF.out.si.notTT _ e ⟨_, HR.out⟩) (by decide)
      · obtain ⟨h0, s1, ys, s2, ii, rest', hfl, hin, hrest, hrun⟩ := HF.out.nest hlt hy h1
        have hX3 := HX.out.below HB3.out HX.out.lt
        rw [hTC] at hX3
        have hzz : ∀ b, ZU base Y w b → ZU base Y' W3.drew b := fun b hb => by
          have hlt := hb.lt
          rcases (KG.zu (Y := Y) (HF.out.sk.trans (KG.of_below HB3.out (Nat.le_refl _))) HNT.out (by decide)).2 b hb with q | q
          · exact .inl q
          · exact .inr ⟨q.1, q.2.1, fun hy => q.2.2 (HYL.out b hlt hy)⟩
        have hY3 : ∀ b, Y' b → b < W3.drew.heap.size := by
          intro b hy
          show b < W3.heap.size
          rw [HYE.out] at hy
          rcases hy with q | q | q | q
          · have := HY.out b q; omega
          · have q' : g = b := by simpa [Value.ownBlock] using q
            omega
          · omega
          · omega
        have HFL := Lib.hid (HC.out y HMM.out Y' a2 c2 W3.drew ovk stk s1 ys (hI3.below ((Below.refl _ W3).drew)) hb3 hY3 (((hyr.below HB3.out (fun b hb => by have := hb.lt; have := HF.out.sk.size; omega)).mono hzz).drew) hyl hfl)
        have hyl2 : ys.length * 56 ≤ 140737488355328 := by rw [flatL_len q y.args stk s1 ys hfl]; exact hyl
        have HIN : Hid (∀ (w5 : World) (ov5 : Value) (a5 : Option Addr) (c5 : Nat), SetI base Y' w5 mk s m nx tv pv ov5 s1 → base ≤ w5.heap.size → RdT (ZT base Y' w5) w5 a5 (ofVars ys) 0 → Calls Try.prog 43 #[.pointer (some ⟨mk, 0, none⟩), .agg #[.int .i64 y.kd, .int .i64 y.n, .string y.nm, .slice a5 ys.length c5]] w5 (fun e w' => e = .returned (.int .i64 ii) ∧ SetPost base Y' mk s m nx tv pv s2 w5 (.returned (.tuple #[])) w')) := Lib.hid fun w5 ov5 a5 c5 si5 hb5 hrd5 => inner_vars w5 si5 hb5 h0 h1 hrd5 hyl2 hyn hin
        have HX3 := Lib.hid hX3
        have HREST := Lib.hid (And.intro h0 (And.intro h1 (And.intro hin (And.intro hrest hrun))))
        have qk : (y.kd == 1) = false := by simpa using h1
        have HTC := Lib.hid hTC
        obtain ⟨x0', x1', x2', x3', _⟩ := hX3.cells4
        unfold tyV at HFL
        clear hyr hI3 hB3 hA3 hyl hyl2 hyn hy h0 h1 hfl hin hrest hrun hzz hY3 hX3 hTC y0 y1 y2 y3 x0' x1' x2'
        go_wp2_with fail
        go_region_held3 (fun w' => w'.cell? ⟨w.heap.size, 3, none⟩ = some (.slice (some ⟨g, 0, none⟩) L.length cg) ∧ (w'.cell? ⟨wr.heap.size, 0, none⟩ = some (.int .i64 y.kd) ∧ w'.cell? ⟨wr.heap.size, 1, none⟩ = some (.int .i64 y.n) ∧ w'.cell? ⟨wr.heap.size, 2, none⟩ = some (.string y.nm) ∧ w'.cell? ⟨wr.heap.size, 3, none⟩ = some (.slice a2 y.args.len c2)))
          (first
            | exact ⟨x3', ⟨u0, u1, u2, u3⟩⟩
            | exact ⟨k0, ⟨k1, k2, k3, k4⟩⟩
            | exact ⟨l0, ⟨l1, l2, l3, l4⟩⟩
            | exact ⟨m0, ⟨m1, m2, m3, m4⟩⟩
            | exact ⟨n0, ⟨n1, n2, n3, n4⟩⟩
            | (rw [hW8]; exact ⟨n0, ⟨n1, n2, n3, n4⟩⟩)
            | go_keep)
          (first
            | (go_at_call 38; refine HFL.out.mono ?_; rintro e w5 ⟨a5, c5, rfl, hrd5, -, -, ov5, si5, sk5⟩; have hb5 : base ≤ w5.heap.size := Nat.le_trans hb3 sk5.size; have X5 := sk5.box (show Box W3.drew _ _ _ from HX3.out) (fun e => HI3.out.notTT _ e ⟨_, HX3.out⟩) (by decide); have A5 := sk5.box (show Box W3.drew _ _ _ from HA3.out) (fun e => HI3.out.notTT _ e ⟨_, HA3.out⟩) (by decide); have k0 : w5.cell? ⟨w.heap.size, 3, none⟩ = some (.slice (some ⟨g, 0, none⟩) L.length cg) := X5.cell 3; have k1 : w5.cell? ⟨wr.heap.size, 0, none⟩ = some (.int .i64 y.kd) := A5.cell 0; have k2 : w5.cell? ⟨wr.heap.size, 1, none⟩ = some (.int .i64 y.n) := A5.cell 1; have k3 : w5.cell? ⟨wr.heap.size, 2, none⟩ = some (.string y.nm) := A5.cell 2; have k4 : w5.cell? ⟨wr.heap.size, 3, none⟩ = some (.slice a2 y.args.len c2) := A5.cell 3)
            | (go_at_call 43; refine (HIN.out w5 ov5 a5 c5 si5 hb5 hrd5).mono ?_; rintro e w6 ⟨rfl, -, ov6, si6, sk6⟩; have X6 := sk6.box X5 (fun e => si5.notTT _ e ⟨_, X5⟩) (by decide); have A6 := sk6.box A5 (fun e => si5.notTT _ e ⟨_, A5⟩) (by decide); have l0 : w6.cell? ⟨w.heap.size, 3, none⟩ = some (.slice (some ⟨g, 0, none⟩) L.length cg) := X6.cell 3; have l1 : w6.cell? ⟨wr.heap.size, 0, none⟩ = some (.int .i64 y.kd) := A6.cell 0; have l2 : w6.cell? ⟨wr.heap.size, 1, none⟩ = some (.int .i64 y.n) := A6.cell 1; have l3 : w6.cell? ⟨wr.heap.size, 2, none⟩ = some (.string y.nm) := A6.cell 2; have l4 : w6.cell? ⟨wr.heap.size, 3, none⟩ = some (.slice a2 y.args.len c2) := A6.cell 3)
            | (go_at_call 21; refine (variable_any ii w6).mono ?_; rintro e w7 ⟨rfl, hb7⟩; have X7 := X6.below hb7 X6.lt; have A7 := A6.below hb7 A6.lt; have sk7 := KG.then_below (((KG.of_below (T := (· = TCh)) (D := fun b => b = mk ∨ b = m) (base := base) HB3.out (Nat.le_refl _)).trans (KG.drew (KG.refl _ _ _ _))).trans (sk5.trans sk6)) hb7 (Nat.le_trans HB3.out.size (Nat.le_trans sk5.size sk6.size)); obtain ⟨o7, r7, q7⟩ := HF.out.through HNT.out sk7; obtain ⟨a7, c7, t0, t1, t2, t3⟩ := row_elem (k := k) o7 r7 hlt (by rw [List.getElem?_append_right (by rw [List.length_map, HF.out.len]; exact Nat.le_refl _), List.length_map, HF.out.len, Nat.sub_self, List.getElem?_drop]; exact HYK.out); have f0 := o7.frozenAt (k * 4); have f1 := o7.frozenAt (k * 4 + 1); have f2 := o7.frozenAt (k * 4 + 2); have f3 := o7.frozenAt (k * 4 + 3); have m0 : w7.cell? ⟨w.heap.size, 3, none⟩ = some (.slice (some ⟨g, 0, none⟩) L.length cg) := X7.cell 3; have m1 : w7.cell? ⟨wr.heap.size, 0, none⟩ = some (.int .i64 y.kd) := A7.cell 0; have m2 : w7.cell? ⟨wr.heap.size, 1, none⟩ = some (.int .i64 y.n) := A7.cell 1; have m3 : w7.cell? ⟨wr.heap.size, 2, none⟩ = some (.string y.nm) := A7.cell 2; have m4 : w7.cell? ⟨wr.heap.size, 3, none⟩ = some (.slice a2 y.args.len c2) := A7.cell 3; obtain ⟨o8, wr8⟩ := own_set4 o7 k (.int .i64 1) (.int .i64 ii) (.string noN) (.slice none 0 0); obtain ⟨W8, hW8⟩ : ∃ W8, ((((w7.setCell ⟨g, k * 4, none⟩ (.int .i64 1)).setCell ⟨g, k * 4 + 1, none⟩ (.int .i64 ii)).setCell ⟨g, k * 4 + 2, none⟩ (.string noN)).setCell ⟨g, k * 4 + 3, none⟩ (.slice none 0 0)) = W8 := ⟨_, rfl⟩; have O8 := Lib.hid o8; have R8 := Lib.hid wr8; rw [hW8] at O8 R8; clear o8 wr8; have X8 := X7.wrote R8.out (by omega); have A8 := A7.wrote R8.out (by omega); have n0 : W8.cell? ⟨w.heap.size, 3, none⟩ = some (.slice (some ⟨g, 0, none⟩) L.length cg) := X8.cell 3; have n1 : W8.cell? ⟨wr.heap.size, 0, none⟩ = some (.int .i64 y.kd) := A8.cell 0; have n2 : W8.cell? ⟨wr.heap.size, 1, none⟩ = some (.int .i64 y.n) := A8.cell 1; have n3 : W8.cell? ⟨wr.heap.size, 2, none⟩ = some (.string y.nm) := A8.cell 2; have n4 : W8.cell? ⟨wr.heap.size, 3, none⟩ = some (.slice a2 y.args.len c2) := A8.cell 3))
        have hgS : w.heap.size + 1 < g := by have := HB0.out.size; omega
        obtain ⟨cur7, hcur7⟩ := own_block o7
        have hYg : Y' g := by rw [HYE.out]; exact .inr (.inl rfl)
        have HSI := Lib.hid ((si6.below hb7).wrote hcur7 hYg R8.out)
        have HSK := Lib.hid (KG.then_below q7 (B := w.heap.size) (R8.out.below (Below.refl _ w7) (by omega)) (Nat.le_refl _))
        have HROW := Lib.hid (r7.frame (Z' := ZU base Y w) (fun b o hz => R8.out.cell ⟨b, o, none⟩ (by have := hz.lt; show b ≠ g; omega)) (fun ad hz => R8.out.cell ad (by have := hz.lt; omega)) fun _ h => h)
        have HRB := Lib.hid ((sk7.box HR.out (fun e => HF.out.si.notTT _ e ⟨_, HR.out⟩) (by decide)).wrote R8.out (by omega))
        have HXB := Lib.hid (show Box W8 w.heap.size TT TC by rw [HTC.out]; exact X8)
        clear hcur7 hYg X5 A5 X6 A6 X7 A7 X8 A8 k0 k1 k2 k3 k4 l0 l1 l2 l3 l4 m0 m1 m2 m3 m4 n0 n1 n2 n3 n4 o7 r7 q7 t0 t1 t2 t3 f0 f1 f2 f3 hW8 si5 sk5 si6 sk6 sk7 hb5 hrd5 hb7 z0 z1 z2 z3 u0 u1 u2 u3 x3'
        go_wp2_with fail
        go_roundg (L.length - (k + 1))
        case measure => have := HK.out; omega
        case rel =>
          obtain ⟨_, _, _, hrest, hrun⟩ := HREST.out
          refine ⟨k + 1, s2, done ++ [ii], rest', _, ov6, by have := HK.out; omega, by go_num, ⟨hrun, by rw [HF.out.all, hrest]; simp, by rw [List.length_append, HF.out.len]; rfl, HSI.out, HSK.out, O8.out, ?_⟩, HXB.out, HRB.out⟩
          have hd : L.drop k = y :: L.drop (k + 1) := by
            rw [List.drop_eq_getElem_cons hlt]
            have := HYK.out
            rw [List.getElem?_eq_getElem hlt] at this
            injection this with this
            rw [this]
          have hp := RowT.put (x := varTy ii) (a2 := none) (c2 := 0) (k := k) (Nat.zero_le _) (by simp [varTy, Tys.len]) trivial HROW.out (by rw [List.length_append, List.length_map, HF.out.len, List.length_drop]; omega)
          rw [drop_set (y := y) (by rw [List.length_map, HF.out.len]) (by rw [hd]; rfl)] at hp
          rw [hd, List.drop_succ_cons, List.drop_zero, snoc_map] at hp
          exact hp
    · have hge : ¬ (k : Int) < L.length := by omega
      have hkL : k = L.length := by omega
      have hrun := HF.out.run
      rw [List.drop_of_length_le (by omega)] at hrun
      simp only [Tys.ofL, flatL, Option.some.injEq, Prod.mk.injEq] at hrun
      obtain ⟨W9, hW9, hbx, hwr⟩ := HR.out.write4 (.int .i64 x.kd) (.int .i64 x.n) (.string x.nm) (.slice ag L.length cg)
      obtain ⟨q0, q1, q2, q3, _⟩ := hbx.cells4
      obtain ⟨r0, r1, r2, r3, rf0, rf1, rf2, rf3⟩ := HR.out.cells4
      have HW := Lib.hid hwr
      have HQ := Lib.hid (And.intro q0 (And.intro q1 (And.intro q2 q3)))
      have HRUN := Lib.hid (And.intro hrun hkL)
      clear hrun hkL hbx hwr q0 q1 q2 q3 hTC
      go_wp2_with fail
      obtain ⟨q0, q1, q2, q3⟩ := HQ.out
      refine bodyPost_ret (v := .agg #[.int .i64 x.kd, .int .i64 x.n, .string x.nm, .slice ag L.length cg]) (by simp [results, Try.results38, go_sem, q0, q1, q2, q3]) rfl ?_
      obtain ⟨⟨hst, hre⟩, hkL⟩ := HRUN.out
      have hxs : xs = done := by rw [HF.out.all, ← hre, List.append_nil]
      have hxl : xs.length = L.length := by rw [hxs, HF.out.len, hkL]
      have hB0s := HB0.out.size
      have hoB : ∀ q, (Value.slice ag L.length cg).ownBlock = some q → W0.heap.size ≤ q := fun q hq => (HF.out.own.lt q hq).1
      have ho9 := own_wrote HF.out.own HW.out (fun e => by have := hoB _ e; omega)
      have hr9 : RowT (ZU base Y w) W9 vsk (done.map varTy ++ L.drop k) := HF.out.row.frame (fun b o hz => HW.out.cell ⟨b, o, none⟩ (by have := hz.lt; show b ≠ _; omega)) (fun ad hz => HW.out.cell ad (by have := hz.lt; omega)) fun _ h => h
      rw [List.drop_of_length_le (by omega), List.append_nil] at hr9
      refine ⟨ag, cg, by rw [hxl], ?_, by rw [hxl, HLN.out], rfl, ovk, ?_, ?_⟩
      · rw [hxs]
        exact own_vars ho9 hr9 (by rw [← hxs]; exact hxl.symm) (by omega) (fun b hb => by have := HY.out b hb; omega)
      · rw [← hst]
        exact (HF.out.si.wrote HR.out (by rw [HYE.out]; exact .inr (.inr (.inr rfl))) HW.out).mono (fun b hb hy => hb.2.2 (by rw [HYE.out]; exact .inl hy))
      · exact KG.then_below HF.out.sk (B := w.heap.size + 1) (HW.out.below (Below.refl _ wr) (Nat.le_refl _)) (by omega)
theorem flat_any {base : Nat} {mk s m q : Nat} {nx : Int} {tv pv : Value} : ∀ (d : Nat) (x : Ty), x.args.nodes ≤ d → ∀ (Y : Nat → Prop) (a : Option Addr) (c : Nat) (w : World) (ov : Value) (st st' : St) (xs : List Int), SetI base Y w mk s m nx tv pv ov st → base ≤ w.heap.size → (∀ b, Y b → b < w.heap.size) → RdT (ZU base Y w) w a x.args 0 → x.args.len * 56 ≤ 140737488355328 → flatL q st x.args = some (st', xs) →
    Calls Try.prog 38 #[.pointer (some ⟨mk, 0, none⟩), tyV x a c] w (FlatPost base Y mk s m nx tv pv st' x xs w) := by
  intro d
  induction d with
  | zero =>
    intro x hx Y a c w ov st st' xs hI hb hY hr hl hst
    refine flat_of w hI hb hY hr hl hst fun y hy => ?_
    obtain ⟨i, hi⟩ := List.getElem?_of_mem hy
    have := Tys.nodes_get x.args i y hi
    omega
  | succ d ih =>
    intro x hx Y a c w ov st st' xs hI hb hY hr hl hst
    refine flat_of w hI hb hY hr hl hst fun y hy Y' a2 c2 w1 ov1 st1 st1' xs1 h1 h2 h3 h4 h5 h6 => ?_
    obtain ⟨i, hi⟩ := List.getElem?_of_mem hy
    have := Tys.nodes_get x.args i y hi
    exact ih y (by omega) Y' a2 c2 w1 ov1 st1 st1' xs1 h1 h2 h3 h4 h5 h6
end Go.Proofs.Ytcaioffdcbjbjaa.Un
