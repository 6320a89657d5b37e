/-
  CONTRACT of layer decl: a table with what is there always; a table while it is made, in plain words.
-/
import Derived.Test.YtgmgnnmmapdikaaDcK
import Derived.Test.YtgmgnnmmapdikaaDcM
namespace Go.Proofs.Ytgmgnnmmapdikaa.Dc
open Go.RowKit Mm Tm Mv Go.Maps Go.ChangeMaps Go.MapKept Go.WideMaps
set_option linter.unusedVariables false
set_option linter.unusedSimpArgs false
def nmV (x : ConS) : Value := .string x.name
/-- A table while it is made: its constructors, its data types with how many params each has. -/
structure TabM (B : Nat) (w : World) (tb m1 m2 n : Nat) (cs : List ConS) (dl : List (ByteArray × Int)) : Prop where
  ex : ∃ F1 F2 vo V, TabP B w tb m1 m2 n F1 F2 vo vo (cs.map nmV) V (fun s => (ofD cs s).map nmV) ∧ (∀ d ∈ dl, F1 d.1.data.toList = some (.agg #[.int .i64 d.2, V d.1])) ∧ (∀ s, (∀ d ∈ dl, d.1.data.toList ≠ s) → F1 s = none) ∧
    (∀ x ∈ cs, ConIs (fun b => B ≤ b ∧ TyB TT w b) w F2 x) ∧ (∀ s, (∀ x ∈ cs, x.name.data.toList ≠ s) → F2 s = none) ∧ (∀ s, ofD cs s = [] → V s = .slice none 0 0)
  dnd : (dl.map Prod.fst).Nodup
  cnd : (cs.map ConS.name).Nodup
  of : ∀ x ∈ cs, ∃ d ∈ dl, d.1 = x.data
  dsz : ∀ d ∈ dl, d.1.size ≤ 9223372036854775807
theorem bytes_ne {a b : ByteArray} (h : a ≠ b) : a.data.toList ≠ b.data.toList := fun e => h (by
  cases a; cases b
  simp only [ByteArray.mk.injEq]
  exact Array.toList_inj.1 e)
theorem ofD_snoc (cs : List ConS) (x : ConS) (s : ByteArray) : ofD (cs ++ [x]) s = if x.data = s then ofD cs s ++ [x] else ofD cs s := by
  unfold ofD
  rw [List.filter_append]
  by_cases h : x.data = s <;> simp [h]
section
variable {B : Nat} {w w' : World} {tb m1 m2 n : Nat} {cs : List ConS} {dl : List (ByteArray × Int)}
theorem TabM.here (h : TabM B w tb m1 m2 n cs dl) (hb : Below w.heap.size w w') : TabM B w' tb m1 m2 n cs dl := by
  obtain ⟨F1, F2, vo, V, h1, h2, h3, h4, h5, h6⟩ := h.ex
  exact ⟨⟨F1, F2, vo, V, h1.here hb, h2, h3, fun x hx => (h4 x hx).frame (fun ad hZ => hb.cell hZ.2.lt) fun b hZ => ⟨hZ.1, hZ.2.below hb⟩, h5, h6⟩, h.dnd, h.cnd, h.of, h.dsz⟩
theorem TabM.mono (h : TabM B w tb m1 m2 n cs dl) {n' : Nat} (hn : n ≤ n') : TabM B w tb m1 m2 n' cs dl := by
  obtain ⟨F1, F2, vo, V, h1, h2⟩ := h.ex
  exact ⟨⟨F1, F2, vo, V, h1.mono hn, h2⟩, h.dnd, h.cnd, h.of, h.dsz⟩
theorem TabM.lt (h : TabM B w tb m1 m2 n cs dl) : B ≤ tb ∧ tb < w.heap.size := by
  obtain ⟨F1, F2, vo, V, h1, h2⟩ := h.ex
  exact ⟨h1.btb, h1.box.lt⟩
/-- a constructor is added -/
theorem TabM.addcon (h : TabM B w tb m1 m2 n cs dl) {of nm : ByteArray} {p : Int} {a : Option Addr} {c : Nat} {fl : List Ty} (hd : (of, p) ∈ dl) (hn : n ≤ 1000000000) (hlo : cs.length ≤ 1000000000) (hnm : nm.size ≤ 9223372036854775807) (hnew : ∀ x ∈ cs, x.name ≠ nm)
    (hr : RdT (fun b => B ≤ b ∧ TyB TT w b) w a (Tys.ofL fl) 0) (hfl : fl.length * 56 ≤ 140737488355328) :
    Calls Try.prog 19 #[.pointer (some ⟨tb, 0, none⟩), .string of, .string nm, .slice a fl.length c] w fun e w' => e = .returned (.tuple #[]) ∧ TabM B w' tb m1 m2 (n + 2) (cs ++ [⟨nm, of, (ofD cs of).length, p, fl⟩]) dl ∧ Keeps m1 m2 w w' ∧ Below B w w' := by
  obtain ⟨F1, F2, vo, V, h1, h2, h3, h4, h5, h6⟩ := h.ex
  have hle : (ofD cs of).length ≤ cs.length := List.length_filter_le _ _
  refine (addcon_any w h1 (h2 _ hd) (h.dsz _ hd) hnm hn (by simpa using hlo) (by simp; omega)).mono ?_
  rintro e w' ⟨rfl, vo', v', hp, hk, hb⟩
  refine ⟨rfl, ⟨⟨updF F1 of.data.toList (.agg #[.int .i64 p, v']), updF F2 nm.data.toList (.agg #[.string nm, .string of, .int .i64 ((ofD cs of).map nmV).length, .int .i64 p, .slice a fl.length c]), vo', fun x => if x = of then v' else V x, ?_, ?_, ?_, ?_, ?_, ?_⟩, h.dnd, ?_, ?_, h.dsz⟩, hk, hb⟩
  · have e1 : (cs ++ [(⟨nm, of, (ofD cs of).length, p, fl⟩ : ConS)]).map nmV = cs.map nmV ++ [.string nm] := by rw [List.map_append]; rfl
    have e2 : (fun s => (ofD (cs ++ [(⟨nm, of, (ofD cs of).length, p, fl⟩ : ConS)]) s).map nmV) = fun x => if x = of then (ofD cs of).map nmV ++ [.string nm] else (ofD cs x).map nmV := by
      funext s
      rw [ofD_snoc]
      by_cases e : s = of
      · subst e; rw [if_pos rfl, if_pos rfl, List.map_append]; rfl
      · rw [if_neg e, if_neg (fun q => e q.symm)]
    rw [e1, e2]
    exact hp
  · intro d hd'
    unfold updF
    show _ = some (Value.agg #[.int .i64 d.2, if d.1 = of then v' else V d.1])
    by_cases e : d.1 = of
    · have hp2 : d.2 = p := by
        obtain ⟨d1, d2⟩ := d
        subst e
        have := h2 _ hd
        rw [h2 _ hd'] at this
        injection this with this
        injection this with this
        simp only [Array.mk.injEq, List.cons.injEq, Value.int.injEq, true_and] at this
        exact this.1
      rw [e, if_pos rfl, if_pos rfl, hp2]
    · rw [if_neg (bytes_ne e), if_neg e]
      exact h2 d hd'
  · intro s hs
    unfold updF
    rw [if_neg (fun e => hs _ hd e.symm)]
    exact h3 s hs
  · intro x hx
    rcases List.mem_append.1 hx with q | q
    · obtain ⟨xa, xc, k1, k2, k3⟩ := hk.con (h4 x q)
      refine ⟨xa, xc, ?_, k2, k3⟩
      unfold updF
      rw [if_neg (bytes_ne (hnew x q))]
      exact k1
    · simp only [List.mem_singleton] at q
      subst q
      refine ⟨a, c, ?_, hk.rdt hr, hfl, hnm⟩
      unfold updF
      rw [if_pos rfl]
      simp
  · intro s hs
    unfold updF
    rw [if_neg (fun e => hs ⟨nm, of, (ofD cs of).length, p, fl⟩ (by simp) e.symm)]
    exact h5 s fun x hx => hs x (by simp [hx])
  · intro s hs
    rw [ofD_snoc] at hs
    by_cases e : s = of
    · subst e; rw [if_pos rfl] at hs; simp at hs
    · rw [if_neg (fun q => e q.symm)] at hs
      show (if s = of then v' else V s) = _
      rw [if_neg e]
      exact h6 s hs
  · rw [List.map_append, List.nodup_append]
    refine ⟨h.cnd, by simp, fun a ha b hb e => ?_⟩
    simp only [List.map_cons, List.map_nil, List.mem_singleton] at hb
    obtain ⟨x, hx, rfl⟩ := List.mem_map.1 ha
    exact hnew x hx (e.trans hb)
  · intro x hx
    rcases List.mem_append.1 hx with q | q
    · exact h.of x q
    · simp only [List.mem_singleton] at q
      subst q
      exact ⟨_, hd, rfl⟩
theorem TabM.datf (h : TabM B w tb m1 m2 n cs dl) : ∃ F1, MapIs w Try.prog TS m1 n F1 ∧ DatF F1 ∧ (∀ s, (∀ d ∈ dl, d.1.data.toList ≠ s) → F1 s = none) ∧ ∀ d ∈ dl, ∃ a k c, F1 d.1.data.toList = some (.agg #[.int .i64 d.2, .slice a k c]) := by
  obtain ⟨F1, F2, vo, V, h1, h2, h3, h4, h5, h6⟩ := h.ex
  refine ⟨F1, h1.map1, fun s => ?_, h3, fun d hd => by
    obtain ⟨a, c, hv⟩ := own_slice (h1.row d.1)
    exact ⟨a, _, c, by rw [h2 d hd, hv]⟩⟩
  by_cases e : ∀ d ∈ dl, d.1.data.toList ≠ s
  · exact .inl (h3 s e)
  · obtain ⟨d, hd⟩ := Classical.not_forall.1 e
    obtain ⟨hd, hs⟩ := Classical.not_imp.1 hd
    have hs := Classical.not_not.1 hs
    obtain ⟨a, c, hv⟩ := own_slice (h1.row d.1)
    exact .inr ⟨d.2, a, _, c, by rw [← hs, h2 d hd, hv]⟩
theorem TabM.look (h : TabM B w tb m1 m2 n cs dl) {mb nb : Nat} {F : FM} (hp : MapIs w Try.prog TS mb nb F) (hi : IntF F) : ∃ F1, Look w tb m1 n mb nb F1 F ∧ ∀ d ∈ dl, ∃ a k c, F1 d.1.data.toList = some (.agg #[.int .i64 d.2, .slice a k c]) := by
  obtain ⟨F1, k1, k2, _, k4⟩ := h.datf
  obtain ⟨_, _, _, _, h1, _⟩ := h.ex
  exact ⟨F1, ⟨h1.box.cell 0, k1, k2, hp, hi⟩, k4⟩
/-- a data type is added -/
theorem TabM.adddata (h : TabM B w tb m1 m2 n cs dl) {nm : ByteArray} {ap : Option Addr} {cp : Nat} {ac : Option Addr} {nc cc : Nat} {ln co : Int} {ps : List ByteArray} (hnm : nm.size ≤ 9223372036854775807) (hn : n ≤ 1000000000) (hp : RdS (· < B) w ap ps) (hpl : ps.length ≤ 1000) :
    Calls Try.prog 16 #[.pointer (some ⟨tb, 0, none⟩), datV nm ap ps.length cp ac nc cc ln co] w fun e w' => ∃ c : Int, e = .returned (.int .i64 c) ∧ Below B w w' ∧ Keeps m1 m2 w w' ∧ ((∀ d ∈ dl, d.1 ≠ nm) ∧ ps.Nodup → c = 0) ∧ (c = 0 → (∀ d ∈ dl, d.1 ≠ nm) ∧ TabM B w' tb m1 m2 (n + 1) cs (dl ++ [(nm, (ps.length : Int))])) := by
  have hdf := h.datf
  obtain ⟨F1, F2, vo, V, h1, h2, h3, h4, h5, h6⟩ := h.ex
  have hF : F1 nm.data.toList = none ∨ ∃ p a k c, F1 nm.data.toList = some (.agg #[.int .i64 p, .slice a k c]) := by
    by_cases e : ∀ d ∈ dl, d.1.data.toList ≠ nm.data.toList
    · exact .inl (h3 _ e)
    · obtain ⟨d, hd⟩ := Classical.not_forall.1 e
      obtain ⟨hd, hs⟩ := Classical.not_imp.1 hd
      have hs := Classical.not_not.1 hs
      obtain ⟨a, c, hv⟩ := own_slice (h1.row d.1)
      exact .inr ⟨d.2, a, _, c, by rw [← hs, h2 d hd, hv]⟩
  refine (adddata_any w h1 hF hnm hn hp hpl).mono ?_
  rintro e w' ⟨c, rfl, hb, hk, hok, hc⟩
  refine ⟨c, rfl, hb, hk, fun q => hok ⟨h3 _ fun d hd => bytes_ne (q.1 d hd), q.2⟩, fun e => ?_⟩
  obtain ⟨k1, k2⟩ := hc e
  have hnew : ∀ d ∈ dl, d.1 ≠ nm := fun d hd q => by
    have := h2 d hd
    rw [q, k1] at this
    cases this
  have hV : ofD cs nm = [] := by
    refine List.filter_eq_nil_iff.2 fun x hx => ?_
    obtain ⟨d, hd, q⟩ := h.of x hx
    simpa using fun r => hnew d hd (q.trans r)
  have hVn : V nm = .slice none 0 0 := h6 nm hV
  refine ⟨hnew, ⟨updF F1 nm.data.toList (.agg #[.int .i64 ps.length, .slice none 0 0]), F2, vo, V, k2, fun d hd => ?_, fun s hs => ?_, fun x hx => hk.con (h4 x hx), h5, h6⟩, ?_, h.cnd, fun x hx => ?_, fun d hd => ?_⟩
  · unfold updF
    rcases List.mem_append.1 hd with q | q
    · rw [if_neg (bytes_ne (hnew d q))]; exact h2 d q
    · simp only [List.mem_singleton] at q
      subst q
      rw [if_pos rfl, hVn]
  · unfold updF
    rw [if_neg (fun q => hs (nm, (ps.length : Int)) (by simp) q.symm)]
    exact h3 s fun d hd => hs d (by simp [hd])
  · rw [List.map_append, List.nodup_append]
    refine ⟨h.dnd, by simp, fun a ha b hb e => ?_⟩
    simp only [List.map_cons, List.map_nil, List.mem_singleton] at hb
    obtain ⟨x, hx, rfl⟩ := List.mem_map.1 ha
    exact hnew x hx (e.trans hb)
  · obtain ⟨d, hd, q⟩ := h.of x hx
    exact ⟨d, by simp [hd], q⟩
  · rcases List.mem_append.1 hd with q | q
    · exact h.dsz d q
    · simp only [List.mem_singleton] at q
      subst q
      exact hnm
/-- a table that is made is one that is read -/
theorem TabM.reads (h : TabM B w tb m1 m2 n cs dl) : TabR w.heap.size w tb cs dl := by
  obtain ⟨F1, F2, vo, V, h1, h2, h3, h4, h5, h6⟩ := h.ex
  have hrow : ∀ {v : Value} {l : List ConS}, w.ownsRow B TS 1 v (l.map nmV).length (l.map nmV) → (∀ x ∈ l, x ∈ cs) → ∃ a c, v = .slice a l.length c ∧ RdS (· < w.heap.size) w a (l.map ConS.name) := by
    intro v l ho hsub
    obtain ⟨a, c, rfl⟩ := own_slice ho
    refine ⟨a, c, by rw [List.length_map], fun i s hs => ?_⟩
    obtain ⟨hi, he⟩ := List.getElem?_eq_some_iff.1 hs
    have hi' : i < l.length := by simpa using hi
    obtain ⟨g, rfl, _, hg2, _, hc⟩ := own_at ho (by simp; omega)
    have hadd : ((⟨g, 0, none⟩ : Addr).add i) = ⟨g, i, none⟩ := by
      simp [Addr.add]
      try (intro e; omega)
    have hxm := hsub l[i] (List.getElem_mem hi')
    obtain ⟨_, _, _, _, _, hsz⟩ := h4 _ hxm
    have hs2 : s = l[i].name := by rw [← he]; simp
    refine ⟨⟨g, 0, none⟩, rfl, hg2, ?_, by rw [hs2]; exact hsz⟩
    rw [hadd, hc i (by simp; omega), List.getElem?_map, List.getElem?_eq_getElem hi', hs2]
    rfl
  obtain ⟨ao, co, hvo, hro⟩ := hrow h1.ord fun x hx => hx
  subst hvo
  refine ⟨m1, m2, n, n, F1, F2, ao, co, h1.box.lt, h1.map1.lt, h1.map2.lt, h1.box.cell 0, h1.box.cell 1, h1.box.cell 2, h1.map1, h1.map2, hro, fun x hx => (h4 x hx).frame (fun _ _ => rfl) fun b hZ => hZ.2.lt, fun d hd => ?_, h5, h3⟩
  obtain ⟨a, c, hv, hr⟩ := hrow (h1.row d.1) fun x hx => (List.mem_filter.1 hx).1
  exact ⟨a, c, by rw [h2 d hd, hv], hr⟩
end
end Go.Proofs.Ytgmgnnmmapdikaa.Dc
