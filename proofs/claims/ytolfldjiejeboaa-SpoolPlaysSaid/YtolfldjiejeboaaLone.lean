/-
  WORDS for a walk in which one goroutine, alone, asks a channel by a select of one case that does not wait. No program in sight.
-/
import Derived.Conc.LoneSelect
import Derived.Conc.LoneSelectN
import Derived.WalkKit
import Derived.WalkMore
import Derived.ProofKit
import Derived.Below
namespace Go.Proofs.Ytolfldjiejeboaa.Ln
open Go.RowKit Go.Conc
set_option linter.unusedVariables false
/-- Where a walk comes to, under an ordinary call's frame, with this to do first. -/
def Nits (P : Program) (x : Item) (Q : Exit → Act → World → Prop) (a : Act) (w : World) : Prop :=
  ∀ (b : Frame) (k : List Item) (cs : List Frame), b.kind = .normal →
    ∃ e a' w', Q e a' w' ∧ Arrives P (lone (b.at a (x :: k)) cs w) b k cs e a' w'
abbrev Nwp (P : Program) (c : Code) := Nits P (.code c)
abbrev Nops (P : Program) (ops : Array Oper) (l : List Nat) := Nits P (.inRegion ops l)
section
variable {P : Program} {Q : Exit → Act → World → Prop} {a : Act} {w : World}
theorem nits_mono {x : Item} {Q' : Exit → Act → World → Prop} (h : Nits P x Q a w) (hq : ∀ e a w, Q e a w → Q' e a w) : Nits P x Q' a w := by
  intro b k cs hb
  obtain ⟨e, a', w', q, r⟩ := h b k cs hb
  exact ⟨e, a', w', hq _ _ _ q, r⟩
theorem nwp_of {c : Code} (h : c.wp P Q a w) : Nwp P c Q a w := fun b k cs _ => h b k cs
theorem nits_step {x y : Item} {a' : Act} {w' : World} (hs : ∀ (b : Frame) (k : List Item) (cs : List Frame), b.kind = .normal → step P (lone (b.at a (x :: k)) cs w) = .next (lone (b.at a' (y :: k)) cs w')) (h : Nits P y Q a' w') : Nits P x Q a w := by
  intro b k cs hb
  obtain ⟨e, a₂, w₂, q, r⟩ := h b k cs hb
  exact ⟨e, a₂, w₂, q, .of_steps (.one (hs b k cs hb)) r⟩
theorem nwp_seq {x y : Code} (h : Nwp P x (Exit.then (Nwp P y Q) Q) a w) : Nwp P (.seq x y) Q a w := by
  intro b k cs hb
  obtain ⟨e, a₁, w₁, hq, harr⟩ := h b (.code y :: k) cs hb
  have one : Steps P (lone (b.at a (.code (.seq x y) :: k)) cs w) (lone (b.at a (.code x :: .code y :: k)) cs w) := .one step_seq
  cases e with
  | normal =>
    obtain ⟨e₂, a₂, w₂, hq₂, harr₂⟩ := hq b k cs hb
    exact ⟨e₂, a₂, w₂, hq₂, .of_steps (one.trans harr) harr₂⟩
  | exit id => exact ⟨_, a₁, w₁, hq, .of_steps one (.pass (x := .code y) rfl (fun _ _ => .inl (by simp)) harr)⟩
  | goto l => exact ⟨_, a₁, w₁, hq, .of_steps one (.pass (x := .code y) rfl (fun _ _ => .inl (by simp)) harr)⟩
  | ret => exact ⟨_, a₁, w₁, hq, .of_steps one (.pass (x := .code y) rfl (fun _ _ => .inl (by simp)) harr)⟩
  | panic ch => exact ⟨_, a₁, w₁, hq, .of_steps one (.pass (x := .code y) rfl (fun _ _ => .inl (by simp)) harr)⟩
  | outgrown => exact ⟨_, a₁, w₁, hq, .of_steps one (.pass (x := .code y) rfl (fun _ _ => .inl (by simp)) harr)⟩
theorem nwp_seq_k {x y : Code} (h : ∀ K : Act → World → Prop, (∀ a w, Nwp P y Q a w → K a w) → x.wp P (Exit.then K Q) a w) : Nwp P (.seq x y) Q a w :=
  nwp_seq (nwp_of (h _ fun _ _ h => h))
theorem nwp_seq_wp {x y : Code} (h : Nwp P x (Exit.then (fun a w => y.wp P Q a w) Q) a w) : Nwp P (.seq x y) Q a w :=
  nwp_seq (nits_mono h fun e a w q => by cases e <;> first | exact nwp_of q | exact q)
theorem nwp_label {l : Nat} (h : Q .normal a w) : Nwp P (.label l) Q a w := nwp_of (wp_label h)
theorem nwp_scope {c : Code} (h : Nwp P c (Exit.noGoto Q) a w) : Nwp P (.scope c) Q a w := by
  intro b k cs hb
  obtain ⟨e, a₁, w₁, hq, harr⟩ := h b (.inScope c :: k) cs hb
  have one : Steps P (lone (b.at a (.code (.scope c) :: k)) cs w) (lone (b.at a (.code c :: .inScope c :: k)) cs w) := .one step_scope
  cases e with
  | normal => exact ⟨.normal, a₁, w₁, hq, one.trans (Steps.trans harr (.one step_inScope))⟩
  | exit id => exact ⟨.exit id, a₁, w₁, hq, fun k' hk => one.trans (harr k' (by simp [exitTo, hk]))⟩
  | goto l => exact hq.elim
  | ret => exact ⟨_, a₁, w₁, hq, .of_steps one harr⟩
  | panic ch => exact ⟨_, a₁, w₁, hq, .of_steps one harr⟩
  | outgrown => exact ⟨_, a₁, w₁, hq, .of_steps (b := b) (k := k) (cs := cs) (e := .outgrown) one harr⟩
theorem nwp_cond {c : Operand} {x y : Code} {t : Bool} (hc : a.eval c = .bool t) (h : Nwp P (if t then x else y) Q a w) : Nwp P (.cond c x y) Q a w :=
  nits_step (fun _ _ _ _ => step_cond hc) h
theorem nwp_block {id : Nat} {c : Code} (h : Nwp P c (Exit.inBlock id Q) a w) : Nwp P (.block id c) Q a w := by
  intro b k cs hb
  obtain ⟨e, a₁, w₁, hq, harr⟩ := h b (.inBlock id :: k) cs hb
  have one : Steps P (lone (b.at a (.code (.block id c) :: k)) cs w) (lone (b.at a (.code c :: .inBlock id :: k)) cs w) := .one step_block
  cases e with
  | normal => exact ⟨.normal, a₁, w₁, hq, one.trans (Steps.trans harr (.one step_inBlock))⟩
  | exit i =>
    by_cases hid : i = id
    · subst hid
      exact ⟨.normal, a₁, w₁, by simpa [Exit.inBlock] using hq, one.trans (harr k (by simp [exitTo]))⟩
    · refine ⟨.exit i, a₁, w₁, by simpa [Exit.inBlock, hid] using hq, fun k' hk => one.trans (harr k' ?_)⟩
      have hne : (id == i) = false := by simpa using fun e => hid e.symm
      simp [exitTo, hne, hk]
  | goto l => exact ⟨_, a₁, w₁, hq, fun k' hk => one.trans (harr k' (by simp [gotoIn, hk]))⟩
  | ret => exact ⟨_, a₁, w₁, hq, .of_steps one harr⟩
  | panic ch => exact ⟨_, a₁, w₁, hq, .of_steps one harr⟩
  | outgrown => exact ⟨_, a₁, w₁, hq, .of_steps (b := b) (k := k) (cs := cs) (e := .outgrown) one harr⟩
theorem nwp_loop {c : Code} (I : Act → World → Prop) (μ : Act → World → Nat) (h₀ : I a w)
    (round : ∀ a w, I a w → Nwp P c (Exit.then (fun a' w' => I a' w' ∧ μ a' w' < μ a w) Q) a w) : Nwp P (.loop c) Q a w := by
  have key : ∀ n a w, μ a w < n → I a w → ∀ (b : Frame) (k : List Item) (cs : List Frame), b.kind = .normal →
      ∃ e a' w', Q e a' w' ∧ Arrives P (lone (b.at a (.code c :: .inLoop c :: k)) cs w) b k cs e a' w' := by
    intro n
    induction n with
    | zero => intro a w hn; omega
    | succ n ih =>
      intro a w hn hI b k cs hb
      obtain ⟨e, a₁, w₁, hq, harr⟩ := round a w hI b (.inLoop c :: k) cs hb
      cases e with
      | normal =>
        obtain ⟨hI₁, hlt⟩ := hq
        obtain ⟨e₂, a₂, w₂, hq₂, harr₂⟩ := ih a₁ w₁ (by omega) hI₁ b k cs hb
        exact ⟨e₂, a₂, w₂, hq₂, .of_steps (Steps.trans harr (.one step_inLoop)) harr₂⟩
      | exit id => exact ⟨_, a₁, w₁, hq, .pass (x := .inLoop c) rfl (fun _ _ => .inl (by simp)) harr⟩
      | goto l => exact ⟨_, a₁, w₁, hq, .pass (x := .inLoop c) rfl (fun _ _ => .inl (by simp)) harr⟩
      | ret => exact ⟨_, a₁, w₁, hq, .pass (x := .inLoop c) rfl (fun _ _ => .inl (by simp)) harr⟩
      | panic ch => exact ⟨_, a₁, w₁, hq, .pass (x := .inLoop c) rfl (fun _ _ => .inl (by simp)) harr⟩
      | outgrown => exact ⟨_, a₁, w₁, hq, .pass (x := .inLoop c) rfl (fun _ _ => .inl (by simp)) harr⟩
  intro b k cs hb
  obtain ⟨e, a', w', hq, harr⟩ := key (μ a w + 1) a w (by omega) h₀ b k cs hb
  exact ⟨e, a', w', hq, .of_steps (.one step_loop) harr⟩
theorem nwp_region {id : Nat} {ops : Array Oper} (h : Nops P ops (List.range ops.size) Q a w) : Nwp P (.region id ops false) Q a w :=
  nits_step (fun _ _ _ _ => step_region) h
theorem nops_of {ops : Array Oper} {l : List Nat} (h : wpOps P ops Q l a w) : Nops P ops l Q a w := fun b k cs _ => wp_ops l a w h b k cs
theorem calls_of_nwp {f : FuncId} {fn : Func} {c : Code} {args : Array Value} {R : Ending → World → Prop} (hf : P.funcs[f]? = some fn) (hb : fn.body = some c)
    (h : Nwp P c (bodyPost P fn R) { tmps := args ++ Array.replicate (fn.ntmps - args.size) undef, defers := [] } w) : Calls P f args w R := by
  intro cs
  have henter : Frame.enter P f args .normal = ({ (default : Frame) with fn := f, kind := .normal } : Frame).at { tmps := args ++ Array.replicate (fn.ntmps - args.size) undef, defers := [] } [.code c] := by
    simp [Frame.enter, Frame.at, hf, hb]
  obtain ⟨e, a', w', hq, harr⟩ := h { (default : Frame) with fn := f, kind := .normal } [] cs rfl
  rw [← henter] at harr
  cases e with
  | normal =>
    obtain ⟨hd, v, hr, hR⟩ := hq
    exact ⟨.returned v, w', _, hR, Steps.trans harr (.one step_end), rfl, rfl, hd, rfl, fn, hf, hr⟩
  | ret =>
    obtain ⟨hd, v, hr, hR⟩ := hq
    obtain ⟨todo, hs⟩ := harr
    exact ⟨.returned v, w', _, hR, hs, rfl, rfl, hd, rfl, fn, hf, hr⟩
  | panic chain =>
    obtain ⟨hd, hR⟩ := hq
    obtain ⟨todo, hs⟩ := harr
    exact ⟨.panicked chain, w', _, hR, hs, rfl, rfl, hd, fn, hf⟩
  | exit id => exact hq.elim
  | goto l => exact hq.elim
  | outgrown => exact ⟨.outgrown, w', { (default : Frame) with fn := f }, hq, harr.resolve_left (by simp), rfl, trivial⟩
end
section
variable {P : Program} {Q : Exit → Act → World → Prop} {a : Act} {w w' : World} {ops : Array Oper} {i : Nat} {rest : List Nat} {o : Oper} {c cap s r : Nat} {buf : Array Value} {closed tm : Bool} {v z : Value}
theorem nops_value (ho : ops[i]? = some o) (hw : Region.wanted o (yielded ops a.tmps) = true) (hr : (execOp a.eval o).run P w = .ok (.value v) w') (h : Nops P ops rest Q (a.put o.dst v) w') : Nops P ops (i :: rest) Q a w := by
  refine nits_step (fun b k cs hb => step_lone_go ?_) h
  have hf := Frame.finish_at b a ops i rest k v
  rw [ho] at hf
  rw [stepG_op ho hw, ← show (b.at a (.inRegion ops (i :: rest) :: k)).finish v = b.at (a.put o.dst v) (.inRegion ops rest :: k) from hf]
  simp [stepG.apply, hr]
theorem nops_comm {cases : Array CommCase} {x : Value} {w₂ : World} (ho : ops[i]? = some o) (hw : Region.wanted o (yielded ops a.tmps) = true) (hr : (execOp a.eval o).run P w = .ok (.comm cases false .select) w')
    (hst : ∀ (fr : Frame) (cs : List Frame) (es : Array Event), stepG P true (G fr cs) w = .comm (G fr cs) cases false .select w' es → step P (solo (G fr cs) w) = .next (solo (G (fr.finish x) cs) w₂))
    (h : Nops P ops rest Q (a.put o.dst x) w₂) : Nops P ops (i :: rest) Q a w := by
  refine nits_step (fun b k cs hb => ?_) h
  have hs := hst (b.at a (.inRegion ops (i :: rest) :: k)) cs _ (stepG_comm ho hw (by rw [hb]; decide) hr)
  rw [Frame.finish_at, ho] at hs
  exact hs
theorem nops_send_room (ho : ops[i]? = some o) (hw : Region.wanted o (yielded ops a.tmps) = true) (hr : (execOp a.eval o).run P w = .ok (.comm #[scase c v z] false .select) w') (hc : w'.heap[c]? = some (.chan cap buf false s r tm)) (hroom : buf.size < cap)
    (h : Nops P ops rest Q (a.put o.dst (.tuple #[goInt 0, .bool false])) (w'.setChan c cap (buf.push v) false (s + 1) r tm)) : Nops P ops (i :: rest) Q a w :=
  nops_comm ho hw hr (fun fr cs es he => step_lone_select_send_room he hc hroom) h
theorem nops_send_full (ho : ops[i]? = some o) (hw : Region.wanted o (yielded ops a.tmps) = true) (hr : (execOp a.eval o).run P w = .ok (.comm #[scase c v z] false .select) w') (hc : w'.heap[c]? = some (.chan cap buf false s r tm)) (hfull : cap ≤ buf.size)
    (h : Nops P ops rest Q (a.put o.dst (.tuple #[goInt (-1), .bool false])) w') : Nops P ops (i :: rest) Q a w :=
  nops_comm ho hw hr (fun fr cs es he => step_lone_select_send_full he hc hfull) h
theorem nops_recv_some (ho : ops[i]? = some o) (hw : Region.wanted o (yielded ops a.tmps) = true) (hr : (execOp a.eval o).run P w = .ok (.comm #[rcase c z] false .select) w') (hc : w'.heap[c]? = some (.chan cap buf closed s r tm)) (hsome : 0 < buf.size)
    (h : Nops P ops rest Q (a.put o.dst (.tuple #[goInt 0, .bool true, buf.getD 0 undef])) (w'.setChan c cap (buf.extract 1 buf.size) closed s (r + 1) tm)) : Nops P ops (i :: rest) Q a w :=
  nops_comm ho hw hr (fun fr cs es he => step_lone_select_recv_buf he hc hsome) h
theorem nops_recv_shut (ho : ops[i]? = some o) (hw : Region.wanted o (yielded ops a.tmps) = true) (hr : (execOp a.eval o).run P w = .ok (.comm #[rcase c z] false .select) w') (hc : w'.heap[c]? = some (.chan cap #[] true s r tm))
    (h : Nops P ops rest Q (a.put o.dst (.tuple #[goInt 0, .bool false, z])) w') : Nops P ops (i :: rest) Q a w :=
  nops_comm ho hw hr (fun fr cs es he => step_lone_select_recv_shut he hc) h
theorem nops_recv_none (ho : ops[i]? = some o) (hw : Region.wanted o (yielded ops a.tmps) = true) (hr : (execOp a.eval o).run P w = .ok (.comm #[rcase c z] false .select) w') (hc : w'.heap[c]? = some (.chan cap #[] false s r tm))
    (h : Nops P ops rest Q (a.put o.dst (.tuple #[goInt (-1), .bool false, z])) w') : Nops P ops (i :: rest) Q a w :=
  nops_comm ho hw hr (fun fr cs es he => step_lone_select_default he hc) h
theorem nwp_first {id : Nat} {l : List Oper} (h : Nops P (o :: l).toArray (0 :: List.range' 1 l.length) Q a w) : Nwp P (.region id (o :: l).toArray false) Q a w :=
  nwp_region (by
    have e : List.range (o :: l).toArray.size = 0 :: List.range' 1 l.length := by
      rw [List.range_eq_range']
      simp [List.range'_succ]
    rw [e]
    exact h)
theorem nops_rest {l : List Oper} (h : wpList P (o :: l).toArray Q l a w) : Nops P (o :: l).toArray (List.range' 1 l.length) Q a w :=
  nops_of (by
    rw [wpOps_eq_wpList l 1 (fun j => by simp [Nat.add_comm 1 j])]
    exact h)
theorem nwp_send_room {id : Nat} {l : List Oper} (hg : o.guard = none) (hr : (execOp a.eval o).run P w = .ok (.comm #[scase c v z] false .select) w') (hc : w'.heap[c]? = some (.chan cap buf false s r tm)) (hroom : buf.size < cap)
    (h : wpList P (o :: l).toArray Q l (a.put o.dst (.tuple #[goInt 0, .bool false])) (w'.setChan c cap (buf.push v) false (s + 1) r tm)) : Nwp P (.region id (o :: l).toArray false) Q a w :=
  nwp_first (nops_send_room rfl (by simp [Region.wanted, hg]) hr hc hroom (nops_rest h))
theorem nwp_send_full {id : Nat} {l : List Oper} (hg : o.guard = none) (hr : (execOp a.eval o).run P w = .ok (.comm #[scase c v z] false .select) w') (hc : w'.heap[c]? = some (.chan cap buf false s r tm)) (hfull : cap ≤ buf.size)
    (h : wpList P (o :: l).toArray Q l (a.put o.dst (.tuple #[goInt (-1), .bool false])) w') : Nwp P (.region id (o :: l).toArray false) Q a w :=
  nwp_first (nops_send_full rfl (by simp [Region.wanted, hg]) hr hc hfull (nops_rest h))
theorem nwp_recv_some {id : Nat} {l : List Oper} (hg : o.guard = none) (hr : (execOp a.eval o).run P w = .ok (.comm #[rcase c z] false .select) w') (hc : w'.heap[c]? = some (.chan cap buf closed s r tm)) (hsome : 0 < buf.size)
    (h : wpList P (o :: l).toArray Q l (a.put o.dst (.tuple #[goInt 0, .bool true, buf.getD 0 undef])) (w'.setChan c cap (buf.extract 1 buf.size) closed s (r + 1) tm)) : Nwp P (.region id (o :: l).toArray false) Q a w :=
  nwp_first (nops_recv_some rfl (by simp [Region.wanted, hg]) hr hc hsome (nops_rest h))
theorem nwp_recv_shut {id : Nat} {l : List Oper} (hg : o.guard = none) (hr : (execOp a.eval o).run P w = .ok (.comm #[rcase c z] false .select) w') (hc : w'.heap[c]? = some (.chan cap #[] true s r tm))
    (h : wpList P (o :: l).toArray Q l (a.put o.dst (.tuple #[goInt 0, .bool false, z])) w') : Nwp P (.region id (o :: l).toArray false) Q a w :=
  nwp_first (nops_recv_shut rfl (by simp [Region.wanted, hg]) hr hc (nops_rest h))
theorem nwp_recv_none {id : Nat} {l : List Oper} (hg : o.guard = none) (hr : (execOp a.eval o).run P w = .ok (.comm #[rcase c z] false .select) w') (hc : w'.heap[c]? = some (.chan cap #[] false s r tm))
    (h : wpList P (o :: l).toArray Q l (a.put o.dst (.tuple #[goInt (-1), .bool false, z])) w') : Nwp P (.region id (o :: l).toArray false) Q a w :=
  nwp_first (nops_recv_none rfl (by simp [Region.wanted, hg]) hr hc (nops_rest h))
end
end Go.Proofs.Ytolfldjiejeboaa.Ln
