/-
  CONTRACTS of layer spool, of numbers: what comes first is moved from one spool to another one.
-/
import Derived.Test.YtolfldjiejeboaaSpNo
namespace Go.Proofs.Ytolfldjiejeboaa.Sp
open Go.RowKit Go.Conc Mm Ln
set_option linter.unusedVariables false
set_option linter.unusedSimpArgs false
abbrev at2 (c c2 : Nat) : Nat → Prop := fun k => k = c ∨ k = c2
/-- How many a call of Move moves. -/
def moveN (most : Int) (n room2 n2 : Nat) (shut2 : Bool) : Nat := min (min most.toNat n) (if shut2 = true then 0 else room2 - n2)
/-- What a call of Move ends with. -/
def MovePost (T : TypeId) (p c room p2 c2 room2 : Nat) (buf buf2 : List Value) (shut shut2 : Bool) (N : Nat) (w : World) (e : Ending) (w' : World) : Prop :=
  e = .returned (.int .i64 N) ∧ Spool w' T p c room (buf.drop N) shut ∧ Spool w' T p2 c2 room2 (buf2 ++ buf.take N) shut2 ∧ Kept (at2 c c2) w w'
theorem movePost {T : TypeId} {p c room p2 c2 room2 : Nat} {buf buf2 : List Value} {shut shut2 : Bool} {N k : Nat} {w w' : World} (hN : N = k) (h1 : Spool w' T p c room (buf.drop k) shut) (h2 : Spool w' T p2 c2 room2 (buf2 ++ buf.take k) shut2) (h3 : Kept (at2 c c2) w w') :
    MovePost T p c room p2 c2 room2 buf buf2 shut shut2 N w (.returned (.int .i64 k)) w' := by
  subst hN
  exact ⟨rfl, h1, h2, h3⟩
/-- What holds ahead of each round. -/
def MoveI (T : TypeId) (p c room p2 c2 room2 : Nat) (buf buf2 : List Value) (shut shut2 : Bool) (most : Int) (N : Nat) (w : World) (a : Act) (wr : World) : Prop :=
  ∃ k : Nat, (a.tmps.size = 49 ∧ a.defers = [] ∧ a.tmps[0]? = some (.pointer (some ⟨p, 0, none⟩)) ∧ a.tmps[1]? = some (.pointer (some ⟨p2, 0, none⟩)) ∧ a.tmps[2]? = some (.int .i64 most) ∧ a.tmps[7]? = some (.int .i64 k)) ∧ k ≤ N ∧ Spool wr T p c room (buf.drop k) shut ∧ Spool wr T p2 c2 room2 (buf2 ++ buf.take k) shut2 ∧ Kept (at2 c c2) w wr
theorem act_of {a : Act} {p p2 k : Nat} {most : Int} (hz : a.tmps.size = 49) (hd : a.defers = []) (h0 : a.tmps[0]? = some (.pointer (some ⟨p, 0, none⟩))) (h1 : a.tmps[1]? = some (.pointer (some ⟨p2, 0, none⟩))) (h2 : a.tmps[2]? = some (.int .i64 most)) (h7 : a.tmps[7]? = some (.int .i64 k)) :
    ∃ u : Nat → Value, a = { tmps := #[.pointer (some ⟨p, 0, none⟩), .pointer (some ⟨p2, 0, none⟩), .int .i64 most, u 3, u 4, u 5, u 6, .int .i64 k, u 8, u 9, u 10, u 11, u 12, u 13, u 14, u 15, u 16, u 17, u 18, u 19, u 20, u 21, u 22, u 23, u 24, u 25, u 26, u 27, u 28, u 29, u 30, u 31, u 32, u 33, u 34, u 35, u 36, u 37, u 38, u 39, u 40, u 41, u 42, u 43, u 44, u 45, u 46, u 47, u 48], defers := [] } := by
  obtain ⟨⟨l⟩, d⟩ := a
  simp only at hd
  subst hd
  match l, hz, h0, h1, h2, h7 with
  | t0 :: t1 :: t2 :: t3 :: t4 :: t5 :: t6 :: t7 :: t8 :: t9 :: t10 :: t11 :: t12 :: t13 :: t14 :: t15 :: t16 :: t17 :: t18 :: t19 :: t20 :: t21 :: t22 :: t23 :: t24 :: t25 :: t26 :: t27 :: t28 :: t29 :: t30 :: t31 :: t32 :: t33 :: t34 :: t35 :: t36 :: t37 :: t38 :: t39 :: t40 :: t41 :: t42 :: t43 :: t44 :: t45 :: t46 :: t47 :: t48 :: [], _, h0, h1, h2, h7 =>
    refine ⟨fun i => (#[t0, t1, t2, t3, t4, t5, t6, t7, t8, t9, t10, t11, t12, t13, t14, t15, t16, t17, t18, t19, t20, t21, t22, t23, t24, t25, t26, t27, t28, t29, t30, t31, t32, t33, t34, t35, t36, t37, t38, t39, t40, t41, t42, t43, t44, t45, t46, t47, t48] : Array Value).getD i undef, ?_⟩
    simp at h0 h1 h2 h7
    subst h0 h1 h2 h7
    rfl
theorem len_is {p c room m : Nat} {buf : List Value} {shut : Bool} (w : World) (h : Spool w TI p c room buf shut) (hl : buf.length = m) : Calls Try.prog 27 #[.pointer (some ⟨p, 0, none⟩)] w fun e w' => e = .returned (.int .i64 m) ∧ w = w' := by
  subst hl
  exact len_any w h
theorem put_is {p c room : Nat} {buf : List Value} (x : Int) (w : World) (h : Spool w TI p c room buf false) (hr : buf.length < room) :
    Calls Try.prog 12 #[.pointer (some ⟨p, 0, none⟩), .int .i64 x] w fun e w' => e = .returned (.bool true) ∧ Spool w' TI p c room (buf ++ [.int .i64 x]) false ∧ Kept (at0 c) w w' := by
  refine (put_any x w h).mono ?_
  rintro e w' ⟨rfl, hs, hk⟩
  have e : (!false && decide (buf.length < room)) = true := by simp [hr]
  rw [e] at hs ⊢
  rw [if_pos rfl] at hs
  exact ⟨rfl, hs, hk⟩
theorem take_step {buf : List Value} {k : Nat} {v : Value} {rest : List Value} (hd : buf.drop k = v :: rest) : buf.drop (k + 1) = rest ∧ buf.take (k + 1) = buf.take k ++ [v] ∧ k < buf.length := by
  have hkl : k < buf.length := by
    have := congrArg List.length hd
    simp at this
    omega
  refine ⟨by rw [← List.tail_drop, hd]; rfl, ?_, hkl⟩
  rw [List.take_add_one]
  have h0 : buf[k]? = some v := by
    have := congrArg List.head? hd
    rw [List.head?_drop] at this
    simpa using this
  rw [h0]; rfl
theorem drop_none {buf : List Value} {k : Nat} (hd : buf.drop k = []) : buf.length ≤ k := by
  have := congrArg List.length hd
  simp at this
  omega
set_option maxRecDepth 100000 in
set_option maxHeartbeats 4000000 in
theorem move_any {p c room p2 c2 room2 : Nat} {buf buf2 : List Value} {shut shut2 : Bool} (most : Int) (w : World) (h : Spool w TI p c room buf shut) (h2 : Spool w TI p2 c2 room2 buf2 shut2) (hpp : p ≠ p2) (hcc : c ≠ c2) (hlen : buf.length ≤ 1024) (hone : ∀ u ∈ buf, ∃ x, u = .int .i64 x) :
    Calls Try.prog 20 #[.pointer (some ⟨p, 0, none⟩), .pointer (some ⟨p2, 0, none⟩), .int .i64 most] w (MovePost TI p c room p2 c2 room2 buf buf2 shut shut2 (moveN most buf.length room2 buf2.length shut2) w) := by
  obtain ⟨N, hN⟩ : ∃ N, moveN most buf.length room2 buf2.length shut2 = N := ⟨_, rfl⟩
  rw [hN]
  have HN := Lib.hid hN
  have hNl : N ≤ buf.length := by rw [← hN]; unfold moveN; omega
  have hNb : N ≤ 1024 := by omega
  obtain ⟨i0, hi, hz0, hz1, hz2'⟩ := info_parts TTI
  have he := run_eql_ptr_other (P := Try.prog) w (a := ⟨p, 0, none⟩) (b := ⟨p2, 0, none⟩) Try.underlying23 hi (by rw [hz1]; decide) (by simp [hpp]) h.box h2.box
  have hg := given_any w h
  clear hN
  refine calls_of_nwp Try.func20 rfl ?_
  simp only [Try.ntmps20, List.size_toArray, List.length_cons, List.length_nil, Nat.reduceAdd, Nat.reduceSub, Array.replicate_succ, Array.replicate_zero, List.push_toArray, List.append_toArray, List.nil_append, List.cons_append]
  refine nwp_seq_k (fun K hK => ?_)
  go_wp2
  refine nwp_scope ?_
  refine nwp_seq_k (fun K hK => ?_)
  go_wp2_with (go_at_call 30; refine hg.mono ?_; rintro e w' ⟨rfl, rfl⟩)
  refine nwp_seq_k (fun K hK => ?_)
  go_wp2
  refine nwp_seq (nwp_label ?_)
  simp only [Exit.then]
  refine nwp_seq_wp (nwp_block (nwp_loop (MoveI TI p c room p2 c2 room2 buf buf2 shut shut2 most N w) (fun a _ => N - (intOf (a.tmps.getD 7 undef)).toNat) ?_ ?_))
  · exact ⟨0, ⟨rfl, rfl, rfl, rfl, rfl, rfl⟩, by omega, by simpa using h, by simpa using h2, .refl _ _⟩
  · rintro a wr ⟨k, ⟨q0, q1, q2, q3, q4, q5⟩, hk, hs, hs2, kp⟩
    obtain ⟨u, rfl⟩ := act_of q0 q1 q2 q3 q4 q5
    clear q0 q1 q2 q3 q4 q5
    obtain ⟨n2, hn2⟩ : ∃ n2, buf2.length = n2 := ⟨_, rfl⟩
    have hNle : N ≤ buf.length := by rw [← HN.out]; unfold moveN; omega
    have hl2 : (buf2 ++ buf.take k).length = n2 + k := by rw [List.length_append, List.length_take, hn2]; omega
    have HN2 := Lib.hid hn2
    have HL2 := Lib.hid hl2
    have ho := open_any wr hs2
    have hlen := len_is wr hs2 hl2
    have hroom := room_any wr hs2
    clear hn2 hl2
    by_cases hgo : (k : Int) < most ∧ shut2 = false ∧ n2 + k < room2
    · obtain ⟨g1, rfl, g3⟩ := hgo
      have g3' : ((n2 + k : Nat) : Int) < (room2 : Int) := by omega
      refine nwp_seq_k (fun K hK => ?_)
      go_wp2_with (first
        | (go_at_call 28; refine ho.mono ?_; rintro e w' ⟨rfl, rfl⟩)
        | (go_at_call 27; refine hlen.mono ?_; rintro e w' ⟨rfl, rfl⟩)
        | (go_at_call 29; refine hroom.mono ?_; rintro e w' ⟨rfl, rfl⟩))
      refine nwp_block ?_
      obtain ⟨s, r, hc⟩ := hs.chan
      obtain ⟨h0, _, _⟩ := hs.cells
      have HC := Lib.hid hc
      have HS := Lib.hid hs
      clear hc
      refine nwp_seq_k (fun K hK => ?_)
      go_wp2
      match hd : buf.drop k, HS, HC with
      | [], HS, HC =>
        have hkN : k = N := by have := drop_none hd; omega
        have HD := Lib.hid hd
        clear hd
        have hend : Hid (N = k) := hkN.symm
        cases shut with
        | true =>
          refine nwp_seq_wp (nwp_recv_shut (c := c) (z := .int .i64 0) (w' := wr) rfl (by simp [go_sem, execOp, rcase, Act.eval]) HC.out ?_)
          clear hkN
          go_wp2
          try rw [Exit.noGoto_ret]
          go_ret
          exact movePost hend.out (by rw [HD.out]; exact HS.out) hs2 kp
        | false =>
          refine nwp_seq_wp (nwp_recv_none (c := c) (z := .int .i64 0) (w' := wr) rfl (by simp [go_sem, execOp, rcase, Act.eval]) HC.out ?_)
          clear hkN
          go_wp2
          try rw [Exit.noGoto_ret]
          go_ret
          exact movePost hend.out (by rw [HD.out]; exact HS.out) hs2 kp
      | v :: rest, HS, HC =>
        obtain ⟨y, rfl⟩ := hone v (List.mem_of_mem_drop (i := k) (by rw [hd]; simp))
        obtain ⟨hrest, htake, hkl⟩ := take_step hd
        have HREST := Lib.hid hrest
        have HTAKE := Lib.hid htake
        clear hd hrest htake
        refine nwp_seq_wp (nwp_recv_some (c := c) (z := .int .i64 0) (buf := (Value.int .i64 y :: rest).toArray) (w' := wr) rfl (by simp [go_sem, execOp, rcase, Act.eval]) HC.out (by simp) ?_)
        have hs3 : Spool (wr.setChan c room rest.toArray shut s (r + 1) false) TI p c room rest shut := HS.out.turn rest s (r + 1)
        have k3 := (Kept.refl (at2 c c2) wr).setChan (c := c) (fun _ => .inl rfl) room rest.toArray shut s (r + 1) false
        have hs4 := hs2.kept ((Kept.refl (at0 c) wr).setChan (c := c) (fun _ => rfl) room rest.toArray shut s (r + 1) false) (fun e => hs2.apart HS.out e) (fun e => hcc e.symm)
        have hput := put_is y _ hs4 (by rw [HL2.out]; exact g3)
        go_wp2_with (go_at_call 12; refine hput.mono ?_; rintro e w2 ⟨rfl, hs5, k5⟩)
        have hk2 : k + 1 ≤ N := by
          rw [← HN.out]
          have := HN2.out
          unfold moveN
          simp
          omega
        have k5' : Kept (at2 c c2) _ w2 := k5.mono fun g _ hg => .inr hg
        refine ⟨⟨k + 1, ⟨rfl, rfl, rfl, rfl, rfl, by show some (Value.int .i64 ((k : Int) + 1)) = _; rw [show ((k + 1 : Nat) : Int) = (k : Int) + 1 by omega]⟩, hk2, ?_, ?_, (kp.trans k3).trans k5'⟩, ?_⟩
        · rw [HREST.out]
          exact hs3.kept k5 (fun e => HS.out.apart hs2 e) (fun e => hcc e)
        · rw [HTAKE.out, ← List.append_assoc]
          exact hs5
        · show N - ((k : Int) + 1).toNat < N - (k : Int).toNat
          omega
    · have hkN : N ≤ k := by
        rw [← HN.out]
        unfold moveN
        rcases Classical.em ((k : Int) < most) with h1 | h1
        · cases hsh : shut2 with
          | true => simp
          | false =>
            have h3 : ¬ (n2 + k < room2) := fun h3 => hgo ⟨h1, hsh, h3⟩
            have := HN2.out
            simp
            omega
        · omega
      have hend : Hid (N = k) := Nat.le_antisymm hkN hk
      have hgo2 : ¬ (k : Int) < most ∨ (k : Int) < most ∧ shut2 = true ∨ (k : Int) < most ∧ shut2 = false ∧ ¬ (((n2 + k : Nat) : Int) < (room2 : Int)) := by
        rcases Classical.em ((k : Int) < most) with h1 | h1
        · cases hsh : shut2 with
          | true => exact .inr (.inl ⟨h1, rfl⟩)
          | false => exact .inr (.inr ⟨h1, rfl, fun h3 => hgo ⟨h1, hsh, by omega⟩⟩)
        · exact .inl h1
      clear hgo hkN
      refine nwp_of ?_
      rcases hgo2 with h1 | ⟨h1, rfl⟩ | ⟨h1, rfl, h3⟩
      all_goals
        go_wp2_with (first
          | (go_at_call 28; refine ho.mono ?_; rintro e w' ⟨rfl, rfl⟩)
          | (go_at_call 27; refine hlen.mono ?_; rintro e w' ⟨rfl, rfl⟩)
          | (go_at_call 29; refine hroom.mono ?_; rintro e w' ⟨rfl, rfl⟩))
        try rw [Exit.noGoto_ret]
        go_ret
        exact movePost hend.out hs hs2 kp
end Go.Proofs.Ytolfldjiejeboaa.Sp
