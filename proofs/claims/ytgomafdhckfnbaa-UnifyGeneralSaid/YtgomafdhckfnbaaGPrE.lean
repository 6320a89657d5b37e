/-
  CONTRACT: a store in which pairs were made the same: joined.
-/
import Derived.Test.YtgomafdhckfnbaaGE
import Derived.Test.YtgomafdhckfnbaaGPrC
import Derived.Test.YtgomafdhckfnbaaGPrD

namespace Go.Proofs.Ytgomafdhckfnbaa.Un
open Go.RowKit Go.Shelf Mm Tm Mk Go.Maps Go.ChangeMaps Go.MapKept Go.WideMaps Rg Ua
set_option linter.unusedVariables false
set_option linter.unusedSimpArgs false
def JoinPost (q d kk : Nat) (l : List Pr) (base : Nat) (w : World) (e : Ending) (w' : World) : Prop := ∃ s m nx v, e = .returned (.tuple #[.pointer (some ⟨s, 0, none⟩), .bool v]) ∧ Below base w w' ∧ (v = false → JoinNo q d kk l) ∧ (v = true → fewP l ∧ ∃ K cnt, JoinR q d kk l K cnt ∧ StoreI base w' s m nx K cnt)
/-- a type below the base -/
theorem tyR_low {base : Nat} {w w' : World} {x : Ty} {a : Option Addr} (h : RdT (· < base) w a x.args 0) (hb : Below base w w') (hs : base ≤ w'.heap.size) (h1 : x.args.len * 56 ≤ 140737488355328) (h2 : x.nm.size ≤ 9223372036854775807) : TyR base w' x a :=
  ⟨(h.below hb fun q h => h).mono fun q h => .inl ⟨h, Nat.lt_of_lt_of_le h hs⟩, h1, h2⟩
theorem take_next {l : List Pr} {k : Nat} {p : Pr} (hp : l[k]? = some p) : l.take (k + 1) = l.take k ++ [p] := by
  rw [List.take_add_one, hp]; rfl
/-- one pair more -/
def StepPost (q d kk : Nat) (l : List Pr) (k base s m : Nat) (w : World) (e : Ending) (w' : World) : Prop := ∃ er, e = .returned (.int .i64 er) ∧ Below base w w' ∧ (er = 0 → ∃ K cnt nx, JoinR q d kk (l.take (k + 1)) K cnt ∧ StoreI base w' s m nx K cnt) ∧ (er ≠ 0 → JoinNo q d kk l)
theorem step_any {q d kk : Nat} (hN : Nums q d kk) {base s m cnt k cx cy : Nat} {nx : Int} {K : PS} {l : List Pr} {x y : Ty} {ax ay : Option Addr} (w : World) (hb : base ≤ w.heap.size) (hfew : fewP l) (hp : l[k]? = some (x, y)) (hj : JoinR q d kk (l.take k) K cnt) (hS : StoreI base w s m nx K cnt) (hx : TyR base w x ax) (hy : TyR base w y ay) :
    Calls Try.prog 18 #[.pointer (some ⟨s, 0, none⟩), .agg #[.int .i64 x.kd, .int .i64 x.n, .string x.nm, .slice ax x.args.len cx], .agg #[.int .i64 y.kd, .int .i64 y.n, .string y.nm, .slice ay y.args.len cy]] w (StepPost q d kk l k base s m w) := by
  cases hok : okTy x && okTy y with
  | false => exact (unify_no (s := s) w hx hy hok).mono fun e w' ⟨he, hb'⟩ => ⟨1, he, hb'.mono hb, fun h => absurd h (by decide), fun _ => .inr ⟨k, (x, y), K, cnt, hp, hj, .inl hok⟩⟩
  | true =>
    rw [Bool.and_eq_true] at hok
    have hkl : k < l.length := (List.getElem?_eq_some_iff.1 hp).1
    have hlk : (l.take k).length = k := by rw [List.length_take]; omega
    have h40 := hfew.1
    have hkb := hj.kb hN (by omega) fun p hp => hfew.2 p (List.mem_of_mem_take hp)
    rw [hlk] at hkb
    have hsm := hfew.2 _ (List.mem_of_getElem? hp)
    obtain ⟨er, K', c', hu, hk'⟩ := hkb.unify hN (by omega) hok.1 hok.2 hsm.1 hsm.2
    refine (unify_any (cx := cx) (cy := cy) w hS hb hx hy hok.1 hok.2 (Nat.le_of_eq hN.d) (Nat.le_of_eq hN.k) (by have := hkb.2; omega) hu).mono fun e w' ⟨he, hS', hk3⟩ => ⟨er, he, KG.below hk3 hb, fun h0 => ⟨K', c', _, ?_, hS'⟩, fun h0 => .inr ⟨k, (x, y), K, cnt, hp, hj, .inr ⟨er, _, h0, hu⟩⟩⟩
    rw [take_next hp]
    exact .snoc hj hok.1 hok.2 (by rw [← h0]; exact hu)
set_option maxRecDepth 100000 in
set_option maxHeartbeats 8000000 in
theorem joined_any {q d kk : Nat} (hN : Nums q d kk) {base : Nat} {a : Option Addr} {n c : Nat} {l : List Pr} (w : World) (hbase : base = w.heap.size) (hln : l.length = n) (hn : n * 112 ≤ 140737488355328) (hr : Prs (· < base) w a l) :
    Calls Try.prog 9 #[.slice a n c] w (JoinPost q d kk l base w) := by
  have HR := Lib.hid hr
  have HNN := Lib.hid hN
  have HLN := Lib.hid hln
  have HBS := Lib.hid hbase
  have hlen : n ≤ 140737488355328 := by omega
  clear hr hN hln hbase
  go_enter Try.func9, Try.ntmps9
  go_wp2_with fail
  refine (new_store (base := base) w (Nat.le_of_eq HBS.out)).mono ?_
  rintro e w1 ⟨s, m, rfl, _, _, hS, hb⟩
  have HB1 : Hid (Below base w w1) := Lib.hid (by rw [HBS.out]; exact hb)
  have HS1 := Lib.hid hS
  have hsz1 : base ≤ w1.heap.size := by have := hb.size; have := HBS.out; omega
  have HFW := Lib.hid (few_any (c := c) w1 HLN.out hn (HR.out.below HB1.out fun b h => h) fun b h => by omega)
  clear hS hb
  by_cases hfew : fewP l
  case neg =>
    rw [decide_eq_false hfew] at HFW
    have HNO := Lib.hid (show JoinNo q d kk l from .inl hfew)
    clear hfew
    go_wp2_with fail
    refine HFW.out.mono ?_
    rintro e w2 ⟨rfl, hb2⟩
    have HB2 := Lib.hid (HB1.out.trans (hb2.mono hsz1))
    clear hb2
    go_wp2_with fail
    refine bodyPost_ret (v := .tuple #[.pointer (some ⟨s, 0, none⟩), .bool false]) (by simp [results, Try.results9, go_sem]) rfl ?_
    exact ⟨s, m, 0, false, rfl, HB2.out, fun _ => HNO.out, fun e => by cases e⟩
  rw [decide_eq_true hfew] at HFW
  have HFEW := Lib.hid hfew
  clear hfew
  go_wp2_with fail
  refine HFW.out.mono ?_
  rintro e w2 ⟨rfl, hb2⟩
  have HB2 := Lib.hid (HB1.out.trans (hb2.mono hsz1))
  have HS2 := Lib.hid (HS1.out.below hb2)
  clear hb2
  go_wp2_with fail
  go_loopg [5] n (fun dd v5 wr => ∃ (k : Nat) (K : PS) (cnt : Nat) (nx : Int), k + dd = n ∧ v5 = .int .i64 k ∧ JoinR q d kk (l.take k) K cnt ∧ StoreI base wr s m nx K cnt ∧ Below base w wr)
  case atStart => exact ⟨0, _, 0, 0, by omega, rfl, by rw [List.take_zero]; exact .nil, HS2.out, HB2.out⟩
  case round =>
    obtain ⟨k, K, cnt, nx, hkd, rfl, hj, hS, hb⟩ := hrel
    have HK := Lib.hid hkd
    have HB := Lib.hid hb
    have HJ := Lib.hid hj
    have HS := Lib.hid hS
    have hkle : k ≤ n := by omega
    have hwr : base ≤ wr.heap.size := by have := hb.size; have := HBS.out; omega
    clear hkd hb hj hS
    by_cases hlt : k < n
    · have hlt' : (k : Int) < n := by omega
      have hkL : k < l.length := by rw [HLN.out]; exact hlt
      have hx := HR.out.below HB.out (fun b h => h) k l[k] (List.getElem?_eq_getElem hkL)
      have HMM := Lib.hid (List.getElem?_eq_getElem hkL)
      generalize l[k] = p at hx HMM
      obtain ⟨x, y⟩ := p
      obtain ⟨ad, a2, c2, a3, c3, rfl, _, z0, z1, z2, z3, z4, z5, z6, z7, nx1, lx, rx, ny1, ly, ry⟩ := hx
      have zb : ad.block < base := by assumption
      have HU := Lib.hid (step_any HNN.out (cx := c2) (cy := c3) wr.drew hwr HFEW.out HMM.out HJ.out (HS.out.below (Below.refl _ wr).drew) (tyR_low rx (Below.refl _ wr).drew hwr lx nx1) (tyR_low ry (Below.refl _ wr).drew hwr ly ny1))
      clear rx ry
      go_wp2_with fail
      go_region_held3 (fun w' => w'.cell? (ad.add (k * 8)) = some (.int .i64 x.kd) ∧ w'.cell? ⟨(ad.add (k * 8)).block, (ad.add (k * 8)).off + 1, none⟩ = some (.int .i64 x.n) ∧ w'.cell? ⟨(ad.add (k * 8)).block, (ad.add (k * 8)).off + 2, none⟩ = some (.string x.nm) ∧ w'.cell? ⟨(ad.add (k * 8)).block, (ad.add (k * 8)).off + 3, none⟩ = some (.slice a2 x.args.len c2) ∧ w'.cell? ⟨(ad.add (k * 8)).block, (ad.add (k * 8)).off + 4, none⟩ = some (.int .i64 y.kd) ∧ w'.cell? ⟨(ad.add (k * 8)).block, (ad.add (k * 8)).off + 5, none⟩ = some (.int .i64 y.n) ∧ w'.cell? ⟨(ad.add (k * 8)).block, (ad.add (k * 8)).off + 6, none⟩ = some (.string y.nm) ∧ w'.cell? ⟨(ad.add (k * 8)).block, (ad.add (k * 8)).off + 7, none⟩ = some (.slice a3 y.args.len c3))
        (first
          | exact ⟨z0, z1, z2, z3, z4, z5, z6, z7⟩
          | exact ⟨k0, k1, k2, k3, k4, k5, k6, k7⟩
          | go_keep)
        (first | (go_at_call 18; refine HU.out.mono ?_; rintro e w3 ⟨er, rfl, hb3, hy3, hn3⟩; replace hb3 : Below base wr w3 := ⟨hb3.os, hb3.tape, hb3.output, hb3.size, hb3.block⟩; have zb' : (ad.add (k * 8)).block < base := (by rw [add_block]; exact zb); have k0 := (hb3.cell zb').trans z0; have k1 := (hb3.cell (p := ⟨_, _, none⟩) zb').trans z1; have k2 := (hb3.cell (p := ⟨_, _, none⟩) zb').trans z2; have k3 := (hb3.cell (p := ⟨_, _, none⟩) zb').trans z3; have k4 := (hb3.cell (p := ⟨_, _, none⟩) zb').trans z4; have k5 := (hb3.cell (p := ⟨_, _, none⟩) zb').trans z5; have k6 := (hb3.cell (p := ⟨_, _, none⟩) zb').trans z6; have k7 := (hb3.cell (p := ⟨_, _, none⟩) zb').trans z7))
      have HB3 := Lib.hid (HB.out.trans hb3)
      have HY3 := Lib.hid hy3
      have HN3 := Lib.hid hn3
      clear hb3 hy3 hn3 k0 k1 k2 k3 k4 k5 k6 k7
      by_cases he : er = 0
      · have q9 : (er != 0) = false := by simpa using he
        obtain ⟨K', c', nx', hj', hs'⟩ := HY3.out he
        have HJ' := Lib.hid (And.intro hj' hs')
        clear he hj' hs'
        go_wp2_with fail
        go_roundg (n - (k + 1))
        case measure => have := HK.out; omega
        case rel => exact ⟨k + 1, K', c', nx', by have := HK.out; omega, by go_num, HJ'.out.1, HJ'.out.2, HB3.out⟩
      · have q9 : (er != 0) = true := by simpa using he
        have HNO := Lib.hid (HN3.out he)
        clear he
        go_wp2_with fail
        refine bodyPost_ret (v := .tuple #[.pointer (some ⟨s, 0, none⟩), .bool false]) (by simp [results, Try.results9, go_sem]) rfl ?_
        exact ⟨s, m, 0, false, rfl, HB3.out, fun _ => HNO.out, fun e => by cases e⟩
    · have hge : ¬ (k : Int) < n := by omega
      have HJN := Lib.hid (show JoinR q d kk l K cnt by have h := HJ.out; rw [List.take_of_length_le (by rw [HLN.out]; omega)] at h; exact h)
      go_wp2_with fail
      refine bodyPost_ret (v := .tuple #[.pointer (some ⟨s, 0, none⟩), .bool true]) (by simp [results, Try.results9, go_sem]) rfl ?_
      exact ⟨s, m, nx, true, rfl, HB.out, (fun e => by cases e), fun _ => ⟨HFEW.out, K, cnt, HJN.out, HS.out⟩⟩
end Go.Proofs.Ytgomafdhckfnbaa.Un
