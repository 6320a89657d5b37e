/-
  The walk of 'changelinglaw04.LayoutLays'.
-/
import Derived.Test.YtidmclaaggoahaaRlH
namespace Go.Proofs.Ytidmclaaggoahaa.Ly
open Go.RowKit Pl Ar Mm Lx
set_option linter.unusedVariables false
set_option linter.unusedSimpArgs false
set_option maxRecDepth 100000 in
set_option maxHeartbeats 4000000 in
theorem lays_law (s : ByteArray) (hs : s.size ≤ 9223372036854775807) (w : World) :
    Calls Try.prog 3 #[.string s] w fun e w' => e = .returned (.bool true) ∧ Below w.heap.size w w' := by
  obtain ⟨r, hr⟩ : ∃ r, lexed s.data.toList = r := ⟨_, rfl⟩
  have HL := Lib.hid hr
  have hcnt := lexed_count s.data.toList
  rw [hr] at hcnt
  clear hr
  go_enter Try.func3, Try.ntmps3
  go_wp2_with fail
  refine (ltokens_is hs HL.out _).mono ?_
  rintro e w1 ⟨v1, rfl, o1, hb1⟩
  have S1 := Lib.hid (shows_own o1)
  have B1 := Lib.hid hb1
  have s1 := hb1.size
  clear o1 hb1
  obtain ⟨er, hre⟩ : ∃ er, r.err = er := ⟨_, rfl⟩
  obtain ⟨rl, hrl⟩ : ∃ rl, r.line = rl := ⟨_, rfl⟩
  obtain ⟨rc, hrc⟩ : ∃ rc, r.col = rc := ⟨_, rfl⟩
  rw [hre, hrl, hrc]
  obtain ⟨L, hLt⟩ : ∃ L, r.toks.map toM = L := ⟨_, rfl⟩
  have hlen : L.length ≤ 2048 := by rw [← hLt, List.length_map]; exact hcnt
  have hlen2 := layAll_len L
  rw [hLt] at S1
  clear hre hrl hrc hLt hcnt
  have hbk : ∀ w5 : World, Below (w1.heap.size + 1) (w1.alloc (.cells #[.int .i64 er, .int .i64 rl, .int .i64 rc] 27)) w5 → Below w.heap.size w w5 := fun w5 hb => (B1.out.alloc s1 _).trans (hb.mono (by omega))
  have HBK := Lib.hid hbk
  clear hbk
  by_cases q1 : er = 0
  · subst q1
    have S1b := Lib.hid (((S1.out.below ((Below.refl w1.heap.size w1).alloc (Nat.le_refl _) (.cells #[.int .i64 0, .int .i64 rl, .int .i64 rc] 27)) (Nat.le_refl _))).mono (show _ ≤ w1.heap.size + 1 by omega))
    go_wp2_with fail
    refine (Lay_is (L := L) (by omega) rfl _ (S1b.out.mono (by simp))).mono ?_
    rintro e w2 ⟨v2, rfl, o2, hb2⟩
    have S2 := Lib.hid (shows_own o2)
    have s2 := hb2.size
    simp only [World.size_alloc] at hb2 s2
    have S1c := Lib.hid ((S1b.out.below hb2 (Nat.le_refl _)).mono s2)
    have B2 := Lib.hid hb2
    clear o2 hb2
    go_wp2_with fail
    refine (rLay_any (by omega) _ S1c.out).mono ?_
    rintro e w3 ⟨v3, rfl, o3, hb3⟩
    have S3 := Lib.hid (shows_own o3)
    have s3 := hb3.size
    have S2b := Lib.hid ((S2.out.below hb3 (Nat.le_refl _)).mono s3)
    have B3 := Lib.hid (B2.out.trans (hb3.mono (by omega)))
    clear o3 hb3
    go_wp2_with fail
    refine (same_yes (by omega) _ S2b.out S3.out).mono ?_
    rintro e w4 ⟨rfl, hb4⟩
    have s4 := hb4.size
    have B4 := Lib.hid (B3.out.trans (hb4.mono (by omega)))
    clear hb4
    go_wp2_with fail
    refine (known_any _).mono ?_
    rintro e w5 ⟨rfl, hb5⟩
    have B5 := Lib.hid (HBK.out _ (B4.out.trans (hb5.mono (by omega))))
    clear hb5
    go_wp2
    go_returns
    exact ⟨rfl, B5.out⟩
  · have q1' : (er != 0) = true := by simp [q1]
    go_wp2_with fail
    refine (known_any _).mono ?_
    rintro e w5 ⟨rfl, hb5⟩
    have B5 := Lib.hid (HBK.out _ (by simpa using hb5))
    clear hb5
    go_wp2
    go_returns
    exact ⟨rfl, B5.out⟩
end Go.Proofs.Ytidmclaaggoahaa.Ly
namespace Go.Proofs.Ytidmclaaggoahaa.LayoutLays
open Go.RowKit Ly
theorem law (s : ByteArray) (hs : s.size ≤ 9223372036854775807) (w : World) :
    Calls Try.prog 3 #[.string s] w fun e w' => e = .returned (.bool true) ∧ Below w.heap.size w w' := lays_law s hs w
end Go.Proofs.Ytidmclaaggoahaa.LayoutLays
