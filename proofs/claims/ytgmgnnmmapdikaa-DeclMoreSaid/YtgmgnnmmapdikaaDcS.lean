/-
  CONTRACTS: few; what must come of fixed calls.
-/
import Derived.Test.YtgmgnnmmapdikaaDcR
namespace Go.Proofs.Ytgmgnnmmapdikaa.Dc
open Go.RowKit Mm Tm Mv Go.Maps Go.ChangeMaps Go.MapKept Go.WideMaps
set_option linter.unusedVariables false
set_option linter.unusedSimpArgs false
/-- what few answers: where it says yes, all is few -/
def FewPost (l : List DataS) (w : World) (e : Ending) (w' : World) : Prop := ∃ t : Bool, e = .returned (.bool t) ∧ w' = w ∧ (t = true → l.length ≤ 30 ∧ ∀ d ∈ l, d.cons.length ≤ 30 ∧ d.params.length ≤ 30)
set_option maxRecDepth 100000 in
set_option maxHeartbeats 4000000 in
theorem few_any {l : List DataS} {a : Option Addr} {c : Nat} (w : World) (h : RdD (· < w.heap.size) w a l) (hn : l.length ≤ 9223372036854775807) (hz : ∀ d ∈ l, d.cons.length ≤ 9223372036854775807 ∧ d.params.length ≤ 9223372036854775807) :
    Calls Try.prog 6 #[.slice a l.length c] w (FewPost l w) := by
  have HA := Lib.hid h
  have HZ := Lib.hid hz
  clear h hz
  by_cases hbig : 30 < l.length
  · have hbig' : (30 : Int) < l.length := by omega
    go_enter Try.func6, Try.ntmps6
    go_wp2_with fail
    go_ret
    exact ⟨false, rfl, rfl, fun e => by cases e⟩
  · have hbig' : ¬ (30 : Int) < l.length := by omega
    go_enter Try.func6, Try.ntmps6
    go_wp2_with fail
    go_loopg [3] l.length (fun d v wr => ∃ k : Nat, k + d = l.length ∧ v = .int .i64 k ∧ w = wr ∧ ∀ d ∈ l.take k, d.cons.length ≤ 30 ∧ d.params.length ≤ 30)
    case atStart => exact ⟨0, by omega, rfl, rfl, fun d hd => by simp at hd⟩
    case round =>
      obtain ⟨k, hk, rfl, rfl, hall⟩ := hrel
      have HK := Lib.hid hk
      have HALL := Lib.hid hall
      have hkle : k ≤ l.length := by omega
      clear hk hall
      by_cases hlt : k < l.length
      · have hlt' : (k : Int) < l.length := by omega
        have hx := HA.out k l[k] (List.getElem?_eq_getElem hlt)
        have HT := Lib.hid (show l.take (k + 1) = l.take k ++ [l[k]] by rw [List.take_add_one, List.getElem?_eq_getElem hlt]; rfl)
        have hzx := HZ.out _ (List.getElem_mem hlt)
        generalize l[k] = x at hx HT hzx
        obtain ⟨ad, ap, cp, ac, cc, ln, co, rfl, hz, x0, x1, x2, x3, x4, hs, hps, hcs⟩ := hx
        have HCS := Lib.hid hcs
        obtain ⟨hz1, hz2⟩ := hzx
        clear hps hcs
        by_cases hc : 30 < x.cons.length
        · have hc' : decide ((30 : Int) < x.cons.length) = true := decide_eq_true (by omega)
          go_wp2_with fail
          go_ret
          exact ⟨false, rfl, rfl, fun e => by cases e⟩
        · have hc' : decide ((30 : Int) < x.cons.length) = false := decide_eq_false (by omega)
          by_cases hp : 30 < x.params.length
          · have hp' : decide ((30 : Int) < x.params.length) = true := decide_eq_true (by omega)
            go_wp2_with fail
            go_ret
            exact ⟨false, rfl, rfl, fun e => by cases e⟩
          · have hp' : decide ((30 : Int) < x.params.length) = false := decide_eq_false (by omega)
            go_wp2_with fail
            go_loopg [4] x.cons.length (fun d v wr => ∃ j : Nat, j + d = x.cons.length ∧ v = .int .i64 j ∧ w = wr)
            case atStart => exact ⟨0, by omega, rfl, rfl⟩
            case round =>
              obtain ⟨j, hj, rfl, rfl⟩ := hrel
              have HJ := Lib.hid hj
              have hjle : j ≤ x.cons.length := by omega
              clear hj
              by_cases hjt : j < x.cons.length
              · have hjt' : (j : Int) < x.cons.length := by omega
                have hy := HCS.out j x.cons[j] (List.getElem?_eq_getElem hjt)
                generalize x.cons[j] = y at hy
                obtain ⟨ad2, af, cf, ln2, co2, rfl, hz2', u0, u1, u2, u3, hsy, hfy, hry⟩ := hy
                clear hry
                by_cases hf : 30 < y.fields.length
                · have hf' : decide ((30 : Int) < y.fields.length) = true := decide_eq_true (by omega)
                  go_wp2_with fail
                  go_ret
                  exact ⟨false, rfl, rfl, fun e => by cases e⟩
                · have hf' : decide ((30 : Int) < y.fields.length) = false := decide_eq_false (by omega)
                  go_wp2_with fail
                  go_roundg (x.cons.length - (j + 1))
                  case measure => have := HJ.out; omega
                  case rel => exact ⟨j + 1, by have := HJ.out; omega, by go_num, rfl⟩
              · have hge2 : ¬ (j : Int) < x.cons.length := by omega
                go_wp2_with fail
                go_roundg (l.length - (k + 1))
                case measure => have := HK.out; omega
                case rel =>
                  exact ⟨k + 1, by have := HK.out; omega, by go_num, rfl, fun d hd => by
                    rw [HT.out] at hd
                    rcases List.mem_append.1 hd with q | q
                    · exact HALL.out d q
                    · simp only [List.mem_singleton] at q
                      subst q
                      omega⟩
      · have hge : ¬ (k : Int) < l.length := by omega
        have hkn : k = l.length := by omega
        have HAL := Lib.hid (show ∀ d ∈ l, d.cons.length ≤ 30 ∧ d.params.length ≤ 30 by have := HALL.out; rw [hkn, List.take_length] at this; exact this)
        clear hkn
        go_wp2_with fail
        go_ret
        exact ⟨true, rfl, rfl, fun _ => ⟨by omega, HAL.out⟩⟩
end Go.Proofs.Ytgmgnnmmapdikaa.Dc
