/-
  ticketwardref.SameRows: whether two lists of rows are one. Conditions: bounds in the statement.
-/
import Derived.Test.YtgicbjpeagmfcaaRefAll
namespace Go.Proofs.Ytgicbjpeagmfcaa.SameRowsW
open Go.RowKit BytesW RowsW

/-- What SameRows hands back. -/
def SamePost (ls ms : List (List UInt8)) (w : World) (e : Ending) (w' : World) : Prop := e = .returned (.bool (decide (ls = ms))) ∧ Below w.heap.size w w'

theorem same_no {ls ms : List (List UInt8)} {w w' : World} (h : ls ≠ ms) (hb : Below w.heap.size w w') : SamePost ls ms w (.returned (.bool false)) w' := ⟨by rw [decide_eq_false h], hb⟩
theorem same_yes {ls ms : List (List UInt8)} {w w' : World} (h : ls = ms) (hb : Below w.heap.size w w') : SamePost ls ms w (.returned (.bool true)) w' := ⟨by rw [decide_eq_true h], hb⟩

set_option maxHeartbeats 4000000 in
set_option maxRecDepth 100000 in
theorem same_any (ls ms : List (List UInt8)) (A A' : Option Addr) (c c' B B' : Nat) (w : World) (hA : Ms w B A ls) (hA' : Ms w B' A' ms) (hl : ls.length ≤ 140737488355328) :
    Calls Try.prog 20 #[.slice A ls.length c, .slice A' ms.length c'] w (SamePost ls ms w) := by
  by_cases hlen : ls.length = ms.length
  · have ht : ((ls.length : Int) != (ms.length : Int)) = false := by simp [hlen]
    have HL := Lib.hid hlen
    clear hlen
    go_enter Try.func20, Try.ntmps20
    go_wp2
    go_loopw [13] (fun i wr => ∃ k : Nat, k ≤ ls.length ∧ i = .int .i64 k ∧ ls.take k = ms.take k ∧ Ms wr B A ls ∧ Ms wr B' A' ms ∧ Below w.heap.size w wr) (fun i _ => ls.length - (intOf i).toNat)
    case atStart => exact ⟨0, Nat.zero_le _, rfl, rfl, hA, hA', Below.refl _ _⟩
    case round =>
      clear hA hA'
      obtain ⟨k, hk, rfl, hE, hA, hA', hb⟩ := hrel
      have HE := Lib.hid hE
      clear hE
      by_cases hlt : k < ls.length
      · have hlt' : k < ms.length := by have := HL.out; omega
        obtain ⟨ad, a, c1, rfl, hadb, hcell, hBs, hc1⟩ := hA.at_ hlt
        obtain ⟨ad', a', c1', rfl, hadb', hcell', hBs', hc1'⟩ := hA'.at_ hlt'
        have q1 := fun n : Nat => Bs.conv (w := wr.drewN n) hBs c1
        have q2 := fun n : Nat => Bs.conv (w := wr.drewN n) hBs' c1'
        have g1 : (k : Int) < (ls.length : Int) := by omega
        have g2 : (k : Int) < (ms.length : Int) := by omega
        have HT1 := Lib.hid (List.take_succ_eq_append_getElem hlt)
        have HT2 := Lib.hid (List.take_succ_eq_append_getElem hlt')
        by_cases heq : ls[k] = ms[k]
        · have hb1 : (ls[k] == ms[k]) = true := beq_iff_eq.2 heq
          have HQ := Lib.hid heq
          clear heq
          go_wp2
          go_quiet (fail)
          go_wp2
          go_roundw
          case rel => exact ⟨k + 1, by omega, by go_num, by rw [HT1.out, HT2.out, HE.out, HQ.out], hA, hA', drewN hb _⟩
          case measure => simp [intOf]; omega
        · have hb1 : (ls[k] == ms[k]) = false := beq_eq_false_iff_ne.2 heq
          have HN := Lib.hid (show ls ≠ ms by
            intro e
            subst e
            exact heq rfl)
          clear heq
          go_wp2
          go_quiet (fail)
          go_wp2
          go_ret
          exact same_no HN.out (drewN hb _)
      · obtain rfl : k = ls.length := by omega
        have HN := Lib.hid (show ls = ms by
          have := HE.out
          rw [List.take_length] at this
          rw [this, HL.out, List.take_length])
        clear hA hA'
        go_wp2
        go_ret
        exact same_yes HN.out hb
  · have ht : ((ls.length : Int) != (ms.length : Int)) = true := by simp; omega
    have HN := Lib.hid (show ls ≠ ms by intro e; subst e; exact hlen rfl)
    clear hlen
    go_enter Try.func20, Try.ntmps20
    go_wp2
    go_ret
    exact same_no HN.out (Below.refl _ _)
end Go.Proofs.Ytgicbjpeagmfcaa.SameRowsW
