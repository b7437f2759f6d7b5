/-
  hash.Right: what it hands back. Conditions: in the statement.
-/
import Derived.Test.YtnlhcogmccladaaDoorHashX
import Derived.Test.YtnlhcogmccladaaDoorKc
import Derived.Test.YtnlhcogmccladaaDoorHashTurnM
import Derived.Deep.DeepCutAuto
import Derived.Test.YtnlhcogmccladaaDoorHashC
namespace Go.Proofs.YtnlhcogmccladaaDoor.HashRightW
open Go.RowKit BytesW CellsW WordsW ArrW HashM HashX HashSumW

set_option maxHeartbeats 4000000 in
set_option maxRecDepth 100000 in
theorem right_any (S : List Nat) (hS : Sm S) (long : Int) (A : Option Addr) (n c : Nat) (w : World) (h1 : -9223372036854775808 ≤ long) (h2 : long < 9223372036854775808) :
    Calls Tryd.prog 46 #[.agg (hc S long (.slice A n c)).toArray] w fun e w' => e = .returned (.bool (okH long n)) ∧ Below w.heap.size w w' := by
  go_enter Tryd.func46, Tryd.ntmps46
  go_upto_region 1 with (fail)
  generalize hW : World.alloc _ _ = W
  obtain ⟨H0, hbw, hsz⟩ := start1 hW
  clear hW
  have a0 : Arr W w.heap.size 61 (hc S long (.slice A n c)) := H0
  have c8 := a0.cell 8
  rw [hc_8 S long _ hS.1] at c8
  have c9 := a0.cell 9
  rw [hc_9 S long _ hS.1] at c9
  have HB := Lib.hid hbw
  clear a0 H0 hbw hsz
  by_cases p1 : 0 ≤ long
  · obtain ⟨L, rfl⟩ : ∃ L : Nat, long = (L : Int) := ⟨long.toNat, by omega⟩
    by_cases p2 : (L : Int) ≤ 1099511627776
    · have q2 : decide ((L : Int) ≤ 1099511627776) = true := decide_eq_true p2
      by_cases p3 : (n : Int) = (L : Int) % 64
      · have HR := Lib.hid (show okH (L : Int) n = true from decide_eq_true ⟨p1, p2, p3⟩)
        have q3 : ((n : Int) == (L : Int) % 64) = true := beq_iff_eq.2 p3
        clear p1 p3
        go_wp2
        go_ret
        exact ⟨by rw [HR.out]; rfl, HB.out⟩
      · have HR := Lib.hid (show okH (L : Int) n = false from decide_eq_false (fun h => p3 h.2.2))
        have q3 : ((n : Int) == (L : Int) % 64) = false := beq_eq_false_iff_ne.2 p3
        clear p1 p3
        go_wp2
        go_ret
        exact ⟨by rw [HR.out]; rfl, HB.out⟩
    · have q2 : decide ((L : Int) ≤ 1099511627776) = false := decide_eq_false p2
      have HR := Lib.hid (show okH (L : Int) n = false from decide_eq_false (fun h => p2 h.2.1))
      clear p1
      go_wp2
      go_ret
      exact ⟨by rw [HR.out]; rfl, HB.out⟩
  · have q1 : decide (0 ≤ long) = false := decide_eq_false p1
    have HR := Lib.hid (show okH long n = false from decide_eq_false (fun h => p1 h.1))
    clear p1
    go_wp2
    go_ret
    exact ⟨by rw [HR.out]; rfl, HB.out⟩
end Go.Proofs.YtnlhcogmccladaaDoor.HashRightW
