/-
  The walk of ticketwardlaw.HashSums: it returns true and writes nothing that was there. Conditions: the tables; the form's own reach.
-/
import Derived.Test.YtfbgiobbkdbboaaDoorHashRef
namespace Go.Proofs.YtfbgiobbkdbboaaDoor.HashSumsL
open Go.RowKit BytesW CellsW WordsW ArrW HashM HashX HashMath HashCompW HashRightW HashSumW HashSameW HashBlockW HashRefW

theorem build_state (S : List Nat) (h : S.length = 8) (w : World) : (Instr.build 27 #[(0, .agg (wc S).toArray)]).run Tryd.prog w = .ok (.agg (hc S 0 (.slice none 0 0)).toArray) w := by
  obtain ⟨a, b, c, d, e, f, g, i, rfl⟩ := eight8 h
  kernel_rfl

set_option maxHeartbeats 4000000 in
set_option maxRecDepth 100000 in
theorem walk (a : Option Addr) (l : List UInt8) (c : Nat) (w : World) (hA : Bs w w.heap.size a l) (hca : l.length ≤ c) (hl : l.length ≤ 140737488351232) (hT : TabK w ∧ TabI w ∧ TabR w) :
    Calls Tryd.prog 3 #[.slice a l.length c] w fun e w' => e = .returned (.bool true) ∧ Below w.heap.size w w' := by
  have HK := Lib.hid hT.1
  have HI := Lib.hid hT.2.1
  have HR := Lib.hid hT.2.2
  have HA := Lib.hid hA
  have HDB := Lib.hid (fun w' (hb : Below w.heap.size w w') => dbegin_any w' (HI.out.below hb))
  have HSa := Lib.hid (fun w' => same_any IV rfl 0 none none [] 0 0 w' (Bs.nil _ _ _) (Bs.nil _ _ _))
  have HSu := Lib.hid (fun w' (hb : Below w.heap.size w w') => sum_any a l c w' ((HA.out.below hb).more hb.size) hca (by omega) (HR.out.below hb))
  have HDS := Lib.hid (fun w' (hb : Below w.heap.size w w') => dsum_any a l c w' ((HA.out.below hb).more hb.size) hl (HI.out.below hb) (HK.out.below hb))
  have hD : (HashM.sum l).length = 32 := hend_len IV sm_IV l _
  clear hT hA
  go_enter Tryd.func3, Tryd.ntmps3
  go_wp2_with fail
  refine (begin_any w).mono ?_
  rintro e w1 ⟨rfl, b1⟩
  go_wp2_with fail
  refine (HDB.out w1 b1).mono ?_
  rintro e w2 ⟨rfl, b2⟩
  have x2 := b1.trans (b2.mono b1.size)
  have hbd := build_state IV rfl w2
  go_wp2_with fail
  refine (HSa.out w2).mono ?_
  rintro e w3 ⟨rfl, b3⟩
  have x3 := x2.trans (b3.mono x2.size)
  clear hbd
  go_wp2_with fail
  refine (HSu.out w3 x3).mono ?_
  rintro e w4 ⟨rfl, b4⟩
  have x4 := x3.trans (b4.mono x3.size)
  go_wp2_with fail
  refine (HDS.out w4 x4).mono ?_
  rintro e w5 ⟨rfl, b5⟩
  have x5 := x4.trans (b5.mono x4.size)
  have heq := eql_dig (HashM.sum l) hD w5
  go_wp2
  go_ret
  exact ⟨rfl, x5⟩
end Go.Proofs.YtfbgiobbkdbboaaDoor.HashSumsL
