/-
  The walk of ticketwardlaw.WideSums: it returns true and writes nothing that was there. Conditions: the tables; the form's own reach.
-/
import Derived.Test.YtmmmogccjopfeaaDoorWideD
namespace Go.Proofs.YtmmmogccjopfeaaDoor.WideSumsL
open Go.RowKit BytesW CellsW LongsW ArrW WideM WideX WideEndW WideCompW WideRowsW WideD

set_option maxHeartbeats 4000000 in
set_option maxRecDepth 100000 in
theorem walk (a : Option Addr) (l : List UInt8) (c : Nat) (w : World) (hA : Bs w w.heap.size a l) (hca : l.length ≤ c) (hl : l.length ≤ 140737488351232) (hT : TabR w ∧ TabE w ∧ TabG w) :
    Calls Tryd.prog 3 #[.slice a l.length c] w fun e w' => e = .returned (.bool true) ∧ Below w.heap.size w w' := by
  have HSu := Lib.hid (sum_any a l c w hA hca (by omega) hT.1)
  have HDS := Lib.hid (fun w' (hb : Below w.heap.size w w') => esum_any a l c w' ((hA.below hb).more hb.size) hl (hT.2.2.below hb) (hT.2.1.below hb))
  have hD := sum_len l
  clear hT hA
  go_enter Tryd.func3, Tryd.ntmps3
  go_wp2_with fail
  refine HSu.out.mono ?_
  rintro e w1 ⟨rfl, b1⟩
  go_wp2_with fail
  refine (HDS.out w1 b1).mono ?_
  rintro e w2 ⟨rfl, b2⟩
  have x2 := b1.trans (b2.mono b1.size)
  have heq := eql_wide (WideM.sum l) hD w2
  go_wp2
  go_ret
  exact ⟨rfl, x2⟩
end Go.Proofs.YtmmmogccjopfeaaDoor.WideSumsL
