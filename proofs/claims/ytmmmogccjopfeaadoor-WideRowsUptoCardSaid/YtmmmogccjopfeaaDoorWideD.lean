/-
  Sums of 64 bytes: what the type is, equality. Conditions: in each statement.
-/
import Derived.Test.YtmmmogccjopfeaaDoorWideRows
import Derived.Test.YtmmmogccjopfeaaDoorArrEq
import Derived.Lib.Hide
namespace Go.Proofs.YtmmmogccjopfeaaDoor.WideD
open Go.RowKit BytesW CellsW LongsW ArrW WideM WideX WideMore WideEndW

theorem wide : Tryd.prog.underlying 24 = some (.array 64 5) := by kernel_rfl
theorem wide_size : (Tryd.prog.info? 24).map (·.size) = some 64 := by kernel_rfl
theorem byte_desc : Tryd.prog.underlying 5 = some (.int .u8) := by kernel_rfl
theorem byte_size : (Tryd.prog.info? 5).map (·.size) = some 1 := by kernel_rfl
theorem bc_getD (L : List UInt8) (k : Nat) (h : k < L.length) : (Lib.byteCells L)[k]? = some (.int .u8 ((L.getD k 0).toNat : Int)) := by
  unfold Lib.byteCells
  rw [List.getElem?_map, List.getElem?_eq_getElem h]
  simp [List.getD_eq_getElem?_getD, List.getElem?_eq_getElem h]
theorem eql_wide (D : List UInt8) (h : D.length = 64) (w : World) : (Op.equalIn 10000 24 (.agg (Lib.byteCells D).toArray) (.agg (Lib.byteCells D).toArray)).run Tryd.prog w = .ok true w :=
  run_eq_arr w 9998 _ _ 64 _ _ .u8 wide byte_desc byte_size (fun i hi => ⟨_, by simpa using bc_getD D i (by omega), by simpa using bc_getD D i (by omega)⟩)
theorem sum_len (l : List UInt8) : (WideM.sum l).length = 64 := by rw [sum_tail]; exact digest_len _ (sm_run _ _ sm_IV).1
end Go.Proofs.YtmmmogccjopfeaaDoor.WideD
