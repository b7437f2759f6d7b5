/-
  Numbers of 32 bytes as values: their type, equality, noughts. Conditions: in each statement.
-/
import Derived.Test.YtfngomlknhappaaDoorKn
import Derived.Test.YtfngomlknhappaaDoorKc
namespace Go.Proofs.YtfngomlknhappaaDoor.FieldTW
open Go.RowKit BytesW ArrW ArrG ArrL FieldM NumA NumF

theorem num_u : Tryd.prog.underlying 23 = some (.array 32 5) := by kernel_rfl
theorem num_size : (Tryd.prog.info? 23).map (·.size) = some 32 := by kernel_rfl
theorem u8_desc : Tryd.prog.underlying 5 = some (.int .u8) := by kernel_rfl
theorem u8_size : (Tryd.prog.info? 5).map (·.size) = some 1 := by kernel_rfl
theorem eqn (D E : List UInt8) (hD : D.length = 32) (hE : E.length = 32) (w : World) : (Op.equalIn 10000 23 (.agg (Lib.byteCells D).toArray) (.agg (Lib.byteCells E).toArray)).run Tryd.prog w = .ok (decide (D = E)) w :=
  run_eqb_bytes w _ _ 32 D E num_u u8_desc u8_size hD hE
theorem eqn_same (D : List UInt8) (hD : D.length = 32) (w : World) : (Op.equalIn 10000 23 (.agg (Lib.byteCells D).toArray) (.agg (Lib.byteCells D).toArray)).run Tryd.prog w = .ok true w := by
  rw [eqn D D hD hD, decide_eq_true rfl]
theorem znum (w : World) : (Instr.build 23 #[]).run Tryd.prog w = .ok (.agg (Lib.byteCells zeros).toArray) w := by kernel_rfl
theorem bc32 {l : List UInt8} (h : l.length = 32) : (Lib.byteCells l).length = 32 := by rw [Lib.byteCells_length]; exact h
end Go.Proofs.YtfngomlknhappaaDoor.FieldTW
