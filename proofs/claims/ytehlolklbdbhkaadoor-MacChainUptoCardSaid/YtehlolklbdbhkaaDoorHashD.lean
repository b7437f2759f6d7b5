/-
  Digests and states of eight words: what the types are, equality. Conditions: in each statement.
-/
import Derived.Test.YtehlolklbdbhkaaDoorHashX
import Derived.Test.YtehlolklbdbhkaaDoorKc
import Derived.Lib.Hide
namespace Go.Proofs.YtehlolklbdbhkaaDoor.HashSumW
open Go.RowKit BytesW CellsW WordsW ArrW HashM HashX

theorem arr8 : Tryd.prog.underlying 51 = some (.array 8 50) := by kernel_rfl
theorem arr8_size : (Tryd.prog.info? 51).map (·.size) = some 8 := by kernel_rfl
theorem dig : Tryd.prog.underlying 24 = some (.array 32 5) := by kernel_rfl
theorem dig_size : (Tryd.prog.info? 24).map (·.size) = some 32 := by kernel_rfl
end Go.Proofs.YtehlolklbdbhkaaDoor.HashSumW
namespace Go.Proofs.YtehlolklbdbhkaaDoor.HashSameW
open Go.RowKit BytesW CellsW WordsW ArrW HashM HashX HashSumW

theorem word_desc : Tryd.prog.underlying 50 = some (.int .u32) := by kernel_rfl
theorem word_size : (Tryd.prog.info? 50).map (·.size) = some 1 := by kernel_rfl
theorem byte_desc : Tryd.prog.underlying 5 = some (.int .u8) := by kernel_rfl
theorem byte_size : (Tryd.prog.info? 5).map (·.size) = some 1 := by kernel_rfl
theorem eql_state (S : List Nat) (h : S.length = 8) (w : World) : (Op.equalIn 10000 51 (.agg (wc S).toArray) (.agg (wc S).toArray)).run Tryd.prog w = .ok true w :=
  run_eq_arr w 9998 _ _ 8 _ _ .u32 arr8 word_desc word_size (fun i hi => ⟨_, by simpa using wc_getD S i (by omega), by simpa using wc_getD S i (by omega)⟩)
theorem eql_dig (D : List UInt8) (h : D.length = 32) (w : World) : (Op.equalIn 10000 24 (.agg (Lib.byteCells D).toArray) (.agg (Lib.byteCells D).toArray)).run Tryd.prog w = .ok true w :=
  run_eq_arr w 9998 _ _ 32 _ _ .u8 dig byte_desc byte_size (fun i hi => ⟨_, by simpa using bc_getD D i (by omega), by simpa using bc_getD D i (by omega)⟩)
end Go.Proofs.YtehlolklbdbhkaaDoor.HashSameW
namespace Go.Proofs.YtehlolklbdbhkaaDoor.HashFinW
open Go.RowKit BytesW CellsW WordsW ArrW

theorem arr_bs {w : World} {g B : Nat} {t : TypeId} {D : List UInt8} (h : Arr w g t (Lib.byteCells D)) (hB : g < B) : Bs w B (some ⟨g, 0, none⟩) D := by
  intro _
  refine ⟨_, rfl, hB, fun k hk => ?_⟩
  rw [show (⟨g, 0, none⟩ : Addr).add k = ⟨g, k, none⟩ from by by_cases h0 : k = 0 <;> simp [Addr.add, h0], h.cell]
  simp [Lib.byteCells, hk]
end Go.Proofs.YtehlolklbdbhkaaDoor.HashFinW
