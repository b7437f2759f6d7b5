/-
  Digests and states of eight words: what the types are, equality. Conditions: in each statement.
-/
import Derived.Test.YtnlhcogmccladaaDoorHashX
import Derived.Test.YtnlhcogmccladaaDoorKc
import Derived.Lib.Hide
namespace Go.Proofs.YtnlhcogmccladaaDoor.HashSumW
open Go.RowKit BytesW CellsW WordsW ArrW HashM HashX

theorem arr8 : Tryd.prog.underlying 59 = some (.array 8 58) := by kernel_rfl
theorem arr8_size : (Tryd.prog.info? 59).map (·.size) = some 8 := by kernel_rfl
theorem dig : Tryd.prog.underlying 27 = some (.array 32 5) := by kernel_rfl
theorem dig_size : (Tryd.prog.info? 27).map (·.size) = some 32 := by kernel_rfl
end Go.Proofs.YtnlhcogmccladaaDoor.HashSumW
namespace Go.Proofs.YtnlhcogmccladaaDoor.HashSameW
open Go.RowKit BytesW CellsW WordsW ArrW HashM HashX HashSumW

theorem word_desc : Tryd.prog.underlying 58 = some (.int .u32) := by kernel_rfl
theorem word_size : (Tryd.prog.info? 58).map (·.size) = some 1 := by kernel_rfl
theorem byte_desc : Tryd.prog.underlying 5 = some (.int .u8) := by kernel_rfl
theorem byte_size : (Tryd.prog.info? 5).map (·.size) = some 1 := by kernel_rfl
theorem eql_state (S : List Nat) (h : S.length = 8) (w : World) : (Op.equalIn 10000 59 (.agg (wc S).toArray) (.agg (wc S).toArray)).run Tryd.prog w = .ok true w :=
  run_eq_arr w 9998 _ _ 8 _ _ .u32 arr8 word_desc word_size (fun i hi => ⟨_, by simpa using wc_getD S i (by omega), by simpa using wc_getD S i (by omega)⟩)
theorem eql_dig (D : List UInt8) (h : D.length = 32) (w : World) : (Op.equalIn 10000 27 (.agg (Lib.byteCells D).toArray) (.agg (Lib.byteCells D).toArray)).run Tryd.prog w = .ok true w :=
  run_eq_arr w 9998 _ _ 32 _ _ .u8 dig byte_desc byte_size (fun i hi => ⟨_, by simpa using bc_getD D i (by omega), by simpa using bc_getD D i (by omega)⟩)
end Go.Proofs.YtnlhcogmccladaaDoor.HashSameW
namespace Go.Proofs.YtnlhcogmccladaaDoor.HashFinW
open Go.RowKit BytesW CellsW WordsW ArrW

theorem arr_bs {w : World} {g B : Nat} {t : TypeId} {D : List UInt8} (h : Arr w g t (Lib.byteCells D)) (hB : g < B) : Bs w B (some ⟨g, 0, none⟩) D := by
  intro _
  refine ⟨_, rfl, hB, fun k hk => ?_⟩
  rw [show (⟨g, 0, none⟩ : Addr).add k = ⟨g, k, none⟩ from by by_cases h0 : k = 0 <;> simp [Addr.add, h0], h.cell]
  simp [Lib.byteCells, hk]
end Go.Proofs.YtnlhcogmccladaaDoor.HashFinW
