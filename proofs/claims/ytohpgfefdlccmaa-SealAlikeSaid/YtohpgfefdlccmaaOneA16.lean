/-
  Arrays of sixteen bytes: equality. Conditions: in each statement.
-/
import Derived.Test.YtohpgfefdlccmaaKc
namespace Go.Proofs.Ytohpgfefdlccmaa.OneA16
open Go.RowKit BytesW ArrW

theorem a16 : Try.prog.underlying 33 = some (.array 16 5) := by kernel_rfl
theorem a16_size : (Try.prog.info? 33).map (·.size) = some 16 := by kernel_rfl
theorem one_u8 : (Try.prog.info? 5).map (·.size) = some 1 := by kernel_rfl
/-- '==' of two arrays of bytes. -/
theorem eql16 (D : List UInt8) (h : D.length = 16) (w : World) : (Op.equalIn 10000 33 (.agg (Lib.byteCells D).toArray) (.agg (Lib.byteCells D).toArray)).run Try.prog w = .ok true w :=
  run_eq_arr w 9998 _ 5 16 _ _ .u8 a16 Try.underlying5 one_u8 (fun i hi => by
    have hl : i < D.length := by omega
    have e : (Lib.byteCells D).toArray[i]? = some (.int .u8 (D[i].toNat : Int)) := by simp [Lib.byteCells, List.getElem?_eq_getElem hl]
    exact ⟨_, e, e⟩)
theorem arr_bs {w : World} {g B : Nat} {t : TypeId} {D : List UInt8} (h : Arr w g t (Lib.byteCells D)) (hB : g < B) : Bs w B (some ⟨g, 0, none⟩) D := by
  intro _
  refine ⟨_, rfl, hB, fun k hk => ?_⟩
  rw [show (⟨g, 0, none⟩ : Addr).add k = ⟨g, k, none⟩ from by by_cases h0 : k = 0 <;> simp [Addr.add, h0], h.cell]
  unfold Lib.byteCells
  rw [List.getElem?_map, List.getElem?_eq_getElem hk]
  rfl
end Go.Proofs.Ytohpgfefdlccmaa.OneA16
