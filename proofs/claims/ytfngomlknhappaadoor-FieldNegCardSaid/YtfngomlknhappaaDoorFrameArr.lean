/-
  From a law's argument, as data, to what a walk is told of it: an array of bytes by value. Conditions: none.
-/
import Derived.Test.YtfngomlknhappaaDoorFrameAgg
namespace Go.Proofs.YtfngomlknhappaaDoor.FrameArr
open Go.ChangeShapes Go.WideShapes Go.ChangeAt Go.RowKit BytesW FrameAgg
variable {H : Type} {enc : TypeId × Value → H}

theorem byte_desc : Tryd.prog.underlying 5 = some (.int .u8) := by kernel_rfl
theorem byte_cells : Tryd.prog.cellsOf 5 = 1 := by kernel_rfl

theorem okWide_array {W : World} {r0 : Reach} {b0 n : Nat} {t e : TypeId} {v : Value} (ht : Tryd.prog.underlying t = some (.array n e)) (h : Value.okWide Tryd.prog W r0 b0 t v) : ∃ cs, v = .agg cs ∧ cs.size = Tryd.prog.cellsOf t := by
  simp only [Value.okWide, ht] at h
  obtain ⟨cs, h1, h2, _⟩ := h
  exact ⟨cs, h1, h2⟩
/-- An array of bytes that came in. -/
theorem bytes_arr {W : World} {r0 : Reach} {b0 n : Nat} {t : TypeId} {v : Value} {d : DataW H} {ps : List MemPlace} (ht : Tryd.prog.underlying t = some (.array n 5)) (hn : Tryd.prog.cellsOf t = n)
    (hv : Value.okWide Tryd.prog W r0 b0 t v) (h : DataW.Trod enc Tryd.prog W 0 (fun _ => true) true t v d ps) : ∃ K : List UInt8, v = .agg (Lib.byteCells K).toArray ∧ K.length = n := by
  obtain ⟨cs, rfl, hsz⟩ := okWide_array ht hv
  obtain ⟨fuel, hf⟩ := h
  obtain ⟨zs, hzl, ez, wz, _⟩ := arr_ints ht byte_desc byte_cells hn hf
  have hw : ∀ z ∈ zs, z = ((UInt8.ofNat z.toNat).toNat : Int) := fun z hz => by
    have := wz z hz
    have hx : 0 ≤ z ∧ z ≤ 255 := by simpa [Lit.wf, IntKind.min, IntKind.max, IntKind.signed, IntKind.bits] using this
    rw [UInt8.toNat_ofNat']
    omega
  refine ⟨zs.map fun z => UInt8.ofNat z.toNat, ?_, by simp [hzl]⟩
  congr 1
  apply Array.toList_inj.1
  have e1 : (Value.agg cs).cells.toList = cs.toList := by simp [Value.cells]
  rw [e1] at ez
  rw [ez]
  simp only [Lib.byteCells, List.map_map]
  apply List.map_congr_left
  intro z hz
  simp only [Function.comp]
  rw [← hw z hz]
end Go.Proofs.YtfngomlknhappaaDoor.FrameArr
