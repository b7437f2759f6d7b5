/-
  From a law's argument, as data, to what a walk is told of it: a state of hash. Conditions: none.
-/
import Derived.Test.YtfbgiobbkdbboaaDoorFrameAgg
import Derived.Test.YtfbgiobbkdbboaaDoorHashRight
namespace Go.Proofs.YtfbgiobbkdbboaaDoor.FrameHash
open Go.ChangeShapes Go.WideShapes Go.ChangeAt Go.RowKit BytesW WordsW HashM HashX HashRightW FrameAgg
variable {H : Type} {enc : TypeId × Value → H}

theorem hash_fields : fieldsOf Tryd.prog 27 = [(25, 0), (3, 8), (22, 9)] := by kernel_rfl
theorem hash_cells : Tryd.prog.cellsOf 27 = 10 := by kernel_rfl
theorem arr_desc : Tryd.prog.underlying 25 = some (.array 8 24) := by kernel_rfl
theorem arr_cells : Tryd.prog.cellsOf 25 = 8 := by kernel_rfl
theorem word_desc : Tryd.prog.underlying 24 = some (.int .u32) := by kernel_rfl
theorem word_cells : Tryd.prog.cellsOf 24 = 1 := by kernel_rfl
theorem int_cells : Tryd.prog.cellsOf 3 = 1 := by kernel_rfl
theorem slice_cells : Tryd.prog.cellsOf 22 = 1 := by kernel_rfl

/-- A state that came in. -/
theorem hash_in {W : World} {r0 : Reach} {b0 : Nat} {v : Value} {d : DataW H} {ps : List MemPlace} (hv : Value.okWide Tryd.prog W r0 b0 27 v) (h : DataW.Trod enc Tryd.prog W 0 (fun _ => true) true 27 v d ps) :
    ∃ (S : List Nat) (long : Int) (A : Option Addr) (r : List UInt8) (c : Nat), v = .agg (hc S long (.slice A r.length c)).toArray ∧ Sm S ∧ (-9223372036854775808 ≤ long ∧ long < 9223372036854775808) ∧ r.length ≤ c ∧ Bs W W.heap.size A r := by
  obtain ⟨f0, f1, f2, hu, ⟨t0, o0⟩, ⟨t1, o1⟩, t2, o2⟩ := fields3 hash_fields
  obtain ⟨cs, rfl, hsz⟩ := okWide_struct hu hv
  obtain ⟨fuel, hf⟩ := h
  obtain ⟨y0, y1, y2, n, hx, hl, h0, h1, h2⟩ := Go.Deep.trod_struct3 hu hf
  rw [t0, o0] at h0
  rw [t1, o1] at h1
  rw [t2, o2] at h2
  simp only at h0 h1 h2
  rw [arr_cells] at h0
  rw [int_cells] at h1
  rw [slice_cells] at h2
  rw [hash_cells] at hl
  obtain ⟨zs, hzl, ez, wz, _⟩ := arr_ints arr_desc word_desc word_cells arr_cells h0
  obtain ⟨long, el, _, wl⟩ := DataW.trod_int Tryd.underlying3 h1
  obtain ⟨A, m, c, es⟩ := slice_cell Tryd.underlying22 h2
  rw [es] at h2
  obtain ⟨r, rfl, hc, hb, _⟩ := Frame.bytes_in (d := y2.1) (ps := y2.2) ⟨n, by simpa [Value.cells] using h2⟩
  have hcs : cs.toList = zs.map (Value.int .u32) ++ [.int .i64 long, .slice A r.length c] := by
    have e1 : (Value.agg cs).cells.toList = cs.toList := by simp [Value.cells]
    rw [e1] at ez el es hl
    have d1 : cs.toList = cs.toList.take 8 ++ ((cs.toList.drop 8).take 1 ++ cs.toList.drop 9) := by
      rw [show cs.toList.drop 9 = (cs.toList.drop 8).drop 1 by rw [List.drop_drop], List.take_append_drop, List.take_append_drop]
    have d2 : cs.toList.drop 9 = (cs.toList.drop 9).take 1 := (List.take_of_length_le (by rw [List.length_drop]; omega)).symm
    rw [d1, d2, el, es]
    rw [show cs.toList.take 8 = zs.map (Value.int .u32) by simpa using ez]
    simp
  have hw : ∀ z ∈ zs, z = ((z.toNat : Nat) : Int) ∧ z.toNat < 4294967296 := fun z hz => by
    have := wz z hz
    have hx : 0 ≤ z ∧ z ≤ 4294967295 := by simpa [Lit.wf, IntKind.min, IntKind.max, IntKind.signed, IntKind.bits] using this
    omega
  refine ⟨zs.map Int.toNat, long, A, r, c, ?_, ⟨by simp [hzl], fun x hx => ?_⟩, ?_, hc, hb⟩
  · congr 1
    apply Array.toList_inj.1
    rw [hcs]
    simp only [HashRightW.hc, wc, List.map_map]
    congr 1
    apply List.map_congr_left
    intro z hz
    simp only [Function.comp]
    rw [← (hw z hz).1]
  · obtain ⟨z, hz, rfl⟩ := List.mem_map.1 hx
    exact (hw z hz).2
  · have hx : -9223372036854775808 ≤ long ∧ long ≤ 9223372036854775807 := by simpa [Lit.wf, IntKind.min, IntKind.max, IntKind.signed, IntKind.bits] using wl
    omega
end Go.Proofs.YtfbgiobbkdbboaaDoor.FrameHash
