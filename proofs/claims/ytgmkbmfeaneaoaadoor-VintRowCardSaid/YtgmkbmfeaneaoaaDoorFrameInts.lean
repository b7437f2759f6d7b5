/-
  From a law's arguments, as data, to what a walk is told of them: slices of int. Conditions: none.
-/
import Derived.Test.YtgmkbmfeaneaoaaDoorFrame
import Derived.Test.YtgmkbmfeaneaoaaDoorIntsW
namespace Go.Proofs.YtgmkbmfeaneaoaaDoor.FrameInts
open Go.ChangeShapes Go.WideShapes Go.ChangeAt Go.RowKit BytesW IntsW
variable {H : Type} {enc : TypeId × Value → H}

theorem cellsInt : Tryd.prog.cellsOf 3 = 1 := by kernel_rfl
theorem bytesInt : Tryd.prog.bytesOf 3 = 8 := by kernel_rfl

/-- A slice of int that came in. -/
theorem ints_in {W : World} {a : Option Addr} {len cap : Nat} {d : DataW H} {ps : List MemPlace} (h : DataW.Trod enc Tryd.prog W 0 (fun _ => true) true 38 (.slice a len cap) d ps) :
    ∃ l : List Int, l.length = len ∧ len ≤ cap ∧ Is W W.heap.size a l ∧ (∀ n ∈ l, (Lit.int .i64 n).wf = true) ∧ ((d = .nil ∧ l = []) ∨ ∃ e s, d = .slice e s ∧ e.length = l.length) := by
  obtain ⟨fuel, hf⟩ := h
  rcases open_ints Tryd.underlying38 Tryd.underlying3 cellsInt hf with ⟨hcs, hx⟩ | ⟨x, l, c, zs, hcs, _, hl, hm, hz, hx, hcell, hwz⟩
  · simp [Value.cells] at hcs
    obtain ⟨rfl, rfl, rfl⟩ := hcs
    simp only [Prod.mk.injEq] at hx
    exact ⟨[], rfl, Nat.le_refl _, Is.nil _ _ _, (fun n hn => by cases hn), .inl ⟨hx.1, rfl⟩⟩
  · simp [Value.cells] at hcs
    obtain ⟨rfl, rfl, rfl⟩ := hcs
    simp only [if_true] at hz
    simp only [Prod.mk.injEq] at hx
    refine ⟨zs.take len, by simp [hz, hl], hl, ?_, fun n hn => hwz n (List.mem_of_mem_take hn), .inr ⟨_, _, hx.1, by simp [lits]⟩⟩
    intro h0
    have hlen : (zs.take len).length = len := by simp [hz, hl]
    have each : ∀ k, k < len → W.cell? (x.add k) = some (.int .i64 (zs.getD k 0)) := fun k hk => hcell k (by omega)
    refine ⟨x, rfl, ?_, fun k hk => ?_⟩
    · have := World.block_lt_of_cell? W _ (each 0 (by omega))
      rwa [add_block] at this
    · have hk' : k < len := by omega
      rw [each k hk']
      have hkz : k < zs.length := by omega
      simp [List.getElem?_eq_getElem hkz]

theorem bulk_in {d : DataW H} {l : List Int} (h : (d = .nil ∧ l = []) ∨ ∃ e s, d = .slice e s ∧ e.length = l.length) : l.length ≤ Rows.uptoBulk d := by
  rcases h with ⟨_, rfl⟩ | ⟨e, s, rfl, he⟩
  · exact Nat.zero_le _
  · have := Frame.length_le e
    simp only [Rows.uptoBulk]
    omega

/-- The form's own reach of a slice of int. -/
theorem sized_in {ts : List TypeId} {ds : List (DataW H)} (h : (DataW.weightsEach Tryd.prog ts ds).all (· ≤ reachBytes) = true) {j : Nat} (ht : ts[j]? = some 38) {d : DataW H} (hd : ds[j]? = some d) {l : List Int}
    (hl : (d = .nil ∧ l = []) ∨ ∃ e s, d = .slice e s ∧ e.length = l.length) : l.length * 8 ≤ 140737488351232 := by
  rcases hl with ⟨_, rfl⟩ | ⟨e, s, rfl, he⟩
  · simp
  · have := sized_slice h ht hd Tryd.underlying38
    rw [bytesInt, Frame.maxReach] at this
    omega
end Go.Proofs.YtgmkbmfeaneaoaaDoor.FrameInts
