/-
  From a law's arguments, as data, to what a walk is told of them: slices of byte slices. Conditions: none.
-/
import Derived.Test.YtnlhcogmccladaaDoorFrame
import Derived.Test.YtnlhcogmccladaaDoorKb
import Derived.Deep.Matrix
namespace Go.Proofs.YtnlhcogmccladaaDoor.FrameRows
open Go.ChangeShapes Go.WideShapes Go.ChangeAt Go.RowKit BytesW RowsW
variable {H : Type} {enc : TypeId × Value → H}

theorem cellsRow : Tryd.prog.cellsOf 22 = 1 := by kernel_rfl

theorem bulk_row (k : IntKind) (A : Option Addr) (L : Nat) (zs : List Int) (h : A = none → L = 0) (hz : L ≤ zs.length) : L + 1 ≤ Rows.uptoBulk (Go.Deep.intRow (H := H) k A L zs) := by
  cases A with
  | none => rw [h rfl]; simp [Go.Deep.intRow, Rows.uptoBulk]
  | some a =>
    have := Frame.length_le (lits (H := H) k (zs.take L))
    have e : (lits (H := H) k (zs.take L)).length = L := by simp [lits]; omega
    rw [e] at this
    simp only [Go.Deep.intRow, Rows.uptoBulk]
    omega

theorem bulk_rows (rs : List Nat) (f : Nat → List UInt8) (g : Nat → DataW H) (h : ∀ r ∈ rs, (f r).length + 1 ≤ Rows.uptoBulk (g r)) :
    (rs.map f).foldr (fun r n => r.length + n) 0 + rs.length ≤ Rows.uptoBulkAll (rs.map g) := by
  induction rs with
  | nil => simp [Rows.uptoBulkAll]
  | cons x r ih =>
    have h1 := h x (by simp)
    have h2 := ih fun r hr => h r (by simp [hr])
    simp only [List.map_cons, List.foldr_cons, List.length_cons, Rows.uptoBulkAll]
    omega

/-- A slice of byte slices that came in. -/
theorem rows_in {W : World} {a : Option Addr} {len cap : Nat} {d : DataW H} {ps : List MemPlace} (h : DataW.Trod enc Tryd.prog W 0 (fun _ => true) true 31 (.slice a len cap) d ps) :
    ∃ ls : List (List UInt8), ls.length = len ∧ len ≤ cap ∧ Ms W W.heap.size a ls ∧ ls.foldr (fun r n => r.length + n) 0 + ls.length ≤ Rows.uptoBulk d := by
  obtain ⟨fuel, hf⟩ := h
  rcases Go.Deep.open_int_rows Tryd.underlying31 Tryd.underlying22 Tryd.underlying5 cellsRow Frame.cellsByte hf with ⟨hcs, hx⟩ | ⟨x, l, c, A, L, C, Z, hcs, _, hl, hm, hx, hr⟩
  · simp [Value.cells] at hcs
    obtain ⟨rfl, rfl, rfl⟩ := hcs
    simp only [Prod.mk.injEq] at hx
    exact ⟨[], rfl, Nat.le_refl _, Ms.nil _ _ _, by simp⟩
  · simp [Value.cells] at hcs
    obtain ⟨rfl, rfl, rfl⟩ := hcs
    simp only [Prod.mk.injEq] at hx
    have hlenr : ∀ r, r < len → (((Z r).take (L r)).map fun n => UInt8.ofNat n.toNat).length = L r := by
      intro r hlt
      obtain ⟨_, h1, _, h3, _⟩ := hr r (by omega)
      rw [List.length_map, List.length_take]
      omega
    refine ⟨(List.range len).map fun r => ((Z r).take (L r)).map fun n => UInt8.ofNat n.toNat, by simp, hl, ?_, ?_⟩
    · intro h0
      have hlen0 : 0 < len := by simpa using h0
      have hxb : x.block < W.heap.size := by
        have := World.block_lt_of_cell? W _ (hr 0 (by omega)).1
        rwa [add_block] at this
      refine ⟨x, rfl, hxb, fun k hk => ?_⟩
      have hk' : k < len := by simpa using hk
      obtain ⟨hc, h1, _, h3, hwf, hn, hcell⟩ := hr k (by omega)
      have hL := hlenr k hk'
      refine ⟨A k, C k, ?_, ?_, ?_⟩
      · simp only [List.getElem_map, List.getElem_range]
        rw [hL]
        exact hc
      · simp only [List.getElem_map, List.getElem_range]
        intro hpos
        cases hA : A k with
        | none => have := hn hA; omega
        | some a' =>
          have hcl := (hcell a' hA).2
          have each : ∀ j, j < L k → W.cell? (a'.add j) = some (.int .u8 (((UInt8.ofNat ((Z k).getD j 0).toNat).toNat : Nat) : Int)) := by
            intro j hj
            have hjz : j < (Z k).length := by omega
            rw [hcl j (by omega), ← Frame.byte_of_wf]
            refine hwf _ ?_
            rw [List.getD_eq_getElem?_getD, List.getElem?_eq_getElem hjz]
            exact List.getElem_mem hjz
          refine ⟨a', rfl, ?_, fun j hj => ?_⟩
          · have := World.block_lt_of_cell? W _ (each 0 (by omega))
            rwa [add_block] at this
          · rw [hL] at hj
            rw [each j hj]
            have hjz : j < (Z k).length := by omega
            simp [List.getElem?_eq_getElem hjz]
      · simp only [List.getElem_map, List.getElem_range]
        rw [hL]
        exact h1
    · rw [hx.1]
      simp only [Rows.uptoBulk]
      have hb := bulk_rows (H := H) (List.range len) (fun r => ((Z r).take (L r)).map fun n => UInt8.ofNat n.toNat) (fun r => Go.Deep.intRow .u8 (A r) (L r) (Z r)) (fun r hrr => by
        have hlt := List.mem_range.1 hrr
        obtain ⟨_, h1, _, h3, _, hn, _⟩ := hr r (by omega)
        rw [hlenr r hlt]
        exact bulk_row .u8 (A r) (L r) (Z r) (fun e => by have := hn e; omega) (by omega))
      have e : ((List.range len).map fun r => ((Z r).take (L r)).map fun n => UInt8.ofNat n.toNat).length = (List.range len).length := by simp
      rw [e]
      omega
end Go.Proofs.YtnlhcogmccladaaDoor.FrameRows
