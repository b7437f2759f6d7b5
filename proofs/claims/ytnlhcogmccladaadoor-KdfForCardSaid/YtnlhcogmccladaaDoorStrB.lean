/-
  '[]byte(s)' of a string: a new row of its bytes. Conditions: none.
-/
import Derived.Test.YtnlhcogmccladaaDoorKb
import Derived.Laws.IdiomStrings
namespace Go.Proofs.YtnlhcogmccladaaDoor.StrB
open Go.RowKit BytesW

theorem str_bytes (l : List UInt8) (w : World) :
    ∃ c w', (convert 9 22 (.string ⟨l.toArray⟩)).run Tryd.prog w = .ok (.slice (some ⟨w.heap.size, 0, none⟩) l.length c) w' ∧ l.length ≤ c ∧ Bs w' w'.heap.size (some ⟨w.heap.size, 0, none⟩) l ∧ Below w.heap.size w w' := by
  have h := run_bytes_of_string (P := Tryd.prog) w 9 22 5 ⟨l.toArray⟩ Tryd.underlying9 Tryd.underlying22 Tryd.underlying5
  have hs : (⟨l.toArray⟩ : ByteArray).size = l.length := by simp [ByteArray.size]
  rw [hs] at h
  have hge := grownCap_ge w l.length 0 5
  refine ⟨_, _, h, hge, fun _ => ⟨_, rfl, by simp, fun k hk => ?_⟩, ((Below.refl _ w).drew.alloc (Nat.le_refl _) _)⟩
  have e : (⟨w.heap.size, 0, none⟩ : Addr).add k = ⟨w.heap.size, k, none⟩ := by unfold Addr.add; split <;> simp_all
  rw [e]
  unfold World.cell?
  have hn : ∀ (V : World) (o : Obj), (V.alloc o).heap[V.heap.size]? = some o := fun V o => heap_alloc_new V o
  have h2 := hn w.drew (.cells (bytesRow ⟨l.toArray⟩ (grownCap w l.length 0 5)) 5 ((bytesRow ⟨l.toArray⟩ (grownCap w l.length 0 5)).size, (bytesRow ⟨l.toArray⟩ (grownCap w l.length 0 5)).size + 1))
  rw [show w.drew.heap.size = w.heap.size from rfl] at h2
  rw [h2]
  simp only [bytesRow]
  rw [Array.getElem?_append_left (by simpa using hk)]
  simp [hk]
end Go.Proofs.YtnlhcogmccladaaDoor.StrB
