/-
  Words for an array variable's block: its cells, what a store and a fresh block make of it, what it reads as whole. No program is named here. Conditions: in each statement.
-/
import Derived.Test.YtmmmogccjopfeaaDoorBytesW
import Derived.Laws.OwnMore
import Derived.Deep.MidRow
namespace Go.Proofs.YtmmmogccjopfeaaDoor.ArrW
open Go.RowKit BytesW

/-- Block g is a variable of type t, not marked, that holds the cells xs. -/
def Arr (w : World) (g : Nat) (t : TypeId) (xs : List Value) : Prop := w.heap[g]? = some (.cells xs.toArray t (0, 0))

section
variable {w w' : World} {g : Nat} {t : TypeId} {xs : List Value}
theorem Arr.lt (h : Arr w g t xs) : g < w.heap.size := (Array.getElem?_eq_some_iff.1 h).1
theorem Arr.cell (h : Arr w g t xs) (k : Nat) : w.cell? ⟨g, k, none⟩ = xs[k]? := by
  have := cell_of_row w g k xs.toArray t (0, 0) h
  simpa using this
theorem Arr.cell' (h : Arr w g t xs) (k : Nat) (hk : k < xs.length) : w.cell? ⟨g, k, none⟩ = some xs[k] := by rw [h.cell, List.getElem?_eq_getElem hk]
theorem Arr.frozen (h : Arr w g t xs) (k : Nat) : w.frozen? ⟨g, k, none⟩ = false := frozen_of_row w g k xs.toArray t h
theorem Arr.set (h : Arr w g t xs) (k : Nat) (u : Value) : Arr (w.setCell ⟨g, k, none⟩ u) g t (xs.set k u) := by
  have := heap_setCell_same w g k xs.toArray t u h
  unfold Arr
  rw [this]
  simp
theorem Arr.other (h : Arr w g t xs) (p : Addr) (u : Value) (hp : p.block ≠ g) : Arr (w.setCell p u) g t xs := by
  unfold Arr
  rw [heap_setCell_other w p g u (fun e => hp e.symm)]
  exact h
theorem Arr.drew (h : Arr w g t xs) : Arr w.drew g t xs := h
theorem Arr.drewN (h : Arr w g t xs) (n : Nat) : Arr (w.drewN n) g t xs := h
theorem Arr.new (w : World) (cs : Array Value) (t : TypeId) : Arr (w.alloc (.cells cs t)) w.heap.size t cs.toList := by
  unfold Arr
  rw [heap_alloc_new]
theorem Arr.alloc (h : Arr w g t xs) (o : Obj) : Arr (w.alloc o) g t xs := by
  unfold Arr
  rw [World.alloc, Array.getElem?_push_lt h.lt]
  have := h
  unfold Arr at this
  rw [Array.getElem?_eq_getElem h.lt] at this
  exact this
theorem Arr.below {B : Nat} (h : Arr w g t xs) (hb : Below B w w') (hg : g < B) : Arr w' g t xs := (hb.block g hg).trans h
end
end Go.Proofs.YtmmmogccjopfeaaDoor.ArrW
