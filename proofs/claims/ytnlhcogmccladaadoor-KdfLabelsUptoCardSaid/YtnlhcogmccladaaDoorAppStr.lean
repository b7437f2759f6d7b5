/-
  append(v, s...) of a string's bytes to a row of the call's own; a literal of bytes. Conditions: in each statement.
-/
import Derived.Test.YtnlhcogmccladaaDoorKb
import Derived.Lib.AppendStr
namespace Go.Proofs.YtnlhcogmccladaaDoor.BytesW
open Go.RowKit

theorem strCells_bytes (m : List UInt8) : Lib.strCells ⟨m.toArray⟩ = Lib.byteCells m := by
  simp [Lib.strCells, Lib.byteCells]
theorem appS {w : World} {ops : Array Oper} {rest : List Oper} {o : Oper} {a : Act} {Q : Exit → Act → World → Prop} (hgd : o.guard = none) (s x : Operand)
    (ho : o.op = .call { callee := .builtin .append, args := #[s, x], argTypes := #[22, 9] })
    (B : Nat) (v : Value) (l : List UInt8) (hs : a.eval s = v) (hown : Row B w v l)
    (m : List UInt8) (hx : a.eval x = .string ⟨m.toArray⟩)
    (hl : l.length + m.length ≤ 140737488355328) (hB : B ≤ w.heap.size)
    (h : ∀ v' w', Row B w' v' (l ++ m) → w.grownBy w' v.ownBlock → wpList Tryd.prog ops Q rest (a.put o.dst v') w') : wpList Tryd.prog ops Q (o :: rest) a w := by
  obtain ⟨i0, hi, hz0, hz1, hz2⟩ := info_parts infoByte
  refine Lib.wpList_append_own_string (w := w) hgd s x 22 9 ho B 5 i0 Tryd.underlying22 Tryd.underlying9 hi hz0 hz1 hz2 v l.length _ hs hown ⟨m.toArray⟩ hx (by show l.length + m.toArray.size ≤ _; unfold maxLen; simp; omega) (by show l.length + m.toArray.size ≤ _; simpa using hl) hB ?_
  intro v' w' h1 hg _
  refine h v' w' ?_ hg
  unfold Row
  rw [strCells_bytes] at h1
  rw [Lib.byteCells_append, List.length_append]
  exact h1
theorem Row.lit (B : Nat) (w : World) (l : List UInt8) (hB : B ≤ w.heap.size) (hl : l.length ≤ 4096) : Row B (w.alloc (.cells (Lib.byteCells l).toArray 5)) (.slice (some ⟨w.heap.size, 0, none⟩) l.length l.length) l := by
  have h := World.ownsRow_lit (base := B) (e := 5) (size := 1) w (Lib.byteCells l).toArray l.length hB (by unfold maxLen; omega) (by simp [Lib.byteCells_length])
  unfold Row
  simpa using h
end Go.Proofs.YtnlhcogmccladaaDoor.BytesW
