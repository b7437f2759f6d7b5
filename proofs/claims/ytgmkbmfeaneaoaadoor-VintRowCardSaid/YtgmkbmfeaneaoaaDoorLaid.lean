/-
  What the rows' listed variables give the walks: the table of math/bits, where it is read; a world that holds the listed variables. Conditions: none.
-/
import Derived.Test.YtgmkbmfeaneaoaaDoorRows
import Derived.Test.YtgmkbmfeaneaoaaDoorVintLong
import Derived.Lib.LaidTab
import Derived.Stop.LaidErr
import Derived.ProofKit
namespace Go.Proofs.YtgmkbmfeaneaoaaDoor.Laid
open Go.RowKit

theorem g64 : Tryd.prog.globalNamed "math/bits.deBruijn64tab" = some 1 := by kernel_rfl
theorem g64t : (Tryd.prog.globals[1]?).map (·.type) = some 50 := by kernel_rfl
theorem c64 : Tryd.prog.cellsOf 50 = 64 := by kernel_rfl
theorem c8 : Tryd.prog.cellsOf 5 = 1 := by kernel_rfl

/-- The numbers of a listed array. -/
def nums (d : DataW Unit) : List Int := match d with
  | .agg l => l.map fun x => match x with
    | .lit (.int _ n) => n
    | _ => 0
  | _ => []
theorem nums64 : (Rows.laid_math_bits_deBruijn64tab : DataW Unit) = Lib.tabData .u8 (nums Rows.laid_math_bits_deBruijn64tab) := by kernel_rfl

theorem of {W : World} (h : laidMetH Tryd.prog [("math/bits.deBruijn32tab", Rows.laid_math_bits_deBruijn32tab), ("math/bits.deBruijn64tab", Rows.laid_math_bits_deBruijn64tab)] W) : VintLongW.Tab W := by
  have h1 : laidMet Tryd.prog [("math/bits.deBruijn64tab", Rows.laid_math_bits_deBruijn64tab)] W := laidMet.tail (show laidMet Tryd.prog (_ :: _) W from h)
  rw [nums64] at h1
  have ht := Lib.tabIs_of_head (rest := []) g64 g64t Tryd.underlying50 Tryd.underlying5 c8 c64 h1
  have at_ : ∀ j, j < 64 → W.cell? ⟨1, j, none⟩ = some (.int .u8 ((nums Rows.laid_math_bits_deBruijn64tab).getD j 0)) := fun j hj => ht.cell g64 j (Nat.lt_of_lt_of_le hj (of_decide_eq_true (by kernel_rfl)))
  exact ⟨(at_ 0 (by decide)).trans (by kernel_rfl), (at_ 1 (by decide)).trans (by kernel_rfl), (at_ 3 (by decide)).trans (by kernel_rfl), (at_ 7 (by decide)).trans (by kernel_rfl)⟩

/-- A listed array of bytes laid in its block. -/
def put (d : DataW Unit) : Obj → Obj
  | .cells _ t frozen => .cells ((nums d).map (Value.int .u8)).toArray t frozen
  | o => o

/-- A world that holds the listed variables. -/
noncomputable def laidWorld (os : Os) : World :=
  { World.holding Tryd.prog os ⟨#[], #[], []⟩ with heap := ((World.holding Tryd.prog os ⟨#[], #[], []⟩).heap.modify 0 (put Rows.laid_math_bits_deBruijn32tab)).modify 1 (put Rows.laid_math_bits_deBruijn64tab) }

theorem laid_met (os : Os) (args : Array Value) : laidMet Tryd.prog [("math/bits.deBruijn32tab", Rows.laid_math_bits_deBruijn32tab), ("math/bits.deBruijn64tab", Rows.laid_math_bits_deBruijn64tab)] ((laidWorld os).forCall (fun _ _ => 0) ⟨#[], args, []⟩).memory :=
  laidMet_of_run' 8 (by kernel_rfl) (by kernel_rfl)
end Go.Proofs.YtgmkbmfeaneaoaaDoor.Laid
