/-
  What the rows' listed variables give the walks: the tables of roots; a world that holds the listed variables (the program's own table). Conditions: none.
-/
import Derived.Test.YtnlhcogmccladaaDoorRows
import Derived.Test.YtnlhcogmccladaaDoorHashRef
import Derived.Test.YtnlhcogmccladaaDoorHashMore
import Derived.Lib.LaidTab
import Derived.Stop.LaidErr
import Derived.ProofKit
namespace Go.Proofs.YtnlhcogmccladaaDoor.LaidC
open Go.RowKit HashM HashBlockW HashCompW HashRefW

/-- The numbers of a listed array. -/
def nums (d : DataW Unit) : List Int := match d with
  | .agg l => l.map fun x => match x with
    | .lit (.int _ n) => n
    | _ => 0
  | _ => []
theorem nums_at {l : List Int} {m : List Nat} (h : l = m.map (fun (n : Nat) => (n : Int))) (j : Nat) : l.getD j 0 = ((m.getD j 0 : Nat) : Int) := by
  subst h
  rw [List.getD_eq_getElem?_getD, List.getD_eq_getElem?_getD, List.getElem?_map]
  cases m[j]? <;> rfl
theorem c24 : Tryd.prog.cellsOf 58 = 1 := by kernel_rfl

theorem gR : Tryd.prog.globalNamed "ticketward/hash.roots" = some 2 := by kernel_rfl
theorem tR : (Tryd.prog.globals[2]?).map (·.type) = some 89 := by kernel_rfl
theorem cR : Tryd.prog.cellsOf 89 = 64 := by kernel_rfl
theorem uR : Tryd.prog.underlying 89 = some (.array 64 58) := by kernel_rfl
theorem numsR : (Rows.laid_ticketward_hash_roots : DataW Unit) = Lib.tabData .u32 (nums Rows.laid_ticketward_hash_roots) := by kernel_rfl
theorem isR : nums Rows.laid_ticketward_hash_roots = K.map (fun (n : Nat) => (n : Int)) := by decide +kernel
theorem ofR {W : World} {rest : List (String × DataW Unit)} (h : laidMet Tryd.prog (("ticketward/hash.roots", Rows.laid_ticketward_hash_roots) :: rest) W) : TabR W := by
  rw [numsR] at h
  have ht := Lib.tabIs_of_head (rest := rest) gR tR uR Tryd.underlying58 c24 cR h
  intro j hj
  rw [← nums_at isR j]
  exact ht.cell gR j (Nat.lt_of_lt_of_le hj (of_decide_eq_true (by kernel_rfl)))

theorem of {W : World} (h : laidMetH Tryd.prog [("ticketward/hash.roots", Rows.laid_ticketward_hash_roots)] W) : TabR W := ofR (show laidMet Tryd.prog (_ :: _) W from h)

/-- A listed array of words laid in its block. -/
def put (d : DataW Unit) : Obj → Obj
  | .cells _ t frozen => .cells ((nums d).map (Value.int .u32)).toArray t frozen
  | o => o

/-- A world that holds the listed variables. -/
noncomputable def laidWorld (os : Os) : World :=
  { World.holding Tryd.prog os ⟨#[], #[], []⟩ with heap := ((World.holding Tryd.prog os ⟨#[], #[], []⟩).heap.modify 2 (put Rows.laid_ticketward_hash_roots)) }

theorem laid_met (os : Os) (args : Array Value) : laidMet Tryd.prog [("ticketward/hash.roots", Rows.laid_ticketward_hash_roots)] ((laidWorld os).forCall (fun _ _ => 0) ⟨#[], args, []⟩).memory :=
  laidMet_of_run' 8 (by kernel_rfl) (by kernel_rfl)
end Go.Proofs.YtnlhcogmccladaaDoor.LaidC
