/-
  What the rows' listed variables give the walks: the prime and the root of -1; a world that holds them. Conditions: none.
-/
import Derived.Test.YtfngomlknhappaaDoorRows
import Derived.Test.YtfngomlknhappaaDoorFieldTab
import Derived.Lib.LaidTab
import Derived.Stop.LaidErr
import Derived.ProofKit
namespace Go.Proofs.YtfngomlknhappaaDoor.LaidQ
open Go.RowKit FieldM NumA NumF FieldN FieldWW

/-- The numbers of a listed array. -/
def nums (d : DataW Unit) : List Int := match d with
  | .agg l => l.map fun x => match x with
    | .lit (.int _ n) => n
    | _ => 0
  | _ => []
theorem nums_at {l : List Int} {m : List Nat} (h : l = m.map (fun (n : Nat) => (n : Int))) (j : Nat) : l.getD j 0 = ((m.getD j 0 : Nat) : Int) := by
  subst h
  rw [List.getD_eq_getElem?_getD, List.getD_eq_getElem?_getD, List.getElem?_map]
  cases m[j]? <;> rfl
theorem c64 : Tryd.prog.cellsOf 44 = 1 := by kernel_rfl
theorem cN : Tryd.prog.cellsOf 46 = 4 := by kernel_rfl
theorem uN : Tryd.prog.underlying 46 = some (.array 4 44) := by kernel_rfl

theorem gP : Tryd.prog.globalNamed "ticketward/field.prime" = some 0 := by kernel_rfl
theorem tP : (Tryd.prog.globals[0]?).map (·.type) = some 46 := by kernel_rfl
theorem numsP : (Rows.laid_ticketward_field_prime : DataW Unit) = Lib.tabData .u64 (nums Rows.laid_ticketward_field_prime) := by kernel_rfl
theorem isP : nums Rows.laid_ticketward_field_prime = (wd P 4).map (fun (n : Nat) => (n : Int)) := by decide +kernel
theorem ofP {W : World} {rest : List (String × DataW Unit)} (h : laidMet Tryd.prog (("ticketward/field.prime", Rows.laid_ticketward_field_prime) :: rest) W) : TabP W := by
  rw [numsP] at h
  have ht := Lib.tabIs_of_head (rest := rest) gP tP uN Tryd.underlying44 c64 cN h
  intro j v hj
  have hlt : j < 4 := by
    have := (List.getElem?_eq_some_iff.1 hj).1
    rw [nc_len, wd_len] at this
    exact this
  rw [nc_getD _ j (by rw [wd_len]; exact hlt)] at hj
  rw [← Option.some.inj hj, ← nums_at isP j]
  exact ht.cell gP j (Nat.lt_of_lt_of_le hlt (of_decide_eq_true (by kernel_rfl)))

theorem gT : Tryd.prog.globalNamed "ticketward/field.turn" = some 1 := by kernel_rfl
theorem tT : (Tryd.prog.globals[1]?).map (·.type) = some 46 := by kernel_rfl
theorem numsT : (Rows.laid_ticketward_field_turn : DataW Unit) = Lib.tabData .u64 (nums Rows.laid_ticketward_field_turn) := by kernel_rfl
theorem isT : nums Rows.laid_ticketward_field_turn = (wd I4.val 4).map (fun (n : Nat) => (n : Int)) := by decide +kernel
theorem ofT {W : World} {rest : List (String × DataW Unit)} (h : laidMet Tryd.prog (("ticketward/field.turn", Rows.laid_ticketward_field_turn) :: rest) W) : TabT W := by
  rw [numsT] at h
  have ht := Lib.tabIs_of_head (rest := rest) gT tT uN Tryd.underlying44 c64 cN h
  intro j v hj
  have hlt : j < 4 := by
    have := (List.getElem?_eq_some_iff.1 hj).1
    rw [nc_len, wd_len] at this
    exact this
  rw [nc_getD _ j (by rw [wd_len]; exact hlt)] at hj
  rw [← Option.some.inj hj, ← nums_at isT j]
  exact ht.cell gT j (Nat.lt_of_lt_of_le hlt (of_decide_eq_true (by kernel_rfl)))

theorem of {W : World} (h : laidMetH Tryd.prog [("ticketward/field.prime", Rows.laid_ticketward_field_prime), ("ticketward/field.turn", Rows.laid_ticketward_field_turn)] W) : TabP W ∧ TabT W := ⟨ofP (show laidMet Tryd.prog (_ :: _) W from h), ofT (laidMet.tail (show laidMet Tryd.prog (_ :: _) W from h))⟩

/-- A listed array of words laid in its block. -/
def put (d : DataW Unit) : Obj → Obj
  | .cells _ t frozen => .cells ((nums d).map (Value.int .u64)).toArray t frozen
  | o => o

/-- A world that holds the listed variables. -/
noncomputable def laidWorld (os : Os) : World :=
  { World.holding Tryd.prog os ⟨#[], #[], []⟩ with heap := (((World.holding Tryd.prog os ⟨#[], #[], []⟩).heap.modify 0 (put Rows.laid_ticketward_field_prime)).modify 1 (put Rows.laid_ticketward_field_turn)) }

theorem laid_met (os : Os) (args : Array Value) : laidMet Tryd.prog [("ticketward/field.prime", Rows.laid_ticketward_field_prime), ("ticketward/field.turn", Rows.laid_ticketward_field_turn)] ((laidWorld os).forCall (fun _ _ => 0) ⟨#[], args, []⟩).memory :=
  laidMet_of_run' 8 (by kernel_rfl) (by kernel_rfl)
end Go.Proofs.YtfngomlknhappaaDoor.LaidQ
