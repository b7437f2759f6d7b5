/-
  NARROWER THAN 'FOR EVERY INPUT', by the rows' own cells (each row's printed sentence says how): FieldReckons: laid · FieldRoots: laid · FieldField: laid · FieldInv: laid · FieldRoot: laid · FieldNeg: laid.
  DERIVED. THE GIVEN ROWS OF THIS SEAT. 6 by the template 'for every input the law returns true; each argument reads behind the call as it read before'; 0 by the template 'total and deterministic' (their statements: YtfngomlknhappaaDoorTotals.lean).
  GIVEN WITH THE SEED: the statements are not yours to turn. If you find one false, say at which input.
  Laid BY PROGRAM, IN A SANDBOX (cutbox-rows.mjs): the forced cells as the released guide's own fill.sh prints them over the translation 9ba8b11d26b98725… (all of the seat's roots in one cut). By AI agents, Wed Nov 11 2026. No macro, syntax, notation, axiom, sorry.
-/
import Derived.Test.YtfngomlknhappaaDoorChecked
import GoSem.Claim
import GoSem.ClaimJoined
import GoSem.ClaimMapViews
import Derived.JoinedTies
import Derived.KernelRfl
namespace Go.Proofs.YtfngomlknhappaaDoor
/- THE CELL 'sum', in the pinned program and in every row, IS THE sha256 OF THE DUMP (.gsa) THAT YtfngomlknhappaaDoorProg.lean LOADS. Nothing in Lean hashes anything: it is a label: what it is worth is what the hold of that sum in a sandbox is worth. -/
noncomputable def Tryd.pinned : Pinned := { name := "ytfngomlknhappaadoor", sum := "9ba8b11d26b987258701e7dc823463e51745837db20e3e0fb90a55795f46a8f0", checked := Tryd.checked }
namespace Rows
def none {H : Type} : Left H := { results := [], args := [] }

/- WHAT THE LISTED PACKAGE-LEVEL VARIABLES READ AS WHEN THE CALL BEGINS. Each datum BY PROGRAM (the guide's laid-datum.mjs) off the statement by which the dump's own 'gosem.cut.vars' lays the variable. In a bare row this is a premise. The card (YtfngomlknhappaaDoorCards.lean) ties it to the program's text. -/
def laid_ticketward_field_prime {H : Type} : DataW H := .agg [.lit (.int .u64 18446744073709551597), .lit (.int .u64 18446744073709551615), .lit (.int .u64 18446744073709551615), .lit (.int .u64 9223372036854775807)]
def laid_ticketward_field_turn {H : Type} : DataW H := .agg [.lit (.int .u64 14190309331451158704), .lit (.int .u64 3405592160176694392), .lit (.int .u64 3120150775007532967), .lit (.int .u64 3135389899092516619)]

/-- 'ticketwardlaw.FieldReckons': WHATEVER THE INPUT: true; the input reads as it did. -/
def fieldReckonsSpec : ChangeSpec := { name := "fieldReckons", fn := fun _ => fun
  | [d1, d2] => { results := [.lit (.bool true)], args := [d1, d2] }
  | _ => none }
def fieldReckonsRow : OpenClaim := { program := "ytfngomlknhappaadoor", sum := "9ba8b11d26b987258701e7dc823463e51745837db20e3e0fb90a55795f46a8f0", func := "ticketward/ticketwardlaw.FieldReckons", spec := "fieldReckons", inPlace := ["math/bits.Sub64", "math/bits.Add64"], named := ["ticketward/field.prime"], apart := false, laid := [("ticketward/field.prime", laid_ticketward_field_prime)] }
def FieldReckonsSaid : Prop := fieldReckonsRow.holds Tryd.pinned (OpenSpec.ofChange fieldReckonsSpec)

/-- ITS FALSE NEIGHBOUR: 'it returns false'. Refute it at one input. -/
def fieldReckonsWrong : ChangeSpec := { name := "fieldReckons", fn := fun _ => fun
  | [d1, d2] => { results := [.lit (.bool false)], args := [d1, d2] }
  | _ => none }
def FieldReckonsWrongFalsely : Prop := fieldReckonsRow.holds Tryd.pinned (OpenSpec.ofChange fieldReckonsWrong)

/-- 'ticketwardlaw.FieldRoots': WHATEVER THE INPUT: true; the input reads as it did. -/
def fieldRootsSpec : ChangeSpec := { name := "fieldRoots", fn := fun _ => fun
  | [d] => { results := [.lit (.bool true)], args := [d] }
  | _ => none }
def fieldRootsRow : OpenClaim := { program := "ytfngomlknhappaadoor", sum := "9ba8b11d26b987258701e7dc823463e51745837db20e3e0fb90a55795f46a8f0", func := "ticketward/ticketwardlaw.FieldRoots", spec := "fieldRoots", inPlace := ["math/bits.Sub64", "math/bits.Add64"], recurses := true, named := ["ticketward/field.prime", "ticketward/field.turn"], apart := false, laid := [("ticketward/field.prime", laid_ticketward_field_prime), ("ticketward/field.turn", laid_ticketward_field_turn)] }
def FieldRootsSaid : Prop := fieldRootsRow.holds Tryd.pinned (OpenSpec.ofChange fieldRootsSpec)

/-- ITS FALSE NEIGHBOUR: 'it returns false'. Refute it at one input. -/
def fieldRootsWrong : ChangeSpec := { name := "fieldRoots", fn := fun _ => fun
  | [d] => { results := [.lit (.bool false)], args := [d] }
  | _ => none }
def FieldRootsWrongFalsely : Prop := fieldRootsRow.holds Tryd.pinned (OpenSpec.ofChange fieldRootsWrong)

/-- 'ticketwardkeep.FieldField': WHATEVER THE INPUT: true; the input reads as it did. -/
def fieldFieldSpec : ChangeSpec := { name := "fieldField", fn := fun _ => fun
  | [d1, d2, d3] => { results := [.lit (.bool true)], args := [d1, d2, d3] }
  | _ => none }
def fieldFieldRow : OpenClaim := { program := "ytfngomlknhappaadoor", sum := "9ba8b11d26b987258701e7dc823463e51745837db20e3e0fb90a55795f46a8f0", func := "ticketward/ticketwardkeep.FieldField", spec := "fieldField", inPlace := ["math/bits.Sub64", "math/bits.Add64"], recurses := true, named := ["ticketward/field.prime", "ticketward/field.turn"], apart := false, laid := [("ticketward/field.prime", laid_ticketward_field_prime), ("ticketward/field.turn", laid_ticketward_field_turn)] }
def FieldFieldSaid : Prop := fieldFieldRow.holds Tryd.pinned (OpenSpec.ofChange fieldFieldSpec)

/-- ITS FALSE NEIGHBOUR: 'it returns false'. Refute it at one input. -/
def fieldFieldWrong : ChangeSpec := { name := "fieldField", fn := fun _ => fun
  | [d1, d2, d3] => { results := [.lit (.bool false)], args := [d1, d2, d3] }
  | _ => none }
def FieldFieldWrongFalsely : Prop := fieldFieldRow.holds Tryd.pinned (OpenSpec.ofChange fieldFieldWrong)

/-- 'ticketwardkeep.FieldInv': WHATEVER THE INPUT: true; the input reads as it did. -/
def fieldInvSpec : ChangeSpec := { name := "fieldInv", fn := fun _ => fun
  | [d] => { results := [.lit (.bool true)], args := [d] }
  | _ => none }
def fieldInvRow : OpenClaim := { program := "ytfngomlknhappaadoor", sum := "9ba8b11d26b987258701e7dc823463e51745837db20e3e0fb90a55795f46a8f0", func := "ticketward/ticketwardkeep.FieldInv", spec := "fieldInv", inPlace := ["math/bits.Sub64", "math/bits.Add64"], recurses := true, named := ["ticketward/field.prime", "ticketward/field.turn"], apart := false, laid := [("ticketward/field.prime", laid_ticketward_field_prime), ("ticketward/field.turn", laid_ticketward_field_turn)] }
def FieldInvSaid : Prop := fieldInvRow.holds Tryd.pinned (OpenSpec.ofChange fieldInvSpec)

/-- ITS FALSE NEIGHBOUR: 'it returns false'. Refute it at one input. -/
def fieldInvWrong : ChangeSpec := { name := "fieldInv", fn := fun _ => fun
  | [d] => { results := [.lit (.bool false)], args := [d] }
  | _ => none }
def FieldInvWrongFalsely : Prop := fieldInvRow.holds Tryd.pinned (OpenSpec.ofChange fieldInvWrong)

/-- 'ticketwardkeep.FieldRoot': WHATEVER THE INPUT: true; the input reads as it did. -/
def fieldRootSpec : ChangeSpec := { name := "fieldRoot", fn := fun _ => fun
  | [d1, d2] => { results := [.lit (.bool true)], args := [d1, d2] }
  | _ => none }
def fieldRootRow : OpenClaim := { program := "ytfngomlknhappaadoor", sum := "9ba8b11d26b987258701e7dc823463e51745837db20e3e0fb90a55795f46a8f0", func := "ticketward/ticketwardkeep.FieldRoot", spec := "fieldRoot", inPlace := ["math/bits.Sub64", "math/bits.Add64"], recurses := true, named := ["ticketward/field.prime", "ticketward/field.turn"], apart := false, laid := [("ticketward/field.prime", laid_ticketward_field_prime), ("ticketward/field.turn", laid_ticketward_field_turn)] }
def FieldRootSaid : Prop := fieldRootRow.holds Tryd.pinned (OpenSpec.ofChange fieldRootSpec)

/-- ITS FALSE NEIGHBOUR: 'it returns false'. Refute it at one input. -/
def fieldRootWrong : ChangeSpec := { name := "fieldRoot", fn := fun _ => fun
  | [d1, d2] => { results := [.lit (.bool false)], args := [d1, d2] }
  | _ => none }
def FieldRootWrongFalsely : Prop := fieldRootRow.holds Tryd.pinned (OpenSpec.ofChange fieldRootWrong)

/-- 'ticketwardkeep.FieldNeg': WHATEVER THE INPUT: true; the input reads as it did. -/
def fieldNegSpec : ChangeSpec := { name := "fieldNeg", fn := fun _ => fun
  | [d] => { results := [.lit (.bool true)], args := [d] }
  | _ => none }
def fieldNegRow : OpenClaim := { program := "ytfngomlknhappaadoor", sum := "9ba8b11d26b987258701e7dc823463e51745837db20e3e0fb90a55795f46a8f0", func := "ticketward/ticketwardkeep.FieldNeg", spec := "fieldNeg", inPlace := ["math/bits.Sub64", "math/bits.Add64"], recurses := true, named := ["ticketward/field.prime", "ticketward/field.turn"], apart := false, laid := [("ticketward/field.prime", laid_ticketward_field_prime), ("ticketward/field.turn", laid_ticketward_field_turn)] }
def FieldNegSaid : Prop := fieldNegRow.holds Tryd.pinned (OpenSpec.ofChange fieldNegSpec)

/-- ITS FALSE NEIGHBOUR: 'it returns false'. Refute it at one input. -/
def fieldNegWrong : ChangeSpec := { name := "fieldNeg", fn := fun _ => fun
  | [d] => { results := [.lit (.bool false)], args := [d] }
  | _ => none }
def FieldNegWrongFalsely : Prop := fieldNegRow.holds Tryd.pinned (OpenSpec.ofChange fieldNegWrong)

/- THE SECOND FORM. 'bulk': how many values and letters a reading holds, each counted each time it is reached (what is shared counts as often as it is met; a slice's spare places count too). A statement '..UptoSaid' is the law's where the arguments, and the package variables that the reading takes, are together of bulk at most 1048576: NARROWER than '..Said'. Prove '..Said' where nothing that the law and all that it calls make is longer than what came in: it says more and counts as full. Else prove '..UptoSaid'. A law counts once. -/
mutual
def uptoBulk {H : Type} : DataW H → Nat
  | .lit (.string bytes) => bytes.length + 1
  | .lit _ => 1
  | .nil => 1
  | .ptr d => uptoBulk d + 1
  | .slice elems spare => uptoBulkAll elems + uptoBulkAll spare + 1
  | .agg parts => uptoBulkAll parts + 1
  | .iface _ d => uptoBulk d + 1
  | .map entries => uptoBulkEntries entries + 1
  | .held _ => 1
def uptoBulkAll {H : Type} : List (DataW H) → Nat
  | [] => 0
  | d :: r => uptoBulk d + uptoBulkAll r
def uptoBulkEntries {H : Type} : List (Lit × DataW H) → Nat
  | [] => 0
  | x :: r => uptoBulkEntry x + uptoBulkEntries r
def uptoBulkEntry {H : Type} : Lit × DataW H → Nat
  | (.string bytes, d) => bytes.length + uptoBulk d + 1
  | (_, d) => uptoBulk d + 1
 end
def uptoSmall : (H : Type) → List (DataW H) → Bool := fun _ ds => decide (uptoBulkAll ds ≤ 1048576)
def OpenSpec.upto (s : _root_.Go.ChangeSpec) : _root_.Go.OpenSpec := { _root_.Go.OpenSpec.ofChange s with cond := some uptoSmall }

/-- 'ticketwardlaw.FieldReckons', WHERE WHAT IT READS IS OF BULK AT MOST 1048576: true; the input reads as it did. -/
def fieldReckonsUptoRow : OpenClaim := { program := "ytfngomlknhappaadoor", sum := "9ba8b11d26b987258701e7dc823463e51745837db20e3e0fb90a55795f46a8f0", func := "ticketward/ticketwardlaw.FieldReckons", spec := "fieldReckons", inPlace := ["math/bits.Sub64", "math/bits.Add64"], named := ["ticketward/field.prime"], apart := false, laid := [("ticketward/field.prime", laid_ticketward_field_prime)], narrowed := true }
def FieldReckonsUptoSaid : Prop := fieldReckonsUptoRow.holds Tryd.pinned (OpenSpec.upto fieldReckonsSpec)

/-- 'ticketwardlaw.FieldRoots', WHERE WHAT IT READS IS OF BULK AT MOST 1048576: true; the input reads as it did. -/
def fieldRootsUptoRow : OpenClaim := { program := "ytfngomlknhappaadoor", sum := "9ba8b11d26b987258701e7dc823463e51745837db20e3e0fb90a55795f46a8f0", func := "ticketward/ticketwardlaw.FieldRoots", spec := "fieldRoots", inPlace := ["math/bits.Sub64", "math/bits.Add64"], recurses := true, named := ["ticketward/field.prime", "ticketward/field.turn"], apart := false, laid := [("ticketward/field.prime", laid_ticketward_field_prime), ("ticketward/field.turn", laid_ticketward_field_turn)], narrowed := true }
def FieldRootsUptoSaid : Prop := fieldRootsUptoRow.holds Tryd.pinned (OpenSpec.upto fieldRootsSpec)

/-- 'ticketwardkeep.FieldField', WHERE WHAT IT READS IS OF BULK AT MOST 1048576: true; the input reads as it did. -/
def fieldFieldUptoRow : OpenClaim := { program := "ytfngomlknhappaadoor", sum := "9ba8b11d26b987258701e7dc823463e51745837db20e3e0fb90a55795f46a8f0", func := "ticketward/ticketwardkeep.FieldField", spec := "fieldField", inPlace := ["math/bits.Sub64", "math/bits.Add64"], recurses := true, named := ["ticketward/field.prime", "ticketward/field.turn"], apart := false, laid := [("ticketward/field.prime", laid_ticketward_field_prime), ("ticketward/field.turn", laid_ticketward_field_turn)], narrowed := true }
def FieldFieldUptoSaid : Prop := fieldFieldUptoRow.holds Tryd.pinned (OpenSpec.upto fieldFieldSpec)

/-- 'ticketwardkeep.FieldInv', WHERE WHAT IT READS IS OF BULK AT MOST 1048576: true; the input reads as it did. -/
def fieldInvUptoRow : OpenClaim := { program := "ytfngomlknhappaadoor", sum := "9ba8b11d26b987258701e7dc823463e51745837db20e3e0fb90a55795f46a8f0", func := "ticketward/ticketwardkeep.FieldInv", spec := "fieldInv", inPlace := ["math/bits.Sub64", "math/bits.Add64"], recurses := true, named := ["ticketward/field.prime", "ticketward/field.turn"], apart := false, laid := [("ticketward/field.prime", laid_ticketward_field_prime), ("ticketward/field.turn", laid_ticketward_field_turn)], narrowed := true }
def FieldInvUptoSaid : Prop := fieldInvUptoRow.holds Tryd.pinned (OpenSpec.upto fieldInvSpec)

/-- 'ticketwardkeep.FieldRoot', WHERE WHAT IT READS IS OF BULK AT MOST 1048576: true; the input reads as it did. -/
def fieldRootUptoRow : OpenClaim := { program := "ytfngomlknhappaadoor", sum := "9ba8b11d26b987258701e7dc823463e51745837db20e3e0fb90a55795f46a8f0", func := "ticketward/ticketwardkeep.FieldRoot", spec := "fieldRoot", inPlace := ["math/bits.Sub64", "math/bits.Add64"], recurses := true, named := ["ticketward/field.prime", "ticketward/field.turn"], apart := false, laid := [("ticketward/field.prime", laid_ticketward_field_prime), ("ticketward/field.turn", laid_ticketward_field_turn)], narrowed := true }
def FieldRootUptoSaid : Prop := fieldRootUptoRow.holds Tryd.pinned (OpenSpec.upto fieldRootSpec)

/-- 'ticketwardkeep.FieldNeg', WHERE WHAT IT READS IS OF BULK AT MOST 1048576: true; the input reads as it did. -/
def fieldNegUptoRow : OpenClaim := { program := "ytfngomlknhappaadoor", sum := "9ba8b11d26b987258701e7dc823463e51745837db20e3e0fb90a55795f46a8f0", func := "ticketward/ticketwardkeep.FieldNeg", spec := "fieldNeg", inPlace := ["math/bits.Sub64", "math/bits.Add64"], recurses := true, named := ["ticketward/field.prime", "ticketward/field.turn"], apart := false, laid := [("ticketward/field.prime", laid_ticketward_field_prime), ("ticketward/field.turn", laid_ticketward_field_turn)], narrowed := true }
def FieldNegUptoSaid : Prop := fieldNegUptoRow.holds Tryd.pinned (OpenSpec.upto fieldNegSpec)

end Rows
end Go.Proofs.YtfngomlknhappaaDoor
