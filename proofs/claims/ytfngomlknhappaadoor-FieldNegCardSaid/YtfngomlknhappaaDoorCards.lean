/-
  DERIVED. GIVEN WITH THE SEED: THE CARDS: each row of YtfngomlknhappaaDoorRows.lean that lists a variable, with what it lists TIED to the program's text (the seventh form; the later family's looks); each row that meets fmt, with fmt's text TOLD by the authors' own Lean function (tested against real Go, not proved from fmt's source: count such statements apart). THE CARD IS WHAT COUNTS. Prove the row's statement (the work); the ties are given (YtfngomlknhappaaDoorTie.lean); close each card by the builder's one call (the guide's Derived/Test/ToyasCard.lean, 'card_holds'). Laid BY PROGRAM, IN A SANDBOX (cutbox-door.mjs). By AI agents, Wed Nov 11 2026. No macro, syntax, notation, axiom, sorry.
-/
import Derived.Test.YtfngomlknhappaaDoorRows
import GoSem.ClaimSeven
namespace Go.Proofs.YtfngomlknhappaaDoor
namespace Rows

/-- THE TIED CARD OF 'ticketwardlaw.FieldReckons'. -/
def fieldReckonsCard : Claim7 := { stood := { row := fieldReckonsRow, standIns := [], harness := (true, "7d75bd33d842c25c8f10c95080d026fe71429dec736cd56c2ba801fbbe523c81"), looks := false }, kinds := [], alts := [], laidByText := true, laidKinds := [.data], laidTests := true, laidLooks := .later }
def FieldReckonsCardSaid : Prop := Claim7.holds Tryd.pinned (.plain (OpenSpec.ofChange fieldReckonsSpec)) fieldReckonsCard

/-- THE TIED CARD OF 'ticketwardlaw.FieldRoots'. -/
def fieldRootsCard : Claim7 := { stood := { row := fieldRootsRow, standIns := [], harness := (true, "7d75bd33d842c25c8f10c95080d026fe71429dec736cd56c2ba801fbbe523c81"), looks := false }, kinds := [], alts := [], laidByText := true, laidKinds := [.data, .data], laidTests := true, laidLooks := .later }
def FieldRootsCardSaid : Prop := Claim7.holds Tryd.pinned (.plain (OpenSpec.ofChange fieldRootsSpec)) fieldRootsCard

/-- THE TIED CARD OF 'ticketwardkeep.FieldField'. -/
def fieldFieldCard : Claim7 := { stood := { row := fieldFieldRow, standIns := [], harness := (true, "7d75bd33d842c25c8f10c95080d026fe71429dec736cd56c2ba801fbbe523c81"), looks := false }, kinds := [], alts := [], laidByText := true, laidKinds := [.data, .data], laidTests := true, laidLooks := .later }
def FieldFieldCardSaid : Prop := Claim7.holds Tryd.pinned (.plain (OpenSpec.ofChange fieldFieldSpec)) fieldFieldCard

/-- THE TIED CARD OF 'ticketwardkeep.FieldInv'. -/
def fieldInvCard : Claim7 := { stood := { row := fieldInvRow, standIns := [], harness := (true, "7d75bd33d842c25c8f10c95080d026fe71429dec736cd56c2ba801fbbe523c81"), looks := false }, kinds := [], alts := [], laidByText := true, laidKinds := [.data, .data], laidTests := true, laidLooks := .later }
def FieldInvCardSaid : Prop := Claim7.holds Tryd.pinned (.plain (OpenSpec.ofChange fieldInvSpec)) fieldInvCard

/-- THE TIED CARD OF 'ticketwardkeep.FieldRoot'. -/
def fieldRootCard : Claim7 := { stood := { row := fieldRootRow, standIns := [], harness := (true, "7d75bd33d842c25c8f10c95080d026fe71429dec736cd56c2ba801fbbe523c81"), looks := false }, kinds := [], alts := [], laidByText := true, laidKinds := [.data, .data], laidTests := true, laidLooks := .later }
def FieldRootCardSaid : Prop := Claim7.holds Tryd.pinned (.plain (OpenSpec.ofChange fieldRootSpec)) fieldRootCard

/-- THE TIED CARD OF 'ticketwardkeep.FieldNeg'. -/
def fieldNegCard : Claim7 := { stood := { row := fieldNegRow, standIns := [], harness := (true, "7d75bd33d842c25c8f10c95080d026fe71429dec736cd56c2ba801fbbe523c81"), looks := false }, kinds := [], alts := [], laidByText := true, laidKinds := [.data, .data], laidTests := true, laidLooks := .later }
def FieldNegCardSaid : Prop := Claim7.holds Tryd.pinned (.plain (OpenSpec.ofChange fieldNegSpec)) fieldNegCard

/-- THE SECOND FORM's CARD OF 'ticketwardlaw.FieldReckons'. -/
def fieldReckonsUptoCard : Claim7 := { stood := { row := fieldReckonsUptoRow, standIns := [], harness := (true, "7d75bd33d842c25c8f10c95080d026fe71429dec736cd56c2ba801fbbe523c81"), looks := false }, kinds := [], alts := [], laidByText := true, laidKinds := [.data], laidTests := true, laidLooks := .later }
def FieldReckonsUptoCardSaid : Prop := Claim7.holds Tryd.pinned (.plain (OpenSpec.upto fieldReckonsSpec)) fieldReckonsUptoCard

/-- THE SECOND FORM's CARD OF 'ticketwardlaw.FieldRoots'. -/
def fieldRootsUptoCard : Claim7 := { stood := { row := fieldRootsUptoRow, standIns := [], harness := (true, "7d75bd33d842c25c8f10c95080d026fe71429dec736cd56c2ba801fbbe523c81"), looks := false }, kinds := [], alts := [], laidByText := true, laidKinds := [.data, .data], laidTests := true, laidLooks := .later }
def FieldRootsUptoCardSaid : Prop := Claim7.holds Tryd.pinned (.plain (OpenSpec.upto fieldRootsSpec)) fieldRootsUptoCard

/-- THE SECOND FORM's CARD OF 'ticketwardkeep.FieldField'. -/
def fieldFieldUptoCard : Claim7 := { stood := { row := fieldFieldUptoRow, standIns := [], harness := (true, "7d75bd33d842c25c8f10c95080d026fe71429dec736cd56c2ba801fbbe523c81"), looks := false }, kinds := [], alts := [], laidByText := true, laidKinds := [.data, .data], laidTests := true, laidLooks := .later }
def FieldFieldUptoCardSaid : Prop := Claim7.holds Tryd.pinned (.plain (OpenSpec.upto fieldFieldSpec)) fieldFieldUptoCard

/-- THE SECOND FORM's CARD OF 'ticketwardkeep.FieldInv'. -/
def fieldInvUptoCard : Claim7 := { stood := { row := fieldInvUptoRow, standIns := [], harness := (true, "7d75bd33d842c25c8f10c95080d026fe71429dec736cd56c2ba801fbbe523c81"), looks := false }, kinds := [], alts := [], laidByText := true, laidKinds := [.data, .data], laidTests := true, laidLooks := .later }
def FieldInvUptoCardSaid : Prop := Claim7.holds Tryd.pinned (.plain (OpenSpec.upto fieldInvSpec)) fieldInvUptoCard

/-- THE SECOND FORM's CARD OF 'ticketwardkeep.FieldRoot'. -/
def fieldRootUptoCard : Claim7 := { stood := { row := fieldRootUptoRow, standIns := [], harness := (true, "7d75bd33d842c25c8f10c95080d026fe71429dec736cd56c2ba801fbbe523c81"), looks := false }, kinds := [], alts := [], laidByText := true, laidKinds := [.data, .data], laidTests := true, laidLooks := .later }
def FieldRootUptoCardSaid : Prop := Claim7.holds Tryd.pinned (.plain (OpenSpec.upto fieldRootSpec)) fieldRootUptoCard

/-- THE SECOND FORM's CARD OF 'ticketwardkeep.FieldNeg'. -/
def fieldNegUptoCard : Claim7 := { stood := { row := fieldNegUptoRow, standIns := [], harness := (true, "7d75bd33d842c25c8f10c95080d026fe71429dec736cd56c2ba801fbbe523c81"), looks := false }, kinds := [], alts := [], laidByText := true, laidKinds := [.data, .data], laidTests := true, laidLooks := .later }
def FieldNegUptoCardSaid : Prop := Claim7.holds Tryd.pinned (.plain (OpenSpec.upto fieldNegSpec)) fieldNegUptoCard
end Rows
end Go.Proofs.YtfngomlknhappaaDoor
