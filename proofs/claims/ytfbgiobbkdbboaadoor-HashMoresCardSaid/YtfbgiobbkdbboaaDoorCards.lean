/-
  DERIVED. GIVEN WITH THE SEED: THE CARDS: each row of YtfbgiobbkdbboaaDoorRows.lean that lists a variable, with what it lists TIED to the program's text (the seventh form; the later family's looks); each row that meets fmt, with fmt's text TOLD by the authors' own Lean function (tested against real Go, not proved from fmt's source: count such statements apart). THE CARD IS WHAT COUNTS. Prove the row's statement (the work); the ties are given (YtfbgiobbkdbboaaDoorTie.lean); close each card by the builder's one call (the guide's Derived/Test/ToyasCard.lean, 'card_holds'). Laid BY PROGRAM, IN A SANDBOX (cutbox-door.mjs). By AI agents, Wed Nov 11 2026. No macro, syntax, notation, axiom, sorry.
-/
import Derived.Test.YtfbgiobbkdbboaaDoorRows
import GoSem.ClaimSeven
namespace Go.Proofs.YtfbgiobbkdbboaaDoor
namespace Rows

/-- THE TIED CARD OF 'ticketwardlaw.HashSums'. -/
def hashSumsCard : Claim7 := { stood := { row := hashSumsRow, standIns := [], harness := (true, "694ad536599304d794b30b18fea0e1e9d4b7722d38dfc231b042ab89d05725ba"), looks := false }, kinds := [], alts := [], laidByText := true, laidKinds := [.data, .data, .data], laidTests := true, laidLooks := .later }
def HashSumsCardSaid : Prop := Claim7.holds Tryd.pinned (.plain (OpenSpec.ofChange hashSumsSpec)) hashSumsCard

/-- THE TIED CARD OF 'ticketwardlaw.HashMores'. -/
def hashMoresCard : Claim7 := { stood := { row := hashMoresRow, standIns := [], harness := (true, "694ad536599304d794b30b18fea0e1e9d4b7722d38dfc231b042ab89d05725ba"), looks := false }, kinds := [], alts := [], laidByText := true, laidKinds := [.data, .data], laidTests := true, laidLooks := .later }
def HashMoresCardSaid : Prop := Claim7.holds Tryd.pinned (.plain (OpenSpec.ofChange hashMoresSpec)) hashMoresCard

/-- THE TIED CARD OF 'ticketwardkeep.HashParts'. -/
def hashPartsCard : Claim7 := { stood := { row := hashPartsRow, standIns := [], harness := (true, "694ad536599304d794b30b18fea0e1e9d4b7722d38dfc231b042ab89d05725ba"), looks := false }, kinds := [], alts := [], laidByText := true, laidKinds := [.data], laidTests := true, laidLooks := .later }
def HashPartsCardSaid : Prop := Claim7.holds Tryd.pinned (.plain (OpenSpec.ofChange hashPartsSpec)) hashPartsCard

/-- THE TIED CARD OF 'ticketwardkeep.HashOn'. -/
def hashOnCard : Claim7 := { stood := { row := hashOnRow, standIns := [], harness := (true, "694ad536599304d794b30b18fea0e1e9d4b7722d38dfc231b042ab89d05725ba"), looks := false }, kinds := [], alts := [], laidByText := true, laidKinds := [.data], laidTests := true, laidLooks := .later }
def HashOnCardSaid : Prop := Claim7.holds Tryd.pinned (.plain (OpenSpec.ofChange hashOnSpec)) hashOnCard

/-- THE TIED CARD OF 'ticketwardkeep.HashBlocks'. -/
def hashBlocksCard : Claim7 := { stood := { row := hashBlocksRow, standIns := [], harness := (true, "694ad536599304d794b30b18fea0e1e9d4b7722d38dfc231b042ab89d05725ba"), looks := false }, kinds := [], alts := [], laidByText := true, laidKinds := [.data], laidTests := true, laidLooks := .later }
def HashBlocksCardSaid : Prop := Claim7.holds Tryd.pinned (.plain (OpenSpec.ofChange hashBlocksSpec)) hashBlocksCard

/-- THE SECOND FORM's CARD OF 'ticketwardlaw.HashSums'. -/
def hashSumsUptoCard : Claim7 := { stood := { row := hashSumsUptoRow, standIns := [], harness := (true, "694ad536599304d794b30b18fea0e1e9d4b7722d38dfc231b042ab89d05725ba"), looks := false }, kinds := [], alts := [], laidByText := true, laidKinds := [.data, .data, .data], laidTests := true, laidLooks := .later }
def HashSumsUptoCardSaid : Prop := Claim7.holds Tryd.pinned (.plain (OpenSpec.upto hashSumsSpec)) hashSumsUptoCard

/-- THE SECOND FORM's CARD OF 'ticketwardlaw.HashMores'. -/
def hashMoresUptoCard : Claim7 := { stood := { row := hashMoresUptoRow, standIns := [], harness := (true, "694ad536599304d794b30b18fea0e1e9d4b7722d38dfc231b042ab89d05725ba"), looks := false }, kinds := [], alts := [], laidByText := true, laidKinds := [.data, .data], laidTests := true, laidLooks := .later }
def HashMoresUptoCardSaid : Prop := Claim7.holds Tryd.pinned (.plain (OpenSpec.upto hashMoresSpec)) hashMoresUptoCard

/-- THE SECOND FORM's CARD OF 'ticketwardkeep.HashParts'. -/
def hashPartsUptoCard : Claim7 := { stood := { row := hashPartsUptoRow, standIns := [], harness := (true, "694ad536599304d794b30b18fea0e1e9d4b7722d38dfc231b042ab89d05725ba"), looks := false }, kinds := [], alts := [], laidByText := true, laidKinds := [.data], laidTests := true, laidLooks := .later }
def HashPartsUptoCardSaid : Prop := Claim7.holds Tryd.pinned (.plain (OpenSpec.upto hashPartsSpec)) hashPartsUptoCard

/-- THE SECOND FORM's CARD OF 'ticketwardkeep.HashOn'. -/
def hashOnUptoCard : Claim7 := { stood := { row := hashOnUptoRow, standIns := [], harness := (true, "694ad536599304d794b30b18fea0e1e9d4b7722d38dfc231b042ab89d05725ba"), looks := false }, kinds := [], alts := [], laidByText := true, laidKinds := [.data], laidTests := true, laidLooks := .later }
def HashOnUptoCardSaid : Prop := Claim7.holds Tryd.pinned (.plain (OpenSpec.upto hashOnSpec)) hashOnUptoCard

/-- THE SECOND FORM's CARD OF 'ticketwardkeep.HashBlocks'. -/
def hashBlocksUptoCard : Claim7 := { stood := { row := hashBlocksUptoRow, standIns := [], harness := (true, "694ad536599304d794b30b18fea0e1e9d4b7722d38dfc231b042ab89d05725ba"), looks := false }, kinds := [], alts := [], laidByText := true, laidKinds := [.data], laidTests := true, laidLooks := .later }
def HashBlocksUptoCardSaid : Prop := Claim7.holds Tryd.pinned (.plain (OpenSpec.upto hashBlocksSpec)) hashBlocksUptoCard
end Rows
end Go.Proofs.YtfbgiobbkdbboaaDoor
