/-
  DERIVED. GIVEN WITH THE SEED: THE CARDS: each row of YtehlolklbdbhkaaDoorRows.lean that lists a variable, with what it lists TIED to the program's text (the seventh form; the later family's looks); each row that meets fmt, with fmt's text TOLD by the authors' own Lean function (tested against real Go, not proved from fmt's source: count such statements apart). THE CARD IS WHAT COUNTS. Prove the row's statement (the work); the ties are given (YtehlolklbdbhkaaDoorTie.lean); close each card by the builder's one call (the guide's Derived/Test/ToyasCard.lean, 'card_holds'). Laid BY PROGRAM, IN A SANDBOX (cutbox-door.mjs). By AI agents, Wed Nov 11 2026. No macro, syntax, notation, axiom, sorry.
-/
import Derived.Test.YtehlolklbdbhkaaDoorRows
import GoSem.ClaimSeven
namespace Go.Proofs.YtehlolklbdbhkaaDoor
namespace Rows

/-- THE TIED CARD OF 'ticketwardlaw.MacSums'. -/
def macSumsCard : Claim7 := { stood := { row := macSumsRow, standIns := [], harness := (true, "7aa631d2cad90184ff22f2f27ca052f3f6d1fb2e1ae98adc7cdad4a52a5ad503"), looks := false }, kinds := [], alts := [], laidByText := true, laidKinds := [.data, .data, .data], laidTests := true, laidLooks := .later }
def MacSumsCardSaid : Prop := Claim7.holds Tryd.pinned (.plain (OpenSpec.ofChange macSumsSpec)) macSumsCard

/-- THE TIED CARD OF 'ticketwardlaw.MacChains'. -/
def macChainsCard : Claim7 := { stood := { row := macChainsRow, standIns := [], harness := (true, "7aa631d2cad90184ff22f2f27ca052f3f6d1fb2e1ae98adc7cdad4a52a5ad503"), looks := false }, kinds := [], alts := [], laidByText := true, laidKinds := [.data, .data, .data], laidTests := true, laidLooks := .later }
def MacChainsCardSaid : Prop := Claim7.holds Tryd.pinned (.plain (OpenSpec.ofChange macChainsSpec)) macChainsCard

/-- THE TIED CARD OF 'ticketwardkeep.MacChecks'. -/
def macChecksCard : Claim7 := { stood := { row := macChecksRow, standIns := [], harness := (true, "7aa631d2cad90184ff22f2f27ca052f3f6d1fb2e1ae98adc7cdad4a52a5ad503"), looks := false }, kinds := [], alts := [], laidByText := true, laidKinds := [.data], laidTests := true, laidLooks := .later }
def MacChecksCardSaid : Prop := Claim7.holds Tryd.pinned (.plain (OpenSpec.ofChange macChecksSpec)) macChecksCard

/-- THE TIED CARD OF 'ticketwardkeep.MacKeys'. -/
def macKeysCard : Claim7 := { stood := { row := macKeysRow, standIns := [], harness := (true, "7aa631d2cad90184ff22f2f27ca052f3f6d1fb2e1ae98adc7cdad4a52a5ad503"), looks := false }, kinds := [], alts := [], laidByText := true, laidKinds := [.data, .data, .data], laidTests := true, laidLooks := .later }
def MacKeysCardSaid : Prop := Claim7.holds Tryd.pinned (.plain (OpenSpec.ofChange macKeysSpec)) macKeysCard

/-- THE TIED CARD OF 'ticketwardkeep.MacChain'. -/
def macChainCard : Claim7 := { stood := { row := macChainRow, standIns := [], harness := (true, "7aa631d2cad90184ff22f2f27ca052f3f6d1fb2e1ae98adc7cdad4a52a5ad503"), looks := false }, kinds := [], alts := [], laidByText := true, laidKinds := [.data], laidTests := true, laidLooks := .later }
def MacChainCardSaid : Prop := Claim7.holds Tryd.pinned (.plain (OpenSpec.ofChange macChainSpec)) macChainCard

/-- THE TIED CARD OF 'ticketwardkeep.MacMade'. -/
def macMadeCard : Claim7 := { stood := { row := macMadeRow, standIns := [], harness := (true, "7aa631d2cad90184ff22f2f27ca052f3f6d1fb2e1ae98adc7cdad4a52a5ad503"), looks := false }, kinds := [], alts := [], laidByText := true, laidKinds := [.data], laidTests := true, laidLooks := .later }
def MacMadeCardSaid : Prop := Claim7.holds Tryd.pinned (.plain (OpenSpec.ofChange macMadeSpec)) macMadeCard

/-- THE SECOND FORM's CARD OF 'ticketwardlaw.MacSums'. -/
def macSumsUptoCard : Claim7 := { stood := { row := macSumsUptoRow, standIns := [], harness := (true, "7aa631d2cad90184ff22f2f27ca052f3f6d1fb2e1ae98adc7cdad4a52a5ad503"), looks := false }, kinds := [], alts := [], laidByText := true, laidKinds := [.data, .data, .data], laidTests := true, laidLooks := .later }
def MacSumsUptoCardSaid : Prop := Claim7.holds Tryd.pinned (.plain (OpenSpec.upto macSumsSpec)) macSumsUptoCard

/-- THE SECOND FORM's CARD OF 'ticketwardlaw.MacChains'. -/
def macChainsUptoCard : Claim7 := { stood := { row := macChainsUptoRow, standIns := [], harness := (true, "7aa631d2cad90184ff22f2f27ca052f3f6d1fb2e1ae98adc7cdad4a52a5ad503"), looks := false }, kinds := [], alts := [], laidByText := true, laidKinds := [.data, .data, .data], laidTests := true, laidLooks := .later }
def MacChainsUptoCardSaid : Prop := Claim7.holds Tryd.pinned (.plain (OpenSpec.upto macChainsSpec)) macChainsUptoCard

/-- THE SECOND FORM's CARD OF 'ticketwardkeep.MacChecks'. -/
def macChecksUptoCard : Claim7 := { stood := { row := macChecksUptoRow, standIns := [], harness := (true, "7aa631d2cad90184ff22f2f27ca052f3f6d1fb2e1ae98adc7cdad4a52a5ad503"), looks := false }, kinds := [], alts := [], laidByText := true, laidKinds := [.data], laidTests := true, laidLooks := .later }
def MacChecksUptoCardSaid : Prop := Claim7.holds Tryd.pinned (.plain (OpenSpec.upto macChecksSpec)) macChecksUptoCard

/-- THE SECOND FORM's CARD OF 'ticketwardkeep.MacKeys'. -/
def macKeysUptoCard : Claim7 := { stood := { row := macKeysUptoRow, standIns := [], harness := (true, "7aa631d2cad90184ff22f2f27ca052f3f6d1fb2e1ae98adc7cdad4a52a5ad503"), looks := false }, kinds := [], alts := [], laidByText := true, laidKinds := [.data, .data, .data], laidTests := true, laidLooks := .later }
def MacKeysUptoCardSaid : Prop := Claim7.holds Tryd.pinned (.plain (OpenSpec.upto macKeysSpec)) macKeysUptoCard

/-- THE SECOND FORM's CARD OF 'ticketwardkeep.MacChain'. -/
def macChainUptoCard : Claim7 := { stood := { row := macChainUptoRow, standIns := [], harness := (true, "7aa631d2cad90184ff22f2f27ca052f3f6d1fb2e1ae98adc7cdad4a52a5ad503"), looks := false }, kinds := [], alts := [], laidByText := true, laidKinds := [.data], laidTests := true, laidLooks := .later }
def MacChainUptoCardSaid : Prop := Claim7.holds Tryd.pinned (.plain (OpenSpec.upto macChainSpec)) macChainUptoCard

/-- THE SECOND FORM's CARD OF 'ticketwardkeep.MacMade'. -/
def macMadeUptoCard : Claim7 := { stood := { row := macMadeUptoRow, standIns := [], harness := (true, "7aa631d2cad90184ff22f2f27ca052f3f6d1fb2e1ae98adc7cdad4a52a5ad503"), looks := false }, kinds := [], alts := [], laidByText := true, laidKinds := [.data], laidTests := true, laidLooks := .later }
def MacMadeUptoCardSaid : Prop := Claim7.holds Tryd.pinned (.plain (OpenSpec.upto macMadeSpec)) macMadeUptoCard
end Rows
end Go.Proofs.YtehlolklbdbhkaaDoor
