/-
  DERIVED. GIVEN WITH THE SEED: THE CARDS: each row of YtgmkbmfeaneaoaaDoorRows.lean that lists a variable, with what it lists TIED to the program's text (the seventh form; the later family's looks); each row that meets fmt, with fmt's text TOLD by the authors' own Lean function (tested against real Go, not proved from fmt's source: count such statements apart). THE CARD IS WHAT COUNTS. Prove the row's statement (the work); the ties are given (YtgmkbmfeaneaoaaDoorTie.lean); close each card by the builder's one call (the guide's Derived/Test/ToyasCard.lean, 'card_holds'). Laid BY PROGRAM, IN A SANDBOX (cutbox-door.mjs). By AI agents, Wed Nov 11 2026. No macro, syntax, notation, axiom, sorry.
-/
import Derived.Test.YtgmkbmfeaneaoaaDoorRows
import GoSem.ClaimSeven
namespace Go.Proofs.YtgmkbmfeaneaoaaDoor
namespace Rows

/-- THE TIED CARD OF 'ticketwardlaw.VintTells'. -/
def vintTellsCard : Claim7 := { stood := { row := vintTellsRow, standIns := [], harness := (true, "04e424b4d703b6ca06018f11b0918f970d9b7ea365148f06af1503a807722cee"), looks := false }, kinds := [], alts := [], laidByText := true, laidKinds := [.data, .data], laidTests := true, laidLooks := .later }
def VintTellsCardSaid : Prop := Claim7.holds Tryd.pinned (.plain (OpenSpec.ofChange vintTellsSpec)) vintTellsCard

/-- THE TIED CARD OF 'ticketwardkeep.VintBack'. -/
def vintBackCard : Claim7 := { stood := { row := vintBackRow, standIns := [], harness := (true, "04e424b4d703b6ca06018f11b0918f970d9b7ea365148f06af1503a807722cee"), looks := false }, kinds := [], alts := [], laidByText := true, laidKinds := [.data, .data], laidTests := true, laidLooks := .later }
def VintBackCardSaid : Prop := Claim7.holds Tryd.pinned (.plain (OpenSpec.ofChange vintBackSpec)) vintBackCard

/-- THE TIED CARD OF 'ticketwardkeep.VintAs'. -/
def vintAsCard : Claim7 := { stood := { row := vintAsRow, standIns := [], harness := (true, "04e424b4d703b6ca06018f11b0918f970d9b7ea365148f06af1503a807722cee"), looks := false }, kinds := [], alts := [], laidByText := true, laidKinds := [.data, .data], laidTests := true, laidLooks := .later }
def VintAsCardSaid : Prop := Claim7.holds Tryd.pinned (.plain (OpenSpec.ofChange vintAsSpec)) vintAsCard

/-- THE TIED CARD OF 'ticketwardkeep.VintOrder'. -/
def vintOrderCard : Claim7 := { stood := { row := vintOrderRow, standIns := [], harness := (true, "04e424b4d703b6ca06018f11b0918f970d9b7ea365148f06af1503a807722cee"), looks := false }, kinds := [], alts := [], laidByText := true, laidKinds := [.data, .data], laidTests := true, laidLooks := .later }
def VintOrderCardSaid : Prop := Claim7.holds Tryd.pinned (.plain (OpenSpec.ofChange vintOrderSpec)) vintOrderCard

/-- THE TIED CARD OF 'ticketwardkeep.VintRow'. -/
def vintRowCard : Claim7 := { stood := { row := vintRowRow, standIns := [], harness := (true, "04e424b4d703b6ca06018f11b0918f970d9b7ea365148f06af1503a807722cee"), looks := false }, kinds := [], alts := [], laidByText := true, laidKinds := [.data, .data], laidTests := true, laidLooks := .later }
def VintRowCardSaid : Prop := Claim7.holds Tryd.pinned (.plain (OpenSpec.ofChange vintRowSpec)) vintRowCard

/-- THE SECOND FORM's CARD OF 'ticketwardlaw.VintTells'. -/
def vintTellsUptoCard : Claim7 := { stood := { row := vintTellsUptoRow, standIns := [], harness := (true, "04e424b4d703b6ca06018f11b0918f970d9b7ea365148f06af1503a807722cee"), looks := false }, kinds := [], alts := [], laidByText := true, laidKinds := [.data, .data], laidTests := true, laidLooks := .later }
def VintTellsUptoCardSaid : Prop := Claim7.holds Tryd.pinned (.plain (OpenSpec.upto vintTellsSpec)) vintTellsUptoCard

/-- THE SECOND FORM's CARD OF 'ticketwardkeep.VintBack'. -/
def vintBackUptoCard : Claim7 := { stood := { row := vintBackUptoRow, standIns := [], harness := (true, "04e424b4d703b6ca06018f11b0918f970d9b7ea365148f06af1503a807722cee"), looks := false }, kinds := [], alts := [], laidByText := true, laidKinds := [.data, .data], laidTests := true, laidLooks := .later }
def VintBackUptoCardSaid : Prop := Claim7.holds Tryd.pinned (.plain (OpenSpec.upto vintBackSpec)) vintBackUptoCard

/-- THE SECOND FORM's CARD OF 'ticketwardkeep.VintAs'. -/
def vintAsUptoCard : Claim7 := { stood := { row := vintAsUptoRow, standIns := [], harness := (true, "04e424b4d703b6ca06018f11b0918f970d9b7ea365148f06af1503a807722cee"), looks := false }, kinds := [], alts := [], laidByText := true, laidKinds := [.data, .data], laidTests := true, laidLooks := .later }
def VintAsUptoCardSaid : Prop := Claim7.holds Tryd.pinned (.plain (OpenSpec.upto vintAsSpec)) vintAsUptoCard

/-- THE SECOND FORM's CARD OF 'ticketwardkeep.VintOrder'. -/
def vintOrderUptoCard : Claim7 := { stood := { row := vintOrderUptoRow, standIns := [], harness := (true, "04e424b4d703b6ca06018f11b0918f970d9b7ea365148f06af1503a807722cee"), looks := false }, kinds := [], alts := [], laidByText := true, laidKinds := [.data, .data], laidTests := true, laidLooks := .later }
def VintOrderUptoCardSaid : Prop := Claim7.holds Tryd.pinned (.plain (OpenSpec.upto vintOrderSpec)) vintOrderUptoCard

/-- THE SECOND FORM's CARD OF 'ticketwardkeep.VintRow'. -/
def vintRowUptoCard : Claim7 := { stood := { row := vintRowUptoRow, standIns := [], harness := (true, "04e424b4d703b6ca06018f11b0918f970d9b7ea365148f06af1503a807722cee"), looks := false }, kinds := [], alts := [], laidByText := true, laidKinds := [.data, .data], laidTests := true, laidLooks := .later }
def VintRowUptoCardSaid : Prop := Claim7.holds Tryd.pinned (.plain (OpenSpec.upto vintRowSpec)) vintRowUptoCard
end Rows
end Go.Proofs.YtgmkbmfeaneaoaaDoor
