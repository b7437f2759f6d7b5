/-
  DERIVED. GIVEN WITH THE SEED: THE CARDS: each row of YtnlhcogmccladaaDoorRows.lean that lists a variable, with what it lists TIED to the program's text (the seventh form; the later family's looks); each row that meets fmt, with fmt's text TOLD by the authors' own Lean function (tested against real Go, not proved from fmt's source: count such statements apart). THE CARD IS WHAT COUNTS. Prove the row's statement (the work); the ties are given (YtnlhcogmccladaaDoorTie.lean); close each card by the builder's one call (the guide's Derived/Test/ToyasCard.lean, 'card_holds'). Laid BY PROGRAM, IN A SANDBOX (cutbox-door.mjs). By AI agents, Wed Nov 11 2026. No macro, syntax, notation, axiom, sorry.
-/
import Derived.Test.YtnlhcogmccladaaDoorRows
import GoSem.ClaimSeven
namespace Go.Proofs.YtnlhcogmccladaaDoor
namespace Rows

/-- THE TIED CARD OF 'ticketwardlaw.KdfExpands'. -/
def kdfExpandsCard : Claim7 := { stood := { row := kdfExpandsRow, standIns := [], harness := (true, "6b65a1ac64f3fed3044d3e1ebe59b686b69bc13c4d178b90406fea598515f8b4"), looks := false }, kinds := [], alts := [], laidByText := true, laidKinds := [.data, .data, .data], laidTests := true, laidLooks := .later }
def KdfExpandsCardSaid : Prop := Claim7.holds Tryd.pinned (.plain (OpenSpec.ofChange kdfExpandsSpec)) kdfExpandsCard

/-- THE TIED CARD OF 'ticketwardlaw.KdfLabels'. -/
def kdfLabelsCard : Claim7 := { stood := { row := kdfLabelsRow, standIns := [], harness := (true, "6b65a1ac64f3fed3044d3e1ebe59b686b69bc13c4d178b90406fea598515f8b4"), looks := false }, kinds := [], alts := [], laidByText := true, laidKinds := [.data, .data, .data], laidTests := true, laidLooks := .later }
def KdfLabelsCardSaid : Prop := Claim7.holds Tryd.pinned (.plain (OpenSpec.ofChange kdfLabelsSpec)) kdfLabelsCard

/-- THE TIED CARD OF 'ticketwardkeep.KdfBegins'. -/
def kdfBeginsCard : Claim7 := { stood := { row := kdfBeginsRow, standIns := [], harness := (true, "6b65a1ac64f3fed3044d3e1ebe59b686b69bc13c4d178b90406fea598515f8b4"), looks := false }, kinds := [], alts := [], laidByText := true, laidKinds := [.data], laidTests := true, laidLooks := .later }
def KdfBeginsCardSaid : Prop := Claim7.holds Tryd.pinned (.plain (OpenSpec.ofChange kdfBeginsSpec)) kdfBeginsCard

/-- THE TIED CARD OF 'ticketwardkeep.KdfFor'. -/
def kdfForCard : Claim7 := { stood := { row := kdfForRow, standIns := [], harness := (true, "6b65a1ac64f3fed3044d3e1ebe59b686b69bc13c4d178b90406fea598515f8b4"), looks := false }, kinds := [], alts := [], laidByText := true, laidKinds := [.data], laidTests := true, laidLooks := .later }
def KdfForCardSaid : Prop := Claim7.holds Tryd.pinned (.plain (OpenSpec.ofChange kdfForSpec)) kdfForCard

/-- THE TIED CARD OF 'ticketwardkeep.KdfSteps'. -/
def kdfStepsCard : Claim7 := { stood := { row := kdfStepsRow, standIns := [], harness := (true, "6b65a1ac64f3fed3044d3e1ebe59b686b69bc13c4d178b90406fea598515f8b4"), looks := false }, kinds := [], alts := [], laidByText := true, laidKinds := [.data], laidTests := true, laidLooks := .later }
def KdfStepsCardSaid : Prop := Claim7.holds Tryd.pinned (.plain (OpenSpec.ofChange kdfStepsSpec)) kdfStepsCard

/-- THE SECOND FORM's CARD OF 'ticketwardlaw.KdfExpands'. -/
def kdfExpandsUptoCard : Claim7 := { stood := { row := kdfExpandsUptoRow, standIns := [], harness := (true, "6b65a1ac64f3fed3044d3e1ebe59b686b69bc13c4d178b90406fea598515f8b4"), looks := false }, kinds := [], alts := [], laidByText := true, laidKinds := [.data, .data, .data], laidTests := true, laidLooks := .later }
def KdfExpandsUptoCardSaid : Prop := Claim7.holds Tryd.pinned (.plain (OpenSpec.upto kdfExpandsSpec)) kdfExpandsUptoCard

/-- THE SECOND FORM's CARD OF 'ticketwardlaw.KdfLabels'. -/
def kdfLabelsUptoCard : Claim7 := { stood := { row := kdfLabelsUptoRow, standIns := [], harness := (true, "6b65a1ac64f3fed3044d3e1ebe59b686b69bc13c4d178b90406fea598515f8b4"), looks := false }, kinds := [], alts := [], laidByText := true, laidKinds := [.data, .data, .data], laidTests := true, laidLooks := .later }
def KdfLabelsUptoCardSaid : Prop := Claim7.holds Tryd.pinned (.plain (OpenSpec.upto kdfLabelsSpec)) kdfLabelsUptoCard

/-- THE SECOND FORM's CARD OF 'ticketwardkeep.KdfBegins'. -/
def kdfBeginsUptoCard : Claim7 := { stood := { row := kdfBeginsUptoRow, standIns := [], harness := (true, "6b65a1ac64f3fed3044d3e1ebe59b686b69bc13c4d178b90406fea598515f8b4"), looks := false }, kinds := [], alts := [], laidByText := true, laidKinds := [.data], laidTests := true, laidLooks := .later }
def KdfBeginsUptoCardSaid : Prop := Claim7.holds Tryd.pinned (.plain (OpenSpec.upto kdfBeginsSpec)) kdfBeginsUptoCard

/-- THE SECOND FORM's CARD OF 'ticketwardkeep.KdfFor'. -/
def kdfForUptoCard : Claim7 := { stood := { row := kdfForUptoRow, standIns := [], harness := (true, "6b65a1ac64f3fed3044d3e1ebe59b686b69bc13c4d178b90406fea598515f8b4"), looks := false }, kinds := [], alts := [], laidByText := true, laidKinds := [.data], laidTests := true, laidLooks := .later }
def KdfForUptoCardSaid : Prop := Claim7.holds Tryd.pinned (.plain (OpenSpec.upto kdfForSpec)) kdfForUptoCard

/-- THE SECOND FORM's CARD OF 'ticketwardkeep.KdfSteps'. -/
def kdfStepsUptoCard : Claim7 := { stood := { row := kdfStepsUptoRow, standIns := [], harness := (true, "6b65a1ac64f3fed3044d3e1ebe59b686b69bc13c4d178b90406fea598515f8b4"), looks := false }, kinds := [], alts := [], laidByText := true, laidKinds := [.data], laidTests := true, laidLooks := .later }
def KdfStepsUptoCardSaid : Prop := Claim7.holds Tryd.pinned (.plain (OpenSpec.upto kdfStepsSpec)) kdfStepsUptoCard
end Rows
end Go.Proofs.YtnlhcogmccladaaDoor
