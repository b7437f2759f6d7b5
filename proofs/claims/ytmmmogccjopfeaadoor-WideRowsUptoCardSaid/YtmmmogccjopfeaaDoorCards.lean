/-
  DERIVED. GIVEN WITH THE SEED: THE CARDS: each row of YtmmmogccjopfeaaDoorRows.lean that lists a variable, with what it lists TIED to the program's text (the seventh form; the later family's looks); each row that meets fmt, with fmt's text TOLD by the authors' own Lean function (tested against real Go, not proved from fmt's source: count such statements apart). THE CARD IS WHAT COUNTS. Prove the row's statement (the work); the ties are given (YtmmmogccjopfeaaDoorTie.lean); close each card by the builder's one call (the guide's Derived/Test/ToyasCard.lean, 'card_holds'). Laid BY PROGRAM, IN A SANDBOX (cutbox-door.mjs). By AI agents, Wed Nov 11 2026. No macro, syntax, notation, axiom, sorry.
-/
import Derived.Test.YtmmmogccjopfeaaDoorRows
import GoSem.ClaimSeven
namespace Go.Proofs.YtmmmogccjopfeaaDoor
namespace Rows

/-- THE TIED CARD OF 'ticketwardlaw.WideSums'. -/
def wideSumsCard : Claim7 := { stood := { row := wideSumsRow, standIns := [], harness := (true, "44755ee39f1164bebbdd483fd304c9c5076903e34acb08f363be728872013cd1"), looks := false }, kinds := [], alts := [], laidByText := true, laidKinds := [.data, .data, .widerDeep], laidTests := true, laidLooks := .later }
def WideSumsCardSaid : Prop := Claim7.holds Tryd.pinned (.plain (OpenSpec.ofChange wideSumsSpec)) wideSumsCard

/-- THE TIED CARD OF 'ticketwardkeep.WideRows'. -/
def wideRowsCard : Claim7 := { stood := { row := wideRowsRow, standIns := [], harness := (true, "44755ee39f1164bebbdd483fd304c9c5076903e34acb08f363be728872013cd1"), looks := false }, kinds := [], alts := [], laidByText := true, laidKinds := [.data], laidTests := true, laidLooks := .later }
def WideRowsCardSaid : Prop := Claim7.holds Tryd.pinned (.plain (OpenSpec.ofChange wideRowsSpec)) wideRowsCard

/-- THE SECOND FORM's CARD OF 'ticketwardlaw.WideSums'. -/
def wideSumsUptoCard : Claim7 := { stood := { row := wideSumsUptoRow, standIns := [], harness := (true, "44755ee39f1164bebbdd483fd304c9c5076903e34acb08f363be728872013cd1"), looks := false }, kinds := [], alts := [], laidByText := true, laidKinds := [.data, .data, .widerDeep], laidTests := true, laidLooks := .later }
def WideSumsUptoCardSaid : Prop := Claim7.holds Tryd.pinned (.plain (OpenSpec.upto wideSumsSpec)) wideSumsUptoCard

/-- THE SECOND FORM's CARD OF 'ticketwardkeep.WideRows'. -/
def wideRowsUptoCard : Claim7 := { stood := { row := wideRowsUptoRow, standIns := [], harness := (true, "44755ee39f1164bebbdd483fd304c9c5076903e34acb08f363be728872013cd1"), looks := false }, kinds := [], alts := [], laidByText := true, laidKinds := [.data], laidTests := true, laidLooks := .later }
def WideRowsUptoCardSaid : Prop := Claim7.holds Tryd.pinned (.plain (OpenSpec.upto wideRowsSpec)) wideRowsUptoCard
end Rows
end Go.Proofs.YtmmmogccjopfeaaDoor
