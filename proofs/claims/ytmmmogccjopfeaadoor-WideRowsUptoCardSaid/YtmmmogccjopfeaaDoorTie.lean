/-
  DERIVED. GIVEN WITH THE SEED: THE PROGRAM's TIES (one call each: nine closed facts by the kernel) AND EACH ROW's TIE, after the 31st guide's Derived/Test/Toyas{Tie, Card}.lean. No idea stands in it: it is a product of the set-up. Laid BY PROGRAM, IN A SANDBOX (cutbox-door.mjs). By AI agents, Wed Nov 11 2026. No macro, syntax, notation, axiom, sorry.
-/
import Derived.Test.YtmmmogccjopfeaaDoorRows
import Derived.LaidByTextLater
import Derived.SevenTiedAt
import Derived.LaidSub
import Derived.LaidOnce
namespace Go.Proofs.YtmmmogccjopfeaaDoor
open Go
set_option maxRecDepth 100000
theorem seatTie1 : Tryd.prog.laidByTextLater [("ticketward/wide.roots", Rows.laid_ticketward_wide_roots), ("ticketward/ticketwardref.ethird", Rows.laid_ticketward_ticketwardref_ethird), ("ticketward/ticketwardref.esecond", Rows.laid_ticketward_ticketwardref_esecond)] [.data, .data, .widerDeep] true :=
  Program.laidByTextLater_by_one 24 8 81 (by kernel_rfl) (by kernel_rfl) (by kernel_rfl) (by kernel_rfl) (by kernel_rfl) (by kernel_rfl) (fun _ _ => by kernel_rfl)
theorem noOwnUnsafe : Tryd.pinned.checked.prog.headLifts.contains "ownunsafe" = false := by kernel_rfl
theorem tie : Tryd.prog.laidByTextLater [("ticketward/wide.roots", Rows.laid_ticketward_wide_roots), ("ticketward/ticketwardref.ethird", Rows.laid_ticketward_ticketwardref_ethird), ("ticketward/ticketwardref.esecond", Rows.laid_ticketward_ticketwardref_esecond)] [.data, .data, .widerDeep] true :=
  Program.laidByTextLater.sub seatTie1 ["ticketward/wide.roots", "ticketward/ticketwardref.ethird", "ticketward/ticketwardref.esecond"] (by kernel_rfl) (by kernel_rfl)
theorem wideSums_row_tie : Rows.wideSumsRow.laidByTextAt .later Tryd.pinned [.data, .data, .widerDeep] true :=
  OpenClaim.laidByTextAt_later rfl rfl tie noOwnUnsafe
theorem tie2 : Tryd.prog.laidByTextLater [("ticketward/wide.roots", Rows.laid_ticketward_wide_roots)] [.data] true :=
  Program.laidByTextLater.sub seatTie1 ["ticketward/wide.roots"] (by kernel_rfl) (by kernel_rfl)
theorem wideRows_row_tie : Rows.wideRowsRow.laidByTextAt .later Tryd.pinned [.data] true :=
  OpenClaim.laidByTextAt_later rfl rfl tie2 noOwnUnsafe
theorem wideSumsUpto_row_tie : Rows.wideSumsUptoRow.laidByTextAt .later Tryd.pinned [.data, .data, .widerDeep] true :=
  OpenClaim.laidByTextAt_later rfl rfl tie noOwnUnsafe
theorem wideRowsUpto_row_tie : Rows.wideRowsUptoRow.laidByTextAt .later Tryd.pinned [.data] true :=
  OpenClaim.laidByTextAt_later rfl rfl tie2 noOwnUnsafe
end Go.Proofs.YtmmmogccjopfeaaDoor
