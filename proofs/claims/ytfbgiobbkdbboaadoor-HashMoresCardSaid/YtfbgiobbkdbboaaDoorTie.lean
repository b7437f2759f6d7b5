/-
  DERIVED. GIVEN WITH THE SEED: THE PROGRAM's TIES (one call each: nine closed facts by the kernel) AND EACH ROW's TIE, after the 31st guide's Derived/Test/Toyas{Tie, Card}.lean. No idea stands in it: it is a product of the set-up. Laid BY PROGRAM, IN A SANDBOX (cutbox-door.mjs). By AI agents, Wed Nov 11 2026. No macro, syntax, notation, axiom, sorry.
-/
import Derived.Test.YtfbgiobbkdbboaaDoorRows
import Derived.LaidByTextLater
import Derived.SevenTiedAt
import Derived.LaidSub
import Derived.LaidOnce
namespace Go.Proofs.YtfbgiobbkdbboaaDoor
open Go
set_option maxRecDepth 100000
theorem seatTie1 : Tryd.prog.laidByTextLater [("ticketward/ticketwardref.dthird", Rows.laid_ticketward_ticketwardref_dthird), ("ticketward/ticketwardref.dsecond", Rows.laid_ticketward_ticketwardref_dsecond), ("ticketward/hash.roots", Rows.laid_ticketward_hash_roots)] [.data, .data, .data] true :=
  Program.laidByTextLater_by_one 24 8 65 (by kernel_rfl) (by kernel_rfl) (by kernel_rfl) (by kernel_rfl) (by kernel_rfl) (by kernel_rfl) (fun _ _ => by kernel_rfl)
theorem noOwnUnsafe : Tryd.pinned.checked.prog.headLifts.contains "ownunsafe" = false := by kernel_rfl
theorem tie : Tryd.prog.laidByTextLater [("ticketward/ticketwardref.dthird", Rows.laid_ticketward_ticketwardref_dthird), ("ticketward/ticketwardref.dsecond", Rows.laid_ticketward_ticketwardref_dsecond), ("ticketward/hash.roots", Rows.laid_ticketward_hash_roots)] [.data, .data, .data] true :=
  Program.laidByTextLater.sub seatTie1 ["ticketward/ticketwardref.dthird", "ticketward/ticketwardref.dsecond", "ticketward/hash.roots"] (by kernel_rfl) (by kernel_rfl)
theorem hashSums_row_tie : Rows.hashSumsRow.laidByTextAt .later Tryd.pinned [.data, .data, .data] true :=
  OpenClaim.laidByTextAt_later rfl rfl tie noOwnUnsafe
theorem tie2 : Tryd.prog.laidByTextLater [("ticketward/ticketwardref.dthird", Rows.laid_ticketward_ticketwardref_dthird), ("ticketward/hash.roots", Rows.laid_ticketward_hash_roots)] [.data, .data] true :=
  Program.laidByTextLater.sub seatTie1 ["ticketward/ticketwardref.dthird", "ticketward/hash.roots"] (by kernel_rfl) (by kernel_rfl)
theorem hashMores_row_tie : Rows.hashMoresRow.laidByTextAt .later Tryd.pinned [.data, .data] true :=
  OpenClaim.laidByTextAt_later rfl rfl tie2 noOwnUnsafe
theorem tie3 : Tryd.prog.laidByTextLater [("ticketward/hash.roots", Rows.laid_ticketward_hash_roots)] [.data] true :=
  Program.laidByTextLater.sub seatTie1 ["ticketward/hash.roots"] (by kernel_rfl) (by kernel_rfl)
theorem hashParts_row_tie : Rows.hashPartsRow.laidByTextAt .later Tryd.pinned [.data] true :=
  OpenClaim.laidByTextAt_later rfl rfl tie3 noOwnUnsafe
theorem hashOn_row_tie : Rows.hashOnRow.laidByTextAt .later Tryd.pinned [.data] true :=
  OpenClaim.laidByTextAt_later rfl rfl tie3 noOwnUnsafe
theorem hashBlocks_row_tie : Rows.hashBlocksRow.laidByTextAt .later Tryd.pinned [.data] true :=
  OpenClaim.laidByTextAt_later rfl rfl tie3 noOwnUnsafe
theorem hashSumsUpto_row_tie : Rows.hashSumsUptoRow.laidByTextAt .later Tryd.pinned [.data, .data, .data] true :=
  OpenClaim.laidByTextAt_later rfl rfl tie noOwnUnsafe
theorem hashMoresUpto_row_tie : Rows.hashMoresUptoRow.laidByTextAt .later Tryd.pinned [.data, .data] true :=
  OpenClaim.laidByTextAt_later rfl rfl tie2 noOwnUnsafe
theorem hashPartsUpto_row_tie : Rows.hashPartsUptoRow.laidByTextAt .later Tryd.pinned [.data] true :=
  OpenClaim.laidByTextAt_later rfl rfl tie3 noOwnUnsafe
theorem hashOnUpto_row_tie : Rows.hashOnUptoRow.laidByTextAt .later Tryd.pinned [.data] true :=
  OpenClaim.laidByTextAt_later rfl rfl tie3 noOwnUnsafe
theorem hashBlocksUpto_row_tie : Rows.hashBlocksUptoRow.laidByTextAt .later Tryd.pinned [.data] true :=
  OpenClaim.laidByTextAt_later rfl rfl tie3 noOwnUnsafe
end Go.Proofs.YtfbgiobbkdbboaaDoor
