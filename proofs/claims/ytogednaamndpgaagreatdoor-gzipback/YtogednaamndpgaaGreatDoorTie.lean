/-
  DERIVED. GIVEN WITH THE SEED: THE PROGRAM's TIES (one call each: nine closed facts by the kernel) AND EACH ROW's TIE, after the 31st guide's Derived/Test/Toyas{Tie, Card}.lean. No idea stands in it: it is a product of the set-up. Laid BY PROGRAM, IN A SANDBOX (cutbox-door.mjs). By AI agents, Wed Nov 11 2026. No macro, syntax, notation, axiom, sorry.
-/
import Derived.Test.YtogednaamndpgaaGreatDoorRows
import Derived.LaidByTextLater
import Derived.SevenTiedAt
import Derived.LaidSub
import Derived.LaidOnce
namespace Go.Proofs.YtogednaamndpgaaGreatDoor
open Go
set_option maxRecDepth 100000
theorem seatTie1 : Tryz.prog.laidByTextLater [("winkle/crc.turns", Rows.laid_winkle_crc_turns), ("winkle/inflate.order", Rows.laid_winkle_inflate_order), ("winkle/inflate.runLeast", Rows.laid_winkle_inflate_runLeast), ("winkle/inflate.runBits", Rows.laid_winkle_inflate_runBits), ("winkle/inflate.lengthLeast", Rows.laid_winkle_inflate_lengthLeast), ("winkle/inflate.lengthBits", Rows.laid_winkle_inflate_lengthBits), ("winkle/inflate.distanceLeast", Rows.laid_winkle_inflate_distanceLeast), ("winkle/inflate.distanceBits", Rows.laid_winkle_inflate_distanceBits)] [.data, .data, .data, .data, .data, .data, .data, .data] true :=
  Program.laidByTextLater_by_one 49 8 31 (by kernel_rfl) (by kernel_rfl) (by kernel_rfl) (by kernel_rfl) (by kernel_rfl) (by kernel_rfl) (fun _ _ => by kernel_rfl)
theorem noOwnUnsafe : Tryz.pinned.checked.prog.headLifts.contains "ownunsafe" = false := by kernel_rfl
theorem tie : Tryz.prog.laidByTextLater [("winkle/crc.turns", Rows.laid_winkle_crc_turns), ("winkle/inflate.order", Rows.laid_winkle_inflate_order), ("winkle/inflate.runLeast", Rows.laid_winkle_inflate_runLeast), ("winkle/inflate.runBits", Rows.laid_winkle_inflate_runBits), ("winkle/inflate.lengthLeast", Rows.laid_winkle_inflate_lengthLeast), ("winkle/inflate.lengthBits", Rows.laid_winkle_inflate_lengthBits), ("winkle/inflate.distanceLeast", Rows.laid_winkle_inflate_distanceLeast), ("winkle/inflate.distanceBits", Rows.laid_winkle_inflate_distanceBits)] [.data, .data, .data, .data, .data, .data, .data, .data] true :=
  Program.laidByTextLater.sub seatTie1 ["winkle/crc.turns", "winkle/inflate.order", "winkle/inflate.runLeast", "winkle/inflate.runBits", "winkle/inflate.lengthLeast", "winkle/inflate.lengthBits", "winkle/inflate.distanceLeast", "winkle/inflate.distanceBits"] (by kernel_rfl) (by kernel_rfl)
theorem gzipWhole_row_tie : Rows.gzipWholeRow.laidByTextAt .later Tryz.pinned [.data, .data, .data, .data, .data, .data, .data, .data] true :=
  OpenClaim.laidByTextAt_later rfl rfl tie noOwnUnsafe
theorem gzipSteps_row_tie : Rows.gzipStepsRow.laidByTextAt .later Tryz.pinned [.data, .data, .data, .data, .data, .data, .data, .data] true :=
  OpenClaim.laidByTextAt_later rfl rfl tie noOwnUnsafe
theorem gzipBack_row_tie : Rows.gzipBackRow.laidByTextAt .later Tryz.pinned [.data, .data, .data, .data, .data, .data, .data, .data] true :=
  OpenClaim.laidByTextAt_later rfl rfl tie noOwnUnsafe
theorem gzipMany_row_tie : Rows.gzipManyRow.laidByTextAt .later Tryz.pinned [.data, .data, .data, .data, .data, .data, .data, .data] true :=
  OpenClaim.laidByTextAt_later rfl rfl tie noOwnUnsafe
theorem gzipTurned_row_tie : Rows.gzipTurnedRow.laidByTextAt .later Tryz.pinned [.data, .data, .data, .data, .data, .data, .data, .data] true :=
  OpenClaim.laidByTextAt_later rfl rfl tie noOwnUnsafe
theorem gzipWholeUpto_row_tie : Rows.gzipWholeUptoRow.laidByTextAt .later Tryz.pinned [.data, .data, .data, .data, .data, .data, .data, .data] true :=
  OpenClaim.laidByTextAt_later rfl rfl tie noOwnUnsafe
theorem gzipStepsUpto_row_tie : Rows.gzipStepsUptoRow.laidByTextAt .later Tryz.pinned [.data, .data, .data, .data, .data, .data, .data, .data] true :=
  OpenClaim.laidByTextAt_later rfl rfl tie noOwnUnsafe
theorem gzipBackUpto_row_tie : Rows.gzipBackUptoRow.laidByTextAt .later Tryz.pinned [.data, .data, .data, .data, .data, .data, .data, .data] true :=
  OpenClaim.laidByTextAt_later rfl rfl tie noOwnUnsafe
theorem gzipManyUpto_row_tie : Rows.gzipManyUptoRow.laidByTextAt .later Tryz.pinned [.data, .data, .data, .data, .data, .data, .data, .data] true :=
  OpenClaim.laidByTextAt_later rfl rfl tie noOwnUnsafe
theorem gzipTurnedUpto_row_tie : Rows.gzipTurnedUptoRow.laidByTextAt .later Tryz.pinned [.data, .data, .data, .data, .data, .data, .data, .data] true :=
  OpenClaim.laidByTextAt_later rfl rfl tie noOwnUnsafe
end Go.Proofs.YtogednaamndpgaaGreatDoor
