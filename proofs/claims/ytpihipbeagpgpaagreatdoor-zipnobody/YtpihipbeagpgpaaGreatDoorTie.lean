/-
  DERIVED. GIVEN WITH THE SEED: THE PROGRAM's TIES (one call each: nine closed facts by the kernel) AND EACH ROW's TIE, after the 31st guide's Derived/Test/Toyas{Tie, Card}.lean. No idea stands in it: it is a product of the set-up. Laid BY PROGRAM, IN A SANDBOX (cutbox-door.mjs). By AI agents, Wed Nov 11 2026. No macro, syntax, notation, axiom, sorry.
-/
import Derived.Test.YtpihipbeagpgpaaGreatDoorRows
import Derived.LaidByTextLater
import Derived.SevenTiedAt
import Derived.LaidSub
import Derived.LaidOnce
namespace Go.Proofs.YtpihipbeagpgpaaGreatDoor
open Go
set_option maxRecDepth 100000
theorem seatTie1 : Tryz.prog.laidByTextLater [("winkle/crc.turns", Rows.laid_winkle_crc_turns), ("winkle/inflate.order", Rows.laid_winkle_inflate_order), ("winkle/inflate.runLeast", Rows.laid_winkle_inflate_runLeast), ("winkle/inflate.runBits", Rows.laid_winkle_inflate_runBits), ("winkle/inflate.lengthLeast", Rows.laid_winkle_inflate_lengthLeast), ("winkle/inflate.lengthBits", Rows.laid_winkle_inflate_lengthBits), ("winkle/inflate.distanceLeast", Rows.laid_winkle_inflate_distanceLeast), ("winkle/inflate.distanceBits", Rows.laid_winkle_inflate_distanceBits), ("winkle/zip.overMagics", Rows.laid_winkle_zip_overMagics)] [.data, .data, .data, .data, .data, .data, .data, .data, .data] true :=
  Program.laidByTextLater_by_one 54 8 31 (by kernel_rfl) (by kernel_rfl) (by kernel_rfl) (by kernel_rfl) (by kernel_rfl) (by kernel_rfl) (fun _ _ => by kernel_rfl)
theorem noOwnUnsafe : Tryz.pinned.checked.prog.headLifts.contains "ownunsafe" = false := by kernel_rfl
theorem tie : Tryz.prog.laidByTextLater [("winkle/crc.turns", Rows.laid_winkle_crc_turns), ("winkle/inflate.order", Rows.laid_winkle_inflate_order), ("winkle/inflate.runLeast", Rows.laid_winkle_inflate_runLeast), ("winkle/inflate.runBits", Rows.laid_winkle_inflate_runBits), ("winkle/inflate.lengthLeast", Rows.laid_winkle_inflate_lengthLeast), ("winkle/inflate.lengthBits", Rows.laid_winkle_inflate_lengthBits), ("winkle/inflate.distanceLeast", Rows.laid_winkle_inflate_distanceLeast), ("winkle/inflate.distanceBits", Rows.laid_winkle_inflate_distanceBits), ("winkle/zip.overMagics", Rows.laid_winkle_zip_overMagics)] [.data, .data, .data, .data, .data, .data, .data, .data, .data] true :=
  Program.laidByTextLater.sub seatTie1 ["winkle/crc.turns", "winkle/inflate.order", "winkle/inflate.runLeast", "winkle/inflate.runBits", "winkle/inflate.lengthLeast", "winkle/inflate.lengthBits", "winkle/inflate.distanceLeast", "winkle/inflate.distanceBits", "winkle/zip.overMagics"] (by kernel_rfl) (by kernel_rfl)
theorem zipWhole_row_tie : Rows.zipWholeRow.laidByTextAt .later Tryz.pinned [.data, .data, .data, .data, .data, .data, .data, .data, .data] true :=
  OpenClaim.laidByTextAt_later rfl rfl tie noOwnUnsafe
theorem zipSteps_row_tie : Rows.zipStepsRow.laidByTextAt .later Tryz.pinned [.data, .data, .data, .data, .data, .data, .data, .data, .data] true :=
  OpenClaim.laidByTextAt_later rfl rfl tie noOwnUnsafe
theorem zipNobody_row_tie : Rows.zipNobodyRow.laidByTextAt .later Tryz.pinned [.data, .data, .data, .data, .data, .data, .data, .data, .data] true :=
  OpenClaim.laidByTextAt_later rfl rfl tie noOwnUnsafe
theorem zipBack_row_tie : Rows.zipBackRow.laidByTextAt .later Tryz.pinned [.data, .data, .data, .data, .data, .data, .data, .data, .data] true :=
  OpenClaim.laidByTextAt_later rfl rfl tie noOwnUnsafe
theorem zipEnds_row_tie : Rows.zipEndsRow.laidByTextAt .later Tryz.pinned [.data, .data, .data, .data, .data, .data, .data, .data, .data] true :=
  OpenClaim.laidByTextAt_later rfl rfl tie noOwnUnsafe
theorem zipTurned_row_tie : Rows.zipTurnedRow.laidByTextAt .later Tryz.pinned [.data, .data, .data, .data, .data, .data, .data, .data, .data] true :=
  OpenClaim.laidByTextAt_later rfl rfl tie noOwnUnsafe
theorem zipWholeUpto_row_tie : Rows.zipWholeUptoRow.laidByTextAt .later Tryz.pinned [.data, .data, .data, .data, .data, .data, .data, .data, .data] true :=
  OpenClaim.laidByTextAt_later rfl rfl tie noOwnUnsafe
theorem zipStepsUpto_row_tie : Rows.zipStepsUptoRow.laidByTextAt .later Tryz.pinned [.data, .data, .data, .data, .data, .data, .data, .data, .data] true :=
  OpenClaim.laidByTextAt_later rfl rfl tie noOwnUnsafe
theorem zipNobodyUpto_row_tie : Rows.zipNobodyUptoRow.laidByTextAt .later Tryz.pinned [.data, .data, .data, .data, .data, .data, .data, .data, .data] true :=
  OpenClaim.laidByTextAt_later rfl rfl tie noOwnUnsafe
theorem zipBackUpto_row_tie : Rows.zipBackUptoRow.laidByTextAt .later Tryz.pinned [.data, .data, .data, .data, .data, .data, .data, .data, .data] true :=
  OpenClaim.laidByTextAt_later rfl rfl tie noOwnUnsafe
theorem zipEndsUpto_row_tie : Rows.zipEndsUptoRow.laidByTextAt .later Tryz.pinned [.data, .data, .data, .data, .data, .data, .data, .data, .data] true :=
  OpenClaim.laidByTextAt_later rfl rfl tie noOwnUnsafe
theorem zipTurnedUpto_row_tie : Rows.zipTurnedUptoRow.laidByTextAt .later Tryz.pinned [.data, .data, .data, .data, .data, .data, .data, .data, .data] true :=
  OpenClaim.laidByTextAt_later rfl rfl tie noOwnUnsafe
end Go.Proofs.YtpihipbeagpgpaaGreatDoor
