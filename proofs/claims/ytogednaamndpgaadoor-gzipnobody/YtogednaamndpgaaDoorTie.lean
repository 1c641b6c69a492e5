/-
  DERIVED. GIVEN WITH THE SEED: THE PROGRAM's TIES (one call each: nine closed facts by the kernel) AND EACH ROW's TIE, after the 31st guide's Derived/Test/Toyas{Tie, Card}.lean. No idea stands in it: it is a product of the set-up. Laid BY PROGRAM, IN A SANDBOX (cutbox-door.mjs). By AI agents, Wed Nov 11 2026. No macro, syntax, notation, axiom, sorry.
-/
import Derived.Test.YtogednaamndpgaaDoorRows
import Derived.LaidByTextLater
import Derived.SevenTiedAt
import Derived.LaidSub
import Derived.LaidOnce
namespace Go.Proofs.YtogednaamndpgaaDoor
open Go
set_option maxRecDepth 100000
theorem seatTie1 : Tryd.prog.laidByTextLater [("winkle/crc.turns", Rows.laid_winkle_crc_turns), ("winkle/inflate.order", Rows.laid_winkle_inflate_order), ("winkle/inflate.runLeast", Rows.laid_winkle_inflate_runLeast), ("winkle/inflate.runBits", Rows.laid_winkle_inflate_runBits), ("winkle/inflate.lengthLeast", Rows.laid_winkle_inflate_lengthLeast), ("winkle/inflate.lengthBits", Rows.laid_winkle_inflate_lengthBits), ("winkle/inflate.distanceLeast", Rows.laid_winkle_inflate_distanceLeast), ("winkle/inflate.distanceBits", Rows.laid_winkle_inflate_distanceBits)] [.data, .data, .data, .data, .data, .data, .data, .data] true :=
  Program.laidByTextLater_by_one 49 8 31 (by kernel_rfl) (by kernel_rfl) (by kernel_rfl) (by kernel_rfl) (by kernel_rfl) (by kernel_rfl) (fun _ _ => by kernel_rfl)
theorem noOwnUnsafe : Tryd.pinned.checked.prog.headLifts.contains "ownunsafe" = false := by kernel_rfl
theorem tie : Tryd.prog.laidByTextLater [("winkle/crc.turns", Rows.laid_winkle_crc_turns), ("winkle/inflate.order", Rows.laid_winkle_inflate_order), ("winkle/inflate.runLeast", Rows.laid_winkle_inflate_runLeast), ("winkle/inflate.runBits", Rows.laid_winkle_inflate_runBits), ("winkle/inflate.lengthLeast", Rows.laid_winkle_inflate_lengthLeast), ("winkle/inflate.lengthBits", Rows.laid_winkle_inflate_lengthBits), ("winkle/inflate.distanceLeast", Rows.laid_winkle_inflate_distanceLeast), ("winkle/inflate.distanceBits", Rows.laid_winkle_inflate_distanceBits)] [.data, .data, .data, .data, .data, .data, .data, .data] true :=
  Program.laidByTextLater.sub seatTie1 ["winkle/crc.turns", "winkle/inflate.order", "winkle/inflate.runLeast", "winkle/inflate.runBits", "winkle/inflate.lengthLeast", "winkle/inflate.lengthBits", "winkle/inflate.distanceLeast", "winkle/inflate.distanceBits"] (by kernel_rfl) (by kernel_rfl)
theorem gzipNobody_row_tie : Rows.gzipNobodyRow.laidByTextAt .later Tryd.pinned [.data, .data, .data, .data, .data, .data, .data, .data] true :=
  OpenClaim.laidByTextAt_later rfl rfl tie noOwnUnsafe
theorem gzipNobodyUpto_row_tie : Rows.gzipNobodyUptoRow.laidByTextAt .later Tryd.pinned [.data, .data, .data, .data, .data, .data, .data, .data] true :=
  OpenClaim.laidByTextAt_later rfl rfl tie noOwnUnsafe
end Go.Proofs.YtogednaamndpgaaDoor
