/-
  DERIVED. GIVEN WITH THE SEED: THE CARDS: each row of YtpihipbeagpgpaaGreatDoorRows.lean that lists a variable, with what it lists TIED to the program's text (the seventh form; the later family's looks); each row that meets fmt, with fmt's text TOLD by the authors' own Lean function (tested against real Go, not proved from fmt's source: count such statements apart). THE CARD IS WHAT COUNTS. Prove the row's statement (the work); the ties are given (YtpihipbeagpgpaaGreatDoorTie.lean); close each card by the builder's one call (the guide's Derived/Test/ToyasCard.lean, 'card_holds'). Laid BY PROGRAM, IN A SANDBOX (cutbox-door.mjs). By AI agents, Wed Nov 11 2026. No macro, syntax, notation, axiom, sorry.
-/
import Derived.Test.YtpihipbeagpgpaaGreatDoorRows
import GoSem.ClaimSeven
namespace Go.Proofs.YtpihipbeagpgpaaGreatDoor
namespace Rows

/-- THE TIED CARD OF 'winklelaw17.ZipWhole'. -/
def zipWholeCard : Claim7 := { stood := { row := zipWholeRow, standIns := [], harness := (true, "00b8822d98130c144dbc4d96f903f568785f994f54bc25a015e01665aa92c34b"), looks := false }, kinds := [], alts := [], laidByText := true, laidKinds := [.data, .data, .data, .data, .data, .data, .data, .data, .data], laidTests := true, laidLooks := .later }
def ZipWholeCardSaid : Prop := Claim7.holds Tryz.pinned (.plain (OpenSpec.ofChange zipWholeSpec)) zipWholeCard

/-- THE TIED CARD OF 'winklelaw17.ZipSteps'. -/
def zipStepsCard : Claim7 := { stood := { row := zipStepsRow, standIns := [], harness := (true, "00b8822d98130c144dbc4d96f903f568785f994f54bc25a015e01665aa92c34b"), looks := false }, kinds := [], alts := [], laidByText := true, laidKinds := [.data, .data, .data, .data, .data, .data, .data, .data, .data], laidTests := true, laidLooks := .later }
def ZipStepsCardSaid : Prop := Claim7.holds Tryz.pinned (.plain (OpenSpec.ofChange zipStepsSpec)) zipStepsCard

/-- THE TIED CARD OF 'winklelaw17.ZipNobody'. -/
def zipNobodyCard : Claim7 := { stood := { row := zipNobodyRow, standIns := [], harness := (true, "00b8822d98130c144dbc4d96f903f568785f994f54bc25a015e01665aa92c34b"), looks := false }, kinds := [], alts := [], laidByText := true, laidKinds := [.data, .data, .data, .data, .data, .data, .data, .data, .data], laidTests := true, laidLooks := .later }
def ZipNobodyCardSaid : Prop := Claim7.holds Tryz.pinned (.plain (OpenSpec.ofChange zipNobodySpec)) zipNobodyCard

/-- THE TIED CARD OF 'winklelaw17.ZipBack'. -/
def zipBackCard : Claim7 := { stood := { row := zipBackRow, standIns := [], harness := (true, "00b8822d98130c144dbc4d96f903f568785f994f54bc25a015e01665aa92c34b"), looks := false }, kinds := [], alts := [], laidByText := true, laidKinds := [.data, .data, .data, .data, .data, .data, .data, .data, .data], laidTests := true, laidLooks := .later }
def ZipBackCardSaid : Prop := Claim7.holds Tryz.pinned (.plain (OpenSpec.ofChange zipBackSpec)) zipBackCard

/-- THE TIED CARD OF 'winklelaw17.ZipEnds'. -/
def zipEndsCard : Claim7 := { stood := { row := zipEndsRow, standIns := [], harness := (true, "00b8822d98130c144dbc4d96f903f568785f994f54bc25a015e01665aa92c34b"), looks := false }, kinds := [], alts := [], laidByText := true, laidKinds := [.data, .data, .data, .data, .data, .data, .data, .data, .data], laidTests := true, laidLooks := .later }
def ZipEndsCardSaid : Prop := Claim7.holds Tryz.pinned (.plain (OpenSpec.ofChange zipEndsSpec)) zipEndsCard

/-- THE TIED CARD OF 'winklelaw17.ZipTurned'. -/
def zipTurnedCard : Claim7 := { stood := { row := zipTurnedRow, standIns := [], harness := (true, "00b8822d98130c144dbc4d96f903f568785f994f54bc25a015e01665aa92c34b"), looks := false }, kinds := [], alts := [], laidByText := true, laidKinds := [.data, .data, .data, .data, .data, .data, .data, .data, .data], laidTests := true, laidLooks := .later }
def ZipTurnedCardSaid : Prop := Claim7.holds Tryz.pinned (.plain (OpenSpec.ofChange zipTurnedSpec)) zipTurnedCard

/-- THE SECOND FORM's CARD OF 'winklelaw17.ZipWhole'. -/
def zipWholeUptoCard : Claim7 := { stood := { row := zipWholeUptoRow, standIns := [], harness := (true, "00b8822d98130c144dbc4d96f903f568785f994f54bc25a015e01665aa92c34b"), looks := false }, kinds := [], alts := [], laidByText := true, laidKinds := [.data, .data, .data, .data, .data, .data, .data, .data, .data], laidTests := true, laidLooks := .later }
def ZipWholeUptoCardSaid : Prop := Claim7.holds Tryz.pinned (.plain (OpenSpec.upto zipWholeSpec)) zipWholeUptoCard

/-- THE SECOND FORM's CARD OF 'winklelaw17.ZipSteps'. -/
def zipStepsUptoCard : Claim7 := { stood := { row := zipStepsUptoRow, standIns := [], harness := (true, "00b8822d98130c144dbc4d96f903f568785f994f54bc25a015e01665aa92c34b"), looks := false }, kinds := [], alts := [], laidByText := true, laidKinds := [.data, .data, .data, .data, .data, .data, .data, .data, .data], laidTests := true, laidLooks := .later }
def ZipStepsUptoCardSaid : Prop := Claim7.holds Tryz.pinned (.plain (OpenSpec.upto zipStepsSpec)) zipStepsUptoCard

/-- THE SECOND FORM's CARD OF 'winklelaw17.ZipNobody'. -/
def zipNobodyUptoCard : Claim7 := { stood := { row := zipNobodyUptoRow, standIns := [], harness := (true, "00b8822d98130c144dbc4d96f903f568785f994f54bc25a015e01665aa92c34b"), looks := false }, kinds := [], alts := [], laidByText := true, laidKinds := [.data, .data, .data, .data, .data, .data, .data, .data, .data], laidTests := true, laidLooks := .later }
def ZipNobodyUptoCardSaid : Prop := Claim7.holds Tryz.pinned (.plain (OpenSpec.upto zipNobodySpec)) zipNobodyUptoCard

/-- THE SECOND FORM's CARD OF 'winklelaw17.ZipBack'. -/
def zipBackUptoCard : Claim7 := { stood := { row := zipBackUptoRow, standIns := [], harness := (true, "00b8822d98130c144dbc4d96f903f568785f994f54bc25a015e01665aa92c34b"), looks := false }, kinds := [], alts := [], laidByText := true, laidKinds := [.data, .data, .data, .data, .data, .data, .data, .data, .data], laidTests := true, laidLooks := .later }
def ZipBackUptoCardSaid : Prop := Claim7.holds Tryz.pinned (.plain (OpenSpec.upto zipBackSpec)) zipBackUptoCard

/-- THE SECOND FORM's CARD OF 'winklelaw17.ZipEnds'. -/
def zipEndsUptoCard : Claim7 := { stood := { row := zipEndsUptoRow, standIns := [], harness := (true, "00b8822d98130c144dbc4d96f903f568785f994f54bc25a015e01665aa92c34b"), looks := false }, kinds := [], alts := [], laidByText := true, laidKinds := [.data, .data, .data, .data, .data, .data, .data, .data, .data], laidTests := true, laidLooks := .later }
def ZipEndsUptoCardSaid : Prop := Claim7.holds Tryz.pinned (.plain (OpenSpec.upto zipEndsSpec)) zipEndsUptoCard

/-- THE SECOND FORM's CARD OF 'winklelaw17.ZipTurned'. -/
def zipTurnedUptoCard : Claim7 := { stood := { row := zipTurnedUptoRow, standIns := [], harness := (true, "00b8822d98130c144dbc4d96f903f568785f994f54bc25a015e01665aa92c34b"), looks := false }, kinds := [], alts := [], laidByText := true, laidKinds := [.data, .data, .data, .data, .data, .data, .data, .data, .data], laidTests := true, laidLooks := .later }
def ZipTurnedUptoCardSaid : Prop := Claim7.holds Tryz.pinned (.plain (OpenSpec.upto zipTurnedSpec)) zipTurnedUptoCard
end Rows
end Go.Proofs.YtpihipbeagpgpaaGreatDoor
