/-
  DERIVED. GIVEN WITH THE SEED: THE CARDS: each row of YtogednaamndpgaaGreatDoorRows.lean that lists a variable, with what it lists TIED to the program's text (the seventh form; the later family's looks); each row that meets fmt, with fmt's text TOLD by the authors' own Lean function (tested against real Go, not proved from fmt's source: count such statements apart). THE CARD IS WHAT COUNTS. Prove the row's statement (the work); the ties are given (YtogednaamndpgaaGreatDoorTie.lean); close each card by the builder's one call (the guide's Derived/Test/ToyasCard.lean, 'card_holds'). Laid BY PROGRAM, IN A SANDBOX (cutbox-door.mjs). By AI agents, Wed Nov 11 2026. No macro, syntax, notation, axiom, sorry.
-/
import Derived.Test.YtogednaamndpgaaGreatDoorRows
import GoSem.ClaimSeven
namespace Go.Proofs.YtogednaamndpgaaGreatDoor
namespace Rows

/-- THE TIED CARD OF 'winklelaw15.GzipWhole'. -/
def gzipWholeCard : Claim7 := { stood := { row := gzipWholeRow, standIns := [], harness := (true, "9e72a3a484dd0e5a9524ec7d2117ec4c02f4d944142bb3b13d134443044f81cc"), looks := false }, kinds := [], alts := [], laidByText := true, laidKinds := [.data, .data, .data, .data, .data, .data, .data, .data], laidTests := true, laidLooks := .later }
def GzipWholeCardSaid : Prop := Claim7.holds Tryz.pinned (.plain (OpenSpec.ofChange gzipWholeSpec)) gzipWholeCard

/-- THE TIED CARD OF 'winklelaw15.GzipSteps'. -/
def gzipStepsCard : Claim7 := { stood := { row := gzipStepsRow, standIns := [], harness := (true, "9e72a3a484dd0e5a9524ec7d2117ec4c02f4d944142bb3b13d134443044f81cc"), looks := false }, kinds := [], alts := [], laidByText := true, laidKinds := [.data, .data, .data, .data, .data, .data, .data, .data], laidTests := true, laidLooks := .later }
def GzipStepsCardSaid : Prop := Claim7.holds Tryz.pinned (.plain (OpenSpec.ofChange gzipStepsSpec)) gzipStepsCard

/-- THE TIED CARD OF 'winklelaw15.GzipBack'. -/
def gzipBackCard : Claim7 := { stood := { row := gzipBackRow, standIns := [], harness := (true, "9e72a3a484dd0e5a9524ec7d2117ec4c02f4d944142bb3b13d134443044f81cc"), looks := false }, kinds := [], alts := [], laidByText := true, laidKinds := [.data, .data, .data, .data, .data, .data, .data, .data], laidTests := true, laidLooks := .later }
def GzipBackCardSaid : Prop := Claim7.holds Tryz.pinned (.plain (OpenSpec.ofChange gzipBackSpec)) gzipBackCard

/-- THE TIED CARD OF 'winklelaw15.GzipMany'. -/
def gzipManyCard : Claim7 := { stood := { row := gzipManyRow, standIns := [], harness := (true, "9e72a3a484dd0e5a9524ec7d2117ec4c02f4d944142bb3b13d134443044f81cc"), looks := false }, kinds := [], alts := [], laidByText := true, laidKinds := [.data, .data, .data, .data, .data, .data, .data, .data], laidTests := true, laidLooks := .later }
def GzipManyCardSaid : Prop := Claim7.holds Tryz.pinned (.plain (OpenSpec.ofChange gzipManySpec)) gzipManyCard

/-- THE TIED CARD OF 'winklelaw15.GzipTurned'. -/
def gzipTurnedCard : Claim7 := { stood := { row := gzipTurnedRow, standIns := [], harness := (true, "9e72a3a484dd0e5a9524ec7d2117ec4c02f4d944142bb3b13d134443044f81cc"), looks := false }, kinds := [], alts := [], laidByText := true, laidKinds := [.data, .data, .data, .data, .data, .data, .data, .data], laidTests := true, laidLooks := .later }
def GzipTurnedCardSaid : Prop := Claim7.holds Tryz.pinned (.plain (OpenSpec.ofChange gzipTurnedSpec)) gzipTurnedCard

/-- THE SECOND FORM's CARD OF 'winklelaw15.GzipWhole'. -/
def gzipWholeUptoCard : Claim7 := { stood := { row := gzipWholeUptoRow, standIns := [], harness := (true, "9e72a3a484dd0e5a9524ec7d2117ec4c02f4d944142bb3b13d134443044f81cc"), looks := false }, kinds := [], alts := [], laidByText := true, laidKinds := [.data, .data, .data, .data, .data, .data, .data, .data], laidTests := true, laidLooks := .later }
def GzipWholeUptoCardSaid : Prop := Claim7.holds Tryz.pinned (.plain (OpenSpec.upto gzipWholeSpec)) gzipWholeUptoCard

/-- THE SECOND FORM's CARD OF 'winklelaw15.GzipSteps'. -/
def gzipStepsUptoCard : Claim7 := { stood := { row := gzipStepsUptoRow, standIns := [], harness := (true, "9e72a3a484dd0e5a9524ec7d2117ec4c02f4d944142bb3b13d134443044f81cc"), looks := false }, kinds := [], alts := [], laidByText := true, laidKinds := [.data, .data, .data, .data, .data, .data, .data, .data], laidTests := true, laidLooks := .later }
def GzipStepsUptoCardSaid : Prop := Claim7.holds Tryz.pinned (.plain (OpenSpec.upto gzipStepsSpec)) gzipStepsUptoCard

/-- THE SECOND FORM's CARD OF 'winklelaw15.GzipBack'. -/
def gzipBackUptoCard : Claim7 := { stood := { row := gzipBackUptoRow, standIns := [], harness := (true, "9e72a3a484dd0e5a9524ec7d2117ec4c02f4d944142bb3b13d134443044f81cc"), looks := false }, kinds := [], alts := [], laidByText := true, laidKinds := [.data, .data, .data, .data, .data, .data, .data, .data], laidTests := true, laidLooks := .later }
def GzipBackUptoCardSaid : Prop := Claim7.holds Tryz.pinned (.plain (OpenSpec.upto gzipBackSpec)) gzipBackUptoCard

/-- THE SECOND FORM's CARD OF 'winklelaw15.GzipMany'. -/
def gzipManyUptoCard : Claim7 := { stood := { row := gzipManyUptoRow, standIns := [], harness := (true, "9e72a3a484dd0e5a9524ec7d2117ec4c02f4d944142bb3b13d134443044f81cc"), looks := false }, kinds := [], alts := [], laidByText := true, laidKinds := [.data, .data, .data, .data, .data, .data, .data, .data], laidTests := true, laidLooks := .later }
def GzipManyUptoCardSaid : Prop := Claim7.holds Tryz.pinned (.plain (OpenSpec.upto gzipManySpec)) gzipManyUptoCard

/-- THE SECOND FORM's CARD OF 'winklelaw15.GzipTurned'. -/
def gzipTurnedUptoCard : Claim7 := { stood := { row := gzipTurnedUptoRow, standIns := [], harness := (true, "9e72a3a484dd0e5a9524ec7d2117ec4c02f4d944142bb3b13d134443044f81cc"), looks := false }, kinds := [], alts := [], laidByText := true, laidKinds := [.data, .data, .data, .data, .data, .data, .data, .data], laidTests := true, laidLooks := .later }
def GzipTurnedUptoCardSaid : Prop := Claim7.holds Tryz.pinned (.plain (OpenSpec.upto gzipTurnedSpec)) gzipTurnedUptoCard
end Rows
end Go.Proofs.YtogednaamndpgaaGreatDoor
