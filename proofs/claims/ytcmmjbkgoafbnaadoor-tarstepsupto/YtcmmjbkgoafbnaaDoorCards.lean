/-
  DERIVED. GIVEN WITH THE SEED: THE CARDS: each row of YtcmmjbkgoafbnaaDoorRows.lean that lists a variable, with what it lists TIED to the program's text (the seventh form; the later family's looks); each row that meets fmt, with fmt's text TOLD by the authors' own Lean function (tested against real Go, not proved from fmt's source: count such statements apart). THE CARD IS WHAT COUNTS. Prove the row's statement (the work); the ties are given (YtcmmjbkgoafbnaaDoorTie.lean); close each card by the builder's one call (the guide's Derived/Test/ToyasCard.lean, 'card_holds'). Laid BY PROGRAM, IN A SANDBOX (cutbox-door.mjs). By AI agents, Wed Nov 11 2026. No macro, syntax, notation, axiom, sorry.
-/
import Derived.Test.YtcmmjbkgoafbnaaDoorRows
import GoSem.ClaimSeven
namespace Go.Proofs.YtcmmjbkgoafbnaaDoor
namespace Rows

/-- THE TIED CARD OF 'winklelaw16.TarSteps'. -/
def tarStepsCard : Claim7 := { stood := { row := tarStepsRow, standIns := [], harness := (true, "64d161c44316c8a6d179c75af37fd691cc2169b7b3f86b752effc24bdae5eaf0"), looks := true }, kinds := [], alts := [], laidByText := true, laidKinds := [.data, .data, .data, .sentinel, .sentinel], laidTests := true, laidLooks := .later }
def TarStepsCardSaid : Prop := Claim7.holds Tryd.pinned (.plain (OpenSpec.ofChange tarStepsSpec)) tarStepsCard

/-- THE TIED CARD OF 'winklelaw16.TarNobody'. -/
def tarNobodyCard : Claim7 := { stood := { row := tarNobodyRow, standIns := [], harness := (true, "64d161c44316c8a6d179c75af37fd691cc2169b7b3f86b752effc24bdae5eaf0"), looks := true }, kinds := [], alts := [], laidByText := true, laidKinds := [.data, .data, .data, .sentinel, .sentinel], laidTests := true, laidLooks := .later }
def TarNobodyCardSaid : Prop := Claim7.holds Tryd.pinned (.plain (OpenSpec.ofChange tarNobodySpec)) tarNobodyCard

/-- THE TIED CARD OF 'winklelaw16.TarBack'. -/
def tarBackCard : Claim7 := { stood := { row := tarBackRow, standIns := [], harness := (true, "64d161c44316c8a6d179c75af37fd691cc2169b7b3f86b752effc24bdae5eaf0"), looks := true }, kinds := [], alts := [], laidByText := true, laidKinds := [.data, .data, .data, .sentinel, .sentinel], laidTests := true, laidLooks := .later }
def TarBackCardSaid : Prop := Claim7.holds Tryd.pinned (.plain (OpenSpec.ofChange tarBackSpec)) tarBackCard

/-- THE TIED CARD OF 'winklelaw16.TarEnds'. -/
def tarEndsCard : Claim7 := { stood := { row := tarEndsRow, standIns := [], harness := (true, "64d161c44316c8a6d179c75af37fd691cc2169b7b3f86b752effc24bdae5eaf0"), looks := true }, kinds := [], alts := [], laidByText := true, laidKinds := [.data, .data, .data, .sentinel, .sentinel], laidTests := true, laidLooks := .later }
def TarEndsCardSaid : Prop := Claim7.holds Tryd.pinned (.plain (OpenSpec.ofChange tarEndsSpec)) tarEndsCard

/-- THE TIED CARD OF 'winklelaw16.TarTurned'. -/
def tarTurnedCard : Claim7 := { stood := { row := tarTurnedRow, standIns := [], harness := (true, "64d161c44316c8a6d179c75af37fd691cc2169b7b3f86b752effc24bdae5eaf0"), looks := true }, kinds := [], alts := [], laidByText := true, laidKinds := [.data, .data, .data, .sentinel, .sentinel], laidTests := true, laidLooks := .later }
def TarTurnedCardSaid : Prop := Claim7.holds Tryd.pinned (.plain (OpenSpec.ofChange tarTurnedSpec)) tarTurnedCard

/-- THE SECOND FORM's CARD OF 'winklelaw16.TarSteps'. -/
def tarStepsUptoCard : Claim7 := { stood := { row := tarStepsUptoRow, standIns := [], harness := (true, "64d161c44316c8a6d179c75af37fd691cc2169b7b3f86b752effc24bdae5eaf0"), looks := true }, kinds := [], alts := [], laidByText := true, laidKinds := [.data, .data, .data, .sentinel, .sentinel], laidTests := true, laidLooks := .later }
def TarStepsUptoCardSaid : Prop := Claim7.holds Tryd.pinned (.plain (OpenSpec.upto tarStepsSpec)) tarStepsUptoCard

/-- THE SECOND FORM's CARD OF 'winklelaw16.TarNobody'. -/
def tarNobodyUptoCard : Claim7 := { stood := { row := tarNobodyUptoRow, standIns := [], harness := (true, "64d161c44316c8a6d179c75af37fd691cc2169b7b3f86b752effc24bdae5eaf0"), looks := true }, kinds := [], alts := [], laidByText := true, laidKinds := [.data, .data, .data, .sentinel, .sentinel], laidTests := true, laidLooks := .later }
def TarNobodyUptoCardSaid : Prop := Claim7.holds Tryd.pinned (.plain (OpenSpec.upto tarNobodySpec)) tarNobodyUptoCard

/-- THE SECOND FORM's CARD OF 'winklelaw16.TarBack'. -/
def tarBackUptoCard : Claim7 := { stood := { row := tarBackUptoRow, standIns := [], harness := (true, "64d161c44316c8a6d179c75af37fd691cc2169b7b3f86b752effc24bdae5eaf0"), looks := true }, kinds := [], alts := [], laidByText := true, laidKinds := [.data, .data, .data, .sentinel, .sentinel], laidTests := true, laidLooks := .later }
def TarBackUptoCardSaid : Prop := Claim7.holds Tryd.pinned (.plain (OpenSpec.upto tarBackSpec)) tarBackUptoCard

/-- THE SECOND FORM's CARD OF 'winklelaw16.TarEnds'. -/
def tarEndsUptoCard : Claim7 := { stood := { row := tarEndsUptoRow, standIns := [], harness := (true, "64d161c44316c8a6d179c75af37fd691cc2169b7b3f86b752effc24bdae5eaf0"), looks := true }, kinds := [], alts := [], laidByText := true, laidKinds := [.data, .data, .data, .sentinel, .sentinel], laidTests := true, laidLooks := .later }
def TarEndsUptoCardSaid : Prop := Claim7.holds Tryd.pinned (.plain (OpenSpec.upto tarEndsSpec)) tarEndsUptoCard

/-- THE SECOND FORM's CARD OF 'winklelaw16.TarTurned'. -/
def tarTurnedUptoCard : Claim7 := { stood := { row := tarTurnedUptoRow, standIns := [], harness := (true, "64d161c44316c8a6d179c75af37fd691cc2169b7b3f86b752effc24bdae5eaf0"), looks := true }, kinds := [], alts := [], laidByText := true, laidKinds := [.data, .data, .data, .sentinel, .sentinel], laidTests := true, laidLooks := .later }
def TarTurnedUptoCardSaid : Prop := Claim7.holds Tryd.pinned (.plain (OpenSpec.upto tarTurnedSpec)) tarTurnedUptoCard
end Rows
end Go.Proofs.YtcmmjbkgoafbnaaDoor
