/-
  DERIVED. GIVEN WITH THE SEED: THE CARDS: each row of YtbepbjbbhenphabDoorRows.lean that lists a variable, with what it lists TIED to the program's text (the seventh form; the later family's looks); each row that meets fmt, with fmt's text TOLD by the authors' own Lean function (tested against real Go, not proved from fmt's source: count such statements apart). THE CARD IS WHAT COUNTS. Prove the row's statement (the work); the ties are given (YtbepbjbbhenphabDoorTie.lean); close each card by the builder's one call (the guide's Derived/Test/ToyasCard.lean, 'card_holds'). Laid BY PROGRAM, IN A SANDBOX (cutbox-door.mjs). By AI agents, Wed Nov 11 2026. No macro, syntax, notation, axiom, sorry.
-/
import Derived.Test.YtbepbjbbhenphabDoorRows
import GoSem.ClaimSeven
namespace Go.Proofs.YtbepbjbbhenphabDoor
namespace Rows

/-- THE TIED CARD OF 'winklelaw06.PatternsTurned'. -/
def patternsTurnedCard : Claim7 := { stood := { row := patternsTurnedRow, standIns := [], harness := (true, "c4dfb0405d30575804df08a34196f08dc00af097db5db1ec3bebbb3cae0841a7"), looks := false }, kinds := [], alts := [], laidByText := true, laidKinds := [.data], laidTests := true, laidLooks := .later }
def PatternsTurnedCardSaid : Prop := Claim7.holds Tryd.pinned (.plain (OpenSpec.ofChange patternsTurnedSpec)) patternsTurnedCard

/-- THE SECOND FORM's CARD OF 'winklelaw06.PatternsTurned'. -/
def patternsTurnedUptoCard : Claim7 := { stood := { row := patternsTurnedUptoRow, standIns := [], harness := (true, "c4dfb0405d30575804df08a34196f08dc00af097db5db1ec3bebbb3cae0841a7"), looks := false }, kinds := [], alts := [], laidByText := true, laidKinds := [.data], laidTests := true, laidLooks := .later }
def PatternsTurnedUptoCardSaid : Prop := Claim7.holds Tryd.pinned (.plain (OpenSpec.upto patternsTurnedSpec)) patternsTurnedUptoCard
end Rows
end Go.Proofs.YtbepbjbbhenphabDoor
