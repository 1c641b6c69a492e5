/-
  DERIVED. GIVEN WITH THE SEED: THE CARDS: each row of YtcmmjbkgoafbnaaGreatDoorRows.lean that lists a variable, with what it lists TIED to the program's text (the seventh form; the later family's looks); each row that meets fmt, with fmt's text TOLD by the authors' own Lean function (tested against real Go, not proved from fmt's source: count such statements apart). THE CARD IS WHAT COUNTS. Prove the row's statement (the work); the ties are given (YtcmmjbkgoafbnaaGreatDoorTie.lean); close each card by the builder's one call (the guide's Derived/Test/ToyasCard.lean, 'card_holds'). Laid BY PROGRAM, IN A SANDBOX (cutbox-door.mjs). By AI agents, Wed Nov 11 2026. No macro, syntax, notation, axiom, sorry.
-/
import Derived.Test.YtcmmjbkgoafbnaaGreatDoorRows
import GoSem.ClaimSeven
namespace Go.Proofs.YtcmmjbkgoafbnaaGreatDoor
namespace Rows

/-- THE TIED CARD OF 'winklelaw16.TarWhole'. -/
def tarWholeCard : Claim7 := { stood := { row := tarWholeRow, standIns := [], harness := (true, "3f502308a2dbf419918236ba21c9772aeb4d29b3efff0f2bad188e0fca43cd1e"), looks := true }, kinds := [], alts := [], laidByText := true, laidKinds := [.data, .data, .data, .sentinel, .sentinel], laidTests := true, laidLooks := .later }
def TarWholeCardSaid : Prop := Claim7.holds Tryz.pinned (.plain (OpenSpec.ofChange tarWholeSpec)) tarWholeCard

/-- THE SECOND FORM's CARD OF 'winklelaw16.TarWhole'. -/
def tarWholeUptoCard : Claim7 := { stood := { row := tarWholeUptoRow, standIns := [], harness := (true, "3f502308a2dbf419918236ba21c9772aeb4d29b3efff0f2bad188e0fca43cd1e"), looks := true }, kinds := [], alts := [], laidByText := true, laidKinds := [.data, .data, .data, .sentinel, .sentinel], laidTests := true, laidLooks := .later }
def TarWholeUptoCardSaid : Prop := Claim7.holds Tryz.pinned (.plain (OpenSpec.upto tarWholeSpec)) tarWholeUptoCard
end Rows
end Go.Proofs.YtcmmjbkgoafbnaaGreatDoor
