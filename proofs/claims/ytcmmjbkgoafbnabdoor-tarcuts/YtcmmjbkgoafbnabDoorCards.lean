/-
  DERIVED. GIVEN WITH THE SEED: THE CARDS: each row of YtcmmjbkgoafbnabDoorRows.lean that lists a variable, with what it lists TIED to the program's text (the seventh form; the later family's looks); each row that meets fmt, with fmt's text TOLD by the authors' own Lean function (tested against real Go, not proved from fmt's source: count such statements apart). THE CARD IS WHAT COUNTS. Prove the row's statement (the work); the ties are given (YtcmmjbkgoafbnabDoorTie.lean); close each card by the builder's one call (the guide's Derived/Test/ToyasCard.lean, 'card_holds'). Laid BY PROGRAM, IN A SANDBOX (cutbox-door.mjs). By AI agents, Wed Nov 11 2026. No macro, syntax, notation, axiom, sorry.
-/
import Derived.Test.YtcmmjbkgoafbnabDoorRows
import GoSem.ClaimSeven
namespace Go.Proofs.YtcmmjbkgoafbnabDoor
namespace Rows

/-- THE TIED CARD OF 'winklelaw16.TarCuts'. -/
def tarCutsCard : Claim7 := { stood := { row := tarCutsRow, standIns := [], harness := (true, "63d599505c08540bd20191367fabe765f5e932419032448f5e2e6cd2cb2a2c56"), looks := true }, kinds := [], alts := [], laidByText := true, laidKinds := [.data, .data, .data, .sentinel, .sentinel], laidTests := true, laidLooks := .later }
def TarCutsCardSaid : Prop := Claim7.holds Tryd.pinned (.plain (OpenSpec.ofChange tarCutsSpec)) tarCutsCard

/-- THE SECOND FORM's CARD OF 'winklelaw16.TarCuts'. -/
def tarCutsUptoCard : Claim7 := { stood := { row := tarCutsUptoRow, standIns := [], harness := (true, "63d599505c08540bd20191367fabe765f5e932419032448f5e2e6cd2cb2a2c56"), looks := true }, kinds := [], alts := [], laidByText := true, laidKinds := [.data, .data, .data, .sentinel, .sentinel], laidTests := true, laidLooks := .later }
def TarCutsUptoCardSaid : Prop := Claim7.holds Tryd.pinned (.plain (OpenSpec.upto tarCutsSpec)) tarCutsUptoCard
end Rows
end Go.Proofs.YtcmmjbkgoafbnabDoor
