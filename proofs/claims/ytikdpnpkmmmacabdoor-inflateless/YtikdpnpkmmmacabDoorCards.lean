/-
  DERIVED. GIVEN WITH THE SEED: THE CARDS: each row of YtikdpnpkmmmacabDoorRows.lean that lists a variable, with what it lists TIED to the program's text (the seventh form; the later family's looks); each row that meets fmt, with fmt's text TOLD by the authors' own Lean function (tested against real Go, not proved from fmt's source: count such statements apart). THE CARD IS WHAT COUNTS. Prove the row's statement (the work); the ties are given (YtikdpnpkmmmacabDoorTie.lean); close each card by the builder's one call (the guide's Derived/Test/ToyasCard.lean, 'card_holds'). Laid BY PROGRAM, IN A SANDBOX (cutbox-door.mjs). By AI agents, Wed Nov 11 2026. No macro, syntax, notation, axiom, sorry.
-/
import Derived.Test.YtikdpnpkmmmacabDoorRows
import GoSem.ClaimSeven
namespace Go.Proofs.YtikdpnpkmmmacabDoor
namespace Rows

/-- THE TIED CARD OF 'winklelaw09.InflateLess'. -/
def inflateLessCard : Claim7 := { stood := { row := inflateLessRow, standIns := [], harness := (true, "ca6eae06b18eb22a23957544a0755091154018edf057e5679b363590be6f4508"), looks := false }, kinds := [], alts := [], laidByText := true, laidKinds := [.data, .data, .data, .data, .data, .data, .data], laidTests := true, laidLooks := .later }
def InflateLessCardSaid : Prop := Claim7.holds Tryd.pinned (.plain (OpenSpec.ofChange inflateLessSpec)) inflateLessCard

/-- THE SECOND FORM's CARD OF 'winklelaw09.InflateLess'. -/
def inflateLessUptoCard : Claim7 := { stood := { row := inflateLessUptoRow, standIns := [], harness := (true, "ca6eae06b18eb22a23957544a0755091154018edf057e5679b363590be6f4508"), looks := false }, kinds := [], alts := [], laidByText := true, laidKinds := [.data, .data, .data, .data, .data, .data, .data], laidTests := true, laidLooks := .later }
def InflateLessUptoCardSaid : Prop := Claim7.holds Tryd.pinned (.plain (OpenSpec.upto inflateLessSpec)) inflateLessUptoCard
end Rows
end Go.Proofs.YtikdpnpkmmmacabDoor
