/-
  DERIVED. GIVEN WITH THE SEED: THE CARDS: each row of YtbhlmmbknmejkaaDoorRows.lean that lists a variable, with what it lists TIED to the program's text (the seventh form; the later family's looks); each row that meets fmt, with fmt's text TOLD by the authors' own Lean function (tested against real Go, not proved from fmt's source: count such statements apart). THE CARD IS WHAT COUNTS. Prove the row's statement (the work); the ties are given (YtbhlmmbknmejkaaDoorTie.lean); close each card by the builder's one call (the guide's Derived/Test/ToyasCard.lean, 'card_holds'). Laid BY PROGRAM, IN A SANDBOX (cutbox-door.mjs). By AI agents, Wed Nov 11 2026. No macro, syntax, notation, axiom, sorry.
-/
import Derived.Test.YtbhlmmbknmejkaaDoorRows
import GoSem.ClaimSeven
namespace Go.Proofs.YtbhlmmbknmejkaaDoor
namespace Rows

/-- THE TIED CARD OF 'winklelaw18.SniffTells'. -/
def sniffTellsCard : Claim7 := { stood := { row := sniffTellsRow, standIns := [], harness := (true, "2a339a916567a9ced227779733777595bf8d86dec3390cddfabdf03cabe24b57"), looks := false }, kinds := [], alts := [], laidByText := true, laidKinds := [.data], laidTests := true, laidLooks := .later }
def SniffTellsCardSaid : Prop := Claim7.holds Tryd.pinned (.plain (OpenSpec.ofChange sniffTellsSpec)) sniffTellsCard

/-- THE TIED CARD OF 'winklelaw18.SniffStays'. -/
def sniffStaysCard : Claim7 := { stood := { row := sniffStaysRow, standIns := [], harness := (true, "2a339a916567a9ced227779733777595bf8d86dec3390cddfabdf03cabe24b57"), looks := false }, kinds := [], alts := [], laidByText := true, laidKinds := [.data], laidTests := true, laidLooks := .later }
def SniffStaysCardSaid : Prop := Claim7.holds Tryd.pinned (.plain (OpenSpec.ofChange sniffStaysSpec)) sniffStaysCard

/-- THE TIED CARD OF 'winklelaw18.SniffLeast'. -/
def sniffLeastCard : Claim7 := { stood := { row := sniffLeastRow, standIns := [], harness := (true, "2a339a916567a9ced227779733777595bf8d86dec3390cddfabdf03cabe24b57"), looks := false }, kinds := [], alts := [], laidByText := true, laidKinds := [.data], laidTests := true, laidLooks := .later }
def SniffLeastCardSaid : Prop := Claim7.holds Tryd.pinned (.plain (OpenSpec.ofChange sniffLeastSpec)) sniffLeastCard

/-- THE TIED CARD OF 'winklelaw18.SniffKnown'. -/
def sniffKnownCard : Claim7 := { stood := { row := sniffKnownRow, standIns := [], harness := (true, "2a339a916567a9ced227779733777595bf8d86dec3390cddfabdf03cabe24b57"), looks := false }, kinds := [], alts := [], laidByText := true, laidKinds := [.data], laidTests := true, laidLooks := .later }
def SniffKnownCardSaid : Prop := Claim7.holds Tryd.pinned (.plain (OpenSpec.ofChange sniffKnownSpec)) sniffKnownCard

/-- THE SECOND FORM's CARD OF 'winklelaw18.SniffTells'. -/
def sniffTellsUptoCard : Claim7 := { stood := { row := sniffTellsUptoRow, standIns := [], harness := (true, "2a339a916567a9ced227779733777595bf8d86dec3390cddfabdf03cabe24b57"), looks := false }, kinds := [], alts := [], laidByText := true, laidKinds := [.data], laidTests := true, laidLooks := .later }
def SniffTellsUptoCardSaid : Prop := Claim7.holds Tryd.pinned (.plain (OpenSpec.upto sniffTellsSpec)) sniffTellsUptoCard

/-- THE SECOND FORM's CARD OF 'winklelaw18.SniffStays'. -/
def sniffStaysUptoCard : Claim7 := { stood := { row := sniffStaysUptoRow, standIns := [], harness := (true, "2a339a916567a9ced227779733777595bf8d86dec3390cddfabdf03cabe24b57"), looks := false }, kinds := [], alts := [], laidByText := true, laidKinds := [.data], laidTests := true, laidLooks := .later }
def SniffStaysUptoCardSaid : Prop := Claim7.holds Tryd.pinned (.plain (OpenSpec.upto sniffStaysSpec)) sniffStaysUptoCard

/-- THE SECOND FORM's CARD OF 'winklelaw18.SniffLeast'. -/
def sniffLeastUptoCard : Claim7 := { stood := { row := sniffLeastUptoRow, standIns := [], harness := (true, "2a339a916567a9ced227779733777595bf8d86dec3390cddfabdf03cabe24b57"), looks := false }, kinds := [], alts := [], laidByText := true, laidKinds := [.data], laidTests := true, laidLooks := .later }
def SniffLeastUptoCardSaid : Prop := Claim7.holds Tryd.pinned (.plain (OpenSpec.upto sniffLeastSpec)) sniffLeastUptoCard

/-- THE SECOND FORM's CARD OF 'winklelaw18.SniffKnown'. -/
def sniffKnownUptoCard : Claim7 := { stood := { row := sniffKnownUptoRow, standIns := [], harness := (true, "2a339a916567a9ced227779733777595bf8d86dec3390cddfabdf03cabe24b57"), looks := false }, kinds := [], alts := [], laidByText := true, laidKinds := [.data], laidTests := true, laidLooks := .later }
def SniffKnownUptoCardSaid : Prop := Claim7.holds Tryd.pinned (.plain (OpenSpec.upto sniffKnownSpec)) sniffKnownUptoCard
end Rows
end Go.Proofs.YtbhlmmbknmejkaaDoor
