/-
  DERIVED. GIVEN WITH THE SEED: THE CARDS: each row of YtkdlcdincimnkaaDoorRows.lean that lists a variable, with what it lists TIED to the program's text (the seventh form; the later family's looks); each row that meets fmt, with fmt's text TOLD by the authors' own Lean function (tested against real Go, not proved from fmt's source: count such statements apart). THE CARD IS WHAT COUNTS. Prove the row's statement (the work); the ties are given (YtkdlcdincimnkaaDoorTie.lean); close each card by the builder's one call (the guide's Derived/Test/ToyasCard.lean, 'card_holds'). Laid BY PROGRAM, IN A SANDBOX (cutbox-door.mjs). By AI agents, Wed Nov 11 2026. No macro, syntax, notation, axiom, sorry.
-/
import Derived.Test.YtkdlcdincimnkaaDoorRows
import GoSem.ClaimSeven
namespace Go.Proofs.YtkdlcdincimnkaaDoor
namespace Rows

/-- THE TIED CARD OF 'winklelaw07.MatcherPlays'. -/
def matcherPlaysCard : Claim7 := { stood := { row := matcherPlaysRow, standIns := [], harness := (true, "ea27aaf0ce5a9f68e1f3da5b2264092f8cbb7ad11c145781c7f7583451cdf390"), looks := false }, kinds := [], alts := [], laidByText := true, laidKinds := [.data], laidTests := true, laidLooks := .later }
def MatcherPlaysCardSaid : Prop := Claim7.holds Tryd.pinned (.plain (OpenSpec.ofChange matcherPlaysSpec)) matcherPlaysCard

/-- THE TIED CARD OF 'winklelaw07.MatcherAll'. -/
def matcherAllCard : Claim7 := { stood := { row := matcherAllRow, standIns := [], harness := (true, "ea27aaf0ce5a9f68e1f3da5b2264092f8cbb7ad11c145781c7f7583451cdf390"), looks := false }, kinds := [], alts := [], laidByText := true, laidKinds := [.data], laidTests := true, laidLooks := .later }
def MatcherAllCardSaid : Prop := Claim7.holds Tryd.pinned (.plain (OpenSpec.ofChange matcherAllSpec)) matcherAllCard

/-- THE TIED CARD OF 'winklelaw07.MatcherNobody'. -/
def matcherNobodyCard : Claim7 := { stood := { row := matcherNobodyRow, standIns := [], harness := (true, "ea27aaf0ce5a9f68e1f3da5b2264092f8cbb7ad11c145781c7f7583451cdf390"), looks := false }, kinds := [], alts := [], laidByText := true, laidKinds := [.data], laidTests := true, laidLooks := .later }
def MatcherNobodyCardSaid : Prop := Claim7.holds Tryd.pinned (.plain (OpenSpec.ofChange matcherNobodySpec)) matcherNobodyCard

/-- THE TIED CARD OF 'winklelaw07.MatcherFinds'. -/
def matcherFindsCard : Claim7 := { stood := { row := matcherFindsRow, standIns := [], harness := (true, "ea27aaf0ce5a9f68e1f3da5b2264092f8cbb7ad11c145781c7f7583451cdf390"), looks := false }, kinds := [], alts := [], laidByText := true, laidKinds := [.data], laidTests := true, laidLooks := .later }
def MatcherFindsCardSaid : Prop := Claim7.holds Tryd.pinned (.plain (OpenSpec.ofChange matcherFindsSpec)) matcherFindsCard

/-- THE TIED CARD OF 'winklelaw07.MatcherSplits'. -/
def matcherSplitsCard : Claim7 := { stood := { row := matcherSplitsRow, standIns := [], harness := (true, "ea27aaf0ce5a9f68e1f3da5b2264092f8cbb7ad11c145781c7f7583451cdf390"), looks := false }, kinds := [], alts := [], laidByText := true, laidKinds := [.data], laidTests := true, laidLooks := .later }
def MatcherSplitsCardSaid : Prop := Claim7.holds Tryd.pinned (.plain (OpenSpec.ofChange matcherSplitsSpec)) matcherSplitsCard

/-- THE TIED CARD OF 'winklelaw07.MatcherCaps'. -/
def matcherCapsCard : Claim7 := { stood := { row := matcherCapsRow, standIns := [], harness := (true, "ea27aaf0ce5a9f68e1f3da5b2264092f8cbb7ad11c145781c7f7583451cdf390"), looks := false }, kinds := [], alts := [], laidByText := true, laidKinds := [.data], laidTests := true, laidLooks := .later }
def MatcherCapsCardSaid : Prop := Claim7.holds Tryd.pinned (.plain (OpenSpec.ofChange matcherCapsSpec)) matcherCapsCard

/-- THE SECOND FORM's CARD OF 'winklelaw07.MatcherPlays'. -/
def matcherPlaysUptoCard : Claim7 := { stood := { row := matcherPlaysUptoRow, standIns := [], harness := (true, "ea27aaf0ce5a9f68e1f3da5b2264092f8cbb7ad11c145781c7f7583451cdf390"), looks := false }, kinds := [], alts := [], laidByText := true, laidKinds := [.data], laidTests := true, laidLooks := .later }
def MatcherPlaysUptoCardSaid : Prop := Claim7.holds Tryd.pinned (.plain (OpenSpec.upto matcherPlaysSpec)) matcherPlaysUptoCard

/-- THE SECOND FORM's CARD OF 'winklelaw07.MatcherAll'. -/
def matcherAllUptoCard : Claim7 := { stood := { row := matcherAllUptoRow, standIns := [], harness := (true, "ea27aaf0ce5a9f68e1f3da5b2264092f8cbb7ad11c145781c7f7583451cdf390"), looks := false }, kinds := [], alts := [], laidByText := true, laidKinds := [.data], laidTests := true, laidLooks := .later }
def MatcherAllUptoCardSaid : Prop := Claim7.holds Tryd.pinned (.plain (OpenSpec.upto matcherAllSpec)) matcherAllUptoCard

/-- THE SECOND FORM's CARD OF 'winklelaw07.MatcherNobody'. -/
def matcherNobodyUptoCard : Claim7 := { stood := { row := matcherNobodyUptoRow, standIns := [], harness := (true, "ea27aaf0ce5a9f68e1f3da5b2264092f8cbb7ad11c145781c7f7583451cdf390"), looks := false }, kinds := [], alts := [], laidByText := true, laidKinds := [.data], laidTests := true, laidLooks := .later }
def MatcherNobodyUptoCardSaid : Prop := Claim7.holds Tryd.pinned (.plain (OpenSpec.upto matcherNobodySpec)) matcherNobodyUptoCard

/-- THE SECOND FORM's CARD OF 'winklelaw07.MatcherFinds'. -/
def matcherFindsUptoCard : Claim7 := { stood := { row := matcherFindsUptoRow, standIns := [], harness := (true, "ea27aaf0ce5a9f68e1f3da5b2264092f8cbb7ad11c145781c7f7583451cdf390"), looks := false }, kinds := [], alts := [], laidByText := true, laidKinds := [.data], laidTests := true, laidLooks := .later }
def MatcherFindsUptoCardSaid : Prop := Claim7.holds Tryd.pinned (.plain (OpenSpec.upto matcherFindsSpec)) matcherFindsUptoCard

/-- THE SECOND FORM's CARD OF 'winklelaw07.MatcherSplits'. -/
def matcherSplitsUptoCard : Claim7 := { stood := { row := matcherSplitsUptoRow, standIns := [], harness := (true, "ea27aaf0ce5a9f68e1f3da5b2264092f8cbb7ad11c145781c7f7583451cdf390"), looks := false }, kinds := [], alts := [], laidByText := true, laidKinds := [.data], laidTests := true, laidLooks := .later }
def MatcherSplitsUptoCardSaid : Prop := Claim7.holds Tryd.pinned (.plain (OpenSpec.upto matcherSplitsSpec)) matcherSplitsUptoCard

/-- THE SECOND FORM's CARD OF 'winklelaw07.MatcherCaps'. -/
def matcherCapsUptoCard : Claim7 := { stood := { row := matcherCapsUptoRow, standIns := [], harness := (true, "ea27aaf0ce5a9f68e1f3da5b2264092f8cbb7ad11c145781c7f7583451cdf390"), looks := false }, kinds := [], alts := [], laidByText := true, laidKinds := [.data], laidTests := true, laidLooks := .later }
def MatcherCapsUptoCardSaid : Prop := Claim7.holds Tryd.pinned (.plain (OpenSpec.upto matcherCapsSpec)) matcherCapsUptoCard
end Rows
end Go.Proofs.YtkdlcdincimnkaaDoor
