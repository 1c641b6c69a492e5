/-
  DERIVED. GIVEN WITH THE SEED: THE CARDS: each row of YtbepbjbbhenphaaDoorRows.lean that lists a variable, with what it lists TIED to the program's text (the seventh form; the later family's looks); each row that meets fmt, with fmt's text TOLD by the authors' own Lean function (tested against real Go, not proved from fmt's source: count such statements apart). THE CARD IS WHAT COUNTS. Prove the row's statement (the work); the ties are given (YtbepbjbbhenphaaDoorTie.lean); close each card by the builder's one call (the guide's Derived/Test/ToyasCard.lean, 'card_holds'). Laid BY PROGRAM, IN A SANDBOX (cutbox-door.mjs). By AI agents, Wed Nov 11 2026. No macro, syntax, notation, axiom, sorry.
-/
import Derived.Test.YtbepbjbbhenphaaDoorRows
import GoSem.ClaimSeven
namespace Go.Proofs.YtbepbjbbhenphaaDoor
namespace Rows

/-- THE TIED CARD OF 'winklelaw06.PatternsChecks'. -/
def patternsChecksCard : Claim7 := { stood := { row := patternsChecksRow, standIns := [], harness := (true, "b29a820967c0615b445efc6975073431c45977530fda3b29c1502a1f448d9ecb"), looks := false }, kinds := [], alts := [], laidByText := true, laidKinds := [.data], laidTests := true, laidLooks := .later }
def PatternsChecksCardSaid : Prop := Claim7.holds Tryd.pinned (.plain (OpenSpec.ofChange patternsChecksSpec)) patternsChecksCard

/-- THE TIED CARD OF 'winklelaw06.PatternsBuilds'. -/
def patternsBuildsCard : Claim7 := { stood := { row := patternsBuildsRow, standIns := [], harness := (true, "b29a820967c0615b445efc6975073431c45977530fda3b29c1502a1f448d9ecb"), looks := false }, kinds := [], alts := [], laidByText := true, laidKinds := [.data], laidTests := true, laidLooks := .later }
def PatternsBuildsCardSaid : Prop := Claim7.holds Tryd.pinned (.plain (OpenSpec.ofChange patternsBuildsSpec)) patternsBuildsCard

/-- THE TIED CARD OF 'winklelaw06.PatternsNobody'. -/
def patternsNobodyCard : Claim7 := { stood := { row := patternsNobodyRow, standIns := [], harness := (true, "b29a820967c0615b445efc6975073431c45977530fda3b29c1502a1f448d9ecb"), looks := false }, kinds := [], alts := [], laidByText := true, laidKinds := [.data], laidTests := true, laidLooks := .later }
def PatternsNobodyCardSaid : Prop := Claim7.holds Tryd.pinned (.plain (OpenSpec.ofChange patternsNobodySpec)) patternsNobodyCard

/-- THE TIED CARD OF 'winklelaw06.PatternsWords'. -/
def patternsWordsCard : Claim7 := { stood := { row := patternsWordsRow, standIns := [], harness := (true, "b29a820967c0615b445efc6975073431c45977530fda3b29c1502a1f448d9ecb"), looks := false }, kinds := [], alts := [], laidByText := true, laidKinds := [.data], laidTests := true, laidLooks := .later }
def PatternsWordsCardSaid : Prop := Claim7.holds Tryd.pinned (.plain (OpenSpec.ofChange patternsWordsSpec)) patternsWordsCard

/-- THE TIED CARD OF 'winklelaw06.PatternsOuts'. -/
def patternsOutsCard : Claim7 := { stood := { row := patternsOutsRow, standIns := [], harness := (true, "b29a820967c0615b445efc6975073431c45977530fda3b29c1502a1f448d9ecb"), looks := false }, kinds := [], alts := [], laidByText := true, laidKinds := [.data], laidTests := true, laidLooks := .later }
def PatternsOutsCardSaid : Prop := Claim7.holds Tryd.pinned (.plain (OpenSpec.ofChange patternsOutsSpec)) patternsOutsCard

/-- THE TIED CARD OF 'winklelaw06.PatternsFails'. -/
def patternsFailsCard : Claim7 := { stood := { row := patternsFailsRow, standIns := [], harness := (true, "b29a820967c0615b445efc6975073431c45977530fda3b29c1502a1f448d9ecb"), looks := false }, kinds := [], alts := [], laidByText := true, laidKinds := [.data], laidTests := true, laidLooks := .later }
def PatternsFailsCardSaid : Prop := Claim7.holds Tryd.pinned (.plain (OpenSpec.ofChange patternsFailsSpec)) patternsFailsCard

/-- THE SECOND FORM's CARD OF 'winklelaw06.PatternsChecks'. -/
def patternsChecksUptoCard : Claim7 := { stood := { row := patternsChecksUptoRow, standIns := [], harness := (true, "b29a820967c0615b445efc6975073431c45977530fda3b29c1502a1f448d9ecb"), looks := false }, kinds := [], alts := [], laidByText := true, laidKinds := [.data], laidTests := true, laidLooks := .later }
def PatternsChecksUptoCardSaid : Prop := Claim7.holds Tryd.pinned (.plain (OpenSpec.upto patternsChecksSpec)) patternsChecksUptoCard

/-- THE SECOND FORM's CARD OF 'winklelaw06.PatternsBuilds'. -/
def patternsBuildsUptoCard : Claim7 := { stood := { row := patternsBuildsUptoRow, standIns := [], harness := (true, "b29a820967c0615b445efc6975073431c45977530fda3b29c1502a1f448d9ecb"), looks := false }, kinds := [], alts := [], laidByText := true, laidKinds := [.data], laidTests := true, laidLooks := .later }
def PatternsBuildsUptoCardSaid : Prop := Claim7.holds Tryd.pinned (.plain (OpenSpec.upto patternsBuildsSpec)) patternsBuildsUptoCard

/-- THE SECOND FORM's CARD OF 'winklelaw06.PatternsNobody'. -/
def patternsNobodyUptoCard : Claim7 := { stood := { row := patternsNobodyUptoRow, standIns := [], harness := (true, "b29a820967c0615b445efc6975073431c45977530fda3b29c1502a1f448d9ecb"), looks := false }, kinds := [], alts := [], laidByText := true, laidKinds := [.data], laidTests := true, laidLooks := .later }
def PatternsNobodyUptoCardSaid : Prop := Claim7.holds Tryd.pinned (.plain (OpenSpec.upto patternsNobodySpec)) patternsNobodyUptoCard

/-- THE SECOND FORM's CARD OF 'winklelaw06.PatternsWords'. -/
def patternsWordsUptoCard : Claim7 := { stood := { row := patternsWordsUptoRow, standIns := [], harness := (true, "b29a820967c0615b445efc6975073431c45977530fda3b29c1502a1f448d9ecb"), looks := false }, kinds := [], alts := [], laidByText := true, laidKinds := [.data], laidTests := true, laidLooks := .later }
def PatternsWordsUptoCardSaid : Prop := Claim7.holds Tryd.pinned (.plain (OpenSpec.upto patternsWordsSpec)) patternsWordsUptoCard

/-- THE SECOND FORM's CARD OF 'winklelaw06.PatternsOuts'. -/
def patternsOutsUptoCard : Claim7 := { stood := { row := patternsOutsUptoRow, standIns := [], harness := (true, "b29a820967c0615b445efc6975073431c45977530fda3b29c1502a1f448d9ecb"), looks := false }, kinds := [], alts := [], laidByText := true, laidKinds := [.data], laidTests := true, laidLooks := .later }
def PatternsOutsUptoCardSaid : Prop := Claim7.holds Tryd.pinned (.plain (OpenSpec.upto patternsOutsSpec)) patternsOutsUptoCard

/-- THE SECOND FORM's CARD OF 'winklelaw06.PatternsFails'. -/
def patternsFailsUptoCard : Claim7 := { stood := { row := patternsFailsUptoRow, standIns := [], harness := (true, "b29a820967c0615b445efc6975073431c45977530fda3b29c1502a1f448d9ecb"), looks := false }, kinds := [], alts := [], laidByText := true, laidKinds := [.data], laidTests := true, laidLooks := .later }
def PatternsFailsUptoCardSaid : Prop := Claim7.holds Tryd.pinned (.plain (OpenSpec.upto patternsFailsSpec)) patternsFailsUptoCard
end Rows
end Go.Proofs.YtbepbjbbhenphaaDoor
