/-
  NARROWER THAN 'FOR EVERY INPUT', by the rows' own cells (each row's printed sentence says how): PatternsChecks: laid · PatternsBuilds: laid · PatternsNobody: laid · PatternsWords: laid · PatternsOuts: laid · PatternsFails: laid.
  DERIVED. THE GIVEN ROWS OF THIS SEAT. 6 by the template 'for every input the law returns true; each argument reads behind the call as it read before'; 0 by the template 'total and deterministic' (their statements: YtbepbjbbhenphaaDoorTotals.lean).
  GIVEN WITH THE SEED: the statements are not yours to turn. If you find one false, say at which input.
  Laid BY PROGRAM, IN A SANDBOX (cutbox-rows.mjs): the forced cells as the released guide's own fill.sh prints them over the translation 79528a08bef1a487… (all of the seat's roots in one cut). By AI agents, Wed Nov 11 2026. No macro, syntax, notation, axiom, sorry.
-/
import Derived.Test.YtbepbjbbhenphaaDoorChecked
import GoSem.Claim
import GoSem.ClaimJoined
import GoSem.ClaimMapViews
import Derived.JoinedTies
import Derived.KernelRfl
namespace Go.Proofs.YtbepbjbbhenphaaDoor
/- THE CELL 'sum', in the pinned program and in every row, IS THE sha256 OF THE DUMP (.gsa) THAT YtbepbjbbhenphaaDoorProg.lean LOADS. Nothing in Lean hashes anything: it is a label: what it is worth is what the hold of that sum in a sandbox is worth. -/
noncomputable def Tryd.pinned : Pinned := { name := "ytbepbjbbhenphaadoor", sum := "79528a08bef1a48741138af68900c5d79da9ddd5aab999ad76c1e0778d06ec6b", checked := Tryd.checked }
namespace Rows
def none {H : Type} : Left H := { results := [], args := [] }

/- WHAT THE LISTED PACKAGE-LEVEL VARIABLES READ AS WHEN THE CALL BEGINS. Each datum BY PROGRAM (the guide's laid-datum.mjs) off the statement by which the dump's own 'gosem.cut.vars' lays the variable. In a bare row this is a premise. The card (YtbepbjbbhenphaaDoorCards.lean) ties it to the program's text. -/
def laid_math_bits_deBruijn64tab {H : Type} : DataW H := .agg [.lit (.int .u8 0), .lit (.int .u8 1), .lit (.int .u8 56), .lit (.int .u8 2), .lit (.int .u8 57), .lit (.int .u8 49), .lit (.int .u8 28), .lit (.int .u8 3), .lit (.int .u8 61), .lit (.int .u8 58), .lit (.int .u8 42), .lit (.int .u8 50), .lit (.int .u8 38), .lit (.int .u8 29), .lit (.int .u8 17), .lit (.int .u8 4), .lit (.int .u8 62), .lit (.int .u8 47), .lit (.int .u8 59), .lit (.int .u8 36), .lit (.int .u8 45), .lit (.int .u8 43), .lit (.int .u8 51), .lit (.int .u8 22), .lit (.int .u8 53), .lit (.int .u8 39), .lit (.int .u8 33), .lit (.int .u8 30), .lit (.int .u8 24), .lit (.int .u8 18), .lit (.int .u8 12), .lit (.int .u8 5), .lit (.int .u8 63), .lit (.int .u8 55), .lit (.int .u8 48), .lit (.int .u8 27), .lit (.int .u8 60), .lit (.int .u8 41), .lit (.int .u8 37), .lit (.int .u8 16), .lit (.int .u8 46), .lit (.int .u8 35), .lit (.int .u8 44), .lit (.int .u8 21), .lit (.int .u8 52), .lit (.int .u8 32), .lit (.int .u8 23), .lit (.int .u8 11), .lit (.int .u8 54), .lit (.int .u8 26), .lit (.int .u8 40), .lit (.int .u8 15), .lit (.int .u8 34), .lit (.int .u8 20), .lit (.int .u8 31), .lit (.int .u8 10), .lit (.int .u8 25), .lit (.int .u8 14), .lit (.int .u8 19), .lit (.int .u8 9), .lit (.int .u8 13), .lit (.int .u8 8), .lit (.int .u8 7), .lit (.int .u8 6)]

/-- 'winklelaw06.PatternsChecks': WHATEVER THE INPUT: true; the input reads as it did. -/
def patternsChecksSpec : ChangeSpec := { name := "patternsChecks", fn := fun _ => fun
  | [d] => { results := [.lit (.bool true)], args := [d] }
  | _ => none }
def patternsChecksRow : OpenClaim := { program := "ytbepbjbbhenphaadoor", sum := "79528a08bef1a48741138af68900c5d79da9ddd5aab999ad76c1e0778d06ec6b", func := "winkle/winklelaw06.PatternsChecks", spec := "patternsChecks", unfollowed := true, recurses := true, named := ["math/bits.deBruijn64tab"], plainKeys := false, apart := false, laid := [("math/bits.deBruijn64tab", laid_math_bits_deBruijn64tab)] }
def PatternsChecksSaid : Prop := patternsChecksRow.holds Tryd.pinned (OpenSpec.ofChange patternsChecksSpec)

/-- ITS FALSE NEIGHBOUR: 'it returns false'. Refute it at one input. -/
def patternsChecksWrong : ChangeSpec := { name := "patternsChecks", fn := fun _ => fun
  | [d] => { results := [.lit (.bool false)], args := [d] }
  | _ => none }
def PatternsChecksWrongFalsely : Prop := patternsChecksRow.holds Tryd.pinned (OpenSpec.ofChange patternsChecksWrong)

/-- 'winklelaw06.PatternsBuilds': WHATEVER THE INPUT: true; the input reads as it did. -/
def patternsBuildsSpec : ChangeSpec := { name := "patternsBuilds", fn := fun _ => fun
  | [d1, d2] => { results := [.lit (.bool true)], args := [d1, d2] }
  | _ => none }
def patternsBuildsRow : OpenClaim := { program := "ytbepbjbbhenphaadoor", sum := "79528a08bef1a48741138af68900c5d79da9ddd5aab999ad76c1e0778d06ec6b", func := "winkle/winklelaw06.PatternsBuilds", spec := "patternsBuilds", unfollowed := true, recurses := true, named := ["math/bits.deBruijn64tab"], plainKeys := false, apart := false, laid := [("math/bits.deBruijn64tab", laid_math_bits_deBruijn64tab)] }
def PatternsBuildsSaid : Prop := patternsBuildsRow.holds Tryd.pinned (OpenSpec.ofChange patternsBuildsSpec)

/-- ITS FALSE NEIGHBOUR: 'it returns false'. Refute it at one input. -/
def patternsBuildsWrong : ChangeSpec := { name := "patternsBuilds", fn := fun _ => fun
  | [d1, d2] => { results := [.lit (.bool false)], args := [d1, d2] }
  | _ => none }
def PatternsBuildsWrongFalsely : Prop := patternsBuildsRow.holds Tryd.pinned (OpenSpec.ofChange patternsBuildsWrong)

/-- 'winklelaw06.PatternsNobody': WHATEVER THE INPUT: true; the input reads as it did. -/
def patternsNobodySpec : ChangeSpec := { name := "patternsNobody", fn := fun _ => fun
  | [d1, d2] => { results := [.lit (.bool true)], args := [d1, d2] }
  | _ => none }
def patternsNobodyRow : OpenClaim := { program := "ytbepbjbbhenphaadoor", sum := "79528a08bef1a48741138af68900c5d79da9ddd5aab999ad76c1e0778d06ec6b", func := "winkle/winklelaw06.PatternsNobody", spec := "patternsNobody", unfollowed := true, recurses := true, named := ["math/bits.deBruijn64tab"], plainKeys := false, apart := false, laid := [("math/bits.deBruijn64tab", laid_math_bits_deBruijn64tab)] }
def PatternsNobodySaid : Prop := patternsNobodyRow.holds Tryd.pinned (OpenSpec.ofChange patternsNobodySpec)

/-- ITS FALSE NEIGHBOUR: 'it returns false'. Refute it at one input. -/
def patternsNobodyWrong : ChangeSpec := { name := "patternsNobody", fn := fun _ => fun
  | [d1, d2] => { results := [.lit (.bool false)], args := [d1, d2] }
  | _ => none }
def PatternsNobodyWrongFalsely : Prop := patternsNobodyRow.holds Tryd.pinned (OpenSpec.ofChange patternsNobodyWrong)

/-- 'winklelaw06.PatternsWords': WHATEVER THE INPUT: true; the input reads as it did. -/
def patternsWordsSpec : ChangeSpec := { name := "patternsWords", fn := fun _ => fun
  | [d1, d2] => { results := [.lit (.bool true)], args := [d1, d2] }
  | _ => none }
def patternsWordsRow : OpenClaim := { program := "ytbepbjbbhenphaadoor", sum := "79528a08bef1a48741138af68900c5d79da9ddd5aab999ad76c1e0778d06ec6b", func := "winkle/winklelaw06.PatternsWords", spec := "patternsWords", unfollowed := true, recurses := true, named := ["math/bits.deBruijn64tab"], plainKeys := false, apart := false, laid := [("math/bits.deBruijn64tab", laid_math_bits_deBruijn64tab)] }
def PatternsWordsSaid : Prop := patternsWordsRow.holds Tryd.pinned (OpenSpec.ofChange patternsWordsSpec)

/-- ITS FALSE NEIGHBOUR: 'it returns false'. Refute it at one input. -/
def patternsWordsWrong : ChangeSpec := { name := "patternsWords", fn := fun _ => fun
  | [d1, d2] => { results := [.lit (.bool false)], args := [d1, d2] }
  | _ => none }
def PatternsWordsWrongFalsely : Prop := patternsWordsRow.holds Tryd.pinned (OpenSpec.ofChange patternsWordsWrong)

/-- 'winklelaw06.PatternsOuts': WHATEVER THE INPUT: true; the input reads as it did. -/
def patternsOutsSpec : ChangeSpec := { name := "patternsOuts", fn := fun _ => fun
  | [d1, d2] => { results := [.lit (.bool true)], args := [d1, d2] }
  | _ => none }
def patternsOutsRow : OpenClaim := { program := "ytbepbjbbhenphaadoor", sum := "79528a08bef1a48741138af68900c5d79da9ddd5aab999ad76c1e0778d06ec6b", func := "winkle/winklelaw06.PatternsOuts", spec := "patternsOuts", unfollowed := true, recurses := true, named := ["math/bits.deBruijn64tab"], plainKeys := false, apart := false, laid := [("math/bits.deBruijn64tab", laid_math_bits_deBruijn64tab)] }
def PatternsOutsSaid : Prop := patternsOutsRow.holds Tryd.pinned (OpenSpec.ofChange patternsOutsSpec)

/-- ITS FALSE NEIGHBOUR: 'it returns false'. Refute it at one input. -/
def patternsOutsWrong : ChangeSpec := { name := "patternsOuts", fn := fun _ => fun
  | [d1, d2] => { results := [.lit (.bool false)], args := [d1, d2] }
  | _ => none }
def PatternsOutsWrongFalsely : Prop := patternsOutsRow.holds Tryd.pinned (OpenSpec.ofChange patternsOutsWrong)

/-- 'winklelaw06.PatternsFails': WHATEVER THE INPUT: true; the input reads as it did. -/
def patternsFailsSpec : ChangeSpec := { name := "patternsFails", fn := fun _ => fun
  | [d] => { results := [.lit (.bool true)], args := [d] }
  | _ => none }
def patternsFailsRow : OpenClaim := { program := "ytbepbjbbhenphaadoor", sum := "79528a08bef1a48741138af68900c5d79da9ddd5aab999ad76c1e0778d06ec6b", func := "winkle/winklelaw06.PatternsFails", spec := "patternsFails", unfollowed := true, recurses := true, named := ["math/bits.deBruijn64tab"], plainKeys := false, apart := false, laid := [("math/bits.deBruijn64tab", laid_math_bits_deBruijn64tab)] }
def PatternsFailsSaid : Prop := patternsFailsRow.holds Tryd.pinned (OpenSpec.ofChange patternsFailsSpec)

/-- ITS FALSE NEIGHBOUR: 'it returns false'. Refute it at one input. -/
def patternsFailsWrong : ChangeSpec := { name := "patternsFails", fn := fun _ => fun
  | [d] => { results := [.lit (.bool false)], args := [d] }
  | _ => none }
def PatternsFailsWrongFalsely : Prop := patternsFailsRow.holds Tryd.pinned (OpenSpec.ofChange patternsFailsWrong)

/- THE SECOND FORM. 'bulk': how many values and letters a reading holds, each counted each time it is reached (what is shared counts as often as it is met; a slice's spare places count too). A statement '..UptoSaid' is the law's where the arguments, and the package variables that the reading takes, are together of bulk at most 1048576: NARROWER than '..Said'. Prove '..Said' where nothing that the law and all that it calls make is longer than what came in: it says more and counts as full. Else prove '..UptoSaid'. A law counts once. -/
mutual
def uptoBulk {H : Type} : DataW H → Nat
  | .lit (.string bytes) => bytes.length + 1
  | .lit _ => 1
  | .nil => 1
  | .ptr d => uptoBulk d + 1
  | .slice elems spare => uptoBulkAll elems + uptoBulkAll spare + 1
  | .agg parts => uptoBulkAll parts + 1
  | .iface _ d => uptoBulk d + 1
  | .map entries => uptoBulkEntries entries + 1
  | .held _ => 1
def uptoBulkAll {H : Type} : List (DataW H) → Nat
  | [] => 0
  | d :: r => uptoBulk d + uptoBulkAll r
def uptoBulkEntries {H : Type} : List (Lit × DataW H) → Nat
  | [] => 0
  | x :: r => uptoBulkEntry x + uptoBulkEntries r
def uptoBulkEntry {H : Type} : Lit × DataW H → Nat
  | (.string bytes, d) => bytes.length + uptoBulk d + 1
  | (_, d) => uptoBulk d + 1
 end
def uptoSmall : (H : Type) → List (DataW H) → Bool := fun _ ds => decide (uptoBulkAll ds ≤ 1048576)
def OpenSpec.upto (s : _root_.Go.ChangeSpec) : _root_.Go.OpenSpec := { _root_.Go.OpenSpec.ofChange s with cond := some uptoSmall }

/-- 'winklelaw06.PatternsChecks', WHERE WHAT IT READS IS OF BULK AT MOST 1048576: true; the input reads as it did. -/
def patternsChecksUptoRow : OpenClaim := { program := "ytbepbjbbhenphaadoor", sum := "79528a08bef1a48741138af68900c5d79da9ddd5aab999ad76c1e0778d06ec6b", func := "winkle/winklelaw06.PatternsChecks", spec := "patternsChecks", unfollowed := true, recurses := true, named := ["math/bits.deBruijn64tab"], plainKeys := false, apart := false, laid := [("math/bits.deBruijn64tab", laid_math_bits_deBruijn64tab)], narrowed := true }
def PatternsChecksUptoSaid : Prop := patternsChecksUptoRow.holds Tryd.pinned (OpenSpec.upto patternsChecksSpec)

/-- 'winklelaw06.PatternsBuilds', WHERE WHAT IT READS IS OF BULK AT MOST 1048576: true; the input reads as it did. -/
def patternsBuildsUptoRow : OpenClaim := { program := "ytbepbjbbhenphaadoor", sum := "79528a08bef1a48741138af68900c5d79da9ddd5aab999ad76c1e0778d06ec6b", func := "winkle/winklelaw06.PatternsBuilds", spec := "patternsBuilds", unfollowed := true, recurses := true, named := ["math/bits.deBruijn64tab"], plainKeys := false, apart := false, laid := [("math/bits.deBruijn64tab", laid_math_bits_deBruijn64tab)], narrowed := true }
def PatternsBuildsUptoSaid : Prop := patternsBuildsUptoRow.holds Tryd.pinned (OpenSpec.upto patternsBuildsSpec)

/-- 'winklelaw06.PatternsNobody', WHERE WHAT IT READS IS OF BULK AT MOST 1048576: true; the input reads as it did. -/
def patternsNobodyUptoRow : OpenClaim := { program := "ytbepbjbbhenphaadoor", sum := "79528a08bef1a48741138af68900c5d79da9ddd5aab999ad76c1e0778d06ec6b", func := "winkle/winklelaw06.PatternsNobody", spec := "patternsNobody", unfollowed := true, recurses := true, named := ["math/bits.deBruijn64tab"], plainKeys := false, apart := false, laid := [("math/bits.deBruijn64tab", laid_math_bits_deBruijn64tab)], narrowed := true }
def PatternsNobodyUptoSaid : Prop := patternsNobodyUptoRow.holds Tryd.pinned (OpenSpec.upto patternsNobodySpec)

/-- 'winklelaw06.PatternsWords', WHERE WHAT IT READS IS OF BULK AT MOST 1048576: true; the input reads as it did. -/
def patternsWordsUptoRow : OpenClaim := { program := "ytbepbjbbhenphaadoor", sum := "79528a08bef1a48741138af68900c5d79da9ddd5aab999ad76c1e0778d06ec6b", func := "winkle/winklelaw06.PatternsWords", spec := "patternsWords", unfollowed := true, recurses := true, named := ["math/bits.deBruijn64tab"], plainKeys := false, apart := false, laid := [("math/bits.deBruijn64tab", laid_math_bits_deBruijn64tab)], narrowed := true }
def PatternsWordsUptoSaid : Prop := patternsWordsUptoRow.holds Tryd.pinned (OpenSpec.upto patternsWordsSpec)

/-- 'winklelaw06.PatternsOuts', WHERE WHAT IT READS IS OF BULK AT MOST 1048576: true; the input reads as it did. -/
def patternsOutsUptoRow : OpenClaim := { program := "ytbepbjbbhenphaadoor", sum := "79528a08bef1a48741138af68900c5d79da9ddd5aab999ad76c1e0778d06ec6b", func := "winkle/winklelaw06.PatternsOuts", spec := "patternsOuts", unfollowed := true, recurses := true, named := ["math/bits.deBruijn64tab"], plainKeys := false, apart := false, laid := [("math/bits.deBruijn64tab", laid_math_bits_deBruijn64tab)], narrowed := true }
def PatternsOutsUptoSaid : Prop := patternsOutsUptoRow.holds Tryd.pinned (OpenSpec.upto patternsOutsSpec)

/-- 'winklelaw06.PatternsFails', WHERE WHAT IT READS IS OF BULK AT MOST 1048576: true; the input reads as it did. -/
def patternsFailsUptoRow : OpenClaim := { program := "ytbepbjbbhenphaadoor", sum := "79528a08bef1a48741138af68900c5d79da9ddd5aab999ad76c1e0778d06ec6b", func := "winkle/winklelaw06.PatternsFails", spec := "patternsFails", unfollowed := true, recurses := true, named := ["math/bits.deBruijn64tab"], plainKeys := false, apart := false, laid := [("math/bits.deBruijn64tab", laid_math_bits_deBruijn64tab)], narrowed := true }
def PatternsFailsUptoSaid : Prop := patternsFailsUptoRow.holds Tryd.pinned (OpenSpec.upto patternsFailsSpec)

end Rows
end Go.Proofs.YtbepbjbbhenphaaDoor
