/-
  NARROWER THAN 'FOR EVERY INPUT', by the rows' own cells (each row's printed sentence says how): MatcherPlays: laid · MatcherAll: laid · MatcherNobody: laid · MatcherFinds: laid · MatcherSplits: laid · MatcherCaps: laid.
  DERIVED. THE GIVEN ROWS OF THIS SEAT. 6 by the template 'for every input the law returns true; each argument reads behind the call as it read before'; 0 by the template 'total and deterministic' (their statements: YtkdlcdincimnkaaDoorTotals.lean).
  GIVEN WITH THE SEED: the statements are not yours to turn. If you find one false, say at which input.
  Laid BY PROGRAM, IN A SANDBOX (cutbox-rows.mjs): the forced cells as the released guide's own fill.sh prints them over the translation 8dc960fc8fe6c48c… (all of the seat's roots in one cut). By AI agents, Wed Nov 11 2026. No macro, syntax, notation, axiom, sorry.
-/
import Derived.Test.YtkdlcdincimnkaaDoorChecked
import GoSem.Claim
import GoSem.ClaimJoined
import GoSem.ClaimMapViews
import Derived.JoinedTies
import Derived.KernelRfl
namespace Go.Proofs.YtkdlcdincimnkaaDoor
/- THE CELL 'sum', in the pinned program and in every row, IS THE sha256 OF THE DUMP (.gsa) THAT YtkdlcdincimnkaaDoorProg.lean LOADS. Nothing in Lean hashes anything: it is a label: what it is worth is what the hold of that sum in a sandbox is worth. -/
noncomputable def Tryd.pinned : Pinned := { name := "ytkdlcdincimnkaadoor", sum := "8dc960fc8fe6c48c19b3b52e5de5d2b3f189a943536eb9d3140e82a74e477610", checked := Tryd.checked }
namespace Rows
def none {H : Type} : Left H := { results := [], args := [] }

/- WHAT THE LISTED PACKAGE-LEVEL VARIABLES READ AS WHEN THE CALL BEGINS. Each datum BY PROGRAM (the guide's laid-datum.mjs) off the statement by which the dump's own 'gosem.cut.vars' lays the variable. In a bare row this is a premise. The card (YtkdlcdincimnkaaDoorCards.lean) ties it to the program's text. -/
def laid_math_bits_deBruijn64tab {H : Type} : DataW H := .agg [.lit (.int .u8 0), .lit (.int .u8 1), .lit (.int .u8 56), .lit (.int .u8 2), .lit (.int .u8 57), .lit (.int .u8 49), .lit (.int .u8 28), .lit (.int .u8 3), .lit (.int .u8 61), .lit (.int .u8 58), .lit (.int .u8 42), .lit (.int .u8 50), .lit (.int .u8 38), .lit (.int .u8 29), .lit (.int .u8 17), .lit (.int .u8 4), .lit (.int .u8 62), .lit (.int .u8 47), .lit (.int .u8 59), .lit (.int .u8 36), .lit (.int .u8 45), .lit (.int .u8 43), .lit (.int .u8 51), .lit (.int .u8 22), .lit (.int .u8 53), .lit (.int .u8 39), .lit (.int .u8 33), .lit (.int .u8 30), .lit (.int .u8 24), .lit (.int .u8 18), .lit (.int .u8 12), .lit (.int .u8 5), .lit (.int .u8 63), .lit (.int .u8 55), .lit (.int .u8 48), .lit (.int .u8 27), .lit (.int .u8 60), .lit (.int .u8 41), .lit (.int .u8 37), .lit (.int .u8 16), .lit (.int .u8 46), .lit (.int .u8 35), .lit (.int .u8 44), .lit (.int .u8 21), .lit (.int .u8 52), .lit (.int .u8 32), .lit (.int .u8 23), .lit (.int .u8 11), .lit (.int .u8 54), .lit (.int .u8 26), .lit (.int .u8 40), .lit (.int .u8 15), .lit (.int .u8 34), .lit (.int .u8 20), .lit (.int .u8 31), .lit (.int .u8 10), .lit (.int .u8 25), .lit (.int .u8 14), .lit (.int .u8 19), .lit (.int .u8 9), .lit (.int .u8 13), .lit (.int .u8 8), .lit (.int .u8 7), .lit (.int .u8 6)]

/-- 'winklelaw07.MatcherPlays': WHATEVER THE INPUT: true; the input reads as it did. -/
def matcherPlaysSpec : ChangeSpec := { name := "matcherPlays", fn := fun _ => fun
  | [d1, d2] => { results := [.lit (.bool true)], args := [d1, d2] }
  | _ => none }
def matcherPlaysRow : OpenClaim := { program := "ytkdlcdincimnkaadoor", sum := "8dc960fc8fe6c48c19b3b52e5de5d2b3f189a943536eb9d3140e82a74e477610", func := "winkle/winklelaw07.MatcherPlays", spec := "matcherPlays", unfollowed := true, recurses := true, named := ["math/bits.deBruijn64tab"], plainKeys := false, apart := false, laid := [("math/bits.deBruijn64tab", laid_math_bits_deBruijn64tab)] }
def MatcherPlaysSaid : Prop := matcherPlaysRow.holds Tryd.pinned (OpenSpec.ofChange matcherPlaysSpec)

/-- ITS FALSE NEIGHBOUR: 'it returns false'. Refute it at one input. -/
def matcherPlaysWrong : ChangeSpec := { name := "matcherPlays", fn := fun _ => fun
  | [d1, d2] => { results := [.lit (.bool false)], args := [d1, d2] }
  | _ => none }
def MatcherPlaysWrongFalsely : Prop := matcherPlaysRow.holds Tryd.pinned (OpenSpec.ofChange matcherPlaysWrong)

/-- 'winklelaw07.MatcherAll': WHATEVER THE INPUT: true; the input reads as it did. -/
def matcherAllSpec : ChangeSpec := { name := "matcherAll", fn := fun _ => fun
  | [d1, d2, d3] => { results := [.lit (.bool true)], args := [d1, d2, d3] }
  | _ => none }
def matcherAllRow : OpenClaim := { program := "ytkdlcdincimnkaadoor", sum := "8dc960fc8fe6c48c19b3b52e5de5d2b3f189a943536eb9d3140e82a74e477610", func := "winkle/winklelaw07.MatcherAll", spec := "matcherAll", unfollowed := true, recurses := true, named := ["math/bits.deBruijn64tab"], plainKeys := false, apart := false, laid := [("math/bits.deBruijn64tab", laid_math_bits_deBruijn64tab)] }
def MatcherAllSaid : Prop := matcherAllRow.holds Tryd.pinned (OpenSpec.ofChange matcherAllSpec)

/-- ITS FALSE NEIGHBOUR: 'it returns false'. Refute it at one input. -/
def matcherAllWrong : ChangeSpec := { name := "matcherAll", fn := fun _ => fun
  | [d1, d2, d3] => { results := [.lit (.bool false)], args := [d1, d2, d3] }
  | _ => none }
def MatcherAllWrongFalsely : Prop := matcherAllRow.holds Tryd.pinned (OpenSpec.ofChange matcherAllWrong)

/-- 'winklelaw07.MatcherNobody': WHATEVER THE INPUT: true; the input reads as it did. -/
def matcherNobodySpec : ChangeSpec := { name := "matcherNobody", fn := fun _ => fun
  | [d1, d2, d3] => { results := [.lit (.bool true)], args := [d1, d2, d3] }
  | _ => none }
def matcherNobodyRow : OpenClaim := { program := "ytkdlcdincimnkaadoor", sum := "8dc960fc8fe6c48c19b3b52e5de5d2b3f189a943536eb9d3140e82a74e477610", func := "winkle/winklelaw07.MatcherNobody", spec := "matcherNobody", unfollowed := true, recurses := true, named := ["math/bits.deBruijn64tab"], plainKeys := false, apart := false, laid := [("math/bits.deBruijn64tab", laid_math_bits_deBruijn64tab)] }
def MatcherNobodySaid : Prop := matcherNobodyRow.holds Tryd.pinned (OpenSpec.ofChange matcherNobodySpec)

/-- ITS FALSE NEIGHBOUR: 'it returns false'. Refute it at one input. -/
def matcherNobodyWrong : ChangeSpec := { name := "matcherNobody", fn := fun _ => fun
  | [d1, d2, d3] => { results := [.lit (.bool false)], args := [d1, d2, d3] }
  | _ => none }
def MatcherNobodyWrongFalsely : Prop := matcherNobodyRow.holds Tryd.pinned (OpenSpec.ofChange matcherNobodyWrong)

/-- 'winklelaw07.MatcherFinds': WHATEVER THE INPUT: true; the input reads as it did. -/
def matcherFindsSpec : ChangeSpec := { name := "matcherFinds", fn := fun _ => fun
  | [d1, d2] => { results := [.lit (.bool true)], args := [d1, d2] }
  | _ => none }
def matcherFindsRow : OpenClaim := { program := "ytkdlcdincimnkaadoor", sum := "8dc960fc8fe6c48c19b3b52e5de5d2b3f189a943536eb9d3140e82a74e477610", func := "winkle/winklelaw07.MatcherFinds", spec := "matcherFinds", unfollowed := true, recurses := true, named := ["math/bits.deBruijn64tab"], plainKeys := false, apart := false, laid := [("math/bits.deBruijn64tab", laid_math_bits_deBruijn64tab)] }
def MatcherFindsSaid : Prop := matcherFindsRow.holds Tryd.pinned (OpenSpec.ofChange matcherFindsSpec)

/-- ITS FALSE NEIGHBOUR: 'it returns false'. Refute it at one input. -/
def matcherFindsWrong : ChangeSpec := { name := "matcherFinds", fn := fun _ => fun
  | [d1, d2] => { results := [.lit (.bool false)], args := [d1, d2] }
  | _ => none }
def MatcherFindsWrongFalsely : Prop := matcherFindsRow.holds Tryd.pinned (OpenSpec.ofChange matcherFindsWrong)

/-- 'winklelaw07.MatcherSplits': WHATEVER THE INPUT: true; the input reads as it did. -/
def matcherSplitsSpec : ChangeSpec := { name := "matcherSplits", fn := fun _ => fun
  | [d1, d2, d3] => { results := [.lit (.bool true)], args := [d1, d2, d3] }
  | _ => none }
def matcherSplitsRow : OpenClaim := { program := "ytkdlcdincimnkaadoor", sum := "8dc960fc8fe6c48c19b3b52e5de5d2b3f189a943536eb9d3140e82a74e477610", func := "winkle/winklelaw07.MatcherSplits", spec := "matcherSplits", unfollowed := true, recurses := true, named := ["math/bits.deBruijn64tab"], plainKeys := false, apart := false, laid := [("math/bits.deBruijn64tab", laid_math_bits_deBruijn64tab)] }
def MatcherSplitsSaid : Prop := matcherSplitsRow.holds Tryd.pinned (OpenSpec.ofChange matcherSplitsSpec)

/-- ITS FALSE NEIGHBOUR: 'it returns false'. Refute it at one input. -/
def matcherSplitsWrong : ChangeSpec := { name := "matcherSplits", fn := fun _ => fun
  | [d1, d2, d3] => { results := [.lit (.bool false)], args := [d1, d2, d3] }
  | _ => none }
def MatcherSplitsWrongFalsely : Prop := matcherSplitsRow.holds Tryd.pinned (OpenSpec.ofChange matcherSplitsWrong)

/-- 'winklelaw07.MatcherCaps': WHATEVER THE INPUT: true; the input reads as it did. -/
def matcherCapsSpec : ChangeSpec := { name := "matcherCaps", fn := fun _ => fun
  | [d1, d2, d3] => { results := [.lit (.bool true)], args := [d1, d2, d3] }
  | _ => none }
def matcherCapsRow : OpenClaim := { program := "ytkdlcdincimnkaadoor", sum := "8dc960fc8fe6c48c19b3b52e5de5d2b3f189a943536eb9d3140e82a74e477610", func := "winkle/winklelaw07.MatcherCaps", spec := "matcherCaps", unfollowed := true, recurses := true, named := ["math/bits.deBruijn64tab"], plainKeys := false, apart := false, laid := [("math/bits.deBruijn64tab", laid_math_bits_deBruijn64tab)] }
def MatcherCapsSaid : Prop := matcherCapsRow.holds Tryd.pinned (OpenSpec.ofChange matcherCapsSpec)

/-- ITS FALSE NEIGHBOUR: 'it returns false'. Refute it at one input. -/
def matcherCapsWrong : ChangeSpec := { name := "matcherCaps", fn := fun _ => fun
  | [d1, d2, d3] => { results := [.lit (.bool false)], args := [d1, d2, d3] }
  | _ => none }
def MatcherCapsWrongFalsely : Prop := matcherCapsRow.holds Tryd.pinned (OpenSpec.ofChange matcherCapsWrong)

/- THE SECOND FORM. 'bulk': how many values and letters a reading holds, each counted each time it is reached (what is shared counts as often as it is met; a slice's spare places count too). A statement '..UptoSaid' is the law's where the arguments, and the package variables that the reading takes, are together of bulk at most 1048576: NARROWER than '..Said'. Prove '..Said' where nothing that the law and all that it calls make is longer than what came in: it says more and counts as full. Else prove '..UptoSaid'. A law counts once. -/
mutual
def uptoBulk {H : Type} : DataW H → Nat
  | .lit (.string bytes) => bytes.length + 1
  | .lit _ => 1
  | .nil => 1
  | .ptr d => uptoBulk d + 1
  | .slice elems spare => uptoBulkAll elems + uptoBulkAll spare + 1
  | .agg parts => uptoBulkAll parts + 1
  | .iface _ d => uptoBulk d + 1
  | .map entries => uptoBulkEntries entries + 1
  | .held _ => 1
def uptoBulkAll {H : Type} : List (DataW H) → Nat
  | [] => 0
  | d :: r => uptoBulk d + uptoBulkAll r
def uptoBulkEntries {H : Type} : List (Lit × DataW H) → Nat
  | [] => 0
  | x :: r => uptoBulkEntry x + uptoBulkEntries r
def uptoBulkEntry {H : Type} : Lit × DataW H → Nat
  | (.string bytes, d) => bytes.length + uptoBulk d + 1
  | (_, d) => uptoBulk d + 1
 end
def uptoSmall : (H : Type) → List (DataW H) → Bool := fun _ ds => decide (uptoBulkAll ds ≤ 1048576)
def OpenSpec.upto (s : _root_.Go.ChangeSpec) : _root_.Go.OpenSpec := { _root_.Go.OpenSpec.ofChange s with cond := some uptoSmall }

/-- 'winklelaw07.MatcherPlays', WHERE WHAT IT READS IS OF BULK AT MOST 1048576: true; the input reads as it did. -/
def matcherPlaysUptoRow : OpenClaim := { program := "ytkdlcdincimnkaadoor", sum := "8dc960fc8fe6c48c19b3b52e5de5d2b3f189a943536eb9d3140e82a74e477610", func := "winkle/winklelaw07.MatcherPlays", spec := "matcherPlays", unfollowed := true, recurses := true, named := ["math/bits.deBruijn64tab"], plainKeys := false, apart := false, laid := [("math/bits.deBruijn64tab", laid_math_bits_deBruijn64tab)], narrowed := true }
def MatcherPlaysUptoSaid : Prop := matcherPlaysUptoRow.holds Tryd.pinned (OpenSpec.upto matcherPlaysSpec)

/-- 'winklelaw07.MatcherAll', WHERE WHAT IT READS IS OF BULK AT MOST 1048576: true; the input reads as it did. -/
def matcherAllUptoRow : OpenClaim := { program := "ytkdlcdincimnkaadoor", sum := "8dc960fc8fe6c48c19b3b52e5de5d2b3f189a943536eb9d3140e82a74e477610", func := "winkle/winklelaw07.MatcherAll", spec := "matcherAll", unfollowed := true, recurses := true, named := ["math/bits.deBruijn64tab"], plainKeys := false, apart := false, laid := [("math/bits.deBruijn64tab", laid_math_bits_deBruijn64tab)], narrowed := true }
def MatcherAllUptoSaid : Prop := matcherAllUptoRow.holds Tryd.pinned (OpenSpec.upto matcherAllSpec)

/-- 'winklelaw07.MatcherNobody', WHERE WHAT IT READS IS OF BULK AT MOST 1048576: true; the input reads as it did. -/
def matcherNobodyUptoRow : OpenClaim := { program := "ytkdlcdincimnkaadoor", sum := "8dc960fc8fe6c48c19b3b52e5de5d2b3f189a943536eb9d3140e82a74e477610", func := "winkle/winklelaw07.MatcherNobody", spec := "matcherNobody", unfollowed := true, recurses := true, named := ["math/bits.deBruijn64tab"], plainKeys := false, apart := false, laid := [("math/bits.deBruijn64tab", laid_math_bits_deBruijn64tab)], narrowed := true }
def MatcherNobodyUptoSaid : Prop := matcherNobodyUptoRow.holds Tryd.pinned (OpenSpec.upto matcherNobodySpec)

/-- 'winklelaw07.MatcherFinds', WHERE WHAT IT READS IS OF BULK AT MOST 1048576: true; the input reads as it did. -/
def matcherFindsUptoRow : OpenClaim := { program := "ytkdlcdincimnkaadoor", sum := "8dc960fc8fe6c48c19b3b52e5de5d2b3f189a943536eb9d3140e82a74e477610", func := "winkle/winklelaw07.MatcherFinds", spec := "matcherFinds", unfollowed := true, recurses := true, named := ["math/bits.deBruijn64tab"], plainKeys := false, apart := false, laid := [("math/bits.deBruijn64tab", laid_math_bits_deBruijn64tab)], narrowed := true }
def MatcherFindsUptoSaid : Prop := matcherFindsUptoRow.holds Tryd.pinned (OpenSpec.upto matcherFindsSpec)

/-- 'winklelaw07.MatcherSplits', WHERE WHAT IT READS IS OF BULK AT MOST 1048576: true; the input reads as it did. -/
def matcherSplitsUptoRow : OpenClaim := { program := "ytkdlcdincimnkaadoor", sum := "8dc960fc8fe6c48c19b3b52e5de5d2b3f189a943536eb9d3140e82a74e477610", func := "winkle/winklelaw07.MatcherSplits", spec := "matcherSplits", unfollowed := true, recurses := true, named := ["math/bits.deBruijn64tab"], plainKeys := false, apart := false, laid := [("math/bits.deBruijn64tab", laid_math_bits_deBruijn64tab)], narrowed := true }
def MatcherSplitsUptoSaid : Prop := matcherSplitsUptoRow.holds Tryd.pinned (OpenSpec.upto matcherSplitsSpec)

/-- 'winklelaw07.MatcherCaps', WHERE WHAT IT READS IS OF BULK AT MOST 1048576: true; the input reads as it did. -/
def matcherCapsUptoRow : OpenClaim := { program := "ytkdlcdincimnkaadoor", sum := "8dc960fc8fe6c48c19b3b52e5de5d2b3f189a943536eb9d3140e82a74e477610", func := "winkle/winklelaw07.MatcherCaps", spec := "matcherCaps", unfollowed := true, recurses := true, named := ["math/bits.deBruijn64tab"], plainKeys := false, apart := false, laid := [("math/bits.deBruijn64tab", laid_math_bits_deBruijn64tab)], narrowed := true }
def MatcherCapsUptoSaid : Prop := matcherCapsUptoRow.holds Tryd.pinned (OpenSpec.upto matcherCapsSpec)

end Rows
end Go.Proofs.YtkdlcdincimnkaaDoor
