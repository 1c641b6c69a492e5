/-
  No cell of these rows narrows 'for every input' (looked for: loops, veiled, ifaces, maps, wideKeys, modest, calm, conditions, laid).
  DERIVED. THE GIVEN ROWS OF THIS SEAT. 6 by the template 'for every input the law returns true; each argument reads behind the call as it read before'; 0 by the template 'total and deterministic' (their statements: YtdndlegfalmkaaaTotals.lean).
  GIVEN WITH THE SEED: the statements are not yours to turn. If you find one false, say at which input.
  Laid BY PROGRAM, IN A SANDBOX (cutbox-rows.mjs): the forced cells as the released guide's own fill.sh prints them over the translation db7c165b5d0db7ec… (all of the seat's roots in one cut). By AI agents, Wed Nov 11 2026. No macro, syntax, notation, axiom, sorry.
-/
import Derived.Test.YtdndlegfalmkaaaChecked
import GoSem.Claim
import GoSem.ClaimJoined
import GoSem.ClaimMapViews
import Derived.JoinedTies
import Derived.KernelRfl
namespace Go.Proofs.Ytdndlegfalmkaaa
/- THE CELL 'sum', in the pinned program and in every row, IS THE sha256 OF THE DUMP (.gsa) THAT YtdndlegfalmkaaaProg.lean LOADS. Nothing in Lean hashes anything: it is a label: what it is worth is what the hold of that sum in a sandbox is worth. -/
noncomputable def Try.pinned : Pinned := { name := "ytdndlegfalmkaaa", sum := "db7c165b5d0db7ec69230061de0e476dcf916a01bc09d989661b944d817fdd57", checked := Try.checked }
namespace Rows
def none {H : Type} : Left H := { results := [], args := [] }

/-- 'winklelaw13.MimetypeReads': WHATEVER THE INPUT: true; the input reads as it did. -/
def mimetypeReadsSpec : ChangeSpec := { name := "mimetypeReads", fn := fun _ => fun
  | [d] => { results := [.lit (.bool true)], args := [d] }
  | _ => none }
def mimetypeReadsRow : OpenClaim := { program := "ytdndlegfalmkaaa", sum := "db7c165b5d0db7ec69230061de0e476dcf916a01bc09d989661b944d817fdd57", func := "winkle/winklelaw13.MimetypeReads", spec := "mimetypeReads", inPlace := ["internal/bytealg.IndexByteString", "internal/abi.NoEscape"], unfollowed := true, recurses := true, apart := false }
def MimetypeReadsSaid : Prop := mimetypeReadsRow.holds Try.pinned (OpenSpec.ofChange mimetypeReadsSpec)

/-- ITS FALSE NEIGHBOUR: 'it returns false'. Refute it at one input. -/
def mimetypeReadsWrong : ChangeSpec := { name := "mimetypeReads", fn := fun _ => fun
  | [d] => { results := [.lit (.bool false)], args := [d] }
  | _ => none }
def MimetypeReadsWrongFalsely : Prop := mimetypeReadsRow.holds Try.pinned (OpenSpec.ofChange mimetypeReadsWrong)

/-- 'winklelaw13.MimetypeWrites': WHATEVER THE INPUT: true; the input reads as it did. -/
def mimetypeWritesSpec : ChangeSpec := { name := "mimetypeWrites", fn := fun _ => fun
  | [d1, d2] => { results := [.lit (.bool true)], args := [d1, d2] }
  | _ => none }
def mimetypeWritesRow : OpenClaim := { program := "ytdndlegfalmkaaa", sum := "db7c165b5d0db7ec69230061de0e476dcf916a01bc09d989661b944d817fdd57", func := "winkle/winklelaw13.MimetypeWrites", spec := "mimetypeWrites", inPlace := ["internal/bytealg.IndexByteString", "internal/abi.NoEscape"], unfollowed := true, recurses := true, apart := false }
def MimetypeWritesSaid : Prop := mimetypeWritesRow.holds Try.pinned (OpenSpec.ofChange mimetypeWritesSpec)

/-- ITS FALSE NEIGHBOUR: 'it returns false'. Refute it at one input. -/
def mimetypeWritesWrong : ChangeSpec := { name := "mimetypeWrites", fn := fun _ => fun
  | [d1, d2] => { results := [.lit (.bool false)], args := [d1, d2] }
  | _ => none }
def MimetypeWritesWrongFalsely : Prop := mimetypeWritesRow.holds Try.pinned (OpenSpec.ofChange mimetypeWritesWrong)

/-- 'winklelaw13.MimetypeEncodings': WHATEVER THE INPUT: true; the input reads as it did. -/
def mimetypeEncodingsSpec : ChangeSpec := { name := "mimetypeEncodings", fn := fun _ => fun
  | [d] => { results := [.lit (.bool true)], args := [d] }
  | _ => none }
def mimetypeEncodingsRow : OpenClaim := { program := "ytdndlegfalmkaaa", sum := "db7c165b5d0db7ec69230061de0e476dcf916a01bc09d989661b944d817fdd57", func := "winkle/winklelaw13.MimetypeEncodings", spec := "mimetypeEncodings", inPlace := ["internal/bytealg.IndexByteString", "internal/abi.NoEscape"], unfollowed := true, recurses := true, apart := false }
def MimetypeEncodingsSaid : Prop := mimetypeEncodingsRow.holds Try.pinned (OpenSpec.ofChange mimetypeEncodingsSpec)

/-- ITS FALSE NEIGHBOUR: 'it returns false'. Refute it at one input. -/
def mimetypeEncodingsWrong : ChangeSpec := { name := "mimetypeEncodings", fn := fun _ => fun
  | [d] => { results := [.lit (.bool false)], args := [d] }
  | _ => none }
def MimetypeEncodingsWrongFalsely : Prop := mimetypeEncodingsRow.holds Try.pinned (OpenSpec.ofChange mimetypeEncodingsWrong)

/-- 'winklelaw13.MimetypeBack': WHATEVER THE INPUT: true; the input reads as it did. -/
def mimetypeBackSpec : ChangeSpec := { name := "mimetypeBack", fn := fun _ => fun
  | [d] => { results := [.lit (.bool true)], args := [d] }
  | _ => none }
def mimetypeBackRow : OpenClaim := { program := "ytdndlegfalmkaaa", sum := "db7c165b5d0db7ec69230061de0e476dcf916a01bc09d989661b944d817fdd57", func := "winkle/winklelaw13.MimetypeBack", spec := "mimetypeBack", inPlace := ["internal/bytealg.IndexByteString", "internal/abi.NoEscape"], unfollowed := true, recurses := true, apart := false }
def MimetypeBackSaid : Prop := mimetypeBackRow.holds Try.pinned (OpenSpec.ofChange mimetypeBackSpec)

/-- ITS FALSE NEIGHBOUR: 'it returns false'. Refute it at one input. -/
def mimetypeBackWrong : ChangeSpec := { name := "mimetypeBack", fn := fun _ => fun
  | [d] => { results := [.lit (.bool false)], args := [d] }
  | _ => none }
def MimetypeBackWrongFalsely : Prop := mimetypeBackRow.holds Try.pinned (OpenSpec.ofChange mimetypeBackWrong)

/-- 'winklelaw13.MimetypeForms': WHATEVER THE INPUT: true; the input reads as it did. -/
def mimetypeFormsSpec : ChangeSpec := { name := "mimetypeForms", fn := fun _ => fun
  | [d] => { results := [.lit (.bool true)], args := [d] }
  | _ => none }
def mimetypeFormsRow : OpenClaim := { program := "ytdndlegfalmkaaa", sum := "db7c165b5d0db7ec69230061de0e476dcf916a01bc09d989661b944d817fdd57", func := "winkle/winklelaw13.MimetypeForms", spec := "mimetypeForms", inPlace := ["internal/bytealg.IndexByteString", "internal/abi.NoEscape"], unfollowed := true, recurses := true, apart := false }
def MimetypeFormsSaid : Prop := mimetypeFormsRow.holds Try.pinned (OpenSpec.ofChange mimetypeFormsSpec)

/-- ITS FALSE NEIGHBOUR: 'it returns false'. Refute it at one input. -/
def mimetypeFormsWrong : ChangeSpec := { name := "mimetypeForms", fn := fun _ => fun
  | [d] => { results := [.lit (.bool false)], args := [d] }
  | _ => none }
def MimetypeFormsWrongFalsely : Prop := mimetypeFormsRow.holds Try.pinned (OpenSpec.ofChange mimetypeFormsWrong)

/-- 'winklelaw13.MimetypeBetween': WHATEVER THE INPUT: true; the input reads as it did. -/
def mimetypeBetweenSpec : ChangeSpec := { name := "mimetypeBetween", fn := fun _ => fun
  | [d1, d2] => { results := [.lit (.bool true)], args := [d1, d2] }
  | _ => none }
def mimetypeBetweenRow : OpenClaim := { program := "ytdndlegfalmkaaa", sum := "db7c165b5d0db7ec69230061de0e476dcf916a01bc09d989661b944d817fdd57", func := "winkle/winklelaw13.MimetypeBetween", spec := "mimetypeBetween", inPlace := ["internal/bytealg.IndexByteString", "internal/abi.NoEscape"], unfollowed := true, recurses := true, apart := false }
def MimetypeBetweenSaid : Prop := mimetypeBetweenRow.holds Try.pinned (OpenSpec.ofChange mimetypeBetweenSpec)

/-- ITS FALSE NEIGHBOUR: 'it returns false'. Refute it at one input. -/
def mimetypeBetweenWrong : ChangeSpec := { name := "mimetypeBetween", fn := fun _ => fun
  | [d1, d2] => { results := [.lit (.bool false)], args := [d1, d2] }
  | _ => none }
def MimetypeBetweenWrongFalsely : Prop := mimetypeBetweenRow.holds Try.pinned (OpenSpec.ofChange mimetypeBetweenWrong)

/- THE SECOND FORM. 'bulk': how many values and letters a reading holds, each counted each time it is reached (what is shared counts as often as it is met; a slice's spare places count too). A statement '..UptoSaid' is the law's where the arguments, and the package variables that the reading takes, are together of bulk at most 1048576: NARROWER than '..Said'. Prove '..Said' where nothing that the law and all that it calls make is longer than what came in: it says more and counts as full. Else prove '..UptoSaid'. A law counts once. -/
mutual
def uptoBulk {H : Type} : DataW H → Nat
  | .lit (.string bytes) => bytes.length + 1
  | .lit _ => 1
  | .nil => 1
  | .ptr d => uptoBulk d + 1
  | .slice elems spare => uptoBulkAll elems + uptoBulkAll spare + 1
  | .agg parts => uptoBulkAll parts + 1
  | .iface _ d => uptoBulk d + 1
  | .map entries => uptoBulkEntries entries + 1
  | .held _ => 1
def uptoBulkAll {H : Type} : List (DataW H) → Nat
  | [] => 0
  | d :: r => uptoBulk d + uptoBulkAll r
def uptoBulkEntries {H : Type} : List (Lit × DataW H) → Nat
  | [] => 0
  | x :: r => uptoBulkEntry x + uptoBulkEntries r
def uptoBulkEntry {H : Type} : Lit × DataW H → Nat
  | (.string bytes, d) => bytes.length + uptoBulk d + 1
  | (_, d) => uptoBulk d + 1
 end
def uptoSmall : (H : Type) → List (DataW H) → Bool := fun _ ds => decide (uptoBulkAll ds ≤ 1048576)
def OpenSpec.upto (s : _root_.Go.ChangeSpec) : _root_.Go.OpenSpec := { _root_.Go.OpenSpec.ofChange s with cond := some uptoSmall }

/-- 'winklelaw13.MimetypeReads', WHERE WHAT IT READS IS OF BULK AT MOST 1048576: true; the input reads as it did. -/
def mimetypeReadsUptoRow : OpenClaim := { program := "ytdndlegfalmkaaa", sum := "db7c165b5d0db7ec69230061de0e476dcf916a01bc09d989661b944d817fdd57", func := "winkle/winklelaw13.MimetypeReads", spec := "mimetypeReads", inPlace := ["internal/bytealg.IndexByteString", "internal/abi.NoEscape"], unfollowed := true, recurses := true, apart := false, narrowed := true }
def MimetypeReadsUptoSaid : Prop := mimetypeReadsUptoRow.holds Try.pinned (OpenSpec.upto mimetypeReadsSpec)

/-- 'winklelaw13.MimetypeWrites', WHERE WHAT IT READS IS OF BULK AT MOST 1048576: true; the input reads as it did. -/
def mimetypeWritesUptoRow : OpenClaim := { program := "ytdndlegfalmkaaa", sum := "db7c165b5d0db7ec69230061de0e476dcf916a01bc09d989661b944d817fdd57", func := "winkle/winklelaw13.MimetypeWrites", spec := "mimetypeWrites", inPlace := ["internal/bytealg.IndexByteString", "internal/abi.NoEscape"], unfollowed := true, recurses := true, apart := false, narrowed := true }
def MimetypeWritesUptoSaid : Prop := mimetypeWritesUptoRow.holds Try.pinned (OpenSpec.upto mimetypeWritesSpec)

/-- 'winklelaw13.MimetypeEncodings', WHERE WHAT IT READS IS OF BULK AT MOST 1048576: true; the input reads as it did. -/
def mimetypeEncodingsUptoRow : OpenClaim := { program := "ytdndlegfalmkaaa", sum := "db7c165b5d0db7ec69230061de0e476dcf916a01bc09d989661b944d817fdd57", func := "winkle/winklelaw13.MimetypeEncodings", spec := "mimetypeEncodings", inPlace := ["internal/bytealg.IndexByteString", "internal/abi.NoEscape"], unfollowed := true, recurses := true, apart := false, narrowed := true }
def MimetypeEncodingsUptoSaid : Prop := mimetypeEncodingsUptoRow.holds Try.pinned (OpenSpec.upto mimetypeEncodingsSpec)

/-- 'winklelaw13.MimetypeBack', WHERE WHAT IT READS IS OF BULK AT MOST 1048576: true; the input reads as it did. -/
def mimetypeBackUptoRow : OpenClaim := { program := "ytdndlegfalmkaaa", sum := "db7c165b5d0db7ec69230061de0e476dcf916a01bc09d989661b944d817fdd57", func := "winkle/winklelaw13.MimetypeBack", spec := "mimetypeBack", inPlace := ["internal/bytealg.IndexByteString", "internal/abi.NoEscape"], unfollowed := true, recurses := true, apart := false, narrowed := true }
def MimetypeBackUptoSaid : Prop := mimetypeBackUptoRow.holds Try.pinned (OpenSpec.upto mimetypeBackSpec)

/-- 'winklelaw13.MimetypeForms', WHERE WHAT IT READS IS OF BULK AT MOST 1048576: true; the input reads as it did. -/
def mimetypeFormsUptoRow : OpenClaim := { program := "ytdndlegfalmkaaa", sum := "db7c165b5d0db7ec69230061de0e476dcf916a01bc09d989661b944d817fdd57", func := "winkle/winklelaw13.MimetypeForms", spec := "mimetypeForms", inPlace := ["internal/bytealg.IndexByteString", "internal/abi.NoEscape"], unfollowed := true, recurses := true, apart := false, narrowed := true }
def MimetypeFormsUptoSaid : Prop := mimetypeFormsUptoRow.holds Try.pinned (OpenSpec.upto mimetypeFormsSpec)

/-- 'winklelaw13.MimetypeBetween', WHERE WHAT IT READS IS OF BULK AT MOST 1048576: true; the input reads as it did. -/
def mimetypeBetweenUptoRow : OpenClaim := { program := "ytdndlegfalmkaaa", sum := "db7c165b5d0db7ec69230061de0e476dcf916a01bc09d989661b944d817fdd57", func := "winkle/winklelaw13.MimetypeBetween", spec := "mimetypeBetween", inPlace := ["internal/bytealg.IndexByteString", "internal/abi.NoEscape"], unfollowed := true, recurses := true, apart := false, narrowed := true }
def MimetypeBetweenUptoSaid : Prop := mimetypeBetweenUptoRow.holds Try.pinned (OpenSpec.upto mimetypeBetweenSpec)

end Rows
end Go.Proofs.Ytdndlegfalmkaaa
