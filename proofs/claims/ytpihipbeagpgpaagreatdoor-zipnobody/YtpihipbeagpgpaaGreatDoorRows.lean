/-
  NARROWER THAN 'FOR EVERY INPUT', by the rows' own cells (each row's printed sentence says how): ZipWhole: laid · ZipSteps: laid · ZipNobody: laid · ZipBack: laid · ZipEnds: laid · ZipTurned: laid.
  DERIVED. THE GIVEN ROWS OF THIS SEAT. 6 by the template 'for every input the law returns true; each argument reads behind the call as it read before'; 0 by the template 'total and deterministic' (their statements: YtpihipbeagpgpaaGreatDoorTotals.lean).
  GIVEN WITH THE SEED: the statements are not yours to turn. If you find one false, say at which input.
  Laid BY PROGRAM, IN A SANDBOX (cutbox-rows.mjs): the forced cells as the released guide's own fill.sh prints them over the translation c481dc9c65f1c9d5… (all of the seat's roots in one cut). By AI agents, Wed Nov 11 2026. No macro, syntax, notation, axiom, sorry.
-/
import Derived.Test.YtpihipbeagpgpaaGreatDoorChecked
import GoSem.Claim
import GoSem.ClaimJoined
import GoSem.ClaimMapViews
import Derived.JoinedTies
import Derived.KernelRfl
namespace Go.Proofs.YtpihipbeagpgpaaGreatDoor
/- THE CELL 'sum', in the pinned program and in every row, IS THE sha256 OF THE DUMP (.gsa) THAT YtpihipbeagpgpaaGreatDoorProg.lean LOADS. Nothing in Lean hashes anything: it is a label: what it is worth is what the hold of that sum in a sandbox is worth. -/
noncomputable def Tryz.pinned : Pinned := { name := "ytpihipbeagpgpaagreatdoor", sum := "c481dc9c65f1c9d5f36451eb3354f6ea227026aaf124dca826cf415af6369532", checked := Tryz.checked }
namespace Rows
def none {H : Type} : Left H := { results := [], args := [] }

/- WHAT THE LISTED PACKAGE-LEVEL VARIABLES READ AS WHEN THE CALL BEGINS. Each datum BY PROGRAM (the guide's laid-datum.mjs) off the statement by which the dump's own 'gosem.cut.vars' lays the variable. In a bare row this is a premise. The card (YtpihipbeagpgpaaGreatDoorCards.lean) ties it to the program's text. -/
def laid_winkle_crc_turns {H : Type} : DataW H := .agg [.lit (.int .u32 0), .lit (.int .u32 498536548), .lit (.int .u32 997073096), .lit (.int .u32 651767980), .lit (.int .u32 1994146192), .lit (.int .u32 1802195444), .lit (.int .u32 1303535960), .lit (.int .u32 1342533948), .lit (.int .u32 3988292384), .lit (.int .u32 4027552580), .lit (.int .u32 3604390888), .lit (.int .u32 3412177804), .lit (.int .u32 2607071920), .lit (.int .u32 2262029012), .lit (.int .u32 2685067896), .lit (.int .u32 3183342108)]
def laid_winkle_inflate_order {H : Type} : DataW H := .agg [.lit (.int .u8 16), .lit (.int .u8 17), .lit (.int .u8 18), .lit (.int .u8 0), .lit (.int .u8 8), .lit (.int .u8 7), .lit (.int .u8 9), .lit (.int .u8 6), .lit (.int .u8 10), .lit (.int .u8 5), .lit (.int .u8 11), .lit (.int .u8 4), .lit (.int .u8 12), .lit (.int .u8 3), .lit (.int .u8 13), .lit (.int .u8 2), .lit (.int .u8 14), .lit (.int .u8 1), .lit (.int .u8 15)]
def laid_winkle_inflate_runLeast {H : Type} : DataW H := .agg [.lit (.int .u8 3), .lit (.int .u8 3), .lit (.int .u8 11)]
def laid_winkle_inflate_runBits {H : Type} : DataW H := .agg [.lit (.int .u8 2), .lit (.int .u8 3), .lit (.int .u8 7)]
def laid_winkle_inflate_lengthLeast {H : Type} : DataW H := .agg [.lit (.int .u16 3), .lit (.int .u16 4), .lit (.int .u16 5), .lit (.int .u16 6), .lit (.int .u16 7), .lit (.int .u16 8), .lit (.int .u16 9), .lit (.int .u16 10), .lit (.int .u16 11), .lit (.int .u16 13), .lit (.int .u16 15), .lit (.int .u16 17), .lit (.int .u16 19), .lit (.int .u16 23), .lit (.int .u16 27), .lit (.int .u16 31), .lit (.int .u16 35), .lit (.int .u16 43), .lit (.int .u16 51), .lit (.int .u16 59), .lit (.int .u16 67), .lit (.int .u16 83), .lit (.int .u16 99), .lit (.int .u16 115), .lit (.int .u16 131), .lit (.int .u16 163), .lit (.int .u16 195), .lit (.int .u16 227), .lit (.int .u16 258)]
def laid_winkle_inflate_lengthBits {H : Type} : DataW H := .agg [.lit (.int .u8 0), .lit (.int .u8 0), .lit (.int .u8 0), .lit (.int .u8 0), .lit (.int .u8 0), .lit (.int .u8 0), .lit (.int .u8 0), .lit (.int .u8 0), .lit (.int .u8 1), .lit (.int .u8 1), .lit (.int .u8 1), .lit (.int .u8 1), .lit (.int .u8 2), .lit (.int .u8 2), .lit (.int .u8 2), .lit (.int .u8 2), .lit (.int .u8 3), .lit (.int .u8 3), .lit (.int .u8 3), .lit (.int .u8 3), .lit (.int .u8 4), .lit (.int .u8 4), .lit (.int .u8 4), .lit (.int .u8 4), .lit (.int .u8 5), .lit (.int .u8 5), .lit (.int .u8 5), .lit (.int .u8 5), .lit (.int .u8 0)]
def laid_winkle_inflate_distanceLeast {H : Type} : DataW H := .agg [.lit (.int .u16 1), .lit (.int .u16 2), .lit (.int .u16 3), .lit (.int .u16 4), .lit (.int .u16 5), .lit (.int .u16 7), .lit (.int .u16 9), .lit (.int .u16 13), .lit (.int .u16 17), .lit (.int .u16 25), .lit (.int .u16 33), .lit (.int .u16 49), .lit (.int .u16 65), .lit (.int .u16 97), .lit (.int .u16 129), .lit (.int .u16 193), .lit (.int .u16 257), .lit (.int .u16 385), .lit (.int .u16 513), .lit (.int .u16 769), .lit (.int .u16 1025), .lit (.int .u16 1537), .lit (.int .u16 2049), .lit (.int .u16 3073), .lit (.int .u16 4097), .lit (.int .u16 6145), .lit (.int .u16 8193), .lit (.int .u16 12289), .lit (.int .u16 16385), .lit (.int .u16 24577)]
def laid_winkle_inflate_distanceBits {H : Type} : DataW H := .agg [.lit (.int .u8 0), .lit (.int .u8 0), .lit (.int .u8 0), .lit (.int .u8 0), .lit (.int .u8 1), .lit (.int .u8 1), .lit (.int .u8 2), .lit (.int .u8 2), .lit (.int .u8 3), .lit (.int .u8 3), .lit (.int .u8 4), .lit (.int .u8 4), .lit (.int .u8 5), .lit (.int .u8 5), .lit (.int .u8 6), .lit (.int .u8 6), .lit (.int .u8 7), .lit (.int .u8 7), .lit (.int .u8 8), .lit (.int .u8 8), .lit (.int .u8 9), .lit (.int .u8 9), .lit (.int .u8 10), .lit (.int .u8 10), .lit (.int .u8 11), .lit (.int .u8 11), .lit (.int .u8 12), .lit (.int .u8 12), .lit (.int .u8 13), .lit (.int .u8 13)]
def laid_winkle_zip_overMagics {H : Type} : DataW H := .agg [.lit (.string [80, 75, 1, 2]), .lit (.string [80, 75, 5, 6]), .lit (.string [80, 75, 6, 6]), .lit (.string [80, 75, 6, 7])]

/-- 'winklelaw17.ZipWhole': WHATEVER THE INPUT: true; the input reads as it did. -/
def zipWholeSpec : ChangeSpec := { name := "zipWhole", fn := fun _ => fun
  | [d1, d2] => { results := [.lit (.bool true)], args := [d1, d2] }
  | _ => none }
def zipWholeRow : OpenClaim := { program := "ytpihipbeagpgpaagreatdoor", sum := "c481dc9c65f1c9d5f36451eb3354f6ea227026aaf124dca826cf415af6369532", func := "winkle/winklelaw17.ZipWhole", spec := "zipWhole", unfollowed := true, recurses := true, named := ["winkle/inflate.lengthBits", "winkle/inflate.lengthLeast", "winkle/inflate.distanceBits", "winkle/inflate.distanceLeast", "winkle/inflate.order", "winkle/inflate.runBits", "winkle/inflate.runLeast", "winkle/crc.turns", "winkle/zip.overMagics"], plainKeys := false, apart := false, laid := [("winkle/crc.turns", laid_winkle_crc_turns), ("winkle/inflate.order", laid_winkle_inflate_order), ("winkle/inflate.runLeast", laid_winkle_inflate_runLeast), ("winkle/inflate.runBits", laid_winkle_inflate_runBits), ("winkle/inflate.lengthLeast", laid_winkle_inflate_lengthLeast), ("winkle/inflate.lengthBits", laid_winkle_inflate_lengthBits), ("winkle/inflate.distanceLeast", laid_winkle_inflate_distanceLeast), ("winkle/inflate.distanceBits", laid_winkle_inflate_distanceBits), ("winkle/zip.overMagics", laid_winkle_zip_overMagics)] }
def ZipWholeSaid : Prop := zipWholeRow.holds Tryz.pinned (OpenSpec.ofChange zipWholeSpec)

/-- ITS FALSE NEIGHBOUR: 'it returns false'. Refute it at one input. -/
def zipWholeWrong : ChangeSpec := { name := "zipWhole", fn := fun _ => fun
  | [d1, d2] => { results := [.lit (.bool false)], args := [d1, d2] }
  | _ => none }
def ZipWholeWrongFalsely : Prop := zipWholeRow.holds Tryz.pinned (OpenSpec.ofChange zipWholeWrong)

/-- 'winklelaw17.ZipSteps': WHATEVER THE INPUT: true; the input reads as it did. -/
def zipStepsSpec : ChangeSpec := { name := "zipSteps", fn := fun _ => fun
  | [d1, d2] => { results := [.lit (.bool true)], args := [d1, d2] }
  | _ => none }
def zipStepsRow : OpenClaim := { program := "ytpihipbeagpgpaagreatdoor", sum := "c481dc9c65f1c9d5f36451eb3354f6ea227026aaf124dca826cf415af6369532", func := "winkle/winklelaw17.ZipSteps", spec := "zipSteps", unfollowed := true, recurses := true, named := ["winkle/inflate.lengthBits", "winkle/inflate.lengthLeast", "winkle/inflate.distanceBits", "winkle/inflate.distanceLeast", "winkle/inflate.order", "winkle/inflate.runBits", "winkle/inflate.runLeast", "winkle/crc.turns", "winkle/zip.overMagics"], plainKeys := false, apart := false, laid := [("winkle/crc.turns", laid_winkle_crc_turns), ("winkle/inflate.order", laid_winkle_inflate_order), ("winkle/inflate.runLeast", laid_winkle_inflate_runLeast), ("winkle/inflate.runBits", laid_winkle_inflate_runBits), ("winkle/inflate.lengthLeast", laid_winkle_inflate_lengthLeast), ("winkle/inflate.lengthBits", laid_winkle_inflate_lengthBits), ("winkle/inflate.distanceLeast", laid_winkle_inflate_distanceLeast), ("winkle/inflate.distanceBits", laid_winkle_inflate_distanceBits), ("winkle/zip.overMagics", laid_winkle_zip_overMagics)] }
def ZipStepsSaid : Prop := zipStepsRow.holds Tryz.pinned (OpenSpec.ofChange zipStepsSpec)

/-- ITS FALSE NEIGHBOUR: 'it returns false'. Refute it at one input. -/
def zipStepsWrong : ChangeSpec := { name := "zipSteps", fn := fun _ => fun
  | [d1, d2] => { results := [.lit (.bool false)], args := [d1, d2] }
  | _ => none }
def ZipStepsWrongFalsely : Prop := zipStepsRow.holds Tryz.pinned (OpenSpec.ofChange zipStepsWrong)

/-- 'winklelaw17.ZipNobody': WHATEVER THE INPUT: true; the input reads as it did. -/
def zipNobodySpec : ChangeSpec := { name := "zipNobody", fn := fun _ => fun
  | [d] => { results := [.lit (.bool true)], args := [d] }
  | _ => none }
def zipNobodyRow : OpenClaim := { program := "ytpihipbeagpgpaagreatdoor", sum := "c481dc9c65f1c9d5f36451eb3354f6ea227026aaf124dca826cf415af6369532", func := "winkle/winklelaw17.ZipNobody", spec := "zipNobody", unfollowed := true, recurses := true, named := ["winkle/crc.turns", "winkle/inflate.lengthBits", "winkle/inflate.lengthLeast", "winkle/inflate.distanceBits", "winkle/inflate.distanceLeast", "winkle/inflate.order", "winkle/inflate.runBits", "winkle/inflate.runLeast", "winkle/zip.overMagics"], plainKeys := false, apart := false, laid := [("winkle/crc.turns", laid_winkle_crc_turns), ("winkle/inflate.order", laid_winkle_inflate_order), ("winkle/inflate.runLeast", laid_winkle_inflate_runLeast), ("winkle/inflate.runBits", laid_winkle_inflate_runBits), ("winkle/inflate.lengthLeast", laid_winkle_inflate_lengthLeast), ("winkle/inflate.lengthBits", laid_winkle_inflate_lengthBits), ("winkle/inflate.distanceLeast", laid_winkle_inflate_distanceLeast), ("winkle/inflate.distanceBits", laid_winkle_inflate_distanceBits), ("winkle/zip.overMagics", laid_winkle_zip_overMagics)] }
def ZipNobodySaid : Prop := zipNobodyRow.holds Tryz.pinned (OpenSpec.ofChange zipNobodySpec)

/-- ITS FALSE NEIGHBOUR: 'it returns false'. Refute it at one input. -/
def zipNobodyWrong : ChangeSpec := { name := "zipNobody", fn := fun _ => fun
  | [d] => { results := [.lit (.bool false)], args := [d] }
  | _ => none }
def ZipNobodyWrongFalsely : Prop := zipNobodyRow.holds Tryz.pinned (OpenSpec.ofChange zipNobodyWrong)

/-- 'winklelaw17.ZipBack': WHATEVER THE INPUT: true; the input reads as it did. -/
def zipBackSpec : ChangeSpec := { name := "zipBack", fn := fun _ => fun
  | [d] => { results := [.lit (.bool true)], args := [d] }
  | _ => none }
def zipBackRow : OpenClaim := { program := "ytpihipbeagpgpaagreatdoor", sum := "c481dc9c65f1c9d5f36451eb3354f6ea227026aaf124dca826cf415af6369532", func := "winkle/winklelaw17.ZipBack", spec := "zipBack", unfollowed := true, recurses := true, named := ["winkle/inflate.lengthBits", "winkle/inflate.lengthLeast", "winkle/inflate.distanceBits", "winkle/inflate.distanceLeast", "winkle/inflate.order", "winkle/inflate.runBits", "winkle/inflate.runLeast", "winkle/crc.turns", "winkle/zip.overMagics"], plainKeys := false, apart := false, laid := [("winkle/crc.turns", laid_winkle_crc_turns), ("winkle/inflate.order", laid_winkle_inflate_order), ("winkle/inflate.runLeast", laid_winkle_inflate_runLeast), ("winkle/inflate.runBits", laid_winkle_inflate_runBits), ("winkle/inflate.lengthLeast", laid_winkle_inflate_lengthLeast), ("winkle/inflate.lengthBits", laid_winkle_inflate_lengthBits), ("winkle/inflate.distanceLeast", laid_winkle_inflate_distanceLeast), ("winkle/inflate.distanceBits", laid_winkle_inflate_distanceBits), ("winkle/zip.overMagics", laid_winkle_zip_overMagics)] }
def ZipBackSaid : Prop := zipBackRow.holds Tryz.pinned (OpenSpec.ofChange zipBackSpec)

/-- ITS FALSE NEIGHBOUR: 'it returns false'. Refute it at one input. -/
def zipBackWrong : ChangeSpec := { name := "zipBack", fn := fun _ => fun
  | [d] => { results := [.lit (.bool false)], args := [d] }
  | _ => none }
def ZipBackWrongFalsely : Prop := zipBackRow.holds Tryz.pinned (OpenSpec.ofChange zipBackWrong)

/-- 'winklelaw17.ZipEnds': WHATEVER THE INPUT: true; the input reads as it did. -/
def zipEndsSpec : ChangeSpec := { name := "zipEnds", fn := fun _ => fun
  | [d1, d2] => { results := [.lit (.bool true)], args := [d1, d2] }
  | _ => none }
def zipEndsRow : OpenClaim := { program := "ytpihipbeagpgpaagreatdoor", sum := "c481dc9c65f1c9d5f36451eb3354f6ea227026aaf124dca826cf415af6369532", func := "winkle/winklelaw17.ZipEnds", spec := "zipEnds", unfollowed := true, recurses := true, named := ["winkle/inflate.lengthBits", "winkle/inflate.lengthLeast", "winkle/inflate.distanceBits", "winkle/inflate.distanceLeast", "winkle/inflate.order", "winkle/inflate.runBits", "winkle/inflate.runLeast", "winkle/crc.turns", "winkle/zip.overMagics"], plainKeys := false, apart := false, laid := [("winkle/crc.turns", laid_winkle_crc_turns), ("winkle/inflate.order", laid_winkle_inflate_order), ("winkle/inflate.runLeast", laid_winkle_inflate_runLeast), ("winkle/inflate.runBits", laid_winkle_inflate_runBits), ("winkle/inflate.lengthLeast", laid_winkle_inflate_lengthLeast), ("winkle/inflate.lengthBits", laid_winkle_inflate_lengthBits), ("winkle/inflate.distanceLeast", laid_winkle_inflate_distanceLeast), ("winkle/inflate.distanceBits", laid_winkle_inflate_distanceBits), ("winkle/zip.overMagics", laid_winkle_zip_overMagics)] }
def ZipEndsSaid : Prop := zipEndsRow.holds Tryz.pinned (OpenSpec.ofChange zipEndsSpec)

/-- ITS FALSE NEIGHBOUR: 'it returns false'. Refute it at one input. -/
def zipEndsWrong : ChangeSpec := { name := "zipEnds", fn := fun _ => fun
  | [d1, d2] => { results := [.lit (.bool false)], args := [d1, d2] }
  | _ => none }
def ZipEndsWrongFalsely : Prop := zipEndsRow.holds Tryz.pinned (OpenSpec.ofChange zipEndsWrong)

/-- 'winklelaw17.ZipTurned': WHATEVER THE INPUT: true; the input reads as it did. -/
def zipTurnedSpec : ChangeSpec := { name := "zipTurned", fn := fun _ => fun
  | [d1, d2, d3] => { results := [.lit (.bool true)], args := [d1, d2, d3] }
  | _ => none }
def zipTurnedRow : OpenClaim := { program := "ytpihipbeagpgpaagreatdoor", sum := "c481dc9c65f1c9d5f36451eb3354f6ea227026aaf124dca826cf415af6369532", func := "winkle/winklelaw17.ZipTurned", spec := "zipTurned", unfollowed := true, recurses := true, named := ["winkle/inflate.lengthBits", "winkle/inflate.lengthLeast", "winkle/inflate.distanceBits", "winkle/inflate.distanceLeast", "winkle/inflate.order", "winkle/inflate.runBits", "winkle/inflate.runLeast", "winkle/crc.turns", "winkle/zip.overMagics"], plainKeys := false, apart := false, laid := [("winkle/crc.turns", laid_winkle_crc_turns), ("winkle/inflate.order", laid_winkle_inflate_order), ("winkle/inflate.runLeast", laid_winkle_inflate_runLeast), ("winkle/inflate.runBits", laid_winkle_inflate_runBits), ("winkle/inflate.lengthLeast", laid_winkle_inflate_lengthLeast), ("winkle/inflate.lengthBits", laid_winkle_inflate_lengthBits), ("winkle/inflate.distanceLeast", laid_winkle_inflate_distanceLeast), ("winkle/inflate.distanceBits", laid_winkle_inflate_distanceBits), ("winkle/zip.overMagics", laid_winkle_zip_overMagics)] }
def ZipTurnedSaid : Prop := zipTurnedRow.holds Tryz.pinned (OpenSpec.ofChange zipTurnedSpec)

/-- ITS FALSE NEIGHBOUR: 'it returns false'. Refute it at one input. -/
def zipTurnedWrong : ChangeSpec := { name := "zipTurned", fn := fun _ => fun
  | [d1, d2, d3] => { results := [.lit (.bool false)], args := [d1, d2, d3] }
  | _ => none }
def ZipTurnedWrongFalsely : Prop := zipTurnedRow.holds Tryz.pinned (OpenSpec.ofChange zipTurnedWrong)

/- THE SECOND FORM. 'bulk': how many values and letters a reading holds, each counted each time it is reached (what is shared counts as often as it is met; a slice's spare places count too). A statement '..UptoSaid' is the law's where the arguments, and the package variables that the reading takes, are together of bulk at most 1048576: NARROWER than '..Said'. Prove '..Said' where nothing that the law and all that it calls make is longer than what came in: it says more and counts as full. Else prove '..UptoSaid'. A law counts once. -/
mutual
def uptoBulk {H : Type} : DataW H → Nat
  | .lit (.string bytes) => bytes.length + 1
  | .lit _ => 1
  | .nil => 1
  | .ptr d => uptoBulk d + 1
  | .slice elems spare => uptoBulkAll elems + uptoBulkAll spare + 1
  | .agg parts => uptoBulkAll parts + 1
  | .iface _ d => uptoBulk d + 1
  | .map entries => uptoBulkEntries entries + 1
  | .held _ => 1
def uptoBulkAll {H : Type} : List (DataW H) → Nat
  | [] => 0
  | d :: r => uptoBulk d + uptoBulkAll r
def uptoBulkEntries {H : Type} : List (Lit × DataW H) → Nat
  | [] => 0
  | x :: r => uptoBulkEntry x + uptoBulkEntries r
def uptoBulkEntry {H : Type} : Lit × DataW H → Nat
  | (.string bytes, d) => bytes.length + uptoBulk d + 1
  | (_, d) => uptoBulk d + 1
 end
def uptoSmall : (H : Type) → List (DataW H) → Bool := fun _ ds => decide (uptoBulkAll ds ≤ 1048576)
def OpenSpec.upto (s : _root_.Go.ChangeSpec) : _root_.Go.OpenSpec := { _root_.Go.OpenSpec.ofChange s with cond := some uptoSmall }

/-- 'winklelaw17.ZipWhole', WHERE WHAT IT READS IS OF BULK AT MOST 1048576: true; the input reads as it did. -/
def zipWholeUptoRow : OpenClaim := { program := "ytpihipbeagpgpaagreatdoor", sum := "c481dc9c65f1c9d5f36451eb3354f6ea227026aaf124dca826cf415af6369532", func := "winkle/winklelaw17.ZipWhole", spec := "zipWhole", unfollowed := true, recurses := true, named := ["winkle/inflate.lengthBits", "winkle/inflate.lengthLeast", "winkle/inflate.distanceBits", "winkle/inflate.distanceLeast", "winkle/inflate.order", "winkle/inflate.runBits", "winkle/inflate.runLeast", "winkle/crc.turns", "winkle/zip.overMagics"], plainKeys := false, apart := false, laid := [("winkle/crc.turns", laid_winkle_crc_turns), ("winkle/inflate.order", laid_winkle_inflate_order), ("winkle/inflate.runLeast", laid_winkle_inflate_runLeast), ("winkle/inflate.runBits", laid_winkle_inflate_runBits), ("winkle/inflate.lengthLeast", laid_winkle_inflate_lengthLeast), ("winkle/inflate.lengthBits", laid_winkle_inflate_lengthBits), ("winkle/inflate.distanceLeast", laid_winkle_inflate_distanceLeast), ("winkle/inflate.distanceBits", laid_winkle_inflate_distanceBits), ("winkle/zip.overMagics", laid_winkle_zip_overMagics)], narrowed := true }
def ZipWholeUptoSaid : Prop := zipWholeUptoRow.holds Tryz.pinned (OpenSpec.upto zipWholeSpec)

/-- 'winklelaw17.ZipSteps', WHERE WHAT IT READS IS OF BULK AT MOST 1048576: true; the input reads as it did. -/
def zipStepsUptoRow : OpenClaim := { program := "ytpihipbeagpgpaagreatdoor", sum := "c481dc9c65f1c9d5f36451eb3354f6ea227026aaf124dca826cf415af6369532", func := "winkle/winklelaw17.ZipSteps", spec := "zipSteps", unfollowed := true, recurses := true, named := ["winkle/inflate.lengthBits", "winkle/inflate.lengthLeast", "winkle/inflate.distanceBits", "winkle/inflate.distanceLeast", "winkle/inflate.order", "winkle/inflate.runBits", "winkle/inflate.runLeast", "winkle/crc.turns", "winkle/zip.overMagics"], plainKeys := false, apart := false, laid := [("winkle/crc.turns", laid_winkle_crc_turns), ("winkle/inflate.order", laid_winkle_inflate_order), ("winkle/inflate.runLeast", laid_winkle_inflate_runLeast), ("winkle/inflate.runBits", laid_winkle_inflate_runBits), ("winkle/inflate.lengthLeast", laid_winkle_inflate_lengthLeast), ("winkle/inflate.lengthBits", laid_winkle_inflate_lengthBits), ("winkle/inflate.distanceLeast", laid_winkle_inflate_distanceLeast), ("winkle/inflate.distanceBits", laid_winkle_inflate_distanceBits), ("winkle/zip.overMagics", laid_winkle_zip_overMagics)], narrowed := true }
def ZipStepsUptoSaid : Prop := zipStepsUptoRow.holds Tryz.pinned (OpenSpec.upto zipStepsSpec)

/-- 'winklelaw17.ZipNobody', WHERE WHAT IT READS IS OF BULK AT MOST 1048576: true; the input reads as it did. -/
def zipNobodyUptoRow : OpenClaim := { program := "ytpihipbeagpgpaagreatdoor", sum := "c481dc9c65f1c9d5f36451eb3354f6ea227026aaf124dca826cf415af6369532", func := "winkle/winklelaw17.ZipNobody", spec := "zipNobody", unfollowed := true, recurses := true, named := ["winkle/crc.turns", "winkle/inflate.lengthBits", "winkle/inflate.lengthLeast", "winkle/inflate.distanceBits", "winkle/inflate.distanceLeast", "winkle/inflate.order", "winkle/inflate.runBits", "winkle/inflate.runLeast", "winkle/zip.overMagics"], plainKeys := false, apart := false, laid := [("winkle/crc.turns", laid_winkle_crc_turns), ("winkle/inflate.order", laid_winkle_inflate_order), ("winkle/inflate.runLeast", laid_winkle_inflate_runLeast), ("winkle/inflate.runBits", laid_winkle_inflate_runBits), ("winkle/inflate.lengthLeast", laid_winkle_inflate_lengthLeast), ("winkle/inflate.lengthBits", laid_winkle_inflate_lengthBits), ("winkle/inflate.distanceLeast", laid_winkle_inflate_distanceLeast), ("winkle/inflate.distanceBits", laid_winkle_inflate_distanceBits), ("winkle/zip.overMagics", laid_winkle_zip_overMagics)], narrowed := true }
def ZipNobodyUptoSaid : Prop := zipNobodyUptoRow.holds Tryz.pinned (OpenSpec.upto zipNobodySpec)

/-- 'winklelaw17.ZipBack', WHERE WHAT IT READS IS OF BULK AT MOST 1048576: true; the input reads as it did. -/
def zipBackUptoRow : OpenClaim := { program := "ytpihipbeagpgpaagreatdoor", sum := "c481dc9c65f1c9d5f36451eb3354f6ea227026aaf124dca826cf415af6369532", func := "winkle/winklelaw17.ZipBack", spec := "zipBack", unfollowed := true, recurses := true, named := ["winkle/inflate.lengthBits", "winkle/inflate.lengthLeast", "winkle/inflate.distanceBits", "winkle/inflate.distanceLeast", "winkle/inflate.order", "winkle/inflate.runBits", "winkle/inflate.runLeast", "winkle/crc.turns", "winkle/zip.overMagics"], plainKeys := false, apart := false, laid := [("winkle/crc.turns", laid_winkle_crc_turns), ("winkle/inflate.order", laid_winkle_inflate_order), ("winkle/inflate.runLeast", laid_winkle_inflate_runLeast), ("winkle/inflate.runBits", laid_winkle_inflate_runBits), ("winkle/inflate.lengthLeast", laid_winkle_inflate_lengthLeast), ("winkle/inflate.lengthBits", laid_winkle_inflate_lengthBits), ("winkle/inflate.distanceLeast", laid_winkle_inflate_distanceLeast), ("winkle/inflate.distanceBits", laid_winkle_inflate_distanceBits), ("winkle/zip.overMagics", laid_winkle_zip_overMagics)], narrowed := true }
def ZipBackUptoSaid : Prop := zipBackUptoRow.holds Tryz.pinned (OpenSpec.upto zipBackSpec)

/-- 'winklelaw17.ZipEnds', WHERE WHAT IT READS IS OF BULK AT MOST 1048576: true; the input reads as it did. -/
def zipEndsUptoRow : OpenClaim := { program := "ytpihipbeagpgpaagreatdoor", sum := "c481dc9c65f1c9d5f36451eb3354f6ea227026aaf124dca826cf415af6369532", func := "winkle/winklelaw17.ZipEnds", spec := "zipEnds", unfollowed := true, recurses := true, named := ["winkle/inflate.lengthBits", "winkle/inflate.lengthLeast", "winkle/inflate.distanceBits", "winkle/inflate.distanceLeast", "winkle/inflate.order", "winkle/inflate.runBits", "winkle/inflate.runLeast", "winkle/crc.turns", "winkle/zip.overMagics"], plainKeys := false, apart := false, laid := [("winkle/crc.turns", laid_winkle_crc_turns), ("winkle/inflate.order", laid_winkle_inflate_order), ("winkle/inflate.runLeast", laid_winkle_inflate_runLeast), ("winkle/inflate.runBits", laid_winkle_inflate_runBits), ("winkle/inflate.lengthLeast", laid_winkle_inflate_lengthLeast), ("winkle/inflate.lengthBits", laid_winkle_inflate_lengthBits), ("winkle/inflate.distanceLeast", laid_winkle_inflate_distanceLeast), ("winkle/inflate.distanceBits", laid_winkle_inflate_distanceBits), ("winkle/zip.overMagics", laid_winkle_zip_overMagics)], narrowed := true }
def ZipEndsUptoSaid : Prop := zipEndsUptoRow.holds Tryz.pinned (OpenSpec.upto zipEndsSpec)

/-- 'winklelaw17.ZipTurned', WHERE WHAT IT READS IS OF BULK AT MOST 1048576: true; the input reads as it did. -/
def zipTurnedUptoRow : OpenClaim := { program := "ytpihipbeagpgpaagreatdoor", sum := "c481dc9c65f1c9d5f36451eb3354f6ea227026aaf124dca826cf415af6369532", func := "winkle/winklelaw17.ZipTurned", spec := "zipTurned", unfollowed := true, recurses := true, named := ["winkle/inflate.lengthBits", "winkle/inflate.lengthLeast", "winkle/inflate.distanceBits", "winkle/inflate.distanceLeast", "winkle/inflate.order", "winkle/inflate.runBits", "winkle/inflate.runLeast", "winkle/crc.turns", "winkle/zip.overMagics"], plainKeys := false, apart := false, laid := [("winkle/crc.turns", laid_winkle_crc_turns), ("winkle/inflate.order", laid_winkle_inflate_order), ("winkle/inflate.runLeast", laid_winkle_inflate_runLeast), ("winkle/inflate.runBits", laid_winkle_inflate_runBits), ("winkle/inflate.lengthLeast", laid_winkle_inflate_lengthLeast), ("winkle/inflate.lengthBits", laid_winkle_inflate_lengthBits), ("winkle/inflate.distanceLeast", laid_winkle_inflate_distanceLeast), ("winkle/inflate.distanceBits", laid_winkle_inflate_distanceBits), ("winkle/zip.overMagics", laid_winkle_zip_overMagics)], narrowed := true }
def ZipTurnedUptoSaid : Prop := zipTurnedUptoRow.holds Tryz.pinned (OpenSpec.upto zipTurnedSpec)

end Rows
end Go.Proofs.YtpihipbeagpgpaaGreatDoor
