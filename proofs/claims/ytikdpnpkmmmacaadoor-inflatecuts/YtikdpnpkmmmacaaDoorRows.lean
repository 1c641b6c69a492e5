/-
  NARROWER THAN 'FOR EVERY INPUT', by the rows' own cells (each row's printed sentence says how): InflateWhole: laid · InflateSteps: laid · InflatePlays: laid · InflateNobody: laid · InflateBack: laid · InflateCuts: laid.
  DERIVED. THE GIVEN ROWS OF THIS SEAT. 6 by the template 'for every input the law returns true; each argument reads behind the call as it read before'; 0 by the template 'total and deterministic' (their statements: YtikdpnpkmmmacaaDoorTotals.lean).
  GIVEN WITH THE SEED: the statements are not yours to turn. If you find one false, say at which input.
  Laid BY PROGRAM, IN A SANDBOX (cutbox-rows.mjs): the forced cells as the released guide's own fill.sh prints them over the translation a5ea24b9e9382cbd… (all of the seat's roots in one cut). By AI agents, Wed Nov 11 2026. No macro, syntax, notation, axiom, sorry.
-/
import Derived.Test.YtikdpnpkmmmacaaDoorChecked
import GoSem.Claim
import GoSem.ClaimJoined
import GoSem.ClaimMapViews
import Derived.JoinedTies
import Derived.KernelRfl
namespace Go.Proofs.YtikdpnpkmmmacaaDoor
/- THE CELL 'sum', in the pinned program and in every row, IS THE sha256 OF THE DUMP (.gsa) THAT YtikdpnpkmmmacaaDoorProg.lean LOADS. Nothing in Lean hashes anything: it is a label: what it is worth is what the hold of that sum in a sandbox is worth. -/
noncomputable def Tryd.pinned : Pinned := { name := "ytikdpnpkmmmacaadoor", sum := "a5ea24b9e9382cbd0c7ae46f5bb5513da5f91d0ca1f8f538a3e9759cd55a5679", checked := Tryd.checked }
namespace Rows
def none {H : Type} : Left H := { results := [], args := [] }

/- WHAT THE LISTED PACKAGE-LEVEL VARIABLES READ AS WHEN THE CALL BEGINS. Each datum BY PROGRAM (the guide's laid-datum.mjs) off the statement by which the dump's own 'gosem.cut.vars' lays the variable. In a bare row this is a premise. The card (YtikdpnpkmmmacaaDoorCards.lean) ties it to the program's text. -/
def laid_winkle_inflate_order {H : Type} : DataW H := .agg [.lit (.int .u8 16), .lit (.int .u8 17), .lit (.int .u8 18), .lit (.int .u8 0), .lit (.int .u8 8), .lit (.int .u8 7), .lit (.int .u8 9), .lit (.int .u8 6), .lit (.int .u8 10), .lit (.int .u8 5), .lit (.int .u8 11), .lit (.int .u8 4), .lit (.int .u8 12), .lit (.int .u8 3), .lit (.int .u8 13), .lit (.int .u8 2), .lit (.int .u8 14), .lit (.int .u8 1), .lit (.int .u8 15)]
def laid_winkle_inflate_runLeast {H : Type} : DataW H := .agg [.lit (.int .u8 3), .lit (.int .u8 3), .lit (.int .u8 11)]
def laid_winkle_inflate_runBits {H : Type} : DataW H := .agg [.lit (.int .u8 2), .lit (.int .u8 3), .lit (.int .u8 7)]
def laid_winkle_inflate_lengthLeast {H : Type} : DataW H := .agg [.lit (.int .u16 3), .lit (.int .u16 4), .lit (.int .u16 5), .lit (.int .u16 6), .lit (.int .u16 7), .lit (.int .u16 8), .lit (.int .u16 9), .lit (.int .u16 10), .lit (.int .u16 11), .lit (.int .u16 13), .lit (.int .u16 15), .lit (.int .u16 17), .lit (.int .u16 19), .lit (.int .u16 23), .lit (.int .u16 27), .lit (.int .u16 31), .lit (.int .u16 35), .lit (.int .u16 43), .lit (.int .u16 51), .lit (.int .u16 59), .lit (.int .u16 67), .lit (.int .u16 83), .lit (.int .u16 99), .lit (.int .u16 115), .lit (.int .u16 131), .lit (.int .u16 163), .lit (.int .u16 195), .lit (.int .u16 227), .lit (.int .u16 258)]
def laid_winkle_inflate_lengthBits {H : Type} : DataW H := .agg [.lit (.int .u8 0), .lit (.int .u8 0), .lit (.int .u8 0), .lit (.int .u8 0), .lit (.int .u8 0), .lit (.int .u8 0), .lit (.int .u8 0), .lit (.int .u8 0), .lit (.int .u8 1), .lit (.int .u8 1), .lit (.int .u8 1), .lit (.int .u8 1), .lit (.int .u8 2), .lit (.int .u8 2), .lit (.int .u8 2), .lit (.int .u8 2), .lit (.int .u8 3), .lit (.int .u8 3), .lit (.int .u8 3), .lit (.int .u8 3), .lit (.int .u8 4), .lit (.int .u8 4), .lit (.int .u8 4), .lit (.int .u8 4), .lit (.int .u8 5), .lit (.int .u8 5), .lit (.int .u8 5), .lit (.int .u8 5), .lit (.int .u8 0)]
def laid_winkle_inflate_distanceLeast {H : Type} : DataW H := .agg [.lit (.int .u16 1), .lit (.int .u16 2), .lit (.int .u16 3), .lit (.int .u16 4), .lit (.int .u16 5), .lit (.int .u16 7), .lit (.int .u16 9), .lit (.int .u16 13), .lit (.int .u16 17), .lit (.int .u16 25), .lit (.int .u16 33), .lit (.int .u16 49), .lit (.int .u16 65), .lit (.int .u16 97), .lit (.int .u16 129), .lit (.int .u16 193), .lit (.int .u16 257), .lit (.int .u16 385), .lit (.int .u16 513), .lit (.int .u16 769), .lit (.int .u16 1025), .lit (.int .u16 1537), .lit (.int .u16 2049), .lit (.int .u16 3073), .lit (.int .u16 4097), .lit (.int .u16 6145), .lit (.int .u16 8193), .lit (.int .u16 12289), .lit (.int .u16 16385), .lit (.int .u16 24577)]
def laid_winkle_inflate_distanceBits {H : Type} : DataW H := .agg [.lit (.int .u8 0), .lit (.int .u8 0), .lit (.int .u8 0), .lit (.int .u8 0), .lit (.int .u8 1), .lit (.int .u8 1), .lit (.int .u8 2), .lit (.int .u8 2), .lit (.int .u8 3), .lit (.int .u8 3), .lit (.int .u8 4), .lit (.int .u8 4), .lit (.int .u8 5), .lit (.int .u8 5), .lit (.int .u8 6), .lit (.int .u8 6), .lit (.int .u8 7), .lit (.int .u8 7), .lit (.int .u8 8), .lit (.int .u8 8), .lit (.int .u8 9), .lit (.int .u8 9), .lit (.int .u8 10), .lit (.int .u8 10), .lit (.int .u8 11), .lit (.int .u8 11), .lit (.int .u8 12), .lit (.int .u8 12), .lit (.int .u8 13), .lit (.int .u8 13)]

/-- 'winklelaw09.InflateWhole': WHATEVER THE INPUT: true; the input reads as it did. -/
def inflateWholeSpec : ChangeSpec := { name := "inflateWhole", fn := fun _ => fun
  | [d1, d2] => { results := [.lit (.bool true)], args := [d1, d2] }
  | _ => none }
def inflateWholeRow : OpenClaim := { program := "ytikdpnpkmmmacaadoor", sum := "a5ea24b9e9382cbd0c7ae46f5bb5513da5f91d0ca1f8f538a3e9759cd55a5679", func := "winkle/winklelaw09.InflateWhole", spec := "inflateWhole", unfollowed := true, recurses := true, named := ["winkle/inflate.lengthBits", "winkle/inflate.lengthLeast", "winkle/inflate.distanceBits", "winkle/inflate.distanceLeast", "winkle/inflate.order", "winkle/inflate.runBits", "winkle/inflate.runLeast"], plainKeys := false, apart := false, laid := [("winkle/inflate.order", laid_winkle_inflate_order), ("winkle/inflate.runLeast", laid_winkle_inflate_runLeast), ("winkle/inflate.runBits", laid_winkle_inflate_runBits), ("winkle/inflate.lengthLeast", laid_winkle_inflate_lengthLeast), ("winkle/inflate.lengthBits", laid_winkle_inflate_lengthBits), ("winkle/inflate.distanceLeast", laid_winkle_inflate_distanceLeast), ("winkle/inflate.distanceBits", laid_winkle_inflate_distanceBits)] }
def InflateWholeSaid : Prop := inflateWholeRow.holds Tryd.pinned (OpenSpec.ofChange inflateWholeSpec)

/-- ITS FALSE NEIGHBOUR: 'it returns false'. Refute it at one input. -/
def inflateWholeWrong : ChangeSpec := { name := "inflateWhole", fn := fun _ => fun
  | [d1, d2] => { results := [.lit (.bool false)], args := [d1, d2] }
  | _ => none }
def InflateWholeWrongFalsely : Prop := inflateWholeRow.holds Tryd.pinned (OpenSpec.ofChange inflateWholeWrong)

/-- 'winklelaw09.InflateSteps': WHATEVER THE INPUT: true; the input reads as it did. -/
def inflateStepsSpec : ChangeSpec := { name := "inflateSteps", fn := fun _ => fun
  | [d] => { results := [.lit (.bool true)], args := [d] }
  | _ => none }
def inflateStepsRow : OpenClaim := { program := "ytikdpnpkmmmacaadoor", sum := "a5ea24b9e9382cbd0c7ae46f5bb5513da5f91d0ca1f8f538a3e9759cd55a5679", func := "winkle/winklelaw09.InflateSteps", spec := "inflateSteps", unfollowed := true, recurses := true, named := ["winkle/inflate.lengthBits", "winkle/inflate.lengthLeast", "winkle/inflate.distanceBits", "winkle/inflate.distanceLeast", "winkle/inflate.order", "winkle/inflate.runBits", "winkle/inflate.runLeast"], plainKeys := false, apart := false, laid := [("winkle/inflate.order", laid_winkle_inflate_order), ("winkle/inflate.runLeast", laid_winkle_inflate_runLeast), ("winkle/inflate.runBits", laid_winkle_inflate_runBits), ("winkle/inflate.lengthLeast", laid_winkle_inflate_lengthLeast), ("winkle/inflate.lengthBits", laid_winkle_inflate_lengthBits), ("winkle/inflate.distanceLeast", laid_winkle_inflate_distanceLeast), ("winkle/inflate.distanceBits", laid_winkle_inflate_distanceBits)] }
def InflateStepsSaid : Prop := inflateStepsRow.holds Tryd.pinned (OpenSpec.ofChange inflateStepsSpec)

/-- ITS FALSE NEIGHBOUR: 'it returns false'. Refute it at one input. -/
def inflateStepsWrong : ChangeSpec := { name := "inflateSteps", fn := fun _ => fun
  | [d] => { results := [.lit (.bool false)], args := [d] }
  | _ => none }
def InflateStepsWrongFalsely : Prop := inflateStepsRow.holds Tryd.pinned (OpenSpec.ofChange inflateStepsWrong)

/-- 'winklelaw09.InflatePlays': WHATEVER THE INPUT: true; the input reads as it did. -/
def inflatePlaysSpec : ChangeSpec := { name := "inflatePlays", fn := fun _ => fun
  | [d] => { results := [.lit (.bool true)], args := [d] }
  | _ => none }
def inflatePlaysRow : OpenClaim := { program := "ytikdpnpkmmmacaadoor", sum := "a5ea24b9e9382cbd0c7ae46f5bb5513da5f91d0ca1f8f538a3e9759cd55a5679", func := "winkle/winklelaw09.InflatePlays", spec := "inflatePlays", unfollowed := true, recurses := true, named := ["winkle/inflate.lengthBits", "winkle/inflate.lengthLeast", "winkle/inflate.distanceBits", "winkle/inflate.distanceLeast", "winkle/inflate.order", "winkle/inflate.runBits", "winkle/inflate.runLeast"], plainKeys := false, apart := false, laid := [("winkle/inflate.order", laid_winkle_inflate_order), ("winkle/inflate.runLeast", laid_winkle_inflate_runLeast), ("winkle/inflate.runBits", laid_winkle_inflate_runBits), ("winkle/inflate.lengthLeast", laid_winkle_inflate_lengthLeast), ("winkle/inflate.lengthBits", laid_winkle_inflate_lengthBits), ("winkle/inflate.distanceLeast", laid_winkle_inflate_distanceLeast), ("winkle/inflate.distanceBits", laid_winkle_inflate_distanceBits)] }
def InflatePlaysSaid : Prop := inflatePlaysRow.holds Tryd.pinned (OpenSpec.ofChange inflatePlaysSpec)

/-- ITS FALSE NEIGHBOUR: 'it returns false'. Refute it at one input. -/
def inflatePlaysWrong : ChangeSpec := { name := "inflatePlays", fn := fun _ => fun
  | [d] => { results := [.lit (.bool false)], args := [d] }
  | _ => none }
def InflatePlaysWrongFalsely : Prop := inflatePlaysRow.holds Tryd.pinned (OpenSpec.ofChange inflatePlaysWrong)

/-- 'winklelaw09.InflateNobody': WHATEVER THE INPUT: true; the input reads as it did. -/
def inflateNobodySpec : ChangeSpec := { name := "inflateNobody", fn := fun _ => fun
  | [d] => { results := [.lit (.bool true)], args := [d] }
  | _ => none }
def inflateNobodyRow : OpenClaim := { program := "ytikdpnpkmmmacaadoor", sum := "a5ea24b9e9382cbd0c7ae46f5bb5513da5f91d0ca1f8f538a3e9759cd55a5679", func := "winkle/winklelaw09.InflateNobody", spec := "inflateNobody", unfollowed := true, recurses := true, named := ["winkle/inflate.lengthBits", "winkle/inflate.lengthLeast", "winkle/inflate.distanceBits", "winkle/inflate.distanceLeast", "winkle/inflate.order", "winkle/inflate.runBits", "winkle/inflate.runLeast"], plainKeys := false, apart := false, laid := [("winkle/inflate.order", laid_winkle_inflate_order), ("winkle/inflate.runLeast", laid_winkle_inflate_runLeast), ("winkle/inflate.runBits", laid_winkle_inflate_runBits), ("winkle/inflate.lengthLeast", laid_winkle_inflate_lengthLeast), ("winkle/inflate.lengthBits", laid_winkle_inflate_lengthBits), ("winkle/inflate.distanceLeast", laid_winkle_inflate_distanceLeast), ("winkle/inflate.distanceBits", laid_winkle_inflate_distanceBits)] }
def InflateNobodySaid : Prop := inflateNobodyRow.holds Tryd.pinned (OpenSpec.ofChange inflateNobodySpec)

/-- ITS FALSE NEIGHBOUR: 'it returns false'. Refute it at one input. -/
def inflateNobodyWrong : ChangeSpec := { name := "inflateNobody", fn := fun _ => fun
  | [d] => { results := [.lit (.bool false)], args := [d] }
  | _ => none }
def InflateNobodyWrongFalsely : Prop := inflateNobodyRow.holds Tryd.pinned (OpenSpec.ofChange inflateNobodyWrong)

/-- 'winklelaw09.InflateBack': WHATEVER THE INPUT: true; the input reads as it did. -/
def inflateBackSpec : ChangeSpec := { name := "inflateBack", fn := fun _ => fun
  | [d1, d2, d3] => { results := [.lit (.bool true)], args := [d1, d2, d3] }
  | _ => none }
def inflateBackRow : OpenClaim := { program := "ytikdpnpkmmmacaadoor", sum := "a5ea24b9e9382cbd0c7ae46f5bb5513da5f91d0ca1f8f538a3e9759cd55a5679", func := "winkle/winklelaw09.InflateBack", spec := "inflateBack", unfollowed := true, recurses := true, named := ["winkle/inflate.lengthBits", "winkle/inflate.lengthLeast", "winkle/inflate.distanceBits", "winkle/inflate.distanceLeast", "winkle/inflate.order", "winkle/inflate.runBits", "winkle/inflate.runLeast"], plainKeys := false, apart := false, laid := [("winkle/inflate.order", laid_winkle_inflate_order), ("winkle/inflate.runLeast", laid_winkle_inflate_runLeast), ("winkle/inflate.runBits", laid_winkle_inflate_runBits), ("winkle/inflate.lengthLeast", laid_winkle_inflate_lengthLeast), ("winkle/inflate.lengthBits", laid_winkle_inflate_lengthBits), ("winkle/inflate.distanceLeast", laid_winkle_inflate_distanceLeast), ("winkle/inflate.distanceBits", laid_winkle_inflate_distanceBits)] }
def InflateBackSaid : Prop := inflateBackRow.holds Tryd.pinned (OpenSpec.ofChange inflateBackSpec)

/-- ITS FALSE NEIGHBOUR: 'it returns false'. Refute it at one input. -/
def inflateBackWrong : ChangeSpec := { name := "inflateBack", fn := fun _ => fun
  | [d1, d2, d3] => { results := [.lit (.bool false)], args := [d1, d2, d3] }
  | _ => none }
def InflateBackWrongFalsely : Prop := inflateBackRow.holds Tryd.pinned (OpenSpec.ofChange inflateBackWrong)

/-- 'winklelaw09.InflateCuts': WHATEVER THE INPUT: true; the input reads as it did. -/
def inflateCutsSpec : ChangeSpec := { name := "inflateCuts", fn := fun _ => fun
  | [d1, d2, d3] => { results := [.lit (.bool true)], args := [d1, d2, d3] }
  | _ => none }
def inflateCutsRow : OpenClaim := { program := "ytikdpnpkmmmacaadoor", sum := "a5ea24b9e9382cbd0c7ae46f5bb5513da5f91d0ca1f8f538a3e9759cd55a5679", func := "winkle/winklelaw09.InflateCuts", spec := "inflateCuts", unfollowed := true, recurses := true, named := ["winkle/inflate.lengthBits", "winkle/inflate.lengthLeast", "winkle/inflate.distanceBits", "winkle/inflate.distanceLeast", "winkle/inflate.order", "winkle/inflate.runBits", "winkle/inflate.runLeast"], plainKeys := false, apart := false, laid := [("winkle/inflate.order", laid_winkle_inflate_order), ("winkle/inflate.runLeast", laid_winkle_inflate_runLeast), ("winkle/inflate.runBits", laid_winkle_inflate_runBits), ("winkle/inflate.lengthLeast", laid_winkle_inflate_lengthLeast), ("winkle/inflate.lengthBits", laid_winkle_inflate_lengthBits), ("winkle/inflate.distanceLeast", laid_winkle_inflate_distanceLeast), ("winkle/inflate.distanceBits", laid_winkle_inflate_distanceBits)] }
def InflateCutsSaid : Prop := inflateCutsRow.holds Tryd.pinned (OpenSpec.ofChange inflateCutsSpec)

/-- ITS FALSE NEIGHBOUR: 'it returns false'. Refute it at one input. -/
def inflateCutsWrong : ChangeSpec := { name := "inflateCuts", fn := fun _ => fun
  | [d1, d2, d3] => { results := [.lit (.bool false)], args := [d1, d2, d3] }
  | _ => none }
def InflateCutsWrongFalsely : Prop := inflateCutsRow.holds Tryd.pinned (OpenSpec.ofChange inflateCutsWrong)

/- THE SECOND FORM. 'bulk': how many values and letters a reading holds, each counted each time it is reached (what is shared counts as often as it is met; a slice's spare places count too). A statement '..UptoSaid' is the law's where the arguments, and the package variables that the reading takes, are together of bulk at most 1048576: NARROWER than '..Said'. Prove '..Said' where nothing that the law and all that it calls make is longer than what came in: it says more and counts as full. Else prove '..UptoSaid'. A law counts once. -/
mutual
def uptoBulk {H : Type} : DataW H → Nat
  | .lit (.string bytes) => bytes.length + 1
  | .lit _ => 1
  | .nil => 1
  | .ptr d => uptoBulk d + 1
  | .slice elems spare => uptoBulkAll elems + uptoBulkAll spare + 1
  | .agg parts => uptoBulkAll parts + 1
  | .iface _ d => uptoBulk d + 1
  | .map entries => uptoBulkEntries entries + 1
  | .held _ => 1
def uptoBulkAll {H : Type} : List (DataW H) → Nat
  | [] => 0
  | d :: r => uptoBulk d + uptoBulkAll r
def uptoBulkEntries {H : Type} : List (Lit × DataW H) → Nat
  | [] => 0
  | x :: r => uptoBulkEntry x + uptoBulkEntries r
def uptoBulkEntry {H : Type} : Lit × DataW H → Nat
  | (.string bytes, d) => bytes.length + uptoBulk d + 1
  | (_, d) => uptoBulk d + 1
 end
def uptoSmall : (H : Type) → List (DataW H) → Bool := fun _ ds => decide (uptoBulkAll ds ≤ 1048576)
def OpenSpec.upto (s : _root_.Go.ChangeSpec) : _root_.Go.OpenSpec := { _root_.Go.OpenSpec.ofChange s with cond := some uptoSmall }

/-- 'winklelaw09.InflateWhole', WHERE WHAT IT READS IS OF BULK AT MOST 1048576: true; the input reads as it did. -/
def inflateWholeUptoRow : OpenClaim := { program := "ytikdpnpkmmmacaadoor", sum := "a5ea24b9e9382cbd0c7ae46f5bb5513da5f91d0ca1f8f538a3e9759cd55a5679", func := "winkle/winklelaw09.InflateWhole", spec := "inflateWhole", unfollowed := true, recurses := true, named := ["winkle/inflate.lengthBits", "winkle/inflate.lengthLeast", "winkle/inflate.distanceBits", "winkle/inflate.distanceLeast", "winkle/inflate.order", "winkle/inflate.runBits", "winkle/inflate.runLeast"], plainKeys := false, apart := false, laid := [("winkle/inflate.order", laid_winkle_inflate_order), ("winkle/inflate.runLeast", laid_winkle_inflate_runLeast), ("winkle/inflate.runBits", laid_winkle_inflate_runBits), ("winkle/inflate.lengthLeast", laid_winkle_inflate_lengthLeast), ("winkle/inflate.lengthBits", laid_winkle_inflate_lengthBits), ("winkle/inflate.distanceLeast", laid_winkle_inflate_distanceLeast), ("winkle/inflate.distanceBits", laid_winkle_inflate_distanceBits)], narrowed := true }
def InflateWholeUptoSaid : Prop := inflateWholeUptoRow.holds Tryd.pinned (OpenSpec.upto inflateWholeSpec)

/-- 'winklelaw09.InflateSteps', WHERE WHAT IT READS IS OF BULK AT MOST 1048576: true; the input reads as it did. -/
def inflateStepsUptoRow : OpenClaim := { program := "ytikdpnpkmmmacaadoor", sum := "a5ea24b9e9382cbd0c7ae46f5bb5513da5f91d0ca1f8f538a3e9759cd55a5679", func := "winkle/winklelaw09.InflateSteps", spec := "inflateSteps", unfollowed := true, recurses := true, named := ["winkle/inflate.lengthBits", "winkle/inflate.lengthLeast", "winkle/inflate.distanceBits", "winkle/inflate.distanceLeast", "winkle/inflate.order", "winkle/inflate.runBits", "winkle/inflate.runLeast"], plainKeys := false, apart := false, laid := [("winkle/inflate.order", laid_winkle_inflate_order), ("winkle/inflate.runLeast", laid_winkle_inflate_runLeast), ("winkle/inflate.runBits", laid_winkle_inflate_runBits), ("winkle/inflate.lengthLeast", laid_winkle_inflate_lengthLeast), ("winkle/inflate.lengthBits", laid_winkle_inflate_lengthBits), ("winkle/inflate.distanceLeast", laid_winkle_inflate_distanceLeast), ("winkle/inflate.distanceBits", laid_winkle_inflate_distanceBits)], narrowed := true }
def InflateStepsUptoSaid : Prop := inflateStepsUptoRow.holds Tryd.pinned (OpenSpec.upto inflateStepsSpec)

/-- 'winklelaw09.InflatePlays', WHERE WHAT IT READS IS OF BULK AT MOST 1048576: true; the input reads as it did. -/
def inflatePlaysUptoRow : OpenClaim := { program := "ytikdpnpkmmmacaadoor", sum := "a5ea24b9e9382cbd0c7ae46f5bb5513da5f91d0ca1f8f538a3e9759cd55a5679", func := "winkle/winklelaw09.InflatePlays", spec := "inflatePlays", unfollowed := true, recurses := true, named := ["winkle/inflate.lengthBits", "winkle/inflate.lengthLeast", "winkle/inflate.distanceBits", "winkle/inflate.distanceLeast", "winkle/inflate.order", "winkle/inflate.runBits", "winkle/inflate.runLeast"], plainKeys := false, apart := false, laid := [("winkle/inflate.order", laid_winkle_inflate_order), ("winkle/inflate.runLeast", laid_winkle_inflate_runLeast), ("winkle/inflate.runBits", laid_winkle_inflate_runBits), ("winkle/inflate.lengthLeast", laid_winkle_inflate_lengthLeast), ("winkle/inflate.lengthBits", laid_winkle_inflate_lengthBits), ("winkle/inflate.distanceLeast", laid_winkle_inflate_distanceLeast), ("winkle/inflate.distanceBits", laid_winkle_inflate_distanceBits)], narrowed := true }
def InflatePlaysUptoSaid : Prop := inflatePlaysUptoRow.holds Tryd.pinned (OpenSpec.upto inflatePlaysSpec)

/-- 'winklelaw09.InflateNobody', WHERE WHAT IT READS IS OF BULK AT MOST 1048576: true; the input reads as it did. -/
def inflateNobodyUptoRow : OpenClaim := { program := "ytikdpnpkmmmacaadoor", sum := "a5ea24b9e9382cbd0c7ae46f5bb5513da5f91d0ca1f8f538a3e9759cd55a5679", func := "winkle/winklelaw09.InflateNobody", spec := "inflateNobody", unfollowed := true, recurses := true, named := ["winkle/inflate.lengthBits", "winkle/inflate.lengthLeast", "winkle/inflate.distanceBits", "winkle/inflate.distanceLeast", "winkle/inflate.order", "winkle/inflate.runBits", "winkle/inflate.runLeast"], plainKeys := false, apart := false, laid := [("winkle/inflate.order", laid_winkle_inflate_order), ("winkle/inflate.runLeast", laid_winkle_inflate_runLeast), ("winkle/inflate.runBits", laid_winkle_inflate_runBits), ("winkle/inflate.lengthLeast", laid_winkle_inflate_lengthLeast), ("winkle/inflate.lengthBits", laid_winkle_inflate_lengthBits), ("winkle/inflate.distanceLeast", laid_winkle_inflate_distanceLeast), ("winkle/inflate.distanceBits", laid_winkle_inflate_distanceBits)], narrowed := true }
def InflateNobodyUptoSaid : Prop := inflateNobodyUptoRow.holds Tryd.pinned (OpenSpec.upto inflateNobodySpec)

/-- 'winklelaw09.InflateBack', WHERE WHAT IT READS IS OF BULK AT MOST 1048576: true; the input reads as it did. -/
def inflateBackUptoRow : OpenClaim := { program := "ytikdpnpkmmmacaadoor", sum := "a5ea24b9e9382cbd0c7ae46f5bb5513da5f91d0ca1f8f538a3e9759cd55a5679", func := "winkle/winklelaw09.InflateBack", spec := "inflateBack", unfollowed := true, recurses := true, named := ["winkle/inflate.lengthBits", "winkle/inflate.lengthLeast", "winkle/inflate.distanceBits", "winkle/inflate.distanceLeast", "winkle/inflate.order", "winkle/inflate.runBits", "winkle/inflate.runLeast"], plainKeys := false, apart := false, laid := [("winkle/inflate.order", laid_winkle_inflate_order), ("winkle/inflate.runLeast", laid_winkle_inflate_runLeast), ("winkle/inflate.runBits", laid_winkle_inflate_runBits), ("winkle/inflate.lengthLeast", laid_winkle_inflate_lengthLeast), ("winkle/inflate.lengthBits", laid_winkle_inflate_lengthBits), ("winkle/inflate.distanceLeast", laid_winkle_inflate_distanceLeast), ("winkle/inflate.distanceBits", laid_winkle_inflate_distanceBits)], narrowed := true }
def InflateBackUptoSaid : Prop := inflateBackUptoRow.holds Tryd.pinned (OpenSpec.upto inflateBackSpec)

/-- 'winklelaw09.InflateCuts', WHERE WHAT IT READS IS OF BULK AT MOST 1048576: true; the input reads as it did. -/
def inflateCutsUptoRow : OpenClaim := { program := "ytikdpnpkmmmacaadoor", sum := "a5ea24b9e9382cbd0c7ae46f5bb5513da5f91d0ca1f8f538a3e9759cd55a5679", func := "winkle/winklelaw09.InflateCuts", spec := "inflateCuts", unfollowed := true, recurses := true, named := ["winkle/inflate.lengthBits", "winkle/inflate.lengthLeast", "winkle/inflate.distanceBits", "winkle/inflate.distanceLeast", "winkle/inflate.order", "winkle/inflate.runBits", "winkle/inflate.runLeast"], plainKeys := false, apart := false, laid := [("winkle/inflate.order", laid_winkle_inflate_order), ("winkle/inflate.runLeast", laid_winkle_inflate_runLeast), ("winkle/inflate.runBits", laid_winkle_inflate_runBits), ("winkle/inflate.lengthLeast", laid_winkle_inflate_lengthLeast), ("winkle/inflate.lengthBits", laid_winkle_inflate_lengthBits), ("winkle/inflate.distanceLeast", laid_winkle_inflate_distanceLeast), ("winkle/inflate.distanceBits", laid_winkle_inflate_distanceBits)], narrowed := true }
def InflateCutsUptoSaid : Prop := inflateCutsUptoRow.holds Tryd.pinned (OpenSpec.upto inflateCutsSpec)

end Rows
end Go.Proofs.YtikdpnpkmmmacaaDoor
