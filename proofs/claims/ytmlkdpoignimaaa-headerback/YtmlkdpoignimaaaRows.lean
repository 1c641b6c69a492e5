/-
  No cell of these rows narrows 'for every input' (looked for: loops, veiled, ifaces, maps, wideKeys, modest, calm, conditions, laid).
  DERIVED. THE GIVEN ROWS OF THIS SEAT. 6 by the template 'for every input the law returns true; each argument reads behind the call as it read before'; 0 by the template 'total and deterministic' (their statements: YtmlkdpoignimaaaTotals.lean).
  GIVEN WITH THE SEED: the statements are not yours to turn. If you find one false, say at which input.
  Laid BY PROGRAM, IN A SANDBOX (cutbox-rows.mjs): the forced cells as the released guide's own fill.sh prints them over the translation 30be03e6d3546adc… (all of the seat's roots in one cut). By AI agents, Wed Nov 11 2026. No macro, syntax, notation, axiom, sorry.
-/
import Derived.Test.YtmlkdpoignimaaaChecked
import GoSem.Claim
import GoSem.ClaimJoined
import GoSem.ClaimMapViews
import Derived.JoinedTies
import Derived.KernelRfl
namespace Go.Proofs.Ytmlkdpoignimaaa
/- THE CELL 'sum', in the pinned program and in every row, IS THE sha256 OF THE DUMP (.gsa) THAT YtmlkdpoignimaaaProg.lean LOADS. Nothing in Lean hashes anything: it is a label: what it is worth is what the hold of that sum in a sandbox is worth. -/
noncomputable def Try.pinned : Pinned := { name := "ytmlkdpoignimaaa", sum := "30be03e6d3546adcb92ecbe5249a1afb0b08b559a657e0d8d5a4c9e8bc4188e2", checked := Try.checked }
namespace Rows
def none {H : Type} : Left H := { results := [], args := [] }

/-- 'winklelaw12.HeaderWhole': WHATEVER THE INPUT: true; the input reads as it did. -/
def headerWholeSpec : ChangeSpec := { name := "headerWhole", fn := fun _ => fun
  | [d1, d2] => { results := [.lit (.bool true)], args := [d1, d2] }
  | _ => none }
def headerWholeRow : OpenClaim := { program := "ytmlkdpoignimaaa", sum := "30be03e6d3546adcb92ecbe5249a1afb0b08b559a657e0d8d5a4c9e8bc4188e2", func := "winkle/winklelaw12.HeaderWhole", spec := "headerWhole", apart := false }
def HeaderWholeSaid : Prop := headerWholeRow.holds Try.pinned (OpenSpec.ofChange headerWholeSpec)

/-- ITS FALSE NEIGHBOUR: 'it returns false'. Refute it at one input. -/
def headerWholeWrong : ChangeSpec := { name := "headerWhole", fn := fun _ => fun
  | [d1, d2] => { results := [.lit (.bool false)], args := [d1, d2] }
  | _ => none }
def HeaderWholeWrongFalsely : Prop := headerWholeRow.holds Try.pinned (OpenSpec.ofChange headerWholeWrong)

/-- 'winklelaw12.HeaderSteps': WHATEVER THE INPUT: true; the input reads as it did. -/
def headerStepsSpec : ChangeSpec := { name := "headerSteps", fn := fun _ => fun
  | [d1, d2, d3] => { results := [.lit (.bool true)], args := [d1, d2, d3] }
  | _ => none }
def headerStepsRow : OpenClaim := { program := "ytmlkdpoignimaaa", sum := "30be03e6d3546adcb92ecbe5249a1afb0b08b559a657e0d8d5a4c9e8bc4188e2", func := "winkle/winklelaw12.HeaderSteps", spec := "headerSteps", apart := false }
def HeaderStepsSaid : Prop := headerStepsRow.holds Try.pinned (OpenSpec.ofChange headerStepsSpec)

/-- ITS FALSE NEIGHBOUR: 'it returns false'. Refute it at one input. -/
def headerStepsWrong : ChangeSpec := { name := "headerSteps", fn := fun _ => fun
  | [d1, d2, d3] => { results := [.lit (.bool false)], args := [d1, d2, d3] }
  | _ => none }
def HeaderStepsWrongFalsely : Prop := headerStepsRow.holds Try.pinned (OpenSpec.ofChange headerStepsWrong)

/-- 'winklelaw12.HeaderAsks': WHATEVER THE INPUT: true; the input reads as it did. -/
def headerAsksSpec : ChangeSpec := { name := "headerAsks", fn := fun _ => fun
  | [d1, d2, d3] => { results := [.lit (.bool true)], args := [d1, d2, d3] }
  | _ => none }
def headerAsksRow : OpenClaim := { program := "ytmlkdpoignimaaa", sum := "30be03e6d3546adcb92ecbe5249a1afb0b08b559a657e0d8d5a4c9e8bc4188e2", func := "winkle/winklelaw12.HeaderAsks", spec := "headerAsks", apart := false }
def HeaderAsksSaid : Prop := headerAsksRow.holds Try.pinned (OpenSpec.ofChange headerAsksSpec)

/-- ITS FALSE NEIGHBOUR: 'it returns false'. Refute it at one input. -/
def headerAsksWrong : ChangeSpec := { name := "headerAsks", fn := fun _ => fun
  | [d1, d2, d3] => { results := [.lit (.bool false)], args := [d1, d2, d3] }
  | _ => none }
def HeaderAsksWrongFalsely : Prop := headerAsksRow.holds Try.pinned (OpenSpec.ofChange headerAsksWrong)

/-- 'winklelaw12.HeaderNobody': WHATEVER THE INPUT: true; the input reads as it did. -/
def headerNobodySpec : ChangeSpec := { name := "headerNobody", fn := fun _ => fun
  | [d1, d2] => { results := [.lit (.bool true)], args := [d1, d2] }
  | _ => none }
def headerNobodyRow : OpenClaim := { program := "ytmlkdpoignimaaa", sum := "30be03e6d3546adcb92ecbe5249a1afb0b08b559a657e0d8d5a4c9e8bc4188e2", func := "winkle/winklelaw12.HeaderNobody", spec := "headerNobody", apart := false }
def HeaderNobodySaid : Prop := headerNobodyRow.holds Try.pinned (OpenSpec.ofChange headerNobodySpec)

/-- ITS FALSE NEIGHBOUR: 'it returns false'. Refute it at one input. -/
def headerNobodyWrong : ChangeSpec := { name := "headerNobody", fn := fun _ => fun
  | [d1, d2] => { results := [.lit (.bool false)], args := [d1, d2] }
  | _ => none }
def HeaderNobodyWrongFalsely : Prop := headerNobodyRow.holds Try.pinned (OpenSpec.ofChange headerNobodyWrong)

/-- 'winklelaw12.HeaderBack': WHATEVER THE INPUT: true; the input reads as it did. -/
def headerBackSpec : ChangeSpec := { name := "headerBack", fn := fun _ => fun
  | [d1, d2, d3] => { results := [.lit (.bool true)], args := [d1, d2, d3] }
  | _ => none }
def headerBackRow : OpenClaim := { program := "ytmlkdpoignimaaa", sum := "30be03e6d3546adcb92ecbe5249a1afb0b08b559a657e0d8d5a4c9e8bc4188e2", func := "winkle/winklelaw12.HeaderBack", spec := "headerBack", apart := false }
def HeaderBackSaid : Prop := headerBackRow.holds Try.pinned (OpenSpec.ofChange headerBackSpec)

/-- ITS FALSE NEIGHBOUR: 'it returns false'. Refute it at one input. -/
def headerBackWrong : ChangeSpec := { name := "headerBack", fn := fun _ => fun
  | [d1, d2, d3] => { results := [.lit (.bool false)], args := [d1, d2, d3] }
  | _ => none }
def HeaderBackWrongFalsely : Prop := headerBackRow.holds Try.pinned (OpenSpec.ofChange headerBackWrong)

/-- 'winklelaw12.HeaderEnds': WHATEVER THE INPUT: true; the input reads as it did. -/
def headerEndsSpec : ChangeSpec := { name := "headerEnds", fn := fun _ => fun
  | [d1, d2] => { results := [.lit (.bool true)], args := [d1, d2] }
  | _ => none }
def headerEndsRow : OpenClaim := { program := "ytmlkdpoignimaaa", sum := "30be03e6d3546adcb92ecbe5249a1afb0b08b559a657e0d8d5a4c9e8bc4188e2", func := "winkle/winklelaw12.HeaderEnds", spec := "headerEnds", apart := false }
def HeaderEndsSaid : Prop := headerEndsRow.holds Try.pinned (OpenSpec.ofChange headerEndsSpec)

/-- ITS FALSE NEIGHBOUR: 'it returns false'. Refute it at one input. -/
def headerEndsWrong : ChangeSpec := { name := "headerEnds", fn := fun _ => fun
  | [d1, d2] => { results := [.lit (.bool false)], args := [d1, d2] }
  | _ => none }
def HeaderEndsWrongFalsely : Prop := headerEndsRow.holds Try.pinned (OpenSpec.ofChange headerEndsWrong)

/- THE SECOND FORM. 'bulk': how many values and letters a reading holds, each counted each time it is reached (what is shared counts as often as it is met; a slice's spare places count too). A statement '..UptoSaid' is the law's where the arguments, and the package variables that the reading takes, are together of bulk at most 1048576: NARROWER than '..Said'. Prove '..Said' where nothing that the law and all that it calls make is longer than what came in: it says more and counts as full. Else prove '..UptoSaid'. A law counts once. -/
mutual
def uptoBulk {H : Type} : DataW H → Nat
  | .lit (.string bytes) => bytes.length + 1
  | .lit _ => 1
  | .nil => 1
  | .ptr d => uptoBulk d + 1
  | .slice elems spare => uptoBulkAll elems + uptoBulkAll spare + 1
  | .agg parts => uptoBulkAll parts + 1
  | .iface _ d => uptoBulk d + 1
  | .map entries => uptoBulkEntries entries + 1
  | .held _ => 1
def uptoBulkAll {H : Type} : List (DataW H) → Nat
  | [] => 0
  | d :: r => uptoBulk d + uptoBulkAll r
def uptoBulkEntries {H : Type} : List (Lit × DataW H) → Nat
  | [] => 0
  | x :: r => uptoBulkEntry x + uptoBulkEntries r
def uptoBulkEntry {H : Type} : Lit × DataW H → Nat
  | (.string bytes, d) => bytes.length + uptoBulk d + 1
  | (_, d) => uptoBulk d + 1
 end
def uptoSmall : (H : Type) → List (DataW H) → Bool := fun _ ds => decide (uptoBulkAll ds ≤ 1048576)
def OpenSpec.upto (s : _root_.Go.ChangeSpec) : _root_.Go.OpenSpec := { _root_.Go.OpenSpec.ofChange s with cond := some uptoSmall }

/-- 'winklelaw12.HeaderWhole', WHERE WHAT IT READS IS OF BULK AT MOST 1048576: true; the input reads as it did. -/
def headerWholeUptoRow : OpenClaim := { program := "ytmlkdpoignimaaa", sum := "30be03e6d3546adcb92ecbe5249a1afb0b08b559a657e0d8d5a4c9e8bc4188e2", func := "winkle/winklelaw12.HeaderWhole", spec := "headerWhole", apart := false, narrowed := true }
def HeaderWholeUptoSaid : Prop := headerWholeUptoRow.holds Try.pinned (OpenSpec.upto headerWholeSpec)

/-- 'winklelaw12.HeaderSteps', WHERE WHAT IT READS IS OF BULK AT MOST 1048576: true; the input reads as it did. -/
def headerStepsUptoRow : OpenClaim := { program := "ytmlkdpoignimaaa", sum := "30be03e6d3546adcb92ecbe5249a1afb0b08b559a657e0d8d5a4c9e8bc4188e2", func := "winkle/winklelaw12.HeaderSteps", spec := "headerSteps", apart := false, narrowed := true }
def HeaderStepsUptoSaid : Prop := headerStepsUptoRow.holds Try.pinned (OpenSpec.upto headerStepsSpec)

/-- 'winklelaw12.HeaderAsks', WHERE WHAT IT READS IS OF BULK AT MOST 1048576: true; the input reads as it did. -/
def headerAsksUptoRow : OpenClaim := { program := "ytmlkdpoignimaaa", sum := "30be03e6d3546adcb92ecbe5249a1afb0b08b559a657e0d8d5a4c9e8bc4188e2", func := "winkle/winklelaw12.HeaderAsks", spec := "headerAsks", apart := false, narrowed := true }
def HeaderAsksUptoSaid : Prop := headerAsksUptoRow.holds Try.pinned (OpenSpec.upto headerAsksSpec)

/-- 'winklelaw12.HeaderNobody', WHERE WHAT IT READS IS OF BULK AT MOST 1048576: true; the input reads as it did. -/
def headerNobodyUptoRow : OpenClaim := { program := "ytmlkdpoignimaaa", sum := "30be03e6d3546adcb92ecbe5249a1afb0b08b559a657e0d8d5a4c9e8bc4188e2", func := "winkle/winklelaw12.HeaderNobody", spec := "headerNobody", apart := false, narrowed := true }
def HeaderNobodyUptoSaid : Prop := headerNobodyUptoRow.holds Try.pinned (OpenSpec.upto headerNobodySpec)

/-- 'winklelaw12.HeaderBack', WHERE WHAT IT READS IS OF BULK AT MOST 1048576: true; the input reads as it did. -/
def headerBackUptoRow : OpenClaim := { program := "ytmlkdpoignimaaa", sum := "30be03e6d3546adcb92ecbe5249a1afb0b08b559a657e0d8d5a4c9e8bc4188e2", func := "winkle/winklelaw12.HeaderBack", spec := "headerBack", apart := false, narrowed := true }
def HeaderBackUptoSaid : Prop := headerBackUptoRow.holds Try.pinned (OpenSpec.upto headerBackSpec)

/-- 'winklelaw12.HeaderEnds', WHERE WHAT IT READS IS OF BULK AT MOST 1048576: true; the input reads as it did. -/
def headerEndsUptoRow : OpenClaim := { program := "ytmlkdpoignimaaa", sum := "30be03e6d3546adcb92ecbe5249a1afb0b08b559a657e0d8d5a4c9e8bc4188e2", func := "winkle/winklelaw12.HeaderEnds", spec := "headerEnds", apart := false, narrowed := true }
def HeaderEndsUptoSaid : Prop := headerEndsUptoRow.holds Try.pinned (OpenSpec.upto headerEndsSpec)

end Rows
end Go.Proofs.Ytmlkdpoignimaaa
