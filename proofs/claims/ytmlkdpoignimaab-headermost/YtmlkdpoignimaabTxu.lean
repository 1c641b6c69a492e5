/-
  What the document's Trim, both Same, name and colon come to.
-/
import Derived.Test.YtmlkdpoignimaabTxt
namespace Go.Proofs.Ytmlkdpoignimaab
open Go.RowKit
set_option linter.unusedVariables false
theorem lead_cons_b {x : Nat} {m : List Nat} (h : isB x = true) : (x :: m).drop (lead (x :: m)) = m.drop (lead m) := by
  simp [lead, h]
theorem lead_cons_n {x : Nat} {m : List Nat} (h : isB x = false) : lead (x :: m) = 0 := by
  simp [lead, h]
theorem tail_tk_b {x : Nat} {m : List Nat} (h : isB x = true) : (m ++ [x]).take (tail (m ++ [x])) = m.take (tail m) := by
  rw [tail_snoc_b _ _ h, List.take_append_of_le_length (tail_le m)]
theorem tail_tk_n {x : Nat} {m : List Nat} (h : isB x = false) : (m ++ [x]).take (tail (m ++ [x])) = m ++ [x] := by
  rw [tail_snoc_n _ _ h, List.take_of_length_le (by simp)]
end Go.Proofs.Ytmlkdpoignimaab
