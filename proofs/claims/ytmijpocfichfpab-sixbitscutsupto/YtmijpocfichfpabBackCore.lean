/-
  SixbitsBack's walk.
-/
import Derived.Test.YtmijpocfichfpabAwake
import Derived.Test.YtmijpocfichfpabSame
namespace Go.Proofs.Ytmijpocfichfpab
open Go.RowKit
set_option linter.unusedVariables false
theorem Below.drewN' {B : Nat} {w u : World} (h : Below B w u) (n : Nat) : Below B w (u.drewN n) := h.trans (((Only.refl B u).drewN n).below (Nat.le_refl _))
end Go.Proofs.Ytmijpocfichfpab
