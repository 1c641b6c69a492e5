/-
  What the lists of package-level variables give, of each statement.
-/
import Derived.Test.YtcmmjbkgoafbnaaDoorWla
namespace Go.Proofs.YtcmmjbkgoafbnaaDoor
open Go.RowKit
set_option linter.unusedVariables false
theorem er_back {W : World} (h : laidMetH Tryd.prog Rows.tarBackRow.laid W) : Er W := er_of rfl rfl (show laidMet Tryd.prog Rows.tarBackRow.laid W from h)
theorem er_ends {W : World} (h : laidMetH Tryd.prog Rows.tarEndsUptoRow.laid W) : Er W := er_of rfl rfl (show laidMet Tryd.prog Rows.tarEndsUptoRow.laid W from h)
theorem er_turned {W : World} (h : laidMetH Tryd.prog Rows.tarTurnedRow.laid W) : Er W := er_of rfl rfl (show laidMet Tryd.prog Rows.tarTurnedRow.laid W from h)
theorem er_steps {W : World} (h : laidMetH Tryd.prog Rows.tarStepsUptoRow.laid W) : Er W := er_of rfl rfl (show laidMet Tryd.prog Rows.tarStepsUptoRow.laid W from h)
end Go.Proofs.YtcmmjbkgoafbnaaDoor
