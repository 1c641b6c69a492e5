/-
  SixbitsNobody's walk.
-/
import Derived.Test.YtmijpocfichfpaaAwake
namespace Go.Proofs.Ytmijpocfichfpaa
open Go.RowKit
set_option linter.unusedVariables false
theorem put_nil' (x : Int) (w : World) : Calls Try.prog 14 #[.pointer none, .int .u8 x] w fun e w' => e = .returned (.tuple #[.int .u8 0, .bool false, .int .i64 0]) ∧ w' = w := by
  go_enter Try.func14, Try.ntmps14
  go_wp2_with fail
  go_ret3
  exact ⟨rfl, rfl⟩
theorem nobody_core (w : World) (x : Int) : Calls Try.prog 6 #[.int .u8 x] w fun e w' => e = .returned (.bool true) ∧ Below w.heap.size w w' := by
  have h1 := reset_nil w
  have h2 := put_nil' x w
  have h3 := end_nil w
  have h4 := awake_c w
  go_enter Try.func6, Try.ntmps6
  go_wp2_with (first
    | (go_at_call 15; refine h1.mono ?_; rintro e1 w1 ⟨rfl, hw⟩; have hw := hw.symm; subst hw)
    | (go_at_call 14; refine h2.mono ?_; rintro e1 w1 ⟨rfl, hw⟩; have hw := hw.symm; subst hw)
    | (go_at_call 16; refine h3.mono ?_; rintro e1 w1 ⟨rfl, hw⟩; have hw := hw.symm; subst hw)
    | (go_at_call 12; refine h4.mono ?_; rintro e1 w1 ⟨rfl, hb⟩))
  first | go_ret | go_ret2
  exact ⟨rfl, hb⟩
end Go.Proofs.Ytmijpocfichfpaa
