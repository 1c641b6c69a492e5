/-
  QuotedNobody's walk.
-/
import Derived.Test.YtapljkenmgdkmaaAwake
namespace Go.Proofs.Ytapljkenmgdkmaa
open Go.RowKit
set_option linter.unusedVariables false
theorem put_nil' (x : Int) (w : World) : Calls Try.prog 14 #[.pointer none, .int .u8 x] w fun e w' => e = .returned (.bool false) ∧ w = w' := by
  have hop := open_nil w
  go_enter Try.func14, Try.ntmps14
  go_wp2_with (go_at_call 28; refine hop.mono ?_; rintro e1 w0 ⟨rfl, hw0⟩; subst hw0)
  go_ret
  exact ⟨rfl, rfl⟩
theorem nobody_core (w : World) (x : Int) : Calls Try.prog 6 #[.int .u8 x] w fun e w' => e = .returned (.bool true) ∧ Below w.heap.size w w' := by
  have h1 := reset_nil w
  have h2 := put_nil' x w
  have h3 := end_shut (.pointer none) w (open_nil w)
  have h4 := awake_c w
  have h5 := next_nil w
  have h6 := why_nil w
  go_enter Try.func6, Try.ntmps6
  go_wp2_with (first
    | (go_at_call 15; refine h1.mono ?_; rintro e1 w1 ⟨rfl, hw⟩; subst hw)
    | (go_at_call 14; refine h2.mono ?_; rintro e1 w1 ⟨rfl, hw⟩; subst hw)
    | (go_at_call 18; refine h3.mono ?_; rintro e1 w1 ⟨rfl, hw⟩; subst hw)
    | (go_at_call 21; refine h5.mono ?_; rintro e1 w1 ⟨rfl, hw⟩; subst hw)
    | (go_at_call 17; refine h6.mono ?_; rintro e1 w1 ⟨rfl, hw⟩; subst hw)
    | (go_at_call 12; refine h4.mono ?_; rintro e1 w1 ⟨rfl, hb⟩))
  first | go_ret | go_ret2
  exact ⟨rfl, hb⟩
end Go.Proofs.Ytapljkenmgdkmaa
