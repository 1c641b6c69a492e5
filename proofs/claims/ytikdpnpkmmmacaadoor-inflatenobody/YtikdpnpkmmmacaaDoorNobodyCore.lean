/-
  An inflater that is not there gives nothing: what its calls come to, and the law's call.
-/
import Derived.Test.YtikdpnpkmmmacaaDoorMs
namespace Go.Proofs.YtikdpnpkmmmacaaDoor
open Go.RowKit
set_option linter.unusedVariables false
theorem open_nil (w : World) : Calls Tryd.prog 33 #[.pointer none] w fun e w' => e = .returned (.bool false) ∧ w = w' := by
  go_enter Tryd.func33, Tryd.ntmps33
  go_wp2_with fail
  first | go_ret | go_ret2
  exact ⟨rfl, rfl⟩
theorem put_nil9 (x : Int) (w : World) : Calls Tryd.prog 17 #[.pointer none, .int .u8 x] w fun e w' => e = .returned (.bool false) ∧ w = w' := by
  have ho := open_nil w
  go_enter Tryd.func17, Tryd.ntmps17
  go_wp2_with (go_at_call 33; refine ho.mono ?_; rintro e2 w2 ⟨rfl, rfl⟩)
  first | go_ret | go_ret2
  exact ⟨rfl, rfl⟩
theorem end_nil9 (w : World) : Calls Tryd.prog 19 #[.pointer none] w fun e w' => e = .returned (.tuple #[]) ∧ w = w' := by
  have ho := open_nil w
  go_enter Tryd.func19, Tryd.ntmps19
  go_wp2_with (go_at_call 33; refine ho.mono ?_; rintro e2 w2 ⟨rfl, rfl⟩)
  go_end0
  exact ⟨rfl, rfl⟩
theorem reset_nil9 (w : World) : Calls Tryd.prog 20 #[.pointer none] w fun e w' => e = .returned (.tuple #[]) ∧ w = w' := by
  go_enter Tryd.func20, Tryd.ntmps20
  go_wp2_with fail
  first | go_end0 | (refine bodyPost_ret (results_none rfl _ _ _) rfl ?_)
  exact ⟨rfl, rfl⟩
theorem next_nil9 (w : World) : Calls Tryd.prog 18 #[.pointer none] w fun e w' => e = .returned (.tuple #[.int .u8 0, .bool false]) ∧ w = w' := by
  go_enter Tryd.func18, Tryd.ntmps18
  go_wp2_with fail
  first | go_ret | go_ret2
  exact ⟨rfl, rfl⟩
theorem done_nil9 (w : World) : Calls Tryd.prog 15 #[.pointer none] w fun e w' => e = .returned (.bool false) ∧ w = w' := by
  go_enter Tryd.func15, Tryd.ntmps15
  go_wp2_with fail
  first | go_ret | go_ret2
  exact ⟨rfl, rfl⟩
theorem reason_nil9 (w : World) : Calls Tryd.prog 16 #[.pointer none] w fun e w' => e = .returned (.int .i64 0) ∧ w = w' := by
  go_enter Tryd.func16, Tryd.ntmps16
  go_wp2_with fail
  first | go_ret | go_ret2
  exact ⟨rfl, rfl⟩
theorem nobody_core (w : World) (ht : Tabs w) (x : Int) : Calls Tryd.prog 6 #[.int .u8 x] w fun e w' => e = .returned (.bool true) ∧ Below w.heap.size w w' := by
  have h1 := end_nil9 w
  have h2 := reset_nil9 w
  have h3 := next_nil9 w
  have h4 := put_nil9 x w
  have h5 := done_nil9 w
  have h6 := reason_nil9 w
  have h7 := awake_c w ht
  clear ht
  go_enter Tryd.func6, Tryd.ntmps6
  go_wp2_with (first
    | (go_at_call 19; refine h1.mono ?_; rintro e1 w1 ⟨rfl, rfl⟩)
    | (go_at_call 20; refine h2.mono ?_; rintro e1 w1 ⟨rfl, rfl⟩)
    | (go_at_call 18; refine h3.mono ?_; rintro e1 w1 ⟨rfl, rfl⟩)
    | (go_at_call 17; refine h4.mono ?_; rintro e1 w1 ⟨rfl, rfl⟩)
    | (go_at_call 15; refine h5.mono ?_; rintro e1 w1 ⟨rfl, rfl⟩)
    | (go_at_call 16; refine h6.mono ?_; rintro e1 w1 ⟨rfl, rfl⟩)
    | (go_at_call 13; refine h7.mono ?_; rintro e1 w1 ⟨rfl, hb⟩))
  first | go_ret | go_ret2
  exact ⟨rfl, hb⟩
end Go.Proofs.YtikdpnpkmmmacaaDoor
