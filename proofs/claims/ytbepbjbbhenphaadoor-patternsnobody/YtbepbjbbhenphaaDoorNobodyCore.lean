/-
  PatternsNobody, behind the opening of its arguments: the call answers true, and what lay in memory is as it was.
  Conditions: the library's table holds what its text lays there.
-/
import Derived.Test.YtbepbjbbhenphaaDoorAwake
namespace Go.Proofs.YtbepbjbbhenphaaDoor
open Go.RowKit
set_option linter.unusedVariables false
set_option maxRecDepth 100000 in
set_option maxHeartbeats 2000000 in
theorem nobody_core (w : World) (hT : Tab w) (s b : Int) : Calls Tryd.prog 5 #[.int .i64 s, .int .u8 b] w fun e w' => e = .returned (.bool true) ∧ Below w.heap.size w w' := by
  have hw := word_zero (.pointer none) s w (depth_nil s w)
  have AT : Aside (Tab w) := hT
  clear hT
  obtain ⟨H, hH⟩ : ∃ H, w.heap.size = H := ⟨_, rfl⟩
  have AH : Aside (w.heap.size = H) := hH
  rw [hH] at hw ⊢
  clear hH
  go_enter Tryd.func5, Tryd.ntmps5
  go_wp2_with (first
    | (go_at_call 16; refine (patterns_nil _).mono ?_; rintro e3 w3 ⟨rfl, rfl⟩)
    | (go_at_call 17; refine (longest_nil _).mono ?_; rintro e3 w3 ⟨rfl, rfl⟩)
    | (go_at_call 15; refine (states_nil _).mono ?_; rintro e3 w3 ⟨rfl, rfl⟩)
    | (go_at_call 27; refine (next_nil _ _ _).mono ?_; rintro e3 w3 ⟨rfl, rfl⟩)
    | (go_at_call 25; refine (fail_nil _ _).mono ?_; rintro e3 w3 ⟨rfl, rfl⟩)
    | (go_at_call 24; refine (depth_nil _ _).mono ?_; rintro e3 w3 ⟨rfl, rfl⟩)
    | (go_at_call 18; refine hw.mono ?_; rintro e3 w3 ⟨rfl, _, hb3⟩)
    | (go_at_call 19; refine (out_nil _ _).mono ?_; rintro e4 w4 ⟨rfl, rfl⟩))
  have hbw : Below w.heap.size w w3 := by rw [AH.out]; exact hb3
  refine (awake_c w3 (AT.out.below hbw)).mono ?_
  rintro e5 w5 ⟨rfl, hb5⟩
  have AF : Aside (Below H w w5) := hb3.trans (hb5.mono (by have := hbw.size; rw [AH.out] at this; exact this))
  clear hb3 hb5 hbw hw
  go_wp2_with fail
  go_ret
  exact ⟨rfl, AF.out⟩
end Go.Proofs.YtbepbjbbhenphaaDoor
