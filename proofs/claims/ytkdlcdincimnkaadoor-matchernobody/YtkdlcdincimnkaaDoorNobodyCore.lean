/-
  MatcherNobody, behind the opening of its arguments: the call answers true, and what lay in memory is as it was.
  Conditions: the library's table holds what its text lays there.
-/
import Derived.Test.YtkdlcdincimnkaaDoorWake
namespace Go.Proofs.YtkdlcdincimnkaaDoor
open Go.RowKit
set_option linter.unusedVariables false
set_option maxRecDepth 100000 in
set_option maxHeartbeats 2000000 in
theorem nobody_core (w : World) (hT : Tab w) (b s p : Int) : Calls Tryd.prog 5 #[.int .u8 b, .int .i64 s, .int .i64 p] w fun e w' => e = .returned (.bool true) ∧ Below w.heap.size w w' := by
  obtain ⟨w1, hw1⟩ : ∃ w1, w1 = w.alloc (.cells #[.int .u8 b] 5) := ⟨_, rfl⟩
  have b1 : Below w.heap.size w w1 := by rw [hw1]; exact (Below.refl _ w).alloc (Nat.le_refl _) _
  have AT : Aside (Tab w ∧ Below w.heap.size w w1) := ⟨hT, b1⟩
  clear hT b1
  go_enter Tryd.func5, Tryd.ntmps5
  go_wp2_with (first
    | (go_at_call 16; refine (reset_nil _).mono ?_; rintro e3 w3 ⟨rfl, rfl⟩)
    | (go_at_call 12; refine (new_nil _).mono ?_; rintro e3 w3 ⟨rfl, rfl⟩)
    | (go_at_call 23; rw [← hw1]; refine (all_nil _ _ _ _ _).mono ?_; rintro e4 w4 ⟨rfl, hb4⟩)
    | (go_at_call 18; refine (step_nil _ _).mono ?_; rintro e5 w5 ⟨rfl, rfl⟩)
    | (go_at_call 21; refine (state_nil _).mono ?_; rintro e5 w5 ⟨rfl, rfl⟩)
    | (go_at_call 22; refine (at_nil _).mono ?_; rintro e5 w5 ⟨rfl, rfl⟩)
    | (go_at_call 15; refine (set_nil _ _ _).mono ?_; rintro e5 w5 ⟨rfl, rfl⟩)
    | (go_at_call 13; have hb : Below w.heap.size w _ := AT.out.2.trans (hb4.mono AT.out.2.size); refine (awake_c _ (AT.out.1.below hb)).mono ?_; rintro e6 w6 ⟨rfl, hb6⟩))
  go_ret
  exact ⟨rfl, hb.trans (hb6.mono hb.size)⟩
end Go.Proofs.YtkdlcdincimnkaaDoor
