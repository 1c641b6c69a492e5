/-
  The decoder in memory: its small calls.
-/
import Derived.Test.YtmijpocfichfpaaVal
import Derived.OwnWalk
import Derived.BigQuiet
import Derived.Deep.CutBlock
import Derived.Deep.DeepCutAuto
namespace Go.Proofs.Ytmijpocfichfpaa
open Go.RowKit
set_option linter.unusedVariables false
theorem end_nil (w : World) : Calls Try.prog 16 #[.pointer none] w fun e w' => e = .returned (.int .i64 0) ∧ w' = w := by
  go_enter Try.func16, Try.ntmps16
  go_wp2_with fail
  go_ret
  exact ⟨rfl, rfl⟩
theorem put_nil (x : Nat) (w : World) : Calls Try.prog 14 #[.pointer none, .int .u8 x] w fun e w' => e = .returned (.tuple #[.int .u8 0, .bool false, .int .i64 0]) ∧ w' = w := by
  go_enter Try.func14, Try.ntmps14
  go_wp2_with fail
  go_ret3
  exact ⟨rfl, rfl⟩
theorem reset_nil (w : World) : Calls Try.prog 15 #[.pointer none] w fun e w' => e = .returned (.tuple #[]) ∧ w' = w := by
  go_enter Try.func15, Try.ntmps15
  go_wp2_with fail
  first | go_end0 | (refine bodyPost_ret (results_none rfl _ _ _) rfl ?_)
  exact ⟨rfl, rfl⟩
theorem begun_no (w : World) : Calls Try.prog 24 #[.agg #[.int .u8 0, .int .u8 0, .bool false]] w fun e w' => e = .returned (.bool false) ∧ Below w.heap.size w w' := by
  have b1 := (Below.refl w.heap.size w).alloc (Nat.le_refl _) (.cells #[.int .u8 0, .int .u8 0, .bool false] 44)
  go_enter Try.func24, Try.ntmps24
  go_wp2_with fail
  go_ret
  exact ⟨rfl, b1⟩
theorem begun_yes (a b : Nat) (q : Bool) (ha : a ≠ 0) (w : World) : Calls Try.prog 24 #[.agg #[.int .u8 a, .int .u8 b, .bool q]] w fun e w' => e = .returned (.bool true) ∧ Below w.heap.size w w' := by
  have b1 := (Below.refl w.heap.size w).alloc (Nat.le_refl _) (.cells #[.int .u8 a, .int .u8 b, .bool q] 44)
  have h1 : ((a : Int) != 0) = true := by rw [bne_iff_ne]; omega
  have h2 : ((a : Int) == 0) = false := by rw [beq_eq_false_iff_ne]; omega
  go_enter Try.func24, Try.ntmps24
  go_wp2_with fail
  go_ret
  exact ⟨rfl, b1⟩
theorem new_c (w : World) : Calls Try.prog 13 #[] w fun e w' => e = .returned (.pointer (some ⟨w.heap.size, 0, none⟩)) ∧ w' = w.alloc (.cells #[.int .u8 0, .int .u8 0, .bool false, .bool false, .int .i64 0] 46) := by
  go_enter Try.func13, Try.ntmps13
  go_wp2_with fail
  go_ret
  exact ⟨rfl, rfl⟩
theorem reset_c (B : Nat) (a b : Nat) (q r : Bool) (y : Nat) (w : World) (h : Cells w B #[.int .u8 a, .int .u8 b, .bool q, .bool r, .int .i64 y] 46) : Calls Try.prog 15 #[.pointer (some ⟨B, 0, none⟩)] w fun e w' => e = .returned (.tuple #[]) ∧ Cells w' B #[.int .u8 0, .int .u8 0, .bool false, .bool false, .int .i64 0] 46 ∧ Only B w w' := by
  have c0 := h.cell 0
  have c1 := h.cell 1
  have c2 := h.cell 2
  have c3 := h.cell 3
  have c4 := h.cell 4
  have f0 := h.frozen 0
  have f1 := h.frozen 1
  have f2 := h.frozen 2
  have f3 := h.frozen 3
  have f4 := h.frozen 4
  have A1 : Aside (Cells w B #[.int .u8 a, .int .u8 b, .bool q, .bool r, .int .i64 y] 46) := h
  clear h
  simp at c0 c1 c2 c3 c4
  go_enter Try.func15, Try.ntmps15
  go_wp2_with fail
  first | go_end0 | (refine bodyPost_ret (results_none rfl _ _ _) rfl ?_)
  refine ⟨rfl, ?_, ((((((Only.refl B w).setCell 0 _).setCell 1 _).setCell 2 _).setCell 3 _).setCell 4 _)⟩
  have := ((((A1.out.set 0 (.int .u8 0)).set 1 (.int .u8 0)).set 2 (.bool false)).set 3 (.bool false)).set 4 (.int .i64 0)
  simpa using this
end Go.Proofs.Ytmijpocfichfpaa
