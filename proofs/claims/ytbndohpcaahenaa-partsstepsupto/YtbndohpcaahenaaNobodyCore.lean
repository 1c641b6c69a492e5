/-
  What the statement PartsNobody comes to.
-/
import Derived.Test.YtbndohpcaahenaaAwk
namespace Go.Proofs.Ytbndohpcaahenaa
open Go.RowKit
set_option linter.unusedVariables false
theorem open_nil (w : World) : Calls Try.prog 34 #[.pointer none] w fun e w' => e = .returned (.bool false) ∧ w = w' := by
  go_enter Try.func34, Try.ntmps34
  go_wp2_with fail
  go_ret
  exact ⟨rfl, rfl⟩
theorem put_nil (x : Int) (w : World) : Calls Try.prog 18 #[.pointer none, .int .u8 x] w fun e w' => e = .returned (.bool false) ∧ w = w' := by
  have ho := open_nil w
  go_enter Try.func18, Try.ntmps18
  go_wp2_with (go_at_call 34; refine ho.mono ?_; rintro e1 w1 ⟨rfl, rfl⟩)
  first | go_ret | go_ret2
  exact ⟨rfl, rfl⟩
theorem end_nil (w : World) : Calls Try.prog 21 #[.pointer none] w fun e w' => e = .returned (.tuple #[]) ∧ w = w' := by
  have ho := open_nil w
  go_enter Try.func21, Try.ntmps21
  go_wp2_with (go_at_call 34; refine ho.mono ?_; rintro e1 w1 ⟨rfl, rfl⟩)
  first | go_end0 | (refine bodyPost_ret (results_none rfl _ _ _) rfl ?_) | (rw [Exit.noGoto_ret]; refine bodyPost_ret (results_none rfl _ _ _) rfl ?_)
  exact ⟨rfl, rfl⟩
theorem reason_nil (w : World) : Calls Try.prog 20 #[.pointer none] w fun e w' => e = .returned (.int .i64 0) ∧ w = w' := by
  go_enter Try.func20, Try.ntmps20
  go_wp2_with fail
  go_ret
  exact ⟨rfl, rfl⟩
set_option maxHeartbeats 1000000 in
theorem next_nil (w : World) : Calls Try.prog 25 #[.pointer none] w fun e w' => e = .returned (.tuple #[.agg ev0, .bool false]) ∧ Below w.heap.size w w' := by
  obtain ⟨H, hH⟩ : ∃ H, w.heap.size = H := ⟨_, rfl⟩
  have hC := Cells.new w ev0 50
  rw [hH] at hC ⊢
  have hbel : Below H w (w.alloc (.cells ev0 50)) := by rw [← hH]; exact (Below.refl _ w).alloc (Nat.le_refl _) _
  obtain ⟨w1, hw1⟩ : ∃ w1, w.alloc (.cells ev0 50) = w1 := ⟨_, rfl⟩
  rw [hw1] at hC hbel
  have d0 : w1.cell? ⟨H, 0, none⟩ = some (.int .i64 0) := by rw [hC.cell]; rfl
  have d1 : w1.cell? ⟨H, 1, none⟩ = some (.int .u8 0) := by rw [hC.cell]; rfl
  have d2 : w1.cell? ⟨H, 2, none⟩ = some (.int .i64 0) := by rw [hC.cell]; rfl
  have d3 : w1.cell? ⟨H, 3, none⟩ = some (.int .i64 0) := by rw [hC.cell]; rfl
  have d4 : w1.cell? ⟨H, 4, none⟩ = some (.string ⟨#[]⟩) := by rw [hC.cell]; rfl
  have z0 := hC.frozen 0
  have z1 := hC.frozen 1
  have z2 := hC.frozen 2
  have z3 := hC.frozen 3
  have z4 := hC.frozen 4
  have A : Aside (Cells w1 H ev0 50 ∧ Below H w w1) := ⟨hC, hbel⟩
  clear hC hbel
  unfold ev0 at hw1
  go_enter Try.func25, Try.ntmps25
  go_upto_region 1 with fail
  clear hw1 hH
  go_wp2_with fail
  (try simp only [Exit.inBlock, Exit.then])
  have hC2 := set5 A.out.1 (.int .i64 0) (.int .u8 0) (.int .i64 0) (.int .i64 0) (.string ⟨#[]⟩)
  have o2 : Only H w1 (((((w1.setCell ⟨H, 0, none⟩ (.int .i64 0)).setCell ⟨H, 1, none⟩ (.int .u8 0)).setCell ⟨H, 2, none⟩ (.int .i64 0)).setCell ⟨H, 3, none⟩ (.int .i64 0)).setCell ⟨H, 4, none⟩ (.string ⟨#[]⟩)) := (((((Only.refl H w1).setCell _ _).setCell _ _).setCell _ _).setCell _ _).setCell _ _
  refine bodyPost_ret (v := .tuple #[.agg ev0, .bool false]) ?_ rfl ?_
  · rw [results_cell_tmp rfl]
    simp [asAddr, Result.andThen, ret50 hC2 rfl, ev0]
  · exact ⟨rfl, A.out.2.trans (o2.below (Nat.le_refl _))⟩
set_option maxHeartbeats 1000000 in
theorem nobody_core (x : Int) (w : World) : Calls Try.prog 6 #[.int .u8 x] w fun e w' => e = .returned (.bool true) ∧ Below w.heap.size w w' := by
  have he := end_nil w
  have hn : Calls Try.prog 25 #[.pointer none] w fun e w' => e = .returned (.tuple #[.agg #[.int .i64 0, .int .u8 0, .int .i64 0, .int .i64 0, .string ⟨#[]⟩], .bool false]) ∧ Below w.heap.size w w' := next_nil w
  obtain ⟨H, hH⟩ : ∃ H, w.heap.size = H := ⟨_, rfl⟩
  rw [hH] at hn ⊢
  have AH : Aside (w.heap.size = H) := hH
  clear hH
  go_enter Try.func6, Try.ntmps6
  go_upto_region 4 with (first | (go_at_call 21; refine he.mono ?_; rintro e1 w1 ⟨rfl, rfl⟩) | (go_at_call 25; refine hn.mono ?_; rintro e2 w2 ⟨rfl, b2⟩))
  obtain ⟨E, hE⟩ : ∃ E, w2.heap.size = E := ⟨_, rfl⟩
  obtain ⟨w3, hw3⟩ : ∃ w3, w2.alloc (.cells #[.int .i64 0, .int .u8 0, .int .i64 0, .int .i64 0, .string ⟨#[]⟩] 50) = w3 := ⟨_, rfl⟩
  rw [hw3, hE]
  have kE : Cells w3 E #[.int .i64 0, .int .u8 0, .int .i64 0, .int .i64 0, .string ⟨#[]⟩] 50 := by rw [← hw3, ← hE]; exact Cells.new w2 _ 50
  have b3 : Below E w2 w3 := by rw [← hw3, ← hE]; exact (Below.refl _ w2).alloc (Nat.le_refl _) _
  have hsz : H ≤ E := by have := b2.size; rw [AH.out] at this; omega
  have hsz3 : E ≤ w3.heap.size := by have := b3.size; omega
  have A : Aside (Below H w w3 ∧ H ≤ w3.heap.size) := ⟨b2.trans (b3.mono hsz), by omega⟩
  have d0 := kE.cell 0
  have d1 := kE.cell 1
  have d2 := kE.cell 2
  have d3 := kE.cell 3
  have d4 := kE.cell 4
  have hp := put_nil x w3
  have hr := reason_nil w3
  have hw := awake_c w3
  clear he hn b2 b3 kE hE hw3 hsz hsz3
  go_wp2_with (first | (go_at_call 18; refine hp.mono ?_; rintro e4 w4 ⟨rfl, rfl⟩) | (go_at_call 20; refine hr.mono ?_; rintro e5 w5 ⟨rfl, rfl⟩) | (go_at_call 13; refine hw.mono ?_; rintro e6 w6 ⟨rfl, b6⟩))
  first | go_ret | go_ret2
  exact ⟨rfl, A.out.1.trans (b6.mono A.out.2)⟩
end Go.Proofs.Ytbndohpcaahenaa
