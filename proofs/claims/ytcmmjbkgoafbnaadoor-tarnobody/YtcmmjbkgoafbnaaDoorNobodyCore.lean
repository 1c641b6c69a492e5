/-
  A walker that is not there: what the law asks of it.
-/
import Derived.Test.YtcmmjbkgoafbnaaDoorMm
import Derived.Test.YtcmmjbkgoafbnaaDoorMl
namespace Go.Proofs.YtcmmjbkgoafbnaaDoor
open Go.RowKit
set_option linter.unusedVariables false
set_option maxHeartbeats 2000000 in
theorem nobody_core (w : World) (h : Er w) (x : Nat) : Calls Tryd.prog 4 #[.int .u8 (x : Int)] w fun e w' => e = .returned (.bool true) ∧ Below w.heap.size w w' := by
  have ke := (nil_end w).mono fun e w' (h : _ ∧ _) => (⟨h.1, h.2.symm⟩ : _ ∧ w = w')
  have kr := (nil_reset w).mono fun e w' (h : _ ∧ _) => (⟨h.1, h.2.symm⟩ : _ ∧ w = w')
  have kn := nil_next w
  unfold ev0 at kn
  have A : Aside (Er w ∧ 3 ≤ w.heap.size) := ⟨h, h.1⟩
  clear h
  go_enter Tryd.func4, Tryd.ntmps4
  go_upto_region 5 with (first
    | (go_at_call 14; refine ke.mono ?_; rintro e1 w1 ⟨rfl, rfl⟩)
    | (go_at_call 10; refine kr.mono ?_; rintro e2 w2 ⟨rfl, rfl⟩)
    | (go_at_call 15; refine kn.mono ?_; rintro e3 w3 ⟨rfl, b3⟩))
  obtain ⟨H, hH⟩ : ∃ H, w3.heap.size = H := ⟨_, rfl⟩
  have b4 : Below w3.heap.size w3 (w3.alloc (.cells ev0 36)) := (Below.refl _ w3).alloc (Nat.le_refl _) _
  have hC := Cells.new w3 ev0 36
  rw [hH] at hC
  obtain ⟨w4, hw4⟩ : ∃ w4, w3.alloc (.cells ev0 36) = w4 := ⟨_, rfl⟩
  rw [hw4] at b4 hC
  have bel : Below w.heap.size w w4 := b3.trans (b4.mono b3.size)
  have d0 : w4.cell? ⟨H, 0, none⟩ = some (.int .i64 0) := (hC.cell 0).trans rfl
  have d1 : w4.cell? ⟨H, 1, none⟩ = some (.int .u8 0) := (hC.cell 1).trans rfl
  have d2 : w4.cell? ⟨H, 2, none⟩ = some (.int .i64 0) := (hC.cell 2).trans rfl
  have d3 : w4.cell? ⟨H, 3, none⟩ = some (.int .i64 0) := (hC.cell 3).trans rfl
  have d4 : w4.cell? ⟨H, 4, none⟩ = some (.string ⟨#[]⟩) := (hC.cell 4).trans rfl
  have ka := awake_c w4 (A.out.1.below bel (by have := A.out.2; omega))
  have kp := (nil_put x w4).mono fun e w' (h : _ ∧ _) => (⟨h.1, h.2.symm⟩ : _ ∧ w4 = w')
  have kq := (nil_reason w4).mono fun e w' (h : _ ∧ _) => (⟨h.1, h.2.symm⟩ : _ ∧ w4 = w')
  have A2 : Aside (Below w.heap.size w w4) := bel
  unfold ev0 at hw4
  rw [hw4, hH]
  clear hw4 hH b3 b4 hC bel ke kr kn
  go_wp2_with (first
    | (go_at_call 9; refine kp.mono ?_; rintro e5 w5 ⟨rfl, rfl⟩)
    | (go_at_call 13; refine kq.mono ?_; rintro e6 w6 ⟨rfl, rfl⟩)
    | (go_at_call 16; refine ka.mono ?_; rintro e7 w7 ⟨rfl, b7⟩))
  first | go_ret | go_ret2
  exact ⟨rfl, A2.out.trans (b7.mono A2.out.size)⟩
end Go.Proofs.YtcmmjbkgoafbnaaDoor
