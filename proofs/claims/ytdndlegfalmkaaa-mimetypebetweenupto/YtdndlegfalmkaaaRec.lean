/-
  What gave up, and what the deferred functions come to.
-/
import Derived.Test.YtdndlegfalmkaaaWty
import Derived.Defers
import Derived.Recover
namespace Go.Proofs.Ytdndlegfalmkaaa
open Go.RowKit
set_option linter.unusedVariables false
theorem gave_no (w : World) : Calls Try.prog 27 #[.nilIface] w fun e w' => e = .returned (.bool false) ∧ w' = w := by
  go_enter Try.func27, Try.ntmps27
  go_wp2
  go_ret
  exact ⟨rfl, rfl⟩
theorem run_assert (w : World) : (Instr.typeAssert (.iface 66 (.agg #[])) 20 66 true).run Try.prog w = .ok (.tuple #[.agg #[], .bool true]) w := by
  simp [Instr.typeAssert, run_underlying Try.underlying66]
theorem gave_yes (w : World) : Calls Try.prog 27 #[.iface 66 (.agg #[])] w fun e w' => e = .returned (.bool true) ∧ Below w.heap.size w w' := by
  have hta := run_assert w
  go_enter Try.func27, Try.ntmps27
  go_wp2
  go_ret
  exact ⟨rfl, (Below.refl _ w).alloc (Nat.le_refl _) _⟩
set_option maxHeartbeats 1000000 in
theorem catch_t (H K : Nat) (older : List PanicEntry) (w : World) (m s v : Value) (b : Value) (hH : Cells w H #[m, s, v] 24) (hK : Cells w K #[b] 4) :
    CallsD Try.prog 26 #[.pointer (some ⟨H, 0, none⟩), .pointer (some ⟨K, 0, none⟩)] (.panicking ({ v := .iface 66 (.agg #[]), recovered := false } :: older)) w fun e u' w' =>
      e = .returned (.tuple #[]) ∧ u' = .panicking ({ v := .iface 66 (.agg #[]), recovered := true } :: older) ∧ ∃ w1, Below w.heap.size w w1 ∧ w' = (((w1.setCell ⟨H, 0, none⟩ (.string ⟨#[]⟩)).setCell ⟨H, 1, none⟩ (.string ⟨#[]⟩)).setCell ⟨H, 2, none⟩ (.slice none 0 0)).setCell ⟨K, 0, none⟩ (.bool false) := by
  refine callsD_of_wpS Try.func26 rfl fun c₀ cs hu => ?_
  apply wpS_seq
  apply wpS_region
  simp [wpOpsS, go_sem, recoverD, hu, Try.ntmps26, Exit.thenS]
  refine (gave_yes w).mono ?_
  rintro e1 w1 ⟨rfl, hb1⟩
  dsimp only
  refine wpS_cond (t := true) (by simp [Act.eval, Array.replicate]) ?_
  simp only [if_true]
  have kH := hH.below hb1 hH.lt
  have kK := hK.below hb1 hK.lt
  have c0 : w1.cell? ⟨H, 0, none⟩ = some m := by rw [kH.cell]; rfl
  have c1 : w1.cell? ⟨H, 1, none⟩ = some s := by rw [kH.cell]; rfl
  have c2 : w1.cell? ⟨H, 2, none⟩ = some v := by rw [kH.cell]; rfl
  have d0 : w1.cell? ⟨K, 0, none⟩ = some b := by rw [kK.cell]; rfl
  have f0 := kH.frozen 0
  have f1 := kH.frozen 1
  have f2 := kH.frozen 2
  have g0 := kK.frozen 0
  have hne : K ≠ H := fun e => by
    subst e
    unfold Cells at hH hK
    rw [hH] at hK
    cases hK
  apply wpS_region
  simp [wpOpsS, go_sem, c0, c1, c2, d0, f0, f1, f2, g0, bodyPostS, results, Try.results26]
  exact ⟨w1, hb1, rfl⟩
theorem idle_t (H K : Nat) (w : World) : CallsD Try.prog 26 #[.pointer (some ⟨H, 0, none⟩), .pointer (some ⟨K, 0, none⟩)] .returning w fun e u' w' => e = .returned (.tuple #[]) ∧ u' = .returning ∧ w' = w := by
  refine callsD_of_wpS Try.func26 rfl fun c₀ cs hu => ?_
  apply wpS_seq
  apply wpS_region
  simp [wpOpsS, go_sem, recoverD, hu, Try.ntmps26, Exit.thenS]
  refine (gave_no w).mono ?_
  rintro e1 w1 ⟨rfl, rfl⟩
  dsimp only
  refine wpS_cond (t := false) (by simp [Act.eval, Array.replicate]) ?_
  simp only [Bool.false_eq_true, if_false]
  refine wpS_of_wp (wp_skip ?_)
  cases c₀
  simp_all [bodyPostS, results, Try.results26]
set_option maxHeartbeats 1000000 in
theorem catch_e (H : Nat) (older : List PanicEntry) (w : World) (m : Value) (hH : Cells w H #[m] 3) :
    CallsD Try.prog 41 #[.pointer (some ⟨H, 0, none⟩)] (.panicking ({ v := .iface 66 (.agg #[]), recovered := false } :: older)) w fun e u' w' =>
      e = .returned (.tuple #[]) ∧ u' = .panicking ({ v := .iface 66 (.agg #[]), recovered := true } :: older) ∧ ∃ w1, Below w.heap.size w w1 ∧ w' = w1.setCell ⟨H, 0, none⟩ (.int .i64 3) := by
  refine callsD_of_wpS Try.func41 rfl fun c₀ cs hu => ?_
  apply wpS_seq
  apply wpS_region
  simp [wpOpsS, go_sem, recoverD, hu, Try.ntmps41, Exit.thenS]
  refine (gave_yes w).mono ?_
  rintro e1 w1 ⟨rfl, hb1⟩
  dsimp only
  refine wpS_cond (t := true) (by simp [Act.eval, Array.replicate]) ?_
  simp only [if_true]
  have kH := hH.below hb1 hH.lt
  have c0 : w1.cell? ⟨H, 0, none⟩ = some m := by rw [kH.cell]; rfl
  have f0 := kH.frozen 0
  apply wpS_region
  simp [wpOpsS, go_sem, c0, f0, bodyPostS, results, Try.results41]
  exact ⟨w1, hb1, rfl⟩
theorem idle_e (H : Nat) (w : World) : CallsD Try.prog 41 #[.pointer (some ⟨H, 0, none⟩)] .returning w fun e u' w' => e = .returned (.tuple #[]) ∧ u' = .returning ∧ w' = w := by
  refine callsD_of_wpS Try.func41 rfl fun c₀ cs hu => ?_
  apply wpS_seq
  apply wpS_region
  simp [wpOpsS, go_sem, recoverD, hu, Try.ntmps41, Exit.thenS]
  refine (gave_no w).mono ?_
  rintro e1 w1 ⟨rfl, rfl⟩
  dsimp only
  refine wpS_cond (t := false) (by simp [Act.eval, Array.replicate]) ?_
  simp only [Bool.false_eq_true, if_false]
  refine wpS_of_wp (wp_skip ?_)
  cases c₀
  simp_all [bodyPostS, results, Try.results41]
end Go.Proofs.Ytdndlegfalmkaaa
