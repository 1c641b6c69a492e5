/-
  The matcher in memory, and what its methods come to.
  Conditions: its machine lies below it and is whole; its place is at most 2^62.
-/
import Derived.Test.YtkdlcdincimnkaaDoorEnds
import Derived.Deep.RegionWith
import Derived.Deep.CutBlock
import Derived.Deep.DeepCutAuto
namespace Go.Proofs.YtkdlcdincimnkaaDoor
open Go.RowKit
set_option linter.unusedVariables false
/-- The matcher at block M: its state, its place, its machine. -/
def Mt (w : World) (M s p A : Nat) : Prop := Cells w M #[.int .i64 (s : Int), .int .i64 (p : Int), .pointer (some ⟨A, 0, none⟩)] 83
/-- Of all blocks that are there M alone may have turned. -/
structure But (M : Nat) (w w' : World) : Prop where
  os : w'.os = w.os
  tape : w'.tape = w.tape
  output : w'.output = w.output
  size : w.heap.size ≤ w'.heap.size
  block : ∀ k, k < w.heap.size → k ≠ M → w'.heap[k]? = w.heap[k]?
theorem But.refl (M : Nat) (w : World) : But M w w := ⟨rfl, rfl, rfl, Nat.le_refl _, fun _ _ _ => rfl⟩
theorem But.trans {M : Nat} {w u v : World} (h : But M w u) (k : But M u v) : But M w v :=
  ⟨k.os.trans h.os, k.tape.trans h.tape, k.output.trans h.output, Nat.le_trans h.size k.size, fun i hi hm => (k.block i (Nat.lt_of_lt_of_le hi h.size) hm).trans (h.block i hi hm)⟩
theorem But.of_below {M : Nat} {w u : World} (h : Below w.heap.size w u) : But M w u := ⟨h.1, h.2, h.3, h.size, fun k hk _ => h.block k hk⟩
theorem But.of_only {M : Nat} {w u : World} (h : Only M w u) : But M w u := ⟨h.os, h.tape, h.output, Nat.le_of_eq h.size.symm, fun k _ hm => h.block k hm⟩
theorem But.below {M B : Nat} {w u : World} (h : But M w u) (hM : B ≤ M) (hB : B ≤ w.heap.size) : Below B w u :=
  ⟨h.os, h.tape, h.output, h.size, fun k hk => h.block k (by omega) (by omega)⟩
theorem But.cells {M b : Nat} {w u : World} {cs : Array Value} {t : TypeId} (h : But M w u) (k : Cells w b cs t) (hb : b ≠ M) : Cells u b cs t := by
  have := k.lt
  unfold Cells at *
  rw [h.block b this hb]; exact k
theorem Mt.cells {w : World} {M s p A : Nat} (h : Mt w M s p A) : w.cell? ⟨M, 0, none⟩ = some (.int .i64 (s : Int)) ∧ w.cell? ⟨M, 1, none⟩ = some (.int .i64 (p : Int)) ∧ w.cell? ⟨M, 2, none⟩ = some (.pointer (some ⟨A, 0, none⟩)) ∧ (∀ i, w.frozen? ⟨M, i, none⟩ = false) :=
  ⟨Cells.cell h 0, Cells.cell h 1, Cells.cell h 2, fun i => Cells.frozen h i⟩
theorem new_nil (w : World) : Calls Tryd.prog 12 #[.pointer none] w fun e w' => e = .returned (.tuple #[.pointer none, .int .i64 1]) ∧ w = w' := by
  go_enter Tryd.func12, Tryd.ntmps12
  go_wp2_with fail
  first | go_ret | go_ret2
  exact ⟨rfl, rfl⟩
theorem new_c (A : Nat) (w : World) : Calls Tryd.prog 12 #[.pointer (some ⟨A, 0, none⟩)] w fun e w' => e = .returned (.tuple #[.pointer (some ⟨w.heap.size, 0, none⟩), .int .i64 0]) ∧ Mt w' w.heap.size 0 0 A ∧ Below w.heap.size w w' := by
  have key : Mt (w.alloc (.cells #[.int .i64 0, .int .i64 0, .pointer (some ⟨A, 0, none⟩)] 83)) w.heap.size 0 0 A ∧ Below w.heap.size w (w.alloc (.cells #[.int .i64 0, .int .i64 0, .pointer (some ⟨A, 0, none⟩)] 83)) := ⟨Cells.new w _ 83, (Below.refl _ w).alloc (Nat.le_refl _) _⟩
  go_enter Tryd.func12, Tryd.ntmps12
  go_wp2_with fail
  first | go_ret | go_ret2
  exact ⟨rfl, key⟩
theorem state_nil (w : World) : Calls Tryd.prog 21 #[.pointer none] w fun e w' => e = .returned (.int .i64 0) ∧ w = w' := by
  go_enter Tryd.func21, Tryd.ntmps21
  go_wp2_with fail
  go_ret
  exact ⟨rfl, rfl⟩
theorem at_nil (w : World) : Calls Tryd.prog 22 #[.pointer none] w fun e w' => e = .returned (.int .i64 0) ∧ w = w' := by
  go_enter Tryd.func22, Tryd.ntmps22
  go_wp2_with fail
  go_ret
  exact ⟨rfl, rfl⟩
theorem step_nil (b : Int) (w : World) : Calls Tryd.prog 18 #[.pointer none, .int .u8 b] w fun e w' => e = .returned (.slice none 0 0) ∧ w = w' := by
  go_enter Tryd.func18, Tryd.ntmps18
  go_wp2_with fail
  go_ret
  exact ⟨rfl, rfl⟩
theorem set_nil (s p : Int) (w : World) : Calls Tryd.prog 15 #[.pointer none, .int .i64 s, .int .i64 p] w fun e w' => e = .returned (.bool false) ∧ w = w' := by
  go_enter Tryd.func15, Tryd.ntmps15
  go_wp2_with fail
  go_ret
  exact ⟨rfl, rfl⟩
theorem reset_nil (w : World) : Calls Tryd.prog 16 #[.pointer none] w fun e w' => e = .returned (.tuple #[]) ∧ w = w' := by
  go_enter Tryd.func16, Tryd.ntmps16
  go_wp2_with fail
  first | go_end0 | (refine bodyPost_ret (results_none rfl _ _ _) rfl ?_) | go_ret2
  exact ⟨rfl, rfl⟩
theorem state_c (M s p A : Nat) (w : World) (h : Mt w M s p A) : Calls Tryd.prog 21 #[.pointer (some ⟨M, 0, none⟩)] w fun e w' => e = .returned (.int .i64 (s : Int)) ∧ w = w' := by
  obtain ⟨c0, c1, c2, f⟩ := h.cells
  clear h
  go_enter Tryd.func21, Tryd.ntmps21
  go_wp2_with fail
  go_ret
  exact ⟨rfl, rfl⟩
theorem at_c (M s p A : Nat) (w : World) (h : Mt w M s p A) : Calls Tryd.prog 22 #[.pointer (some ⟨M, 0, none⟩)] w fun e w' => e = .returned (.int .i64 (p : Int)) ∧ w = w' := by
  obtain ⟨c0, c1, c2, f⟩ := h.cells
  clear h
  go_enter Tryd.func22, Tryd.ntmps22
  go_wp2_with fail
  go_ret
  exact ⟨rfl, rfl⟩
theorem Mt.put {w : World} {M s p A : Nat} (h : Mt w M s p A) (s' p' : Nat) : Mt ((w.setCell ⟨M, 0, none⟩ (.int .i64 (s' : Int))).setCell ⟨M, 1, none⟩ (.int .i64 (p' : Int))) M s' p' A := by
  have := (Cells.set h 0 (.int .i64 (s' : Int))).set 1 (.int .i64 (p' : Int))
  exact this
theorem Mt.put0 {w : World} {M s p A : Nat} (h : Mt w M s p A) (s' : Nat) : Mt (w.setCell ⟨M, 0, none⟩ (.int .i64 (s' : Int))) M s' p A := by
  have := (Cells.set h 0 (.int .i64 (s' : Int)))
  exact this
theorem Mt.put1 {w : World} {M s p A : Nat} (h : Mt w M s p A) (p' : Nat) : Mt (w.setCell ⟨M, 1, none⟩ (.int .i64 (p' : Int))) M s p' A := by
  have := (Cells.set h 1 (.int .i64 (p' : Int)))
  exact this
end Go.Proofs.YtkdlcdincimnkaaDoor
