/-
  What New comes to.
-/
import Derived.Test.YtmlkdpoignimaaaPut
import Derived.Laws.MakeOwn
namespace Go.Proofs.Ytmlkdpoignimaaa
open Go.RowKit
set_option linter.unusedVariables false
theorem new_bad (m : Int) (hm : m < 1 ∨ 65536 < m) (w : World) : Calls Try.prog 13 #[.int .i64 m] w fun e w' => e = .returned (.tuple #[.pointer none, .int .i64 2]) ∧ w' = w := by
  by_cases h1 : m < 1
  · clear hm
    go_enter Try.func13, Try.ntmps13
    go_wp2_with fail
    go_ret2
    exact ⟨rfl, rfl⟩
  · have h2 : (65536 < m) = True := eq_true (by omega)
    have h3 : (m < 1) = False := eq_false h1
    clear hm h1
    go_enter Try.func13, Try.ntmps13
    go_wp2_with fail
    go_ret2
    exact ⟨rfl, rfl⟩
theorem Ow.made {w : World} {lo sz cap : Nat} {e : TypeId} {cs : Array Value} (h : lo ≤ w.heap.size) (hm : cap ≤ maxLen) (hs : cs.size = cap * sz) : Ow (w.alloc (.cells cs e)) lo e sz (.slice (some ⟨w.heap.size, 0, none⟩) 0 cap) 0 [] :=
  ⟨World.ownsRow_made w cs cap h hm hs, by show _ ≤ (w.heap.push _).size; simp; omega⟩
/-- What New answers. -/
def NewTo (w : World) (most : Nat) (e : Ending) (w' : World) : Prop := ∃ B, e = .returned (.tuple #[.pointer (some ⟨B, 0, none⟩), .int .i64 0]) ∧ Rg w' w.heap.size B most 0 [] [] ∧ Below w.heap.size w w'
set_option maxHeartbeats 1000000 in
theorem new_c (most : Nat) (h1 : 1 ≤ most) (h2 : most ≤ 65536) (w : World) : Calls Try.prog 13 #[.int .i64 (most : Int)] w fun e w' => NewTo w most e w' := by
  obtain ⟨i0, hi, hz0, hz1, hz2⟩ := ginfo_parts ginfo5
  obtain ⟨i1, hi1, hy0, hy1, hy2⟩ := ginfo_parts ginfo63
  have m1 : ∀ W, (Instr.makeSlice 22 (.int .i64 0) (.int .i64 (most : Int))).run Try.prog W = .ok (.slice (some ⟨W.heap.size, 0, none⟩) 0 most) (W.alloc (.cells (madeCells #[.int .u8 0] (most * 1)) 5)) := fun W => by
    have := run_make (P := Try.prog) W 22 5 i0 _ Try.underlying22 hi hz0 .i64 .i64 0 (most : Int) (by omega) (by omega) (by rw [hz2]; omega) (by omega)
    rw [hz1] at this
    exact this
  have m2 : ∀ W, (Instr.makeSlice 57 (.int .i64 0) (.int .i64 64)).run Try.prog W = .ok (.slice (some ⟨W.heap.size, 0, none⟩) 0 64) (W.alloc (.cells (madeCells #[.int .i64 0, .int .i64 0] (64 * 2)) 63)) := fun W => by
    have := run_make (P := Try.prog) W 57 63 i1 _ Try.underlying57 hi1 hy0 .i64 .i64 0 64 (by omega) (by omega) (by rw [hy2]; omega) (by omega)
    rw [hy1] at this
    exact this
  have s1 : (madeCells #[.int .u8 0] (most * 1)).size = most * 1 := size_madeCells _ _
  have s2 : (madeCells #[.int .i64 0, .int .i64 0] (64 * 2)).size = 64 * 2 := size_madeCells _ _
  obtain ⟨CL, hCL⟩ : ∃ CL, madeCells #[.int .u8 0] (most * 1) = CL := ⟨_, rfl⟩
  obtain ⟨CM, hCM⟩ : ∃ CM, madeCells #[.int .i64 0, .int .i64 0] (64 * 2) = CM := ⟨_, rfl⟩
  rw [hCL] at m1 s1
  rw [hCM] at m2 s2
  have t1 : ((most : Int) < 1) = False := eq_false (by omega)
  have t2 : ((65536 : Int) < (most : Int)) = False := eq_false (by omega)
  have t1' : (most < 1) = False := eq_false (by omega)
  have t2' : (65536 < most) = False := eq_false (by omega)
  have A : Aside (1 ≤ most ∧ most ≤ 65536 ∧ CL.size = most * 1 ∧ CM.size = 64 * 2) := ⟨h1, h2, s1, s2⟩
  clear h1 h2 s1 s2 hCL hCM hi hz0 hz1 hz2 hi1 hy0 hy1 hy2
  go_enter Try.func13, Try.ntmps13
  go_upto_region 3 with fail
  go_region
  · have a := A.out
    go_wp2_with fail
    go_ret2
    have z1 : ∀ (W : World) (o : Obj), (W.alloc o).heap.size = W.heap.size + 1 := fun W o => by show (W.heap.push o).size = _; simp
    have bl : ∀ (W : World) (o : Obj), Below W.heap.size W (W.alloc o) := fun W o => (Below.refl _ W).alloc (Nat.le_refl _) o
    have o1 : Ow (w.alloc (.cells CL 5)) w.heap.size 5 1 (.slice (some ⟨w.heap.size, 0, none⟩) 0 most) 0 [] := Ow.made (Nat.le_refl _) (by unfold maxLen; omega) a.2.2.1
    have o2 : Ow ((w.alloc (.cells CL 5)).alloc (.cells CM 63)) w.heap.size 63 2 (.slice (some ⟨w.heap.size + 1, 0, none⟩) 0 64) 0 [] := by
      have := Ow.made (w := w.alloc (.cells CL 5)) (lo := w.heap.size) (sz := 2) (cap := 64) (e := 63) (cs := CM) (by rw [z1]; omega) (by unfold maxLen; omega) a.2.2.2
      rw [z1] at this
      exact this
    refine ⟨w.heap.size + 1 + 1, rfl, ⟨⟨.slice (some ⟨w.heap.size, 0, none⟩) 0 most, .slice (some ⟨w.heap.size + 1, 0, none⟩) 0 64, ⟨?_, ?_, ?_, by omega⟩⟩, by omega, a.2.1, by simp [flat], by simp, by simp [flat, Oct]⟩, ?_⟩
    · have := Cells.new ((w.alloc (.cells CL 5)).alloc (.cells CM 63)) (rc most 0 (.slice (some ⟨w.heap.size, 0, none⟩) 0 most) 0 (.slice (some ⟨w.heap.size + 1, 0, none⟩) 0 64) false 0) 59
      rw [z1, z1] at this
      exact this
    · exact ((o1.below (bl _ _) (Nat.le_refl _)).below (bl _ _) (Nat.le_refl _)).drew
    · exact (o2.below (bl _ _) (Nat.le_refl _)).drew
    · exact ((((Below.refl _ w).alloc (Nat.le_refl _) _).alloc (by rw [z1]; omega) _).alloc (by rw [z1, z1]; omega) _).drew
  · have a := A.out
    go_wp2_with fail
    go_ret2
    have z1 : ∀ (W : World) (o : Obj), (W.alloc o).heap.size = W.heap.size + 1 := fun W o => by show (W.heap.push o).size = _; simp
    have bl : ∀ (W : World) (o : Obj), Below W.heap.size W (W.alloc o) := fun W o => (Below.refl _ W).alloc (Nat.le_refl _) o
    have o1 : Ow (w.alloc (.cells CM 63)) w.heap.size 63 2 (.slice (some ⟨w.heap.size, 0, none⟩) 0 64) 0 [] := Ow.made (Nat.le_refl _) (by unfold maxLen; omega) a.2.2.2
    have o2 : Ow ((w.alloc (.cells CM 63)).alloc (.cells CL 5)) w.heap.size 5 1 (.slice (some ⟨w.heap.size + 1, 0, none⟩) 0 most) 0 [] := by
      have := Ow.made (w := w.alloc (.cells CM 63)) (lo := w.heap.size) (sz := 1) (cap := most) (e := 5) (cs := CL) (by rw [z1]; omega) (by unfold maxLen; omega) a.2.2.1
      rw [z1] at this
      exact this
    refine ⟨w.heap.size + 1 + 1, rfl, ⟨⟨.slice (some ⟨w.heap.size + 1, 0, none⟩) 0 most, .slice (some ⟨w.heap.size, 0, none⟩) 0 64, ⟨?_, ?_, ?_, by omega⟩⟩, by omega, a.2.1, by simp [flat], by simp, by simp [flat, Oct]⟩, ?_⟩
    · have := Cells.new ((w.alloc (.cells CM 63)).alloc (.cells CL 5)) (rc most 0 (.slice (some ⟨w.heap.size + 1, 0, none⟩) 0 most) 0 (.slice (some ⟨w.heap.size, 0, none⟩) 0 64) false 0) 59
      rw [z1, z1] at this
      exact this
    · exact (o2.below (bl _ _) (Nat.le_refl _)).drew
    · exact ((o1.below (bl _ _) (Nat.le_refl _)).below (bl _ _) (Nat.le_refl _)).drew
    · exact ((((Below.refl _ w).alloc (Nat.le_refl _) _).alloc (by rw [z1]; omega) _).alloc (by rw [z1, z1]; omega) _).drew
end Go.Proofs.Ytmlkdpoignimaaa
