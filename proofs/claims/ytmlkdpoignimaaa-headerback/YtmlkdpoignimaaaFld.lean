/-
  What field, line, take, last, Put, End, Reset and New come to.
-/
import Derived.Test.YtmlkdpoignimaaaMrk
import Derived.Deep.RegionLaw
namespace Go.Proofs.Ytmlkdpoignimaaa
open Go.RowKit
set_option linter.unusedVariables false
section
variable {w u : World} {lo B most k bg y : Nat} {vl vm : Value} {l : List Nat} {M : List (Nat × Nat)} {dn : Bool}
theorem field_bad (h : Rm w lo B most k vl l bg vm M false 0) : Calls Try.prog 41 #[.pointer (some ⟨B, 0, none⟩), .int .i64 0] w fun e w' => e = .returned (.tuple #[]) ∧ Fg w lo B most k false 30 w' := by
  have hs := stop_c h 30
  clear h
  go_enter Try.func41, Try.ntmps41
  go_wp2_with (go_at_call 29; refine hs.mono ?_; rintro e1 w1 ⟨rfl, h1⟩)
  go_end0
  exact ⟨rfl, h1⟩
theorem field_many (n : Nat) (hn : n ≠ 0) (h : Rm w lo B most k vl l bg vm M false 0) (hM : M.length = 64) : Calls Try.prog 41 #[.pointer (some ⟨B, 0, none⟩), .int .i64 (n : Int)] w fun e w' => e = .returned (.tuple #[]) ∧ Fg w lo B most k false 31 w' := by
  have hs := stop_c h 31
  have c4 := h.c4
  obtain ⟨a, c, hv, hc, _, _⟩ := h.vmShape
  rw [hM] at hv
  subst hv
  have t1 : ((n : Int) == 0) = false := by rw [beq_eq_false_iff_ne]; omega
  clear h hn hM hc
  go_enter Try.func41, Try.ntmps41
  go_wp2_with (go_at_call 29; refine hs.mono ?_; rintro e1 w1 ⟨rfl, h1⟩)
  go_end0
  exact ⟨rfl, h1⟩
/-- What field leaves where it begins one. -/
def Fn (w : World) (lo B most k : Nat) (vl : Value) (l : List Nat) (bg : Nat) (M : List (Nat × Nat)) (w' : World) : Prop := ∃ vm, Rm w' lo B most k vl l bg vm M false 0 ∧ Chg lo w w'
set_option maxHeartbeats 2000000 in
theorem field_new (n : Nat) (hn : n ≠ 0) (hnb : n < 1000000) (hbg : bg < 1000000) (h : Rm w lo B most k vl l bg vm M false 0) (hM : M.length < 64) : Calls Try.prog 41 #[.pointer (some ⟨B, 0, none⟩), .int .i64 (n : Int)] w fun e w' => e = .returned (.tuple #[]) ∧ Fn w lo B most k vl l bg (M ++ [(bg, bg + n)]) w' := by
  have c4 := h.c4
  have c3 := h.c3
  obtain ⟨a, c, hv, hc, _, _⟩ := h.vmShape
  obtain ⟨N, hN⟩ : ∃ N, M.length = N := ⟨_, rfl⟩
  obtain ⟨H, hH⟩ : ∃ H, w.heap.size = H := ⟨_, rfl⟩
  obtain ⟨w1, hw1⟩ : ∃ w1, w1 = (w.alloc (.cells #[.int .i64 (bg : Int), .int .i64 ((bg : Int) + (n : Int))] 63)).drew := ⟨_, rfl⟩
  have b1 : Below w.heap.size w w1 := by rw [hw1]; exact ((Below.refl _ w).alloc (Nat.le_refl _) _).drew
  have r1 : Rm w1 lo B most k vl l bg vm M false 0 := h.below b1
  have kH : Cells w1 H #[.int .i64 (bg : Int), .int .i64 ((bg : Int) + (n : Int))] 63 := by rw [hw1, ← hH]; exact (Cells.new w _ 63).drew
  obtain ⟨i0, hi, hz0, hz1, hz2⟩ := ginfo_parts ginfo63
  have hnews : ∀ (j : Nat) x, (mc [(bg, bg + n)])[j]? = some x → w1.cell? ⟨H, 0 + j, none⟩ = some x := fun j x hj => by
    rw [Nat.zero_add, kH.cell, ← hj]
    simp [mc]
  have h1c : ∀ x ∈ mc [(bg, bg + n)], x.oneCell' = true := fun x hx => by simp [mc] at hx; rcases hx with rfl | rfl <;> rfl
  have k1 := (h.cells.alloc (.cells #[.int .i64 (bg : Int), .int .i64 ((bg : Int) + (n : Int))] 63))
  have a4 : (w.alloc (.cells #[.int .i64 (bg : Int), .int .i64 ((bg : Int) + (n : Int))] 63)).cell? ⟨B, 4, none⟩ = some (.slice a N c) := by rw [k1.cell, ← hN, ← hv]; rfl
  have a3 : (w.alloc (.cells #[.int .i64 (bg : Int), .int .i64 ((bg : Int) + (n : Int))] 63)).cell? ⟨B, 3, none⟩ = some (.int .i64 (bg : Int)) := by rw [k1.cell]; rfl
  have hm1 := r1.marks
  rw [hN, hv, hN] at hm1
  have A : Aside (Rm w1 lo B most k vl l bg vm M false 0 ∧ Chg lo w w1 ∧ lo ≤ B ∧ w1 = (w.alloc (.cells #[.int .i64 (bg : Int), .int .i64 ((bg : Int) + (n : Int))] 63)).drew ∧ M.length = N) := ⟨r1, Chg.of_below b1 h.lines.le, h.le, hw1, hN⟩
  have AN : Aside (N + 1 ≤ maxLen ∧ (N + 1) * 16 ≤ 140737488355328) := ⟨by unfold maxLen; omega, by omega⟩
  have hk2 : ∀ (v2 : Value) (w2 : World) (n2 : Nat) (xs : List Value), Got lo 63 2 w1 w2 (.slice a N c) v2 n2 xs → w2.cell? ⟨B, 4, none⟩ = some (.slice a N c) ∧ w2.frozen? ⟨B, 4, none⟩ = false := fun v2 w2 n2 xs hg => by
    have k2 := r1.cells.got hg (by decide)
    refine ⟨?_, k2.frozen 4⟩
    rw [k2.cell, ← hN, ← hv]; rfl
  rw [hw1] at hm1 hnews hk2
  have t1 : ((n : Int) == 0) = false := by rw [beq_eq_false_iff_ne]; omega
  have t2 : ((N : Int) == 64) = false := by rw [beq_eq_false_iff_ne]; omega
  have hnI : (n : Int) < 1000000 := by omega
  have hbI : (bg : Int) < 1000000 := by omega
  have hwr : ∀ z : Int, z = (bg : Int) + (n : Int) → IntKind.i64.wrap z = z := fun z hz => by rw [IntKind.wrap_i64]; omega
  rw [hN] at hv
  subst hv
  clear h hn hM hc b1 r1 kH hw1 hnb hbg hN k1
  go_enter Try.func41, Try.ntmps41
  go_wp2_with fail
  go_region_law (refine step_ow Try.prog _ rfl (.tmp 8) (.tmp 20) 57 rfl 63 i0 _ 2 16 Try.underlying57 hi hz0 hz1 hz2 rfl (by decide) lo (.slice a N c) N _ (by go_simp) hm1 H 0 1 _ rfl (by go_simp) hnews h1c AN.out.1 AN.out.2 ?_; intro g cap w2 hgot; have e4 := (hk2 _ _ _ _ hgot).1; have f4 := (hk2 _ _ _ _ hgot).2)
  all_goals
    go_wp2_with fail
    go_end0
    have ae := A.out
    rw [← ae.2.2.2.1] at hgot
    have k2 := ae.1.cells.got hgot (by decide)
    refine ⟨rfl, _, ⟨k2.set 4 _, (ae.1.lines.got hgot (by decide)).set k2 (by decide), ?_, ae.2.2.1⟩, (ae.2.1.trans (hgot.chg (by decide))).set k2 ae.2.2.1 (by decide)⟩
    have how := hgot.ow
    rw [← mc_append] at how
    rw [List.length_append, ae.2.2.2.2]
    exact how.set k2 (by decide)
end
end Go.Proofs.Ytmlkdpoignimaaa
