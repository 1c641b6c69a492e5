/-
  What the laws' first look comes to: the document's example; HeaderNobody's walk.
-/
import Derived.Test.YtmlkdpoignimaaaFeq
import Derived.Lib.SlBytesConst
namespace Go.Proofs.Ytmlkdpoignimaaa
open Go.RowKit
set_option linter.unusedVariables false
def exA : List Nat := [65, 58, 32, 49, 13, 10, 32, 50, 13, 10, 98, 58, 10, 10, 120]
def exF : List Fd := [([65], [49, 32, 50]), ([98], [])]
theorem exA_rn : rn 99 0 [] [] exA = ⟨[([65], [32, 49, 32, 50]), ([98], [])], 0, 13⟩ := by rfl
theorem exA_told : told [([65], [32, 49, 32, 50]), ([98], [])] = exF := by rfl
theorem exF_gt : gt exF [97] = ([49, 32, 50], true) := by decide
theorem exF_oct : OctF exF := by unfold OctF exF Oct; decide
theorem lies_new (w : World) (H : Nat) (hH : w.heap.size = H) (l : List Nat) (fr : Nat × Nat) : Lies (w.alloc (.cells (ob l).toArray 5 fr)) (some ⟨H, 0, none⟩) l :=
  Or.inr ⟨H, 0, rfl, fun i x hx => by
    rw [Nat.zero_add, ← hH, World.cell?_alloc_mark]
    simp [ob_get, hx]⟩
set_option maxRecDepth 20000 in
set_option maxHeartbeats 1000000 in
theorem awake_c (w : World) : Calls Try.prog 10 #[] w fun e w' => e = .returned (.bool true) ∧ Below w.heap.size w w' := by
  obtain ⟨B, hB⟩ : ∃ B, w.heap.size = B := ⟨_, rfl⟩
  obtain ⟨w1, hw1⟩ : ∃ w1, w1 = w.alloc (.cells (ob exA).toArray 5 (15, 16)) := ⟨_, rfl⟩
  have b1 : Below B w w1 := by rw [hw1, ← hB]; exact (Below.refl _ w).alloc (Nat.le_refl _) _
  have hl : Lies w1 (some ⟨B, 0, none⟩) exA := by rw [hw1]; exact lies_new w B hB exA _
  have hcv : (convert 22 22 (.slice (some ⟨B, 0, none⟩) 15 15)).run Try.prog (w.alloc (.cells #[.int .u8 65, .int .u8 58, .int .u8 32, .int .u8 49, .int .u8 13, .int .u8 10, .int .u8 32, .int .u8 50, .int .u8 13, .int .u8 10, .int .u8 98, .int .u8 58, .int .u8 10, .int .u8 10, .int .u8 120] 5)) = .ok (.slice (some ⟨B, 0, none⟩) 15 15) w1 := by
    rw [hw1, ← hB]
    exact Lib.run_convert_bytes_const w 22 5 _ 15 15 Try.underlying22 Try.underlying5
  have hwh := whole_c w1 (some ⟨B, 0, none⟩) exA 15 15 99 hl rfl (by decide) (by unfold Oct exA; decide) (by decide) (by decide)
  have hs1 : B ≤ w1.heap.size := by have := b1.size; omega
  unfold WhTo at hwh
  rw [exA_rn] at hwh
  have A1 : Aside (Below B w w1 ∧ B ≤ w1.heap.size) := ⟨b1, hs1⟩
  rw [hB]
  clear b1 hl hs1 hw1
  go_enter Try.func10, Try.ntmps10
  go_upto_region 2 with (go_at_call 9; refine hwh.mono ?_; rintro e2 w2 ⟨v2, he, hfl2, hb2⟩; obtain rfl := (show e2 = .returned (.tuple #[v2, .int .i64 14, .int .i64 0, .int .i64 0]) from he))
  have hfl : FL w2 v2 exF := hfl2
  have hget := get_c w2 v2 exF [97] hfl exF_oct (by unfold Oct; decide) (by decide) (by unfold exF; decide)
  rw [exF_gt] at hget
  have hge2 : Calls Try.prog 18 #[v2, .string ⟨#[97]⟩] w2 fun e w' => e = .returned (.tuple #[.string ⟨#[49, 32, 50]⟩, .bool true]) ∧ Below w2.heap.size w2 w' := hget
  have hsh : ∃ a2 c2, v2 = .slice a2 2 c2 := by obtain ⟨a2, c2, e, _⟩ := hfl; exact ⟨a2, c2, e⟩
  obtain ⟨a2, c2, hv2⟩ := hsh
  subst hv2
  have a1 := A1.out
  have A2 : Aside (Below B w w2 ∧ B ≤ w2.heap.size ∧ FL w2 (.slice a2 2 c2) exF) := ⟨a1.1.trans (hb2.mono a1.2), by have := hb2.size; omega, hfl⟩
  clear hfl2 hb2 hwh hget hfl a1 hcv
  go_upto_region 3 with (go_at_call 18; refine hge2.mono ?_; rintro e3 w3 ⟨rfl, hb3⟩)
  obtain ⟨H, hH⟩ : ∃ H, w3.heap.size = H := ⟨_, rfl⟩
  obtain ⟨w4, hw4⟩ : ∃ w4, w4 = w3.alloc (.cells #[.string ⟨#[65]⟩, .string ⟨#[49, 32, 50]⟩, .string ⟨#[98]⟩, .string ⟨#[]⟩] 43) := ⟨_, rfl⟩
  have b4 : Below w3.heap.size w3 w4 := by rw [hw4]; exact (Below.refl _ w3).alloc (Nat.le_refl _) _
  have k4 : Cells w4 H (fc exF).toArray 43 := by rw [hw4, ← hH]; exact Cells.new w3 _ 43
  have a2' := A2.out
  have hfe := feq_c w4 (.slice a2 2 c2) (.slice (some ⟨H, 0, none⟩) 2 2) exF exF ((a2'.2.2.below hb3).below b4) (FL.cells k4 2) exF_oct exF_oct (by decide)
  rw [decide_eq_true rfl] at hfe
  have A4 : Aside (Below B w w4) := (a2'.1.trans (hb3.mono a2'.2.1)).trans (b4.mono (by have := hb3.size; have := a2'.2.1; omega))
  clear b4 k4 a2' hb3 hge2
  go_wp2_with (go_at_call 12; rw [← hw4]; refine hfe.mono ?_; rintro e5 w5 ⟨rfl, n5, hw5⟩; subst hw5)
  first | go_ret | go_ret2
  exact ⟨rfl, by rw [← hw4]; exact Below.drewN2 A4.out n5⟩
end Go.Proofs.Ytmlkdpoignimaaa
