/-
  What the law's awake comes to.
-/
import Derived.Test.YtdndlegfalmkaaaTxc
import Derived.Test.YtdndlegfalmkaaaOty
namespace Go.Proofs.Ytdndlegfalmkaaa
open Go.RowKit
set_option linter.unusedVariables false
def aw0 : List Nat := [84, 101, 120, 116, 47, 72, 84, 77, 76, 32, 40, 97, 41, 32, 59, 32, 88, 61, 34, 49, 32, 50, 34]
def aw1 : Ty := ([116, 101, 120, 116], [104, 116, 109, 108], [([120], [49, 32, 50])])
theorem aw_ty : ty aw0 = some aw1 := by decide +kernel
theorem aw_tx : tx aw1 = some [116, 101, 120, 116, 47, 104, 116, 109, 108, 59, 32, 120, 61, 34, 49, 32, 50, 34] := by decide +kernel
theorem aw_pr : pr aw1.2.2 [120] = ([49, 32, 50], true) := by decide +kernel
theorem aw_ec : ec [32, 66, 65, 83, 69, 54, 52] = 1 := by decide +kernel
theorem aw_oct0 : Oct aw0 := by unfold Oct; decide +kernel
theorem aw_oct1 : OctF aw1.2.2 := by
  intro f hf
  simp [aw1] at hf
  rw [hf]
  exact ⟨by unfold Oct; decide, by unfold Oct; decide⟩
set_option maxHeartbeats 2000000 in
theorem awake_c (w : World) : Calls Try.prog 16 #[] w fun e w' => e = .returned (.bool true) ∧ Below w.heap.size w w' := by
  have h1 : Calls Try.prog 9 #[.string ⟨#[84, 101, 120, 116, 47, 72, 84, 77, 76, 32, 40, 97, 41, 32, 59, 32, 88, 61, 34, 49, 32, 50, 34]⟩] w fun e w' => ∃ va n c, e = .returned (.tuple #[.agg #[.string (st [116, 101, 120, 116]), .string (st [104, 116, 109, 108]), .slice va n c], .bool true]) ∧ FL w' (.slice va n c) aw1.2.2 ∧ Below w.heap.size w w' := by
    refine (type_ok aw0 aw_oct0 (by decide) w aw1 aw_ty).mono ?_
    rintro e w' ⟨v, n, rfl, how, hb⟩
    obtain ⟨va, c, hv, _⟩ := how.shape
    subst hv
    exact ⟨va, n, c, rfl, how.fl, hb⟩
  have h2 : ∀ W va n c, FL W (.slice va n c) aw1.2.2 → Calls Try.prog 17 #[.agg #[.string (st [116, 101, 120, 116]), .string (st [104, 116, 109, 108]), .slice va n c]] W fun e w' => e = .returned (.tuple #[.string (st [116, 101, 120, 116, 47, 104, 116, 109, 108, 59, 32, 120, 61, 34, 49, 32, 50, 34]), .bool true]) ∧ Below W.heap.size W w' := fun W va n c hW => by
    have h := text_c W [116, 101, 120, 116] [104, 116, 109, 108] va n c aw1.2.2 hW aw_oct1 (by unfold Oct; decide) (by unfold Oct; decide) (by decide)
    have e : (([116, 101, 120, 116], [104, 116, 109, 108], aw1.2.2) : Ty) = aw1 := rfl
    rw [e, aw_tx] at h
    exact h
  have h3 : ∀ W va n c, FL W (.slice va n c) aw1.2.2 → Calls Try.prog 19 #[.agg #[.string (st [116, 101, 120, 116]), .string (st [104, 116, 109, 108]), .slice va n c], .string ⟨#[120]⟩] W fun e w' => e = .returned (.tuple #[.string (st [49, 32, 50]), .bool true]) ∧ Below W.heap.size W w' := fun W va n c hW => by
    have hn := hW.len
    have h := par_c W (st [116, 101, 120, 116]) (st [104, 116, 109, 108]) va n c aw1.2.2 [120] hW aw_oct1 (by unfold Oct; decide) (by decide) (by rw [← hn]; decide)
    rw [aw_pr] at h
    exact h
  have h4 : ∀ W, Calls Try.prog 22 #[.string ⟨#[32, 66, 65, 83, 69, 54, 52]⟩] W fun e w' => e = .returned (.int .i64 1) ∧ Below W.heap.size W w' := fun W => by
    have h := enc_c [32, 66, 65, 83, 69, 54, 52] (by unfold Oct; decide) (by decide) W
    rw [aw_ec] at h
    exact h
  have h5 : ∀ W, Calls Try.prog 12 #[.string ⟨#[97]⟩] W fun e w' => e = .returned (.bool true) ∧ W = w' := fun W => (token_c [97] (by unfold Oct; decide) (by decide) W).mono fun e w' h => ⟨h.1, h.2.symm⟩
  have h6 : ∀ W, Calls Try.prog 14 #[.string ⟨#[65]⟩] W fun e w' => e = .returned (.string (st [97])) ∧ Below W.heap.size W w' := fun W => lower_c [65] (by unfold Oct; decide) (by decide) W
  have q1 : ((st [116, 101, 120, 116, 47, 104, 116, 109, 108, 59, 32, 120, 61, 34, 49, 32, 50, 34]).toList == [116, 101, 120, 116, 47, 104, 116, 109, 108, 59, 32, 120, 61, 34, 49, 32, 50, 34]) = true := by
    rw [st_lit (by unfold Oct; decide)]; decide
  have q2 : ((st [49, 32, 50]).toList == [49, 32, 50]) = true := by rw [st_lit (by unfold Oct; decide)]; decide
  have q3 : ((st [97]).toList == [97]) = true := by rw [st_lit (by unfold Oct; decide)]; decide
  obtain ⟨A, hA⟩ : ∃ A, st [116, 101, 120, 116, 47, 104, 116, 109, 108, 59, 32, 120, 61, 34, 49, 32, 50, 34] = A := ⟨_, rfl⟩
  obtain ⟨B, hB⟩ : ∃ B, st [49, 32, 50] = B := ⟨_, rfl⟩
  obtain ⟨C, hC⟩ : ∃ C, st [97] = C := ⟨_, rfl⟩
  obtain ⟨M, hM⟩ : ∃ M, st [116, 101, 120, 116] = M := ⟨_, rfl⟩
  obtain ⟨S, hS⟩ : ∃ S, st [104, 116, 109, 108] = S := ⟨_, rfl⟩
  rw [hA] at q1
  rw [hB] at q2
  rw [hC] at q3
  simp only [hA, hM, hS] at h2
  simp only [hM, hS] at h1
  simp only [hB, hM, hS] at h3
  simp only [hC] at h6
  clear hA hB hC hM hS
  go_enter Try.func16, Try.ntmps16
  go_upto_region 2 with (go_at_call 9; (with_reducible refine h1.mono ?_); rintro e1 w1 ⟨va, n, c, rfl, hf1, hb1⟩)
  obtain ⟨H, hH⟩ : ∃ H, w1.heap.size = H := ⟨_, rfl⟩
  obtain ⟨w2, hw2⟩ : ∃ w2, w2 = w1.alloc (.cells #[.string M, .string S, .slice va n c] 24) := ⟨_, rfl⟩
  have b2 : Below w1.heap.size w1 w2 := by rw [hw2]; exact (Below.refl _ w1).alloc (Nat.le_refl _) _
  have k2 : Cells w2 H #[.string M, .string S, .slice va n c] 24 := by rw [hw2, ← hH]; exact Cells.new w1 _ 24
  have f2 := hf1.below b2
  have hcs : ∀ W, Below w2.heap.size w2 W → W.cell? ⟨H, 0, none⟩ = some (.string M) ∧ W.cell? ⟨H, 1, none⟩ = some (.string S) ∧ W.cell? ⟨H, 2, none⟩ = some (.slice va n c) := fun W hW => by
    have k := k2.below hW k2.lt
    exact ⟨by rw [k.cell]; rfl, by rw [k.cell]; rfl, by rw [k.cell]; rfl⟩
  obtain ⟨x0, x1, x2⟩ := hcs w2 (Below.refl _ _)
  replace h2 := h2 w2 va n c f2
  replace h3 := fun W (hW : Below w2.heap.size w2 W) => h3 W va n c (f2.below hW)
  have A2 : Aside (Below w.heap.size w w2 ∧ w.heap.size ≤ w2.heap.size) := ⟨hb1.trans (b2.mono hb1.size), Nat.le_trans hb1.size b2.size⟩
  (try simp only [hH])
  rw [← hw2]
  clear hw2 hH b2 k2 f2 hf1 hb1 h1
  go_wp2_with (first
    | (go_at_call 17; (with_reducible refine h2.mono ?_); rintro e2 w3 ⟨rfl, hb3⟩; obtain ⟨y0, y1, y2⟩ := hcs w3 hb3)
    | (go_at_call 19; (with_reducible refine (h3 _ hb3).mono ?_); rintro e3 w4 ⟨rfl, hb4⟩)
    | (go_at_call 22; (with_reducible refine (h4 _).mono ?_); rintro e4 w5 ⟨rfl, hb5⟩)
    | (go_at_call 12; (with_reducible refine (h5 _).mono ?_); rintro e5 w6 ⟨rfl, rfl⟩)
    | (go_at_call 14; (with_reducible refine (h6 _).mono ?_); rintro e6 w7 ⟨rfl, hb7⟩))
  go_ret
  have s3 := hb3.size
  have s4 := hb4.size
  have s5 := hb5.size
  obtain ⟨a2, b2⟩ := A2.out
  refine ⟨rfl, (((a2.trans (hb3.mono b2)).trans (hb4.mono (by omega))).trans (hb5.mono (by omega))).trans (hb7.mono (by omega))⟩
end Go.Proofs.Ytdndlegfalmkaaa
