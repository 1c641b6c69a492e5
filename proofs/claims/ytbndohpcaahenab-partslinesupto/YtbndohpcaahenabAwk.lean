/-
  What awake comes to.
-/
import Derived.Test.YtbndohpcaahenabWho
import Derived.Lib.SlBytesConst
namespace Go.Proofs.Ytbndohpcaahenab
open Go.RowKit
set_option linter.unusedVariables false
def awx : List Nat := [120, 13, 10, 45, 45, 98, 13, 10, 111, 110, 101, 13, 10, 45, 45, 98, 32, 10, 10, 116, 119, 111, 10, 45, 45, 98, 45, 45]
theorem awx_parts : po [] (tot (dd [98]) s0 awx) = [[111, 110, 101], [10, 116, 119, 111]] := by decide +kernel
theorem awx_closed : cv (dd [98]) s0 awx = true := by decide +kernel
theorem vd_b : vd [98] = true := by decide +kernel
theorem Ll.at {w : World} {lo : Nat} {a : Option Addr} {n c : Nat} {ls : List (List Nat)} (h : Ll w lo (.slice a n c) ls) (hn : n = ls.length) {i : Nat} {l : List Nat} (hl : ls[i]? = some l) : ∃ g a1 c1, a = some ⟨g, 0, none⟩ ∧ w.cell? ⟨g, i, none⟩ = some (.slice a1 l.length c1) ∧ Lies w a1 l ∧ l.length ≤ c1 ∧ (a1 = none → l.length = 0 ∧ c1 = 0) := by
  obtain ⟨vs, h1, h2, h3, h4⟩ := h.ex
  have hi := (List.getElem?_eq_some_iff.1 hl).1
  obtain ⟨v, hv⟩ : ∃ v, vs[i]? = some v := ⟨_, List.getElem?_eq_getElem (by omega)⟩
  obtain ⟨a9, c9, h9, _, h10 | ⟨g, h10, _, _, h11, _⟩, _⟩ := h2.shape
  · omega
  cases h9
  obtain ⟨a1, c1, e1, e2, e3, e4, e5⟩ := (h3 i v l hv hl).lies
  subst e1
  exact ⟨g, a1, c1, h10, h11 i _ hv, e4, e3, e5⟩
/-- A new row of bytes, whatever of it is marked. -/
theorem lies_new (w : World) (B : Nat) (hB : w.heap.size = B) (l : List Nat) (fr : Nat × Nat) : Lies (w.alloc (.cells (ob l).toArray 5 fr)) (some ⟨B, 0, none⟩) l := Or.inr ⟨B, 0, rfl, fun i x hx => by
  have : (w.alloc (.cells (ob l).toArray 5 fr)).heap[B]? = some (.cells (ob l).toArray 5 fr) := by
    show (w.heap.push _)[_]? = _
    rw [← hB]
    simp
  simp [World.cell?, this, ob_get, hx]⟩
set_option maxHeartbeats 2000000 in
set_option maxRecDepth 20000 in
theorem awake_c (w : World) : Calls Try.prog 5 #[] w fun e w' => e = .returned (.bool true) ∧ Below w.heap.size w w' := by
  obtain ⟨H, hH⟩ : ∃ H, w.heap.size = H := ⟨_, rfl⟩
  obtain ⟨w1, hw1⟩ : ∃ w1, w1 = w.alloc (.cells (ob awx).toArray 5 (28, 29)) := ⟨_, rfl⟩
  have b1 : Below H w w1 := by rw [hw1, ← hH]; exact (Below.refl _ w).alloc (Nat.le_refl _) _
  have hz1 : w1.heap.size = H + 1 := by rw [hw1, ← hH]; simp
  have hlies : Lies w1 (some ⟨H, 0, none⟩) awx := by rw [hw1]; exact lies_new w H hH awx _
  have hcv : (convert 23 23 (.slice (some ⟨H, 0, none⟩) 28 28)).run Try.prog (w.alloc (.cells #[.int .u8 120, .int .u8 13, .int .u8 10, .int .u8 45, .int .u8 45, .int .u8 98, .int .u8 13, .int .u8 10, .int .u8 111, .int .u8 110, .int .u8 101, .int .u8 13, .int .u8 10, .int .u8 45, .int .u8 45, .int .u8 98, .int .u8 32, .int .u8 10, .int .u8 10, .int .u8 116, .int .u8 119, .int .u8 111, .int .u8 10, .int .u8 45, .int .u8 45, .int .u8 98, .int .u8 45, .int .u8 45] 5)) = .ok (.slice (some ⟨H, 0, none⟩) 28 28) w1 := by
    rw [hw1, ← hH]
    exact Lib.run_convert_bytes_const w 23 5 _ 28 28 Try.underlying23 Try.underlying5
  have hob : Oct [98] := by intro x hx; simp at hx; omega
  have hwh := whole_c [98] hob vd_b (some ⟨H, 0, none⟩) awx 28 28 rfl (by decide) (show ∀ x ∈ awx, x < 256 by decide) w1 hlies
  rw [awx_parts, awx_closed, hz1] at hwh
  have hsb : st [98] = ⟨#[98]⟩ := rfl
  rw [hsb] at hwh
  rw [hH]
  have A : Aside (Below H w w1) := b1
  clear b1 hz1 hlies hw1
  go_enter Try.func5, Try.ntmps5
  go_upto_region 2 with (go_at_call 6; refine hwh.mono ?_; rintro e2 w2 ⟨a2, n2, c2, rfl, l2, hn2, bel2⟩)
  have hn22 : n2 = 2 := hn2
  subst hn22
  obtain ⟨g, a5, c5, hg, k0, li0, _, _⟩ := l2.at rfl (i := 0) (l := [111, 110, 101]) rfl
  obtain ⟨g', a6, c6, hg', k1, li1, _, _⟩ := l2.at rfl (i := 1) (l := [10, 116, 119, 111]) rfl
  subst hg
  cases hg'
  have h0 : (convert 23 9 (.slice a5 3 c5)).run Try.prog w2 = .ok (.string ⟨#[111, 110, 101]⟩) w2 := conv_st 3 c5 rfl (show ∀ x ∈ [111, 110, 101], x < 256 by decide) li0
  have h1 : (convert 23 9 (.slice a6 4 c6)).run Try.prog w2 = .ok (.string ⟨#[10, 116, 119, 111]⟩) w2 := conv_st 4 c6 rfl (show ∀ x ∈ [10, 116, 119, 111], x < 256 by decide) li1
  have k0' : w2.cell? ⟨g, 0, none⟩ = some (.slice a5 3 c5) := k0
  have k1' : w2.cell? ⟨g, 1, none⟩ = some (.slice a6 4 c6) := k1
  have hvl := valid_c [98] hob (by decide) w2
  rw [vd_b, hsb] at hvl
  have A2 : Aside (Below H w w2) := A.out.trans (bel2.mono (by omega))
  have A3 : Aside (w.heap.size = H ∧ H ≤ w2.heap.size) := ⟨hH, by have := bel2.size; have := A2.out.size; rw [hH] at this; exact this⟩
  clear k0 k1 li0 li1 l2 bel2 hn2 hH hwh hob hsb hcv
  go_wp2_with (go_at_call 8; refine hvl.mono ?_; rintro e3 w3 ⟨rfl, b3⟩)
  first | go_ret | go_ret2
  exact ⟨rfl, A2.out.trans (b3.mono A3.out.2)⟩
end Go.Proofs.Ytbndohpcaahenab
