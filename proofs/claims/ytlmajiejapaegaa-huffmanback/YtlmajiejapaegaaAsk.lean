/-
  What the program's Symbols and Code come to.
-/
import Derived.Test.YtlmajiejapaegaaNew
import Derived.OwnWalk
namespace Go.Proofs.Ytlmajiejapaegaa
open Go.RowKit
set_option linter.unusedVariables false
theorem symbols_nil (w : World) : Calls Try.prog 12 #[.pointer none] w fun e w' => e = .returned (.int .i64 0) ∧ w = w' := by
  go_enter Try.func12, Try.ntmps12
  go_wp2_with fail
  first | go_ret | go_ret2
  exact ⟨rfl, rfl⟩
theorem symbols_c (lo hi T L : Nat) (ls : List Nat) (w : World) (h : PT w lo hi T ls) (hL : ls.length = L) : Calls Try.prog 12 #[.pointer (some ⟨T, 0, none⟩)] w fun e w' => e = .returned (.int .i64 (L : Int)) ∧ w = w' := by
  obtain ⟨g, M, k, ht, _⟩ := h
  have cT0 := ht.t.cell 0
  simp only [List.getElem?_toArray, List.getElem?_cons_zero] at cT0
  rw [hL] at cT0
  go_enter Try.func12, Try.ntmps12
  go_wp2_with fail
  first | go_ret | go_ret2
  exact ⟨rfl, rfl⟩
set_option maxRecDepth 100000 in
set_option maxHeartbeats 2000000 in
theorem code_nil (s : Int) (w : World) : Calls Try.prog 14 #[.pointer none, .int .i64 s] w fun e w' => e = .returned (.tuple #[.int .u32 0, .int .i64 0, .bool false]) ∧ w = w' := by
  have hsym := symbols_nil w
  by_cases hs : s < 0
  · go_enter Try.func14, Try.ntmps14
    go_wp2_with fail
    go_ret3
    exact ⟨rfl, rfl⟩
  · have hs2 : (0 : Int) ≤ s := by omega
    go_enter Try.func14, Try.ntmps14
    go_wp2_with (go_at_call 12; refine hsym.mono ?_; rintro e2 w2 ⟨rfl, rfl⟩)
    go_ret3
    exact ⟨rfl, rfl⟩
set_option maxRecDepth 100000 in
set_option maxHeartbeats 2000000 in
theorem code_out (lo hi T : Nat) (ls : List Nat) (s : Int) (w : World) (h : PT w lo hi T ls) (hs : s < 0 ∨ (ls.length : Int) ≤ s) :
    Calls Try.prog 14 #[.pointer (some ⟨T, 0, none⟩), .int .i64 s] w fun e w' => e = .returned (.tuple #[.int .u32 0, .int .i64 0, .bool false]) ∧ w = w' := by
  have hsym := symbols_c lo hi T _ ls w h rfl
  obtain ⟨L, hL⟩ : ∃ L, ls.length = L := ⟨_, rfl⟩
  rw [hL] at hsym hs
  by_cases hs0 : s < 0
  · clear hs
    go_enter Try.func14, Try.ntmps14
    go_wp2_with fail
    go_ret3
    exact ⟨rfl, rfl⟩
  · have hs2 : (L : Int) ≤ s := by omega
    clear hs
    go_enter Try.func14, Try.ntmps14
    go_wp2_with (go_at_call 12; refine hsym.mono ?_; rintro e2 w2 ⟨rfl, rfl⟩)
    go_ret3
    exact ⟨rfl, rfl⟩
set_option maxRecDepth 100000 in
set_option maxHeartbeats 2000000 in
theorem code_in (lo hi T i n c : Nat) (ls : List Nat) (w : World) (h : PT w lo hi T ls) (hi : ls[i]? = some n) (hn : n < 4294967296) (hc : c < 4294967296) (hcc : 0 < n ∧ code ls i n = c ∨ n = 0 ∧ c = 0) :
    Calls Try.prog 14 #[.pointer (some ⟨T, 0, none⟩), .int .i64 (i : Int)] w fun e w' => e = .returned (.tuple #[.int .u32 (c : Int), .int .i64 (n : Int), .bool (decide (0 < n))]) ∧ Below w.heap.size w w' := by
  have hsym := symbols_c lo _ T _ ls w h rfl
  obtain ⟨g, M, k, ht, _⟩ := h
  obtain ⟨cs, c1, c2, c3⟩ := ht.c
  have hil := lt_of_at hi
  have cT0 := ht.t.cell 0
  simp only [List.getElem?_toArray, List.getElem?_cons_zero] at cT0
  have hg : cs[i * 2]? = some (.int .u32 (n : Int)) ∧ cs[i * 2 + 1]? = some (.int .u32 (c : Int)) := by
    rcases hcc with ⟨h1, h2⟩ | ⟨h1, h2⟩
    · have := (c3 i n hi).1 ⟨hil, h1⟩
      rw [h2] at this; exact this
    · have := (c3 i n hi).2 (by omega)
      rw [h1, h2]; exact this
  have cg0 := (c1.cell (i * 2)).trans hg.1
  have cg1 := (c1.cell (i * 2 + 1)).trans hg.2
  obtain ⟨L, hL⟩ : ∃ L, ls.length = L := ⟨_, rfl⟩
  rw [hL] at hsym cT0 hil
  have hiL : (i : Int) < (L : Int) := by omega
  clear hcc hg ht c1 c2 c3 hi hil
  go_enter Try.func14, Try.ntmps14
  go_upto_region 3 with (go_at_call 12; refine hsym.mono ?_; rintro e2 w2 ⟨rfl, rfl⟩)
  go_upto_region 4 with fail
  obtain ⟨w1, hw1⟩ : ∃ w1, w1 = w.alloc (.cells #[.int .u32 (n : Int), .int .u32 (c : Int)] 70) := ⟨_, rfl⟩
  have x1 : Cells w1 w.heap.size #[.int .u32 (n : Int), .int .u32 (c : Int)] 70 := by rw [hw1]; exact Cells.new w _ 70
  have b1 : Aside (Below w.heap.size w w1) := by rw [hw1]; exact (Below.refl _ w).alloc (Nat.le_refl _) _
  have cX0 := x1.cell 0
  have cX1 := x1.cell 1
  simp only [List.getElem?_toArray, List.getElem?_cons_zero, List.getElem?_cons_succ] at cX0 cX1
  rw [← hw1]
  clear hw1 x1 cg0 cg1 cT0 hsym
  obtain ⟨X, hX⟩ : ∃ X, w.heap.size = X := ⟨_, rfl⟩
  have AX : Aside (w.heap.size = X) := hX
  rw [hX] at cX0 cX1 ⊢
  clear hX
  go_quiet (fail)
  go_wp2_with fail
  go_ret3
  exact ⟨by simp, ⟨b1.out.os, b1.out.tape, b1.out.output, b1.out.size, b1.out.block⟩⟩
theorem code_no {lo hi T : Nat} {ls : List Nat} {s : Int} {w : World} (h : PT w lo hi T ls) (hno : ¬ ∃ (i n : Nat), s = (i : Int) ∧ ls[i]? = some n ∧ 0 < n) :
    Calls Try.prog 14 #[.pointer (some ⟨T, 0, none⟩), .int .i64 s] w fun e w' => e = .returned (.tuple #[.int .u32 0, .int .i64 0, .bool false]) ∧ Below w.heap.size w w' := by
  by_cases hs : s < 0 ∨ (ls.length : Int) ≤ s
  · exact (code_out lo hi T ls s w h hs).mono fun e w' h => ⟨h.1, by rw [← h.2]; exact Below.refl _ _⟩
  · obtain ⟨i, rfl⟩ : ∃ i : Nat, s = (i : Int) := ⟨s.toNat, by omega⟩
    obtain ⟨n, hn⟩ : ∃ n, ls[i]? = some n := ⟨_, List.getElem?_eq_getElem (by omega)⟩
    have hn0 : n = 0 := by
      apply Decidable.byContradiction
      intro hne
      exact hno ⟨i, n, rfl, hn, by omega⟩
    subst hn0
    exact code_in lo hi T i 0 0 ls w h hn (by decide) (by decide) (Or.inr ⟨rfl, rfl⟩)
theorem code_yes {lo hi T i n c : Nat} {ls : List Nat} {w : World} (h : PT w lo hi T ls) (hk : part ls 15 ≤ 32768) (h15 : ∀ x ∈ ls, x ≤ 15) (hi : ls[i]? = some n) (h0 : 0 < n) (hc : code ls i n = c) :
    Calls Try.prog 14 #[.pointer (some ⟨T, 0, none⟩), .int .i64 (i : Int)] w fun e w' => e = .returned (.tuple #[.int .u32 (c : Int), .int .i64 (n : Int), .bool true]) ∧ Below w.heap.size w w' := by
  have hn := h15 n (List.mem_of_getElem? hi)
  have hcb : c < 2 ^ n := by rw [← hc]; exact code_fits hk hi h0 hn
  have hcb2 : 2 ^ n ≤ 2 ^ 15 := Nat.pow_le_pow_right (by decide) hn
  have := code_in lo _ T i n c ls w h hi (by omega) (by omega) (Or.inl ⟨h0, hc⟩)
  rw [show decide (0 < n) = true from decide_eq_true h0] at this
  exact this
end Go.Proofs.Ytlmajiejapaegaa
