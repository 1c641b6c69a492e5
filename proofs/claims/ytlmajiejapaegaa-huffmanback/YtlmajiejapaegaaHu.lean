/-
  What is asked of the program's functions: a list of contracts, over a table's form that is the program's own; and what the law's first look comes to by them.
-/
import Derived.Test.YtlmajiejapaegaaRRev
namespace Go.Proofs.Ytlmajiejapaegaa
open Go.RowKit
set_option linter.unusedVariables false
/-- Of all blocks that are there M alone may have turned. -/
structure But (M : Nat) (w w' : World) : Prop where
  os : w'.os = w.os
  tape : w'.tape = w.tape
  output : w'.output = w.output
  size : w.heap.size ≤ w'.heap.size
  block : ∀ k, k < w.heap.size → k ≠ M → w'.heap[k]? = w.heap[k]?
/-- The program keeps its contracts; PT: its table, in blocks from lo to hi. -/
structure Hu (PT : World → Nat → Nat → Nat → List Nat → Prop) : Prop where
  keep : ∀ {w u : World} {lo hi T : Nat} {ls : List Nat}, PT w lo hi T ls → (∀ k, lo ≤ k → k < hi → u.heap[k]? = w.heap[k]?) → PT u lo hi T ls
  kraft : ∀ (a : Option Addr) (zs : List Int) (L C r : Nat) (ok : Bool) (w : World), Lens w a zs → zs.length = L → L ≤ C → L < 140737488355328 → ((Okl zs ∧ r = kr (lens zs) ∧ ok = true) ∨ (¬ Okl zs ∧ r = 0 ∧ ok = false)) →
    Calls Try.prog 8 #[.slice a L C] w fun e w' => e = .returned (.tuple #[.int .i64 (r : Int), .bool ok]) ∧ Below w.heap.size w w'
  new_err : ∀ (a : Option Addr) (zs : List Int) (L C e0 : Nat) (w : World), Lens w a zs → zs.length = L → L ≤ C → L < 140737488355328 → nerr zs = e0 → e0 ≠ 0 →
    Calls Try.prog 10 #[.slice a L C] w fun e w' => e = .returned (.tuple #[.pointer none, .int .i64 (e0 : Int)]) ∧ Below w.heap.size w w'
  new_ok : ∀ (a : Option Addr) (zs : List Int) (L C : Nat) (w : World), Lens w a zs → zs.length = L → L ≤ C → L < 140737488355328 → nerr zs = 0 →
    Calls Try.prog 10 #[.slice a L C] w fun e w' => ∃ T, e = .returned (.tuple #[.pointer (some ⟨T, 0, none⟩), .int .i64 0]) ∧ PT w' w.heap.size w'.heap.size T (lens zs) ∧ Below w.heap.size w w'
  symbols_nil : ∀ (w : World), Calls Try.prog 12 #[.pointer none] w fun e w' => e = .returned (.int .i64 0) ∧ Below w.heap.size w w'
  symbols : ∀ (lo hi T L : Nat) (ls : List Nat) (w : World), PT w lo hi T ls → ls.length = L → Calls Try.prog 12 #[.pointer (some ⟨T, 0, none⟩)] w fun e w' => e = .returned (.int .i64 (L : Int)) ∧ Below w.heap.size w w'
  code_nil : ∀ (s : Int) (w : World), Calls Try.prog 14 #[.pointer none, .int .i64 s] w fun e w' => e = .returned (.tuple #[.int .u32 0, .int .i64 0, .bool false]) ∧ Below w.heap.size w w'
  code_no : ∀ (lo hi T : Nat) (ls : List Nat) (s : Int) (w : World), PT w lo hi T ls → (¬ ∃ (i n : Nat), s = (i : Int) ∧ ls[i]? = some n ∧ 0 < n) →
    Calls Try.prog 14 #[.pointer (some ⟨T, 0, none⟩), .int .i64 s] w fun e w' => e = .returned (.tuple #[.int .u32 0, .int .i64 0, .bool false]) ∧ Below w.heap.size w w'
  code_yes : ∀ (lo hi T : Nat) (ls : List Nat) (i n c : Nat) (w : World), PT w lo hi T ls → ls[i]? = some n → 0 < n → code ls i n = c →
    Calls Try.prog 14 #[.pointer (some ⟨T, 0, none⟩), .int .i64 (i : Int)] w fun e w' => e = .returned (.tuple #[.int .u32 (c : Int), .int .i64 (n : Int), .bool true]) ∧ Below w.heap.size w w'
  read : ∀ (lo hi T : Nat) (ls : List Nat) (b s how k : Nat) (l : List Bool) (w : World), PT w lo hi T ls → part ls 15 ≤ 32768 → (∀ x ∈ ls, x ≤ 15) → Br w b (nm l) l.length → Told ls l s how k →
    Calls Try.prog 17 #[.pointer (some ⟨T, 0, none⟩), .pointer (some ⟨b, 0, none⟩)] w fun e w' => e = .returned (.tuple #[.int .i64 (s : Int), .int .i64 (how : Int)]) ∧ Br w' b (nm (l.drop k)) (l.drop k).length ∧ But b w w'
  read_none : ∀ (lo hi T : Nat) (ls : List Nat) (w : World), PT w lo hi T ls → Calls Try.prog 17 #[.pointer (some ⟨T, 0, none⟩), .pointer none] w fun e w' => e = .returned (.tuple #[.int .i64 0, .int .i64 2]) ∧ Below w.heap.size w w'
theorem Hu.below {PT : World → Nat → Nat → Nat → List Nat → Prop} (hu : Hu PT) {w u : World} {lo hi T : Nat} {ls : List Nat} (h : PT w lo hi T ls) (k : Below w.heap.size w u) (hh : hi ≤ w.heap.size) : PT u lo hi T ls := hu.keep h fun j _ hj => k.block j (by omega)
set_option maxRecDepth 100000 in
set_option maxHeartbeats 2000000 in
theorem awake_c {PT : World → Nat → Nat → Nat → List Nat → Prop} (hu : Hu PT) (w : World) : Calls Try.prog 13 #[] w fun e w' => e = .returned (.bool true) ∧ Below w.heap.size w w' := by
  obtain ⟨w1, hw1⟩ : ∃ w1, w1 = w.alloc (.cells #[.int .i64 2, .int .i64 1, .int .i64 3, .int .i64 3] 3) := ⟨_, rfl⟩
  have b1 : Below w.heap.size w w1 := by rw [hw1]; exact (Below.refl _ w).alloc (Nat.le_refl _) _
  have hl : Lens w1 (some ⟨w.heap.size, 0, none⟩) [2, 1, 3, 3] := Or.inr ⟨w.heap.size, 0, rfl, fun i z hz => by
    rw [Nat.zero_add, hw1, (Cells.new w _ 3).cell]
    match i, hz with
    | 0, hz => cases hz; rfl
    | 1, hz => cases hz; rfl
    | 2, hz => cases hz; rfl
    | 3, hz => cases hz; rfl⟩
  have hnew := hu.new_ok (some ⟨w.heap.size, 0, none⟩) [2, 1, 3, 3] 4 4 w1 hl rfl (by decide) (by decide) (by decide +kernel)
  have A1 : Aside (Below w.heap.size w w1) := b1
  rw [hw1] at hnew
  clear b1 hl
  go_enter Try.func13, Try.ntmps13
  go_upto_region 2 with (go_at_call 10; refine hnew.mono ?_; rintro e2 w2 ⟨T, rfl, hp2, hb2⟩)
  rw [← hw1] at hp2 hb2
  have hcode := hu.code_yes _ _ T _ 2 3 6 w2 hp2 (by decide) (by decide) (by decide +kernel)
  have A2 : Aside (PT w2 w1.heap.size w2.heap.size T (lens [2, 1, 3, 3]) ∧ Below w.heap.size w w2) := ⟨hp2, A1.out.trans (hb2.mono A1.out.size)⟩
  clear hnew hp2 hb2 hw1
  go_wp2_with (first
    | (go_at_call 14; refine hcode.mono ?_; rintro e3 w3 ⟨rfl, hb3⟩
       have hsym := hu.symbols _ _ T 4 _ w3 (hu.below A2.out.1 hb3 (Nat.le_refl _)) (by decide)
       have A3 : Aside (Below w.heap.size w w3) := A2.out.2.trans (hb3.mono A2.out.2.size)
       clear hb3)
    | (go_at_call 12; refine hsym.mono ?_; rintro e4 w4 ⟨rfl, hb4⟩))
  go_ret
  exact ⟨rfl, A3.out.trans (hb4.mono A3.out.size)⟩
end Go.Proofs.Ytlmajiejapaegaa
