/-
  What the document's moved and through come to: a move; a row of 32 numbers that says what each bit becomes behind k moves takes a register through k moves.
  Conditions: x is a number of 32 bits.
-/
import Derived.Test.YtopaekcbopoeaaaProd
import Derived.Test.YtopaekcbopoeaaaMem
namespace Go.Proofs.Ytopaekcbopoeaaa
open Go.RowKit
set_option linter.unusedVariables false

theorem moved_c (x : Nat) (hx : x < 4294967296) (w : World) :
    Calls Try.prog 8 #[.int .u32 x] w fun e w' => e = .returned (.int .u32 (mv x : Nat)) ∧ w = w' := by
  have h2 := xpoly (x / 2) (by omega)
  go_enter Try.func8, Try.ntmps8
  rcases Nat.mod_two_eq_zero_or_one x with hm | hm
  · have e : mv x = x / 2 := by unfold mv; rw [if_neg (by omega)]
    have h1 : (x : Int) % 2 = 0 := by omega
    go_wp2
    all_goals go_ret
    all_goals exact ⟨by rw [e]; go_num, rfl⟩
  · have e : mv x = x / 2 ^^^ 3988292384 := by unfold mv; rw [if_pos hm]
    have h1 : (x : Int) % 2 = 1 := by omega
    go_wp2
    all_goals go_ret
    all_goals exact ⟨by rw [e, ← h2]; go_num, rfl⟩
/-- The row: what each bit becomes behind k moves. -/
def rw32 (k : Nat) : Array Value := ((List.range 32).map fun i => Value.int .u32 (mvs k (2 ^ i) : Nat)).toArray
theorem rw32_at (k i : Nat) (h : i < 32) : (rw32 k)[i]? = some (.int .u32 (mvs k (2 ^ i) : Nat)) := by
  unfold rw32
  simp [h]
theorem shr_and (x i : Nat) (hx : x < 4294967296) : bits .and .u32 ((x : Int) / 2 ^ i) 1 = ((x / 2 ^ i % 2 : Nat) : Int) := by
  have e : (x : Int) / 2 ^ i = ((x / 2 ^ i : Nat) : Int) := by push_cast; rfl
  rw [e]
  exact and_one32 _ (Nat.lt_of_le_of_lt (Nat.div_le_self ..) hx)
set_option maxHeartbeats 1000000 in
theorem through_c (k x : Nat) (hx : x < 4294967296) (w : World) :
    Calls Try.prog 9 #[.agg (rw32 k), .int .u32 x] w fun e w' => e = .returned (.int .u32 (mvs k x : Nat)) ∧ Below w.heap.size w w' := by
  obtain ⟨B, hB⟩ : ∃ B, w.heap.size = B := ⟨_, rfl⟩
  have hc := Cells.new w (rw32 k) 29
  have hbe := (Below.refl w.heap.size w).alloc (Nat.le_refl _) (.cells (rw32 k) 29)
  rw [hB] at hc hbe
  rw [hB]
  go_enter Try.func9, Try.ntmps9
  go_wp2_with fail
  obtain ⟨w1, hw1⟩ : ∃ w1, w.alloc (.cells (rw32 k) 29) = w1 := ⟨_, rfl⟩
  rw [hw1] at hc hbe ⊢
  clear hB hw1
  obtain ⟨A, hA⟩ : ∃ A, rw32 k = A := ⟨_, rfl⟩
  rw [hA]
  go_loopg [5, 6] 32 (fun g so si wr => ∃ (i o : Nat), i + g = 32 ∧ si = .int .i64 i ∧ so = .int .u32 o ∧ o = mvs k (x % 2 ^ i) ∧ w1 = wr)
  case atStart => exact ⟨0, 0, rfl, rfl, rfl, by rw [Nat.pow_zero, Nat.mod_one, mvs_zero], rfl⟩
  case round =>
    obtain ⟨i, o, hi, rfl, rfl, ho, rfl⟩ := hrel
    by_cases hl : i < 32
    · have hol : o < 4294967296 := by rw [ho]; exact mvs_lt _ (Nat.lt_of_le_of_lt (Nat.mod_le ..) hx)
      have hpl : 2 ^ i < 4294967296 := Nat.pow_lt_pow_right (a := 2) (n := 32) (m := i) (by decide) hl
      have hml := mvs_lt k hpl
      have hcell : w1.cell? ⟨B, i, none⟩ = some (.int .u32 (mvs k (2 ^ i) : Nat)) := by rw [hc.cell, rw32_at k i hl]
      have hsh := shr_and x i hx
      have hmm := mod_more x i
      obtain ⟨q, hq⟩ : ∃ q, mvs k (2 ^ i) = q := ⟨_, rfl⟩
      rw [hq] at hcell hml
      have AO : Aside (o = mvs k (x % 2 ^ i) ∧ mvs k (2 ^ i) = q) := ⟨ho, hq⟩
      clear ho hq hpl
      rcases Nat.mod_two_eq_zero_or_one (x / 2 ^ i) with hm | hm
      · rw [hm] at hsh
        rw [if_neg (by omega)] at hmm
        have AM : Aside (x % 2 ^ (i + 1) = x % 2 ^ i) := hmm
        clear hmm hm
        go_wp2_with fail
        have hmm := AM.out
        obtain ⟨ho, hq⟩ := AO.out
        go_roundg (gk - 1)
        case measure => omega
        case rel => exact ⟨i + 1, o, by omega, by go_num, rfl, by rw [hmm]; exact ho, rfl⟩
      · rw [hm] at hsh
        rw [if_pos hm] at hmm
        have AM : Aside (x % 2 ^ (i + 1) = x % 2 ^ i ^^^ 2 ^ i) := hmm
        clear hmm hm
        have hx32 := x32 o q hol hml
        go_wp2_with fail
        have hmm := AM.out
        obtain ⟨ho, hq⟩ := AO.out
        go_roundg (gk - 1)
        case measure => omega
        case rel => exact ⟨i + 1, o ^^^ q, by omega, by go_num, by rw [← hx32], by rw [hmm, mvs_xor, ← ho, hq], rfl⟩
    · have hi2 : i = 32 := by omega
      rw [hi2, Nat.mod_eq_of_lt (show x < 2 ^ 32 from hx)] at ho
      rw [ho, hi2]
      go_wp2_with fail
      all_goals go_ret
      all_goals exact ⟨rfl, hbe⟩
end Go.Proofs.Ytopaekcbopoeaaa
