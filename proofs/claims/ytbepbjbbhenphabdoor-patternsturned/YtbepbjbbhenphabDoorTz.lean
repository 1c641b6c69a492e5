/-
  The library's counts of bits: TrailingZeros64 of a number that is not nought, and that OnesCount64 is at most 127; and the bits of a number as a list.
  Conditions: the library's table holds what its text lays there.
-/
import Derived.Test.YtbepbjbbhenphabDoorProg
import Derived.Test.YtbepbjbbhenphabDoorMem
import Derived.WalkSpells
import Derived.Laws.BitsAllLaws
import Derived.Laws.Bits64
import Derived.Laws.Bits64b
import Derived.WalkMore
import Derived.Deep.CutBlock
import Derived.Deep.DeepCutAuto
namespace Go.Proofs.YtbepbjbbhenphabDoor
open Go.RowKit
set_option linter.unusedVariables false
/-- The library's table. -/
def tb : List Nat := [0, 1, 56, 2, 57, 49, 28, 3, 61, 58, 42, 50, 38, 29, 17, 4, 62, 47, 59, 36, 45, 43, 51, 22, 53, 39, 33, 30, 24, 18, 12, 5, 63, 55, 48, 27, 60, 41, 37, 16, 46, 35, 44, 21, 52, 32, 23, 11, 54, 26, 40, 15, 34, 20, 31, 10, 25, 14, 19, 9, 13, 8, 7, 6]
def Tab (w : World) : Prop := ∀ i, i < 64 → w.cell? ⟨0, i, none⟩ = some (.int .u8 (tb.getD i 0 : Nat))
theorem Tab.lt {w : World} (h : Tab w) : 0 < w.heap.size := World.block_lt_of_cell? w ⟨0, 0, none⟩ (h 0 (by decide))
theorem Tab.below {w u : World} (h : Tab w) (k : Below w.heap.size w u) : Tab u := fun i hi => (k.cell (p := ⟨0, i, none⟩) h.lt).trans (h i hi)
theorem Tab.drewN {w : World} (h : Tab w) (n : Nat) : Tab (w.drewN n) := h
theorem Tab.drew {w : World} (h : Tab w) : Tab w.drew := h
theorem table_right : ∀ t : Fin 64, 2 ^ t.val * 285870213051353865 % 18446744073709551616 / 288230376151711744 < 64 ∧ tb.getD (2 ^ t.val * 285870213051353865 % 18446744073709551616 / 288230376151711744) 0 = t.val := by decide +kernel
/-- A number's lowest bit. -/
theorem low_bit : ∀ x : Nat, x ≠ 0 → ∃ t q, x = 2 ^ t * (2 * q + 1) := by
  intro x
  induction x using Nat.strongRecOn with
  | _ x ih =>
    intro hx
    by_cases h : x % 2 = 1
    · exact ⟨0, x / 2, by omega⟩
    · obtain ⟨t, q, e⟩ := ih (x / 2) (by omega) (by omega)
      refine ⟨t + 1, q, ?_⟩
      rw [Nat.pow_succ, Nat.mul_assoc, Nat.mul_comm 2, ← Nat.mul_assoc, ← e]
      omega
theorem bits_of (t q i : Nat) : (2 ^ t * (2 * q + 1)).testBit i = if i < t then false else if i = t then true else q.testBit (i - t - 1) := by
  have := Nat.testBit_two_pow_mul_add (i := t) (2 * q + 1) (b := 0) (Nat.two_pow_pos t) i
  rw [Nat.add_zero] at this
  rw [this]
  split
  · simp
  · split
    · rename_i h1 h2
      subst h2
      simp
    · rename_i h1 h2
      obtain ⟨k, hk⟩ : ∃ k, i - t = k + 1 := ⟨i - t - 1, by omega⟩
      rw [hk, Nat.testBit_succ]
      have e : (2 * q + 1) / 2 = q := by omega
      rw [e]
      congr 1
theorem bits_pred (t q i : Nat) : (2 ^ t * (2 * q + 1) - 1).testBit i = if i < t then true else if i = t then false else q.testBit (i - t - 1) := by
  have hp := Nat.two_pow_pos t
  have e0 : 2 ^ t * (2 * q + 1) - 1 = 2 ^ t * (2 * q) + (2 ^ t - 1) := by
    rw [Nat.mul_add, Nat.mul_one]; omega
  rw [e0, Nat.testBit_two_pow_mul_add (2 * q) (by omega) i]
  split
  · rename_i h
    rw [Nat.testBit_two_pow_sub_one, decide_eq_true h]
  · split
    · rename_i h1 h2
      subst h2
      simp
    · rename_i h1 h2
      obtain ⟨k, hk⟩ : ∃ k, i - t = k + 1 := ⟨i - t - 1, by omega⟩
      rw [hk, Nat.testBit_succ]
      have e : (2 * q) / 2 = q := by omega
      rw [e]
      congr 1
/-- Without its lowest bit. -/
theorem and_pred (t q : Nat) (i : Nat) : (2 ^ t * (2 * q + 1) &&& (2 ^ t * (2 * q + 1) - 1)).testBit i = (decide (t < i) && (2 ^ t * (2 * q + 1)).testBit i) := by
  rw [Nat.testBit_and, bits_of, bits_pred]
  by_cases h1 : i < t
  · rw [if_pos h1, decide_eq_false (by omega)]; rfl
  · by_cases h2 : i = t
    · rw [if_neg h1, if_pos h2, if_neg h1, if_pos h2, decide_eq_false (by omega)]; rfl
    · rw [if_neg h1, if_neg h2, if_neg h1, if_neg h2, decide_eq_true (by omega), Bool.and_self, Bool.true_and]
theorem and_neg (t q : Nat) (hx : 2 ^ t * (2 * q + 1) < 2 ^ 64) : 2 ^ t * (2 * q + 1) &&& (2 ^ 64 - 2 ^ t * (2 * q + 1)) = 2 ^ t := by
  apply Nat.eq_of_testBit_eq
  intro i
  have hp : 0 < 2 ^ t * (2 * q + 1) := Nat.mul_pos (Nat.two_pow_pos t) (by omega)
  have e : 2 ^ 64 - 2 ^ t * (2 * q + 1) = 2 ^ 64 - ((2 ^ t * (2 * q + 1) - 1) + 1) := by omega
  rw [Nat.testBit_and, e, Nat.testBit_two_pow_sub_succ (by omega), bits_pred, bits_of, Nat.testBit_two_pow]
  have ht : t < 64 := by
    rcases Nat.lt_or_ge t 64 with h | h
    · exact h
    · have h1 : 2 ^ 64 ≤ 2 ^ t := Nat.pow_le_pow_right (by decide) h
      have h2 : 2 ^ t * 1 ≤ 2 ^ t * (2 * q + 1) := Nat.mul_le_mul_left _ (by omega)
      omega
  by_cases h1 : i < t
  · rw [if_pos h1, decide_eq_false (show ¬ t = i by omega)]; rfl
  · by_cases h2 : i = t
    · subst h2
      rw [if_neg h1, if_pos rfl, if_neg h1, if_pos rfl, decide_eq_true ht, decide_eq_true rfl]; rfl
    · rw [if_neg h1, if_neg h2, if_neg h1, if_neg h2, decide_eq_false (show ¬ t = i by omega)]
      cases q.testBit (i - t - 1) <;> simp
theorem low_lt {t q : Nat} (hx : 2 ^ t * (2 * q + 1) < 2 ^ 64) : t < 64 := by
  rcases Nat.lt_or_ge t 64 with h | h
  · exact h
  · have h1 : 2 ^ 64 ≤ 2 ^ t := Nat.pow_le_pow_right (by decide) h
    have h2 : 2 ^ t * 1 ≤ 2 ^ t * (2 * q + 1) := Nat.mul_le_mul_left _ (by omega)
    omega
/-- TrailingZeros64. -/
theorem tz_c (x t q : Nat) (hx : x = 2 ^ t * (2 * q + 1)) (hx64 : x < 18446744073709551616) (w : World) (hT : Tab w) :
    Calls Tryd.prog 21 #[.int .u64 (x : Int)] w fun e w' => e = .returned (.int .i64 (t : Int)) ∧ w = w' := by
  have ht : t < 64 := low_lt (q := q) (by rw [← hx]; exact hx64)
  have hx0 : x ≠ 0 := by rw [hx]; have := Nat.two_pow_pos t; exact Nat.ne_of_gt (Nat.mul_pos this (by omega))
  have hneg : IntKind.u64.wrap (-(x : Int)) = ((18446744073709551616 - x : Nat) : Int) := by rw [IntKind.wrap_u64]; omega
  have hand : bits .and .u64 (x : Int) ((18446744073709551616 - x : Nat) : Int) = ((2 ^ t : Nat) : Int) := by
    rw [u64_and_nat x _ hx64 (by omega)]
    congr 1
    have := and_neg t q (by rw [← hx]; exact hx64)
    rw [← hx] at this
    exact this
  obtain ⟨h1, h2⟩ := table_right ⟨t, ht⟩
  dsimp only at h1 h2
  obtain ⟨z, hz⟩ : ∃ z, 2 ^ t = z := ⟨_, rfl⟩
  rw [hz] at hand h1 h2
  obtain ⟨y, hy⟩ : ∃ y, z * 285870213051353865 % 18446744073709551616 = y := ⟨_, rfl⟩
  rw [hy] at h1 h2
  have hmul : IntKind.u64.wrap ((z : Int) * 285870213051353865) = (y : Int) := by rw [IntKind.wrap_u64]; omega
  obtain ⟨k, hk⟩ : ∃ k, y / 288230376151711744 = k := ⟨_, rfl⟩
  rw [hk] at h1 h2
  have hshr : (y : Int) / 288230376151711744 = (k : Int) := by omega
  have hcell := hT k h1
  rw [h2] at hcell
  have hxi : ((x : Int) == 0) = false := by rw [beq_eq_false_iff_ne]; omega
  have hk64 : (k : Int) < 64 := by omega
  have hxn : ¬ (x : Int) = 0 := by omega
  generalize 18446744073709551616 - x = nx at *
  have hw : wrap64 (t : Int) = (t : Int) := by unfold wrap64; omega
  clear hx hx64 hx0 ht h1 h2 hz hy hk hT
  go_enter Tryd.func21, Tryd.ntmps21
  go_wp2_with fail
  go_ret
  refine ⟨?_, rfl⟩
  show Ending.returned (Value.int .i64 (wrap64 (t : Int))) = _
  rw [hw]
theorem and_127 (n : Int) : bits .and .i64 n 127 = n % 128 := by
  have h1 : (BitVec.ofInt 64 127).toNat = 2 ^ 7 - 1 := by decide
  have key : (BitVec.ofInt 64 n &&& BitVec.ofInt 64 127).toNat = (n % ((2 ^ 64 : Nat) : Int)).toNat % 2 ^ 7 := by
    rw [BitVec.toNat_and, BitVec.toNat_ofInt, h1, Nat.and_two_pow_sub_one_eq_mod]
  show IntKind.i64.wrap ((BitVec.ofInt 64 n &&& BitVec.ofInt 64 127).toNat : Nat) = n % 128
  rw [key, IntKind.wrap_i64]
  omega
theorem and127 (n : Int) : ∃ c : Nat, c ≤ 127 ∧ Ending.returned (Value.int .i64 (bits .and .i64 n 127)) = Ending.returned (Value.int .i64 (c : Int)) := by
  refine ⟨(n % 128).toNat, by omega, ?_⟩
  rw [and_127, Int.toNat_of_nonneg (by omega)]
set_option maxHeartbeats 1000000 in
/-- OnesCount64 is a small number: it is asked for room alone. -/
theorem ones_c (x : Nat) (w : World) : Calls Tryd.prog 20 #[.int .u64 (x : Int)] w fun e w' => (∃ c : Nat, c ≤ 127 ∧ e = .returned (.int .i64 (c : Int))) ∧ w = w' := by
  go_enter Tryd.func20, Tryd.ntmps20
  go_wp2_with fail
  go_ret
  exact ⟨and127 _, rfl⟩
end Go.Proofs.YtbepbjbbhenphabDoor
