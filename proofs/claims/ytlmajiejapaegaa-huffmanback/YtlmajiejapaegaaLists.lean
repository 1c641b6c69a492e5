/-
  Lists of bits and their numbers: what a list behind another one, its first bits and what is left behind them come to.
-/
import Derived.Test.YtlmajiejapaegaaArith
namespace Go.Proofs.Ytlmajiejapaegaa
/-- The number of some bits, the first one lowest. -/
def nm : List Bool → Nat
  | [] => 0
  | b :: r => b.toNat + 2 * nm r
theorem nm_lt : ∀ l : List Bool, nm l < 2 ^ l.length
  | [] => by simp [nm]
  | b :: r => by
    have := nm_lt r
    rw [nm, List.length_cons, Nat.pow_succ]
    have : b.toNat ≤ 1 := Bool.toNat_le b
    omega
theorem nm_append : ∀ l r : List Bool, nm (l ++ r) = nm l + nm r * 2 ^ l.length
  | [], r => by simp [nm]
  | b :: l, r => by
    rw [List.cons_append, nm, nm, nm_append l r, List.length_cons, Nat.pow_succ', Nat.mul_left_comm]
    omega
theorem nm_take : ∀ (k : Nat) (l : List Bool), nm (l.take k) = nm l % 2 ^ k
  | 0, l => by simp [nm, Nat.mod_one]
  | k + 1, [] => by simp [nm]
  | k + 1, b :: l => by
    rw [List.take_succ_cons, nm, nm, nm_take k l, Nat.pow_succ', Nat.mod_mul]
    have : b.toNat ≤ 1 := Bool.toNat_le b
    rw [show (b.toNat + 2 * nm l) % 2 = b.toNat by omega, show (b.toNat + 2 * nm l) / 2 = nm l by omega]
theorem nm_drop : ∀ (k : Nat) (l : List Bool), nm (l.drop k) = nm l / 2 ^ k
  | 0, l => by simp
  | k + 1, [] => by simp [nm]
  | k + 1, b :: l => by
    rw [List.drop_succ_cons, nm, nm_drop k l, Nat.pow_succ', ← Nat.div_div_eq_div_mul]
    have : b.toNat ≤ 1 := Bool.toNat_le b
    rw [show (b.toNat + 2 * nm l) / 2 = nm l by omega]
/-- The lowest k bits of a number, the lowest one first. -/
def bitsOf (k x : Nat) : List Bool := (List.range k).map fun i => x / 2 ^ i % 2 == 1
theorem bitsOf_length (k x : Nat) : (bitsOf k x).length = k := by simp [bitsOf]
theorem bitsOf_succ (k x : Nat) : bitsOf (k + 1) x = bitsOf k x ++ [x / 2 ^ k % 2 == 1] := by
  simp [bitsOf, List.range_succ]
theorem nm_bitsOf : ∀ (k x : Nat), nm (bitsOf k x) = x % 2 ^ k
  | 0, x => by simp [bitsOf, nm, Nat.mod_one]
  | k + 1, x => by
    rw [bitsOf_succ, nm_append, nm_bitsOf k x, bitsOf_length, nm, nm, Nat.pow_succ, Nat.mod_mul]
    have h2 : x / 2 ^ k % 2 = 0 ∨ x / 2 ^ k % 2 = 1 := by omega
    rcases h2 with h2 | h2 <;> rw [h2] <;> simp
theorem nm_byte (x : Nat) (h : x < 256) : nm (bitsOf 8 x) = x := by rw [nm_bitsOf]; exact Nat.mod_eq_of_lt h
/-- From the end: one bit more ahead of what stands behind it. -/
theorem nm_ahead (l : List Bool) (k : Nat) (h : k < l.length) : nm (l.drop k) = (l[k]).toNat + 2 * nm (l.drop (k + 1)) := by
  rw [List.drop_eq_getElem_cons h, nm]
end Go.Proofs.Ytlmajiejapaegaa
