/-
  The number of some bytes' bits, the first byte lowest: what stands behind a byte more, what its lowest byte is, and what is left behind some bytes or bits.
-/
import Derived.Test.YtceblecdobbldaaArith
namespace Go.Proofs.Ytceblecdobbldaa
/-- The number of m bytes from place s on. -/
def numh (X : Nat → Nat) : Nat → Nat → Nat
  | _, 0 => 0
  | s, m + 1 => X s + 256 * numh X (s + 1) m
theorem numh_snoc (X : Nat → Nat) : ∀ (m s : Nat), numh X s (m + 1) = numh X s m + X (s + m) * 2 ^ (8 * m)
  | 0, s => by simp [numh]
  | m + 1, s => by
    rw [numh, numh_snoc X m (s + 1), numh, show s + 1 + m = s + (m + 1) by omega, show 8 * (m + 1) = 8 * m + 8 by omega, Nat.pow_add]
    rw [Nat.mul_add, ← Nat.mul_assoc (X (s + (m + 1))), Nat.mul_comm (X (s + (m + 1)) * 2 ^ (8 * m)) (2 ^ 8)]
    omega
theorem numh_mod (X : Nat → Nat) (m s : Nat) (h : X s < 256) : numh X s (m + 1) % 2 ^ 8 = X s := by
  rw [numh]; omega
theorem numh_div (X : Nat → Nat) (m s : Nat) (h : X s < 256) : numh X s (m + 1) / 2 ^ 8 = numh X (s + 1) m := by
  rw [numh]; omega
theorem numh_drop (X : Nat → Nat) : ∀ (c m s : Nat), (∀ i, s ≤ i → i < s + m → X i < 256) → c ≤ m → numh X s m / 2 ^ (8 * c) = numh X (s + c) (m - c)
  | 0, m, s, _, _ => by simp
  | c + 1, 0, _, _, h => by omega
  | c + 1, m + 1, s, hX, h => by
    rw [show 8 * (c + 1) = 8 + 8 * c by omega, Nat.pow_add, ← Nat.div_div_eq_div_mul, numh_div X m s (hX s (Nat.le_refl _) (by omega)), numh_drop X c m (s + 1) (fun i h1 h2 => hX i (by omega) (by omega)) (by omega)]
    rw [show s + 1 + c = s + (c + 1) by omega, show m + 1 - (c + 1) = m - c by omega]
theorem numh_lt (X : Nat → Nat) : ∀ (m s : Nat), (∀ i, s ≤ i → i < s + m → X i < 256) → numh X s m < 2 ^ (8 * m)
  | 0, _, _ => by simp [numh]
  | m + 1, s, hX => by
    have h1 := numh_lt X m (s + 1) (fun i h1 h2 => hX i (by omega) (by omega))
    have h2 := hX s (Nat.le_refl _) (by omega)
    rw [numh, show 8 * (m + 1) = 8 * m + 8 by omega, Nat.pow_add]
    omega
/-- One bit of it is that of the byte that it lies in. -/
theorem numh_bit (X : Nat → Nat) (m s j : Nat) (hX : ∀ i, s ≤ i → i < s + m → X i < 256) (hj : j < 8 * m) : numh X s m / 2 ^ j % 2 = X (s + j / 8) / 2 ^ (j % 8) % 2 := by
  have hd := numh_drop X (j / 8) m s hX (by omega)
  have e : 2 ^ j = 2 ^ (8 * (j / 8)) * 2 ^ (j % 8) := by rw [← Nat.pow_add]; congr 1; omega
  rw [e, ← Nat.div_div_eq_div_mul, hd]
  obtain ⟨r, hr⟩ : ∃ r, m - j / 8 = r + 1 := ⟨m - j / 8 - 1, by omega⟩
  rw [hr, numh]
  have h8 : j % 8 < 8 := by omega
  have e2 : 256 * numh X (s + j / 8 + 1) r = 2 ^ (j % 8) * (2 * (2 ^ (7 - j % 8) * numh X (s + j / 8 + 1) r)) := by
    rw [← Nat.mul_assoc 2, ← Nat.mul_assoc, ← Nat.pow_succ', ← Nat.pow_add, show j % 8 + (7 - j % 8).succ = 8 by omega]
  rw [e2, Nat.add_mul_div_left _ _ (Nat.two_pow_pos _)]
  omega
end Go.Proofs.Ytceblecdobbldaa
namespace Go.Proofs.Ytceblecdobbldaa
/-- A byte more, where some bits are gone already. -/
theorem numh_put (X : Nat → Nat) (I A : Nat) (h : A ≤ 8 * I) : numh X 0 I / 2 ^ A + X I * 2 ^ (8 * I - A) = numh X 0 (I + 1) / 2 ^ A := by
  have hs := numh_snoc X I 0
  rw [Nat.zero_add] at hs
  rw [hs]
  have e : X I * 2 ^ (8 * I) = X I * 2 ^ (8 * I - A) * 2 ^ A := by
    rw [Nat.mul_assoc, ← Nat.pow_add, show 8 * I - A + A = 8 * I by omega]
  rw [e, Nat.add_mul_div_right _ _ (Nat.two_pow_pos A)]
/-- Of bits that are taken each one is that of its byte. -/
theorem numh_taken (X : Nat → Nat) (I A n k : Nat) (hX : ∀ i, i < I → X i < 256) (hk : k < n) (hn : A + n ≤ 8 * I) :
    numh X 0 I / 2 ^ A % 2 ^ n / 2 ^ k % 2 = X ((A + k) / 8) / 2 ^ ((A + k) % 8) % 2 := by
  have e1 : ∀ W : Nat, W % 2 ^ n / 2 ^ k % 2 = W / 2 ^ k % 2 := by
    intro W
    have := Nat.mod_mul_right_div_self W (2 ^ k) (2 ^ (n - k))
    rw [← Nat.pow_add, show k + (n - k) = n by omega] at this
    rw [this, show n - k = 1 + (n - k - 1) by omega, Nat.pow_add, Nat.pow_one]
    exact Nat.mod_mul_right_mod _ _ _
  rw [e1, Nat.div_div_eq_div_mul, ← Nat.pow_add]
  have := numh_bit X I 0 (A + k) (fun i _ hi => hX i (by omega)) (by omega)
  rw [Nat.zero_add] at this
  exact this
end Go.Proofs.Ytceblecdobbldaa
