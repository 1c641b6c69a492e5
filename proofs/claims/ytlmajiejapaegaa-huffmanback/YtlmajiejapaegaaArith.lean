/-
  Numbers and their bits: what a shift, a mask and an 'or' come to, as sums, quotients and remainders.
-/
import Derived.WalkKit
import Derived.Laws.BitsAllLaws
import Derived.Laws.Bits64
import Derived.Laws.Bits64b
namespace Go.Proofs.Ytlmajiejapaegaa
open Go.RowKit
theorem pow_le64 {n m : Nat} (h : n ≤ m) : 2 ^ n ≤ 2 ^ m := Nat.pow_le_pow_right (by decide) h
theorem lt_word {v n : Nat} (h : v < 2 ^ n) (h64 : n ≤ 64) : v < 18446744073709551616 := Nat.lt_of_lt_of_le h (pow_le64 h64)
theorem wrap64_nat {a : Nat} (h : a < 18446744073709551616) : IntKind.u64.wrap (a : Int) = (a : Int) := by rw [IntKind.wrap_u64]; omega
/-- A byte laid upon the bits below it. -/
theorem or_put (v n x : Nat) (hv : v < 2 ^ n) (hn : n ≤ 56) (hx : x < 256) : bits .or .u64 (v : Int) (IntKind.u64.wrap ((x : Int) * 2 ^ n)) = ((v + x * 2 ^ n : Nat) : Int) := by
  have h1 : x * 2 ^ n < 18446744073709551616 := by
    have := pow_le64 hn
    calc x * 2 ^ n ≤ 255 * 2 ^ 56 := Nat.mul_le_mul (by omega) this
      _ < _ := by decide
  have e : (x : Int) * 2 ^ n = ((x * 2 ^ n : Nat) : Int) := by push_cast; rfl
  rw [e, wrap64_nat h1]
  have h2 := lt_word hv (by omega)
  rw [u64_or_nat v _ h2 h1]
  congr 1
  rw [Nat.or_comm, Nat.mul_comm x, ← Nat.two_pow_add_eq_or_of_lt hv]
  omega
theorem put_lt (v n x : Nat) (hv : v < 2 ^ n) (hx : x < 256) : v + x * 2 ^ n < 2 ^ (n + 8) := by
  have : (x + 1) * 2 ^ n ≤ 256 * 2 ^ n := Nat.mul_le_mul (by omega) (Nat.le_refl _)
  rw [Nat.add_mul] at this
  rw [Nat.pow_add]
  omega
/-- The lowest k bits. -/
theorem and_mask (v k : Nat) (hv : v < 18446744073709551616) (hk : k ≤ 32) : bits .and .u64 (v : Int) (IntKind.u64.wrap (IntKind.u64.wrap (2 ^ k) - 1)) % 4294967296 = ((v % 2 ^ k : Nat) : Int) := by
  have h1 : 2 ^ k ≤ 4294967296 := pow_le64 hk
  have h0 : 0 < 2 ^ k := Nat.two_pow_pos k
  have e : (2 : Int) ^ k = ((2 ^ k : Nat) : Int) := by push_cast; rfl
  rw [e, wrap64_nat (by omega)]
  have e2 : ((2 ^ k : Nat) : Int) - 1 = ((2 ^ k - 1 : Nat) : Int) := by omega
  rw [e2, wrap64_nat (by omega), u64_and_nat v _ hv (by omega), Nat.and_two_pow_sub_one_eq_mod]
  have : v % 2 ^ k < 2 ^ k := Nat.mod_lt _ h0
  omega
theorem div_nat (v k : Nat) : (v : Int) / 2 ^ k = ((v / 2 ^ k : Nat) : Int) := by push_cast; rfl
theorem div_lt (v n k : Nat) (hv : v < 2 ^ n) (hk : k ≤ n) : v / 2 ^ k < 2 ^ (n - k) := by
  rw [Nat.div_lt_iff_lt_mul (Nat.two_pow_pos k), ← Nat.pow_add]
  rw [show n - k + k = n by omega]; exact hv
end Go.Proofs.Ytlmajiejapaegaa
