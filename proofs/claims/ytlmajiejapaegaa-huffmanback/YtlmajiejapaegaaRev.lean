/-
  What Reverse comes to, the program's and the document's: the lowest m bits of v, the lowest one first, gathered as a number; m is n between 0 and 32.
  Conditions: v is a number of 32 bits.
-/
import Derived.Test.YtlmajiejapaegaaProg
import Derived.Test.YtlmajiejapaegaaArith
import Derived.WalkSpells
import Derived.OpenShut
namespace Go.Proofs.Ytlmajiejapaegaa
open Go.RowKit
/-- k bits of v, the lowest one first, behind those of o. -/
def revl : Nat → Nat → Nat → Nat
  | 0, _, o => o
  | k + 1, v, o => revl k (v / 2) (2 * o + v % 2)
theorem revl_lt : ∀ (k v o i : Nat), o < 2 ^ i → revl k v o < 2 ^ (i + k)
  | 0, _, _, _, h => h
  | k + 1, v, o, i, h => by
    have := revl_lt k (v / 2) (2 * o + v % 2) (i + 1) (by rw [Nat.pow_succ]; omega)
    rw [show i + (k + 1) = i + 1 + k by omega]; exact this
theorem revl_add : ∀ (k v o : Nat), revl k v o = o * 2 ^ k + revl k v 0
  | 0, _, o => by simp [revl]
  | k + 1, v, o => by
    rw [revl, revl, revl_add k (v / 2) (2 * o + v % 2), revl_add k (v / 2) (2 * 0 + v % 2), Nat.pow_succ, Nat.add_mul, Nat.mul_zero, Nat.zero_add]
    rw [show 2 * o * 2 ^ k = o * (2 ^ k * 2) by rw [Nat.mul_comm 2 o, Nat.mul_assoc, Nat.mul_comm 2]]
    omega
/-- The highest bit comes last. -/
theorem revl_last : ∀ (k v : Nat), revl (k + 1) v 0 = 2 * revl k v 0 + v / 2 ^ k % 2
  | 0, v => by simp [revl]
  | k + 1, v => by
    rw [revl, revl_add (k + 1), revl_last k (v / 2), revl, revl_add k (v / 2) (2 * 0 + v % 2), Nat.div_div_eq_div_mul, ← Nat.pow_succ']
    rw [Nat.mul_zero, Nat.zero_add, Nat.pow_succ, ← Nat.mul_assoc]
    omega
theorem revl_div (k v : Nat) : revl k v 0 / 2 ^ k = 0 := Nat.div_eq_of_lt (by have := revl_lt k v 0 0 (by decide); rwa [Nat.zero_add] at this)
/-- Bits above the first k do not matter. -/
theorem revl_high : ∀ (k v o c : Nat), revl k (v + c * 2 ^ k) o = revl k v o
  | 0, _, _, _ => rfl
  | k + 1, v, o, c => by
    rw [revl, revl]
    have e : c * 2 ^ (k + 1) = 2 * (c * 2 ^ k) := by rw [Nat.pow_succ, ← Nat.mul_assoc, Nat.mul_comm]
    rw [e, show (v + 2 * (c * 2 ^ k)) % 2 = v % 2 by omega, show (v + 2 * (c * 2 ^ k)) / 2 = v / 2 + c * 2 ^ k by omega]
    exact revl_high k _ _ _
/-- Turned round again they are as they were. -/
theorem revl_twice : ∀ (k v : Nat), revl k (revl k v 0) 0 = v % 2 ^ k
  | 0, v => by simp [revl, Nat.mod_one]
  | k + 1, v => by
    rw [revl_last k (revl (k + 1) v 0)]
    have e1 : revl (k + 1) v 0 = revl k (v / 2) 0 + v % 2 * 2 ^ k := by rw [revl, revl_add, Nat.mul_zero, Nat.zero_add]; omega
    rw [e1, revl_high, revl_twice k (v / 2)]
    have h0 : 0 < 2 ^ k := Nat.two_pow_pos k
    have e2 : (revl k (v / 2) 0 + v % 2 * 2 ^ k) / 2 ^ k = v % 2 := by
      rw [Nat.add_mul_div_right _ _ h0, revl_div, Nat.zero_add]
    rw [e2]
    have e3 : v % 2 ^ (k + 1) = v % 2 + 2 * (v / 2 % 2 ^ k) := by rw [Nat.pow_succ', Nat.mod_mul]
    omega
/-- A bit more at the low end of a number of at most 31 bits. -/
theorem or_bit (o v i : Nat) (ho : o < 2 ^ i) (hi : i < 32) (hv : v < 4294967296) : bits .or .u32 ((o : Int) * 2 % 4294967296) (bits .and .u32 (v : Int) 1) = ((2 * o + v % 2 : Nat) : Int) := by
  have h1 : 2 ^ i ≤ 2147483648 := pow_le64 (show i ≤ 31 by omega)
  have e : (o : Int) * 2 % 4294967296 = ((2 * o : Nat) : Int) := by omega
  rw [e, show (1 : Int) = ((1 : Nat) : Int) from rfl, u32_and_nat v 1 hv (by decide), Nat.and_one_is_mod, u32_or_nat _ _ (by omega) (by omega)]
  congr 1
  exact (Nat.two_pow_add_eq_or_of_lt (i := 1) (b := v % 2) (by omega) o).symm

/-- n between 0 and 32. -/
def clamp (n : Int) : Nat := (max 0 (min n 32)).toNat
theorem clamp_le (n : Int) : clamp n ≤ 32 := by unfold clamp; omega

set_option maxHeartbeats 1000000 in
theorem rev_c (v : Nat) (hv : v < 4294967296) (n : Int) (w : World) :
    Calls Try.prog 22 #[.int .u32 v, .int .i64 n] w fun e w' => e = .returned (.int .u32 (revl (clamp n) v 0 : Nat)) ∧ w = w' := by
  obtain ⟨m, hm⟩ : ∃ m, clamp n = m := ⟨_, rfl⟩
  have hm2 : (m : Int) = max 0 (min n 32) := by unfold clamp at hm; omega
  rw [hm]
  go_enter Try.func22, Try.ntmps22
  go_wp2
  all_goals
    go_loop [0, 5, 9] (fun a o i => ∃ k v' o' : Nat, k ≤ m ∧ i = .int .i64 k ∧ a = .int .u32 v' ∧ o = .int .u32 o' ∧ v' < 4294967296 ∧ o' < 2 ^ k ∧ revl (m - k) v' o' = revl m v 0) (fun _ _ i => m - (intOf i).toNat)
    case atStart => exact ⟨0, v, 0, Nat.zero_le _, rfl, rfl, rfl, hv, by decide, rfl⟩
    case round =>
      obtain ⟨k, v', o', hk, rfl, rfl, rfl, hv', ho', hr⟩ := hrel
      go_wp2
      all_goals first
        | (have hlt : k < m := by omega
           obtain ⟨j, hj⟩ : ∃ j, m - k = j + 1 := ⟨m - k - 1, by omega⟩
           rw [hj, revl] at hr
           have hp : 2 ^ k ≤ 2147483648 := pow_le64 (show k ≤ 31 by omega)
           go_round
           case rel =>
             refine ⟨k + 1, v' / 2, 2 * o' + v' % 2, by omega, by go_num, by go_num, ?_, by omega, by rw [Nat.pow_succ]; omega, by rw [show m - (k + 1) = j by omega]; exact hr⟩
             rw [← or_bit o' v' k ho' (by omega) hv']
           case measure => simp [intOf]; omega)
        | (have hke : k = m := by omega
           subst hke
           rw [Nat.sub_self, revl] at hr
           go_ret
           exact ⟨by rw [← hr]; rfl, rfl⟩)
end Go.Proofs.Ytlmajiejapaegaa
