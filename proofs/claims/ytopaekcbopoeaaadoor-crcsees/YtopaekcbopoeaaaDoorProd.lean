/-
  What oneBit, product and the function that squares come to: a move, a product of registers, the power that was told last and its square laid by.
  Conditions: registers are numbers of 32 bits; the cell that holds the power can be written.
-/
import Derived.Test.YtopaekcbopoeaaaDoorRows
import Derived.Test.YtopaekcbopoeaaaDoorReg
import Derived.WalkSpells
import Derived.OpenShut
import Derived.Below
import Derived.Deep.LoopGhost
import Derived.Laws.BitsAllLaws
import Derived.Laws.Bits64
namespace Go.Proofs.YtopaekcbopoeaaaDoor
open Go.RowKit
set_option linter.unusedVariables false
theorem x32 (a b : Nat) (ha : a < 4294967296) (hb : b < 4294967296) : bits .xor .u32 (a : Int) (b : Int) = ((a ^^^ b : Nat) : Int) := u32_xor_nat a b ha hb
theorem and_one32 (v : Nat) (hv : v < 4294967296) : bits .and .u32 (v : Int) 1 = ((v % 2 : Nat) : Int) := by
  rw [show (1 : Int) = ((1 : Nat) : Int) from rfl, u32_and_nat v 1 hv (by decide), Nat.and_one_is_mod]
theorem and_top (v : Nat) (hv : v < 4294967296) : bits .and .u32 (v : Int) 2147483648 = ((if 2147483648 ≤ v then 2147483648 else 0 : Nat) : Int) := by
  rw [show (2147483648 : Int) = ((2147483648 : Nat) : Int) from rfl, u32_and_nat v 2147483648 hv (by decide)]
  congr 1
  apply Nat.eq_of_testBit_eq
  intro i
  have h0 : v.testBit 31 = decide (2147483648 ≤ v) := by
    rw [Nat.testBit_eq_decide_div_mod_eq]
    by_cases h2 : 2147483648 ≤ v
    · rw [decide_eq_true h2, decide_eq_true (by omega)]
    · rw [decide_eq_false h2, decide_eq_false (by omega)]
  rw [Nat.testBit_and, show (2147483648 : Nat) = 2 ^ 31 from rfl, Nat.testBit_two_pow]
  by_cases hi : 31 = i
  · subst hi
    rw [h0]
    by_cases h2 : 2147483648 ≤ v
    · rw [if_pos h2, decide_eq_true h2, Nat.testBit_two_pow]; rfl
    · rw [if_neg h2, decide_eq_false h2]; simp
  · rw [decide_eq_false hi, Bool.and_false]
    split
    · rw [Nat.testBit_two_pow, decide_eq_false hi]
    · simp
theorem xpoly (a : Nat) (ha : a < 4294967296) : bits .xor .u32 (a : Int) 3988292384 = ((a ^^^ 3988292384 : Nat) : Int) := by
  rw [show (3988292384 : Int) = ((3988292384 : Nat) : Int) from rfl, x32 a _ ha (by decide)]

theorem oneBit_c (x : Nat) (hx : x < 4294967296) (w : World) :
    Calls Tryd.prog 18 #[.int .u32 x] w fun e w' => e = .returned (.int .u32 (mv x : Nat)) ∧ w = w' := by
  have h1 := and_one32 x hx
  have h2 := xpoly (x / 2) (by omega)
  go_enter Tryd.func18, Tryd.ntmps18
  rcases Nat.mod_two_eq_zero_or_one x with hm | hm
  · have e : mv x = x / 2 := by unfold mv; rw [if_neg (by omega)]
    rw [hm] at h1
    go_wp2
    all_goals go_ret
    all_goals exact ⟨by rw [e]; go_num, rfl⟩
  · have e : mv x = x / 2 ^^^ 3988292384 := by unfold mv; rw [if_pos hm]
    rw [hm] at h1
    go_wp2
    all_goals go_ret
    all_goals exact ⟨by rw [e, ← h2]; go_num, rfl⟩

set_option maxHeartbeats 1000000 in
theorem product_c (a b : Nat) (ha : a < 4294967296) (hb : b < 4294967296) (w : World) :
    Calls Tryd.prog 16 #[.int .u32 a, .int .u32 b] w fun e w' => e = .returned (.int .u32 (pf 32 a b : Nat)) ∧ w = w' := by
  go_enter Tryd.func16, Tryd.ntmps16
  go_wp2_with fail
  all_goals
    go_loopg [0, 1, 5] 32 (fun g x y s wr => ∃ x' y' s' : Nat, g ≤ 32 ∧ x = .int .u32 x' ∧ y = .int .u32 y' ∧ s = .int .u32 s' ∧ x' < 4294967296 ∧ y' < 4294967296 ∧ s' < 4294967296 ∧ x' % 2 ^ (32 - g) = 0 ∧ s' ^^^ pf g x' y' = pf 32 a b ∧ w = wr)
    case atStart => exact ⟨a, b, 0, Nat.le_refl _, rfl, rfl, rfl, ha, hb, by decide, by simp [Nat.mod_one], Nat.zero_xor _, rfl⟩
    case round =>
      obtain ⟨x, y, s, hg, rfl, rfl, rfl, hx, hy, hs, hm, hr, rfl⟩ := hrel
      by_cases h0 : x = 0
      · rw [h0, pf_zero, Nat.xor_zero] at hr
        subst h0
        go_wp2_with fail
        all_goals go_ret
        all_goals exact ⟨by rw [hr]; rfl, rfl⟩
      · have hg1 : gk ≠ 0 := by
          intro hz
          rw [hz] at hm
          rw [Nat.mod_eq_of_lt (by simpa using hx)] at hm
          exact h0 hm
        obtain ⟨j, hj⟩ : ∃ j, gk = j + 1 := ⟨gk - 1, by omega⟩
        rw [hj] at hm hr hg
        rw [pf] at hr
        have hm2 : 2 * x % 4294967296 % 2 ^ (32 - j) = 0 := by
          have e : 32 - j = (32 - (j + 1)) + 1 := by omega
          have e2 : (4294967296 : Nat) = 2 ^ (32 - j) * 2 ^ j := by rw [← Nat.pow_add, show 32 - j + j = 32 by omega]
          rw [e2, Nat.mod_mul_right_mod, e, Nat.pow_succ', Nat.mul_mod_mul_left, hm]
        have hy2 := mv_lt hy
        have e0 : ((x : Int) != 0) = true := by simp; omega
        have ht := and_top x hx
        by_cases hb : 2147483648 ≤ x
        · rw [if_pos hb] at ht hr
          have e1 := x32 s y hs hy
          have hs2 := xor_lt32 hs hy
          go_wp2_with (go_at_call 18; refine (oneBit_c y hy _).mono ?_; rintro e2 w2 ⟨rfl, rfl⟩)
          all_goals go_roundg j
          case measure => omega
          case rel => exact ⟨2 * x % 4294967296, mv y, s ^^^ y, by omega, by go_num, rfl, by rw [← e1], by omega, hy2, hs2, hm2, by rw [← hr, Nat.xor_assoc], rfl⟩
        · rw [if_neg hb] at ht hr
          go_wp2_with (go_at_call 18; refine (oneBit_c y hy _).mono ?_; rintro e2 w2 ⟨rfl, rfl⟩)
          all_goals go_roundg j
          case measure => omega
          case rel => exact ⟨2 * x % 4294967296, mv y, s, by omega, by go_num, rfl, rfl, by omega, hy2, hs, hm2, by rw [← hr, Nat.zero_xor], rfl⟩
end Go.Proofs.YtopaekcbopoeaaaDoor
