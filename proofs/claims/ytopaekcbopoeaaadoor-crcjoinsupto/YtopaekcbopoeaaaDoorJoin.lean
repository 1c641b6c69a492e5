/-
  What Join comes to: a's register moved by eight bits for each of n bytes, turned by b; n below 0 counts as 0.
  Conditions: a and b are numbers of 32 bits, n one of 64.
-/
import Derived.Test.YtopaekcbopoeaaaDoorProd
import Derived.Test.YtopaekcbopoeaaaDoorMem
namespace Go.Proofs.YtopaekcbopoeaaaDoor
open Go.RowKit
set_option linter.unusedVariables false

theorem and_one64 (n : Int) : bits .and .i64 n 1 = n % 2 := by
  have h1 : (BitVec.ofInt 64 1).toNat = 2 ^ 1 - 1 := by decide
  have key : (BitVec.ofInt 64 n &&& BitVec.ofInt 64 1).toNat = (n % ((2 ^ 64 : Nat) : Int)).toNat % 2 ^ 1 := by
    rw [BitVec.toNat_and, BitVec.toNat_ofInt, h1, Nat.and_two_pow_sub_one_eq_mod]
  show IntKind.i64.wrap ((BitVec.ofInt 64 n &&& BitVec.ofInt 64 1).toNat : Nat) = n % 2
  rw [key, IntKind.wrap_i64]
  omega
/-- The cell that holds the power. -/
theorem square_c (p : Nat) (hp : p < 4294967296) (b : Nat) (t : TypeId) (w : World) (hc : Cells w b #[.int .u32 p] t) :
    Calls Tryd.prog 17 #[.pointer (some ⟨b, 0, none⟩)] w fun e w' => e = .returned (.int .u32 p) ∧ Cells w' b #[.int .u32 (pf 32 p p : Nat)] t ∧ Only b w w' := by
  have c0 : w.cell? ⟨b, 0, none⟩ = some (.int .u32 p) := by rw [hc.cell]; rfl
  have f0 := hc.frozen 0
  go_enter Tryd.func17, Tryd.ntmps17
  go_wp2_with (go_at_call 16; refine (product_c p p hp hp _).mono ?_; rintro e2 w2 ⟨rfl, rfl⟩)
  all_goals go_ret
  all_goals exact ⟨rfl, hc.set 0 _, (Only.refl b w).setCell 0 _⟩

theorem squares_c (p : Nat) (w : World) :
    Calls Tryd.prog 15 #[.int .u32 p] w fun e w' => e = .returned (.func (.func 17) #[] #[.pointer (some ⟨w.heap.size, 0, none⟩)]) ∧ Cells w' w.heap.size #[.int .u32 p] 23 ∧ Below w.heap.size w w' := by
  go_enter Tryd.func15, Tryd.ntmps15
  go_wp2_with fail
  all_goals go_ret
  all_goals exact ⟨rfl, Cells.new w _ _, (Below.refl _ w).alloc (Nat.le_refl _) _⟩
/-- The power that k squares make. -/
def pw (k : Nat) : Nat := mvs (8 * 2 ^ k) 2147483648
theorem pw_lt (k : Nat) : pw k < 4294967296 := top_lt _
theorem pw_square (k : Nat) : pf 32 (pw k) (pw k) = pw (k + 1) := by
  unfold pw
  rw [pf_square, Nat.pow_succ]
  congr 1
  omega
theorem pw_zero : pw 0 = 8388608 := one_byte.symm

set_option maxHeartbeats 1000000 in
theorem join_c (a b : Nat) (ha : a < 4294967296) (hb : b < 4294967296) (n : Int) (w : World) :
    Calls Tryd.prog 12 #[.int .u32 a, .int .u32 b, .int .i64 n] w fun e w' => e = .returned (.int .u32 (mvs (8 * n.toNat) a ^^^ b : Nat)) ∧ Below w.heap.size w w' := by
  obtain ⟨R, hR⟩ : ∃ R, mvs (8 * n.toNat) a = R := ⟨_, rfl⟩
  have hRl : R < 4294967296 := by rw [← hR]; exact mvs_lt _ ha
  rw [hR]
  obtain ⟨B, hB⟩ : ∃ B, w.heap.size = B := ⟨_, rfl⟩
  rw [hB]
  go_enter Tryd.func12, Tryd.ntmps12
  go_wp2_with fail
  refine (squares_c 8388608 w).mono ?_
  rintro e w1 ⟨rfl, hc1, hb1⟩
  rw [hB] at hc1 hb1
  rw [hB]
  clear hB
  go_wp2_with fail
  go_loopg [0, 2] n.toNat (fun g sa sn wr => ∃ (a' k : Nat) (m : Int), sa = .int .u32 a' ∧ sn = .int .i64 m ∧ g = m.toNat ∧ a' < 4294967296 ∧ mvs (8 * 2 ^ k * g) a' = R ∧ Cells wr B #[.int .u32 (pw k : Nat)] 23 ∧ Below B w wr)
  case atStart => exact ⟨a, 0, n, rfl, rfl, rfl, ha, by rw [Nat.pow_zero, Nat.mul_one]; exact hR, by rw [pw_zero]; exact hc1, hb1⟩
  case round =>
    obtain ⟨a', k, m, rfl, rfl, hg, ha', hr, hc, hbe⟩ := hrel
    by_cases h0 : m ≤ 0
    · have hz : gk = 0 := by omega
      rw [hz, Nat.mul_zero, mvs] at hr
      have e1 := x32 R b hRl hb
      rw [hr]
      go_wp2_with fail
      all_goals go_ret
      all_goals exact ⟨by rw [← e1]; rfl, hbe⟩
    · have hm := and_one64 m
      have hpk := pw_lt k
      have hsq := pw_square k
      have hG : Aside (gk = m.toNat ∧ mvs (8 * 2 ^ k * gk) a' = R) := ⟨hg, hr⟩
      clear hg hr
      by_cases ho : m % 2 = 1
      · rw [ho] at hm
        have hp : pf 32 a' (pw k) = mvs (8 * 2 ^ k) a' := pf_pow a' _ ha'
        obtain ⟨q, hq⟩ : ∃ q, pw k = q := ⟨_, rfl⟩
        rw [hq] at hc hpk hsq hp
        go_wp2_with (first | (go_at_call 17; refine (square_c q hpk B 23 wr hc).mono ?_; rintro e2 w2 ⟨rfl, hc2, ho2⟩) | (go_at_call 16; refine (product_c a' q ha' hpk _).mono ?_; rintro e3 w3 ⟨rfl, rfl⟩))
        have ⟨hg, hr⟩ := hG.out
        go_roundg (m.toNat / 2)
        case measure => omega
        case rel =>
          refine ⟨mvs (8 * 2 ^ k) a', k + 1, m / 2, rfl, by go_num, by omega, mvs_lt _ ha', ?_, by rw [← hsq]; exact hc2, hbe.trans (ho2.below (Nat.le_refl _))⟩
          rw [← mvs_add, ← hr]
          congr 1
          obtain ⟨z, hz⟩ : ∃ z, m.toNat / 2 = z := ⟨_, rfl⟩
          rw [hz, show gk = 2 * z + 1 by omega, Nat.pow_succ, Nat.mul_add, Nat.mul_one, Nat.add_comm]
          congr 1
          rw [← Nat.mul_assoc, ← Nat.mul_assoc]
      · rw [show m % 2 = 0 by omega] at hm
        obtain ⟨q, hq⟩ : ∃ q, pw k = q := ⟨_, rfl⟩
        rw [hq] at hc hpk hsq
        go_wp2_with (first | (go_at_call 17; refine (square_c q hpk B 23 wr hc).mono ?_; rintro e2 w2 ⟨rfl, hc2, ho2⟩))
        have ⟨hg, hr⟩ := hG.out
        go_roundg (m.toNat / 2)
        case measure => omega
        case rel =>
          refine ⟨a', k + 1, m / 2, rfl, by go_num, by omega, ha', ?_, by rw [← hsq]; exact hc2, hbe.trans (ho2.below (Nat.le_refl _))⟩
          rw [← hr]
          congr 1
          obtain ⟨z, hz⟩ : ∃ z, m.toNat / 2 = z := ⟨_, rfl⟩
          rw [hz, show gk = 2 * z by omega, Nat.pow_succ]
          rw [← Nat.mul_assoc, ← Nat.mul_assoc]
end Go.Proofs.YtopaekcbopoeaaaDoor
