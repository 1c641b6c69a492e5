/-
  NumberBack, behind the opening of its arguments: the call answers true, and what lay in memory is as it was.
  Conditions: the number is one of 64 bits, the width a byte.
-/
import Derived.Test.YtmaojldkadpheaaPutsCore
import Derived.Test.YtmaojldkadpheaaReadsCore
namespace Go.Proofs.Ytmaojldkadpheaa
open Go.RowKit
set_option linter.unusedVariables false
theorem put_oct {v : Nat} {n : Int} {l : List Nat} (h : put v n = some l) : Oct l := by
  unfold put at h
  split at h
  · cases h
  · split at h
    · have h : hi 8 48 v (n.toNat - 1) ++ [0] = l := by simpa using h
      rw [← h]
      intro x hx
      rcases List.mem_append.1 hx with hx | hx
      · have := hi_mem (by decide) hx; omega
      · simp at hx; omega
    · split at h
      · have h : 128 :: hi 256 0 v (n.toNat - 1) = l := by simpa using h
        rw [← h]
        intro x hx
        rcases List.mem_cons.1 hx with hx | hx
        · omega
        · have := hi_mem (by decide) hx; omega
      · cases h
set_option maxRecDepth 100000 in
set_option maxHeartbeats 2000000 in
theorem back_yes (v b W : Nat) (l : List Nat) (w : World) (hv : v < 18446744073709551616) (hb : b < 256) (hW : b % 66 = W) (hp : put v (W : Int) = some l) :
    Calls Try.prog 6 #[.int .u64 v, .int .u8 b] w fun e w' => e = .returned (.bool true) ∧ Below w.heap.size w w' := by
  have c1 := put_c v (W : Int) w hv
  have hback := put_back hp
  have hoct := put_oct hp
  have hwide : W = 64 ∨ (put v ((W : Int) + 1)).isSome = true := by
    by_cases h : W = 64
    · exact Or.inl h
    · have h2 : W < 64 := by
        apply Decidable.byContradiction
        intro h3
        rw [put_no (by omega)] at hp; cases hp
      exact Or.inr (put_wider (by rw [hp]; rfl) (by omega))
  rw [hp] at c1
  have c2 := fun u => put_c v ((W : Int) + 1) u hv
  have hWi : (b : Int) % 66 = (W : Int) := by omega
  have e1 : ((v : Int) != (v : Int)) = false := by simp
  have e2 : ((W : Int) != (W : Int)) = false := by simp
  generalize put v ((W : Int) + 1) = o at *
  have hW66 : W < 66 := by omega
  clear hv hW hp
  go_enter Try.func6, Try.ntmps6
  go_wp2_with fail
  refine c1.mono ?_
  rintro e w1 ⟨a1, l1, L1, k1, rfl, hl, hL, hLk1, hk1, lies1, bel1⟩
  obtain rfl : l = l1 := hl
  obtain rfl : L1 = W := by rw [← hL, hback.2]; omega
  have cf := field_c a1 l L1 k1 w1 hL hoct hLk1 (by omega) lies1
  rw [hback.1] at cf
  have c2 := c2 w1
  have s1 := bel1.size
  clear c1 hL lies1 hback hoct hLk1 hk1
  have cf : Calls Try.prog 13 #[.slice a1 L1 k1] w1 fun e w' => e = .returned (.tuple #[.int .u64 v, .bool true]) ∧ w1 = w' := cf
  go_wp2_with fail
  refine cf.mono ?_
  rintro e u ⟨rfl, rfl⟩
  clear cf
  go_wp2_with fail
  refine c2.mono ?_
  rintro e w2 ⟨a2, l2, L2, k2, rfl, hl2, hL2, hLk2, hk2, lies2, bel2⟩
  have b2 := bel1.trans (below_le bel2 s1)
  clear c2 hl2 hL2 hLk2 hk2 lies2 bel2 bel1 s1
  rcases hwide with h64 | ho
  · cases ho : o.isSome with
    | true =>
      go_wp2_with fail
      go_ret
      exact ⟨rfl, b2⟩
    | false =>
      have h64' : ((L1 : Int) == 64) = true := by rw [h64]; rfl
      go_wp2_with fail
      go_ret
      exact ⟨rfl, b2⟩
  · go_wp2_with fail
    go_ret
    exact ⟨rfl, b2⟩
set_option maxRecDepth 100000 in
set_option maxHeartbeats 2000000 in
theorem back_no (v b W : Nat) (w : World) (hv : v < 18446744073709551616) (hb : b < 256) (hW : b % 66 = W) (hp : put v (W : Int) = none) :
    Calls Try.prog 6 #[.int .u64 v, .int .u8 b] w fun e w' => e = .returned (.bool true) ∧ Below w.heap.size w w' := by
  have c1 := put_c v (W : Int) w hv
  rw [hp] at c1
  have hWi : (b : Int) % 66 = (W : Int) := by omega
  have kc := fun (w : World) (C : Array Value) (n c : Nat) => Lib.run_convert_bytes_const (P := Try.prog) w 22 5 C n c Try.underlying22 Try.underlying5
  have hcase : 9223372036854775808 ≤ v ∨ v < 9223372036854775808 ∧ (W < 2 ∨ 64 < W ∨ ((W = 2 ∨ W = 3 ∨ W = 4 ∨ W = 5 ∨ W = 6 ∨ W = 7 ∨ W = 8) ∧ 256 ^ (W - 1) ≤ v)) := by
    by_cases h1 : 9223372036854775808 ≤ v
    · exact Or.inl h1
    · refine Or.inr ⟨by omega, ?_⟩
      by_cases h2 : W < 2
      · exact Or.inl h2
      · by_cases h3 : 64 < W
        · exact Or.inr (Or.inl h3)
        · obtain ⟨h4, h5⟩ := put_none hp (by omega) (by omega) (by omega)
          rw [Int.toNat_natCast] at h5
          exact Or.inr (Or.inr ⟨by omega, h5⟩)
  have cf : ∀ u : World, Calls Try.prog 13 #[.slice (some ⟨u.heap.size, 0, none⟩) 1 1] (u.alloc (.cells #[.int .u8 49] 5 (1, 2))) fun e w' => e = .returned (.tuple #[.int .u64 1, .bool true]) ∧ u.alloc (.cells #[.int .u8 49] 5 (1, 2)) = w' := field_one
  clear hv hp hW
  rcases hcase with h1 | ⟨h1, h2 | h2 | ⟨h2, h3⟩⟩
  · have h1i : decide ((v : Int) < 9223372036854775808) = false := decide_eq_false (by omega)
    clear h1
    go_enter Try.func6, Try.ntmps6
    go_wp2_with fail
    refine c1.mono ?_
    rintro e w1 ⟨a1, l1, L1, k1, rfl, hl, hL, hLk1, hk1, lies1, bel1⟩
    obtain rfl : l1 = [] := hl.symm
    obtain rfl : L1 = 0 := hL.symm
    have cf := cf w1
    have b2 := bel1.alloc bel1.size (.cells #[.int .u8 49] 5 (1, 2))
    clear c1 hL hLk1 hk1 lies1 bel1
    go_wp2_with fail
    refine cf.mono ?_
    rintro e u ⟨rfl, rfl⟩
    go_wp2_with fail
    go_ret
    exact ⟨rfl, b2⟩
  · have h1i : decide ((v : Int) < 9223372036854775808) = true := decide_eq_true (by omega)
    clear h1
    have h2i : decide ((2 : Int) ≤ (W : Int)) = false := decide_eq_false (by omega)
    clear h2
    go_enter Try.func6, Try.ntmps6
    go_wp2_with fail
    refine c1.mono ?_
    rintro e w1 ⟨a1, l1, L1, k1, rfl, hl, hL, hLk1, hk1, lies1, bel1⟩
    obtain rfl : l1 = [] := hl.symm
    obtain rfl : L1 = 0 := hL.symm
    have cf := cf w1
    have b2 := bel1.alloc bel1.size (.cells #[.int .u8 49] 5 (1, 2))
    clear c1 hL hLk1 hk1 lies1 bel1
    go_wp2_with fail
    refine cf.mono ?_
    rintro e u ⟨rfl, rfl⟩
    go_wp2_with fail
    go_ret
    exact ⟨rfl, b2⟩
  · have h1i : decide ((v : Int) < 9223372036854775808) = true := decide_eq_true (by omega)
    clear h1
    have h2i : decide ((2 : Int) ≤ (W : Int)) = true := decide_eq_true (by omega)
    have h3i : decide ((W : Int) ≤ 64) = false := decide_eq_false (by omega)
    clear h2
    go_enter Try.func6, Try.ntmps6
    go_wp2_with fail
    refine c1.mono ?_
    rintro e w1 ⟨a1, l1, L1, k1, rfl, hl, hL, hLk1, hk1, lies1, bel1⟩
    obtain rfl : l1 = [] := hl.symm
    obtain rfl : L1 = 0 := hL.symm
    have cf := cf w1
    have b2 := bel1.alloc bel1.size (.cells #[.int .u8 49] 5 (1, 2))
    clear c1 hL hLk1 hk1 lies1 bel1
    go_wp2_with fail
    refine cf.mono ?_
    rintro e u ⟨rfl, rfl⟩
    go_wp2_with fail
    go_ret
    exact ⟨rfl, b2⟩
  · have h1i : decide ((v : Int) < 9223372036854775808) = true := decide_eq_true (by omega)
    have h3i : decide ((v : Int) < ((256 ^ (W - 1) : Nat) : Int)) = false := decide_eq_false (by omega)
    clear h1 h3
    rcases h2 with rfl | rfl | rfl | rfl | rfl | rfl | rfl
    all_goals
      simp only [Nat.reduceSub, Nat.reducePow, Int.cast_ofNat_Int] at h3i hWi c1
      go_enter Try.func6, Try.ntmps6
      go_wp2_with fail
      refine c1.mono ?_
      rintro e w1 ⟨a1, l1, L1, k1, rfl, hl, hL, hLk1, hk1, lies1, bel1⟩
      obtain rfl : l1 = [] := hl.symm
      obtain rfl : L1 = 0 := hL.symm
      have cf := cf w1
      have b2 := bel1.alloc bel1.size (.cells #[.int .u8 49] 5 (1, 2))
      clear c1 hL hLk1 hk1 lies1 bel1
      go_wp2_with fail
      refine cf.mono ?_
      rintro e u ⟨rfl, rfl⟩
      go_wp2_with fail
      go_ret
      exact ⟨rfl, b2⟩
theorem back_core (v b : Nat) (w : World) (hv : v < 18446744073709551616) (hb : b < 256) :
    Calls Try.prog 6 #[.int .u64 v, .int .u8 b] w fun e w' => e = .returned (.bool true) ∧ Below w.heap.size w w' := by
  cases hp : put v ((b % 66 : Nat) : Int) with
  | none => exact back_no v b _ w hv hb rfl hp
  | some l => exact back_yes v b _ l w hv hb rfl hp
end Go.Proofs.Ytmaojldkadpheaa
