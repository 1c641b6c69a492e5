/-
  Sums and products that stay at the greatest number of 64 bits: order, grouping, greater parts. No Go in sight.
-/
import Derived.Test.YteajgfdjjpcpiaaSumsB
import Derived.OpenShut
namespace Go.Proofs.Yteajgfdjjpcpiaa

/-- The sum that stays. -/
def pls (x y : Int) : Int := sat (x + y)
/-- The product that stays. -/
def tms (x y : Int) : Int := sat (x * y)
/-- What is allowed. -/
def alw (t r s n : Int) : Int := lesser (pls (tms r n) s) t

theorem pls_word {x y : Int} (h : Word x) (h' : Word y) : Word (pls x y) := sat_word (add_nn h h')
theorem tms_word {x y : Int} (h : Word x) (h' : Word y) : Word (tms x y) := sat_word (mul_nn h h')

theorem pls_comm (x y : Int) : pls x y = pls y x := by unfold pls; rw [Int.add_comm]
theorem tms_comm (x y : Int) : tms x y = tms y x := by unfold tms; rw [Int.mul_comm]
theorem pls_assoc (x y z : Int) (hx : 0 ≤ x) (hz : 0 ≤ z) : pls (pls x y) z = pls x (pls y z) := by
  unfold pls sat
  by_cases h1 : x + y < 18446744073709551616 <;> by_cases h2 : y + z < 18446744073709551616 <;> simp only [h1, h2, if_true, if_false] <;> split <;> (try split) <;> omega
theorem sat_mul (x c : Int) (hc : 0 ≤ c) : sat (sat x * c) = sat (x * c) := by
  by_cases h : x < 18446744073709551616
  · have : sat x = x := by unfold sat; exact if_pos h
    rw [this]
  · have e : sat x = 18446744073709551615 := by unfold sat; exact if_neg h
    rw [e]
    by_cases h0 : c = 0
    · subst h0; simp
    · have h1 : 18446744073709551616 * c ≤ x * c := Int.mul_le_mul_of_nonneg_right (by omega) hc
      unfold sat
      rw [if_neg (c := x * c < 18446744073709551616) (by omega)]
      split <;> omega
theorem tms_assoc (x y z : Int) (hx : 0 ≤ x) (hz : 0 ≤ z) : tms (tms x y) z = tms x (tms y z) := by
  unfold tms
  rw [sat_mul _ _ hz, Int.mul_comm x (sat _), sat_mul _ _ hx, Int.mul_comm (y * z) x, Int.mul_assoc]
theorem sat_mono {x y : Int} (h : x ≤ y) : sat x ≤ sat y := by unfold sat; split <;> split <;> omega
theorem pls_mono {x x' y y' : Int} (h : x ≤ x') (h' : y ≤ y') : pls x y ≤ pls x' y' := sat_mono (by omega)
theorem tms_mono_l {x x' y : Int} (h : x ≤ x') (hy : 0 ≤ y) : tms x y ≤ tms x' y := sat_mono (Int.mul_le_mul_of_nonneg_right h hy)
theorem tms_mono_r {x y y' : Int} (h : y ≤ y') (hx : 0 ≤ x) : tms x y ≤ tms x y' := by rw [tms_comm x y, tms_comm x y']; exact tms_mono_l h hx
theorem pls_ge (x y : Int) (hx : Word x) (hy : 0 ≤ y) : x ≤ pls x y := by obtain ⟨_, _⟩ := hx; unfold pls sat; split <;> omega
theorem sat_id {x : Int} (h : x < 18446744073709551616) : sat x = x := by unfold sat; exact if_pos h
theorem pls_zero (x : Int) (hx : Word x) : pls x 0 = x := by unfold pls; rw [Int.add_zero]; exact sat_id hx.2
theorem tms_one (x : Int) (hx : Word x) : tms x 1 = x := by unfold tms; rw [Int.mul_one]; exact sat_id hx.2
theorem tms_zero (x : Int) : tms x 0 = 0 := by unfold tms; rw [Int.mul_zero]; exact sat_id (by decide)
theorem zero_tms (x : Int) : tms 0 x = 0 := by rw [tms_comm]; exact tms_zero x
theorem lesser_le_r (x y : Int) : lesser x y ≤ y := by unfold lesser; split <;> omega
theorem lesser_le_l (x y : Int) : lesser x y ≤ x := by unfold lesser; split <;> omega
theorem lesser_or (x y : Int) : lesser x y = y ∨ lesser x y = x := by unfold lesser; split <;> simp
theorem lesser_mono {x x' : Int} (y : Int) (h : x ≤ x') : lesser x y ≤ lesser x' y := by unfold lesser; split <;> split <;> omega
theorem alw_full (t : Int) (ht : Word t) : alw t 0 t 7 = t := by
  unfold alw
  rw [zero_tms, pls_comm, pls_zero t ht]
  unfold lesser; split <;> rfl
theorem alw_mono (t r s n n' : Int) (hr : 0 ≤ r) (h : n ≤ n') : alw t r s n ≤ alw t r s n' :=
  lesser_mono t (pls_mono (tms_mono_r h hr) (Int.le_refl _))

/-! ### the calls, told by these -/
theorem add_c (x y : Int) (hx : Word x) (hy : Word y) (w : World) : Calls Try.prog 9 #[.int .u64 x, .int .u64 y] w fun e w' => e = .returned (.int .u64 (pls x y)) ∧ w = w' :=
  (add_any x y hx hy w).mono fun _ _ h => ⟨h.1, h.2.symm⟩
theorem times_c (x y : Int) (hx : Word x) (hy : Word y) (w : World) : Calls Try.prog 11 #[.int .u64 x, .int .u64 y] w fun e w' => e = .returned (.int .u64 (tms x y)) ∧ w = w' :=
  (times_any x y hx hy w).mono fun _ _ h => ⟨h.1, h.2.symm⟩
theorem radd_c (x y : Int) (hx : Word x) (hy : Word y) (w : World) : Calls Try.prog 10 #[.int .u64 x, .int .u64 y] w fun e w' => e = .returned (.int .u64 (pls x y)) ∧ w = w' :=
  (radd_any x y hx hy w).mono fun _ _ h => ⟨h.1, h.2.symm⟩
theorem rtimes_c (x y : Int) (hx : Word x) (hy : Word y) (w : World) : Calls Try.prog 12 #[.int .u64 x, .int .u64 y] w fun e w' => e = .returned (.int .u64 (tms x y)) ∧ w = w' :=
  (rtimes_any x y hx hy w).mono fun _ _ h => ⟨h.1, h.2.symm⟩
theorem allowed_c (t r s n : Int) (ht : Word t) (hr : Word r) (hs : Word s) (hn : Word n) (w : World) : Calls Try.prog 13 #[.int .u64 t, .int .u64 r, .int .u64 s, .int .u64 n] w fun e w' => e = .returned (.int .u64 (alw t r s n)) ∧ w = w' :=
  (allowed_any t r s n ht hr hs hn w).mono fun _ _ h => ⟨h.1, h.2.symm⟩
theorem rallowed_c (t r s n : Int) (ht : Word t) (hr : Word r) (hs : Word s) (hn : Word n) (w : World) : Calls Try.prog 14 #[.int .u64 t, .int .u64 r, .int .u64 s, .int .u64 n] w fun e w' => e = .returned (.int .u64 (alw t r s n)) ∧ w = w' :=
  (rallowed_any t r s n ht hr hs hn w).mono fun _ _ h => ⟨h.1, h.2.symm⟩

theorem word_of_wf {x : Int} (h : (Lit.int .u64 x).wf = true) : Word x := by
  have := bounds_u64 h
  unfold Word; omega
end Go.Proofs.Yteajgfdjjpcpiaa
namespace Go.Proofs.Yteajgfdjjpcpiaa
theorem add_s (x y : Int) (hx : Word x) (hy : Word y) (w : World) : Calls Try.prog 9 #[.int .u64 x, .int .u64 y] w fun e w' => e = .returned (.int .u64 (pls x y)) ∧ w' = w := add_any x y hx hy w
theorem radd_s (x y : Int) (hx : Word x) (hy : Word y) (w : World) : Calls Try.prog 10 #[.int .u64 x, .int .u64 y] w fun e w' => e = .returned (.int .u64 (pls x y)) ∧ w' = w := radd_any x y hx hy w
theorem times_s (x y : Int) (hx : Word x) (hy : Word y) (w : World) : Calls Try.prog 11 #[.int .u64 x, .int .u64 y] w fun e w' => e = .returned (.int .u64 (tms x y)) ∧ w' = w := times_any x y hx hy w
theorem rtimes_s (x y : Int) (hx : Word x) (hy : Word y) (w : World) : Calls Try.prog 12 #[.int .u64 x, .int .u64 y] w fun e w' => e = .returned (.int .u64 (tms x y)) ∧ w' = w := rtimes_any x y hx hy w
theorem allowed_s (t r s n : Int) (ht : Word t) (hr : Word r) (hs : Word s) (hn : Word n) (w : World) : Calls Try.prog 13 #[.int .u64 t, .int .u64 r, .int .u64 s, .int .u64 n] w fun e w' => e = .returned (.int .u64 (alw t r s n)) ∧ w' = w := allowed_any t r s n ht hr hs hn w
theorem rallowed_s (t r s n : Int) (ht : Word t) (hr : Word r) (hs : Word s) (hn : Word n) (w : World) : Calls Try.prog 14 #[.int .u64 t, .int .u64 r, .int .u64 s, .int .u64 n] w fun e w' => e = .returned (.int .u64 (alw t r s n)) ∧ w' = w := rallowed_any t r s n ht hr hs hn w
end Go.Proofs.Yteajgfdjjpcpiaa
