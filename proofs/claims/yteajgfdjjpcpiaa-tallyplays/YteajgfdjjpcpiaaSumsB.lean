/-
  What tally.Allowed and the document's answers for Add, Times and Allowed come to, whatever the numbers.
  Conditions: the arguments are numbers of 64 bits without sign.
-/
import Derived.Test.YteajgfdjjpcpiaaSums
namespace Go.Proofs.Yteajgfdjjpcpiaa
open Go.RowKit

theorem radd_any (x y : Int) (hx : Word x) (hy : Word y) (w : World) :
    Calls Try.prog 10 #[.int .u64 x, .int .u64 y] w fun e w' => e = .returned (.int .u64 (sat (x + y))) ∧ w' = w := by
  obtain ⟨x0, x1⟩ := hx; obtain ⟨y0, y1⟩ := hy
  by_cases h : x + y < 18446744073709551616
  · have h' : ¬ 18446744073709551615 - y < x := by omega
    go_enter Try.func10, Try.ntmps10
    go_wp2
    go_ret
    exact ⟨ret_int (by unfold sat; rw [if_pos h]), rfl⟩
  · have h' : 18446744073709551615 - y < x := by omega
    go_enter Try.func10, Try.ntmps10
    go_wp2
    go_ret
    exact ⟨ret_int (by unfold sat; rw [if_neg (by omega)]), rfl⟩

theorem wrap_u64_of {x : Int} (h : 0 ≤ x) (h' : x < 18446744073709551616) : IntKind.u64.wrap x = x := by rw [IntKind.wrap_u64]; omega

theorem quo_lt (x y : Int) (hy : 0 < y) (h : 18446744073709551615 / y < x) : ¬ x * y < 18446744073709551616 := by
  intro hc
  have := (Int.ediv_lt_iff_lt_mul hy).1 h
  omega
theorem quo_ge (x y : Int) (hy : 0 < y) (h : ¬ 18446744073709551615 / y < x) : x * y < 18446744073709551616 := by
  have : x ≤ 18446744073709551615 / y := by omega
  have := (Int.le_ediv_iff_mul_le hy).1 this
  omega

theorem rtimes_any (x y : Int) (hx : Word x) (hy : Word y) (w : World) :
    Calls Try.prog 12 #[.int .u64 x, .int .u64 y] w fun e w' => e = .returned (.int .u64 (sat (x * y))) ∧ w' = w := by
  obtain ⟨x0, x1⟩ := hx; obtain ⟨y0, y1⟩ := hy
  by_cases hy0 : y = 0
  · subst hy0
    go_enter Try.func12, Try.ntmps12
    go_wp2
    go_ret
    exact ⟨ret_int (by simp [sat]), rfl⟩
  · have hb : (y != 0) = true := by simp only [bne_iff_ne]; exact hy0
    have hp : 0 < y := by omega
    by_cases h : 18446744073709551615 / y < x
    · have HS : Hid (sat (x * y) = 18446744073709551615) := by unfold sat; exact if_neg (quo_lt x y hp h)
      go_enter Try.func12, Try.ntmps12
      go_wp2
      all_goals (go_ret; exact ⟨ret_int HS.out.symm, rfl⟩)
    · have HS : Hid (sat (x * y) = IntKind.u64.wrap (x * y)) := by
        have hl := quo_ge x y hp h
        have hn := Int.mul_nonneg x0 y0
        rw [wrap_u64_of hn hl]; unfold sat; exact if_pos hl
      go_enter Try.func12, Try.ntmps12
      go_wp2
      all_goals (go_ret; exact ⟨ret_int HS.out.symm, rfl⟩)

theorem rallowed_any (t r s n : Int) (_ht : Word t) (hr : Word r) (hs : Word s) (hn : Word n) (w : World) :
    Calls Try.prog 14 #[.int .u64 t, .int .u64 r, .int .u64 s, .int .u64 n] w fun e w' => e = .returned (.int .u64 (lesser (sat (sat (r * n) + s)) t)) ∧ w' = w := by
  have hp := sat_word (mul_nn hr hn)
  by_cases h : sat (sat (r * n) + s) < t
  · go_enter Try.func14, Try.ntmps14
    go_wp2_with (first | (go_at_call 12; refine (rtimes_any r n hr hn _).mono ?_; rintro e w' ⟨rfl, rfl⟩) | (go_at_call 10; refine (radd_any _ s hp hs _).mono ?_; rintro e w' ⟨rfl, rfl⟩))
    go_ret
    exact ⟨ret_int (by unfold lesser; rw [if_pos h]), rfl⟩
  · go_enter Try.func14, Try.ntmps14
    go_wp2_with (first | (go_at_call 12; refine (rtimes_any r n hr hn _).mono ?_; rintro e w' ⟨rfl, rfl⟩) | (go_at_call 10; refine (radd_any _ s hp hs _).mono ?_; rintro e w' ⟨rfl, rfl⟩))
    go_ret
    exact ⟨ret_int (by unfold lesser; rw [if_neg (by omega)]), rfl⟩

theorem allowed_any (t r s n : Int) (_ht : Word t) (hr : Word r) (hs : Word s) (hn : Word n) (w : World) :
    Calls Try.prog 13 #[.int .u64 t, .int .u64 r, .int .u64 s, .int .u64 n] w fun e w' => e = .returned (.int .u64 (lesser (sat (sat (r * n) + s)) t)) ∧ w' = w := by
  have hp := sat_word (mul_nn hr hn)
  have hq := sat_word (add_nn hp hs)
  go_enter Try.func13, Try.ntmps13
  go_wp2_with (first | (go_at_call 11; refine (times_any r n hr hn _).mono ?_; rintro e w' ⟨rfl, rfl⟩) | (go_at_call 9; refine (add_any _ s hp hs _).mono ?_; rintro e w' ⟨rfl, rfl⟩))
  all_goals go_ret
  all_goals exact ⟨ret_int (by unfold lesser; omega), rfl⟩
end Go.Proofs.Yteajgfdjjpcpiaa
