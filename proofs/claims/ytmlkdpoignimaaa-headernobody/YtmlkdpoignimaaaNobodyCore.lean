/-
  HeaderNobody's walk.
-/
import Derived.Test.YtmlkdpoignimaaaAwk
namespace Go.Proofs.Ytmlkdpoignimaaa
open Go.RowKit
set_option linter.unusedVariables false
set_option maxHeartbeats 1000000 in
theorem nobody_core (w : World) (x m : Int) : Calls Try.prog 6 #[.int .u8 x, .int .i64 m] w fun e w' => e = .returned (.bool true) ∧ Below w.heap.size w w' := by
  have h1 := reset_nil w
  have h2 := put_nil x w
  have h5 := fields_nil
  have h6 := end_nil
  by_cases hm : m < 1 ∨ 65536 < m
  · have h3 := new_bad m hm w
    have h4 := awake_c w
    by_cases hm1 : m < 1
    · have t1 : ((1 : Int) ≤ m) = False := eq_false (by omega)
      clear hm hm1
      go_enter Try.func6, Try.ntmps6
      go_wp2_with (first
        | (go_at_call 15; refine h1.mono ?_; rintro e1 w1 ⟨rfl, rfl⟩)
        | (go_at_call 14; refine h2.mono ?_; rintro e1 w1 ⟨rfl, rfl⟩)
        | (go_at_call 13; refine h3.mono ?_; rintro e1 w1 ⟨rfl, rfl⟩)
        | (go_at_call 17; refine (h6 _).mono ?_; rintro e1 w1 ⟨rfl, rfl⟩)
        | (go_at_call 16; refine (h5 _).mono ?_; rintro e1 w1 ⟨rfl, rfl⟩)
        | (go_at_call 10; refine h4.mono ?_; rintro e1 w1 ⟨rfl, hb⟩))
      first | go_ret | go_ret2
      exact ⟨rfl, hb⟩
    · have t1 : ((1 : Int) ≤ m) = True := eq_true (by omega)
      have t2 : (m ≤ (65536 : Int)) = False := eq_false (by omega)
      clear hm hm1
      go_enter Try.func6, Try.ntmps6
      go_wp2_with (first
        | (go_at_call 15; refine h1.mono ?_; rintro e1 w1 ⟨rfl, rfl⟩)
        | (go_at_call 14; refine h2.mono ?_; rintro e1 w1 ⟨rfl, rfl⟩)
        | (go_at_call 13; refine h3.mono ?_; rintro e1 w1 ⟨rfl, rfl⟩)
        | (go_at_call 17; refine (h6 _).mono ?_; rintro e1 w1 ⟨rfl, rfl⟩)
        | (go_at_call 16; refine (h5 _).mono ?_; rintro e1 w1 ⟨rfl, rfl⟩)
        | (go_at_call 10; refine h4.mono ?_; rintro e1 w1 ⟨rfl, hb⟩))
      first | go_ret | go_ret2
      exact ⟨rfl, hb⟩
  · obtain ⟨n, rfl⟩ : ∃ n : Nat, m = (n : Int) := ⟨m.toNat, by omega⟩
    have h3 := new_c n (by omega) (by omega) w
    unfold NewTo at h3
    have t1 : ((1 : Int) ≤ (n : Int)) = True := eq_true (by omega)
    have t1' : (1 ≤ n) = True := eq_true (by omega)
    have t2 : ((n : Int) ≤ (65536 : Int)) = True := eq_true (by omega)
    have t2' : (n ≤ 65536) = True := eq_true (by omega)
    have h4 := fun W => awake_c W
    clear hm
    go_enter Try.func6, Try.ntmps6
    go_wp2_with (first
      | (go_at_call 15; refine h1.mono ?_; rintro e1 w1 ⟨rfl, rfl⟩)
      | (go_at_call 14; refine h2.mono ?_; rintro e1 w1 ⟨rfl, rfl⟩)
      | (go_at_call 13; refine h3.mono ?_; rintro e1 w3 ⟨B, rfl, hg, hb3⟩)
      | (go_at_call 17; refine (h6 _).mono ?_; rintro e1 w1 ⟨rfl, rfl⟩)
      | (go_at_call 16; refine (h5 _).mono ?_; rintro e1 w1 ⟨rfl, rfl⟩)
      | (go_at_call 10; refine (h4 _).mono ?_; rintro e1 w4 ⟨rfl, hb4⟩))
    first | go_ret | go_ret2
    exact ⟨rfl, hb3.trans (hb4.mono hb3.size)⟩
end Go.Proofs.Ytmlkdpoignimaaa
