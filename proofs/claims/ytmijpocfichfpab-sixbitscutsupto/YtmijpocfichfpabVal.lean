/-
  What the program and the document say of one byte: is it a blank, which letter is it.
-/
import Derived.Test.YtmijpocfichfpabMem
import Derived.Test.YtmijpocfichfpabSix
import Derived.Test.YtmijpocfichfpabChecked
import Derived.WalkMore
import Derived.Deep.LoopGhost
namespace Go.Proofs.Ytmijpocfichfpab
open Go.RowKit
set_option linter.unusedVariables false
theorem isb (x : Nat) : isBlank x = ((x : Int) == 9 || (x : Int) == 10 || (x : Int) == 13 || (x : Int) == 32) := by
  rw [Bool.eq_iff_iff]
  simp [isBlank]
  omega
theorem blank_c (x : Nat) (hx : x < 256) (w : World) : Calls Try.prog 13 #[.int .u8 x] w fun e w' => e = .returned (.bool (isBlank x)) ∧ w' = w := by
  rw [isb]
  go_enter Try.func13, Try.ntmps13
  go_wp2_with fail
  all_goals
    go_ret
    refine ⟨?_, rfl⟩
    simp_all
theorem vlA {x : Nat} (h : 65 ≤ x) (h2 : x ≤ 90) : (vl x : Int) = x - 65 ∧ vl x ≠ 64 := by unfold vl; rw [if_pos ⟨h, h2⟩]; omega
theorem vla {x : Nat} (h : 97 ≤ x) (h2 : x ≤ 122) : (vl x : Int) = x - 71 ∧ vl x ≠ 64 := by unfold vl; rw [if_neg (by omega), if_pos ⟨h, h2⟩]; omega
theorem vl0 {x : Nat} (h : 48 ≤ x) (h2 : x ≤ 57) : (vl x : Int) = x + 4 ∧ vl x ≠ 64 := by unfold vl; rw [if_neg (by omega), if_neg (by omega), if_pos ⟨h, h2⟩]; omega
theorem vln {x : Nat} (h : ¬ (65 ≤ x ∧ x ≤ 90)) (h2 : ¬ (97 ≤ x ∧ x ≤ 122)) (h3 : ¬ (48 ≤ x ∧ x ≤ 57)) (h4 : x ≠ 43) (h5 : x ≠ 47) : vl x = 64 := by unfold vl; rw [if_neg h, if_neg h2, if_neg h3, if_neg h4, if_neg h5]
theorem vlP : vl 43 = 62 := by decide
theorem vlS : vl 47 = 63 := by decide
set_option maxHeartbeats 1000000 in
theorem value_c (x : Nat) (hx : x < 256) (r : Nat) (q : Bool) (hr : Aside ((vl x = 64 ∧ r = 0 ∧ q = false) ∨ (vl x ≠ 64 ∧ r = vl x ∧ q = true))) (w : World) : Calls Try.prog 17 #[.int .u8 x] w fun e w' => e = .returned (.tuple #[.int .u8 r, .bool q]) ∧ w' = w := by
  by_cases n1 : x = 43
  · subst n1
    have hr := hr.out
    have := vlP
    obtain rfl : r = 62 := by omega
    obtain rfl : q = true := by rcases hr with h | h; · omega
                                · exact h.2.2
    clear hr
    go_enter Try.func17, Try.ntmps17
    go_wp2_with fail
    go_ret2
    exact ⟨rfl, rfl⟩
  by_cases n2 : x = 47
  · subst n2
    have hr := hr.out
    have := vlS
    obtain rfl : r = 63 := by omega
    obtain rfl : q = true := by rcases hr with h | h; · omega
                                · exact h.2.2
    clear hr
    go_enter Try.func17, Try.ntmps17
    go_wp2_with fail
    go_ret2
    exact ⟨rfl, rfl⟩
  go_enter Try.func17, Try.ntmps17
  go_wp2_with fail
  all_goals
    go_ret2
    refine ⟨?_, rfl⟩
    have hr := hr.out
    first
      | (have h := vln (x := x) (by omega) (by omega) (by omega) (by omega) (by omega)
         rcases hr with ⟨_, rfl, rfl⟩ | ⟨h2, _⟩
         · rfl
         · exact absurd h h2)
      | (rcases hr with ⟨h2, rfl, rfl⟩ | ⟨h2, rfl, rfl⟩
         · exfalso
           first
             | (have h := vlA (x := x) (by omega) (by omega); exact h.2 h2)
             | (have h := vla (x := x) (by omega) (by omega); exact h.2 h2)
             | (have h := vl0 (x := x) (by omega) (by omega); exact h.2 h2)
             | (simp at *; omega)
         · refine congrArg Ending.returned (congrArg Value.tuple ((congrArg (fun z => #[Value.int .u8 z, Value.bool true]) (?_ : _ = ((vl x : Nat) : Int)))))
           first
             | (have h := vlA (x := x) (by omega) (by omega); omega)
             | (have h := vla (x := x) (by omega) (by omega); omega)
             | (have h := vl0 (x := x) (by omega) (by omega); omega)
             | (exfalso; simp at *; omega))
      | trace_state
end Go.Proofs.Ytmijpocfichfpab
