/-
  NumberSums, behind the opening of its argument: the call answers true, and what lay in memory is as it was.
  Conditions: the bytes lie side by side, and are no more than the slice's room.
-/
import Derived.Test.YtmaojldkadpheaaRight
import Derived.Test.YtmaojldkadpheaaPut
import Derived.Test.YtmaojldkadpheaaOpen
namespace Go.Proofs.Ytmaojldkadpheaa
open Go.RowKit
set_option linter.unusedVariables false
theorem noughts_rep : ∀ n : Nat, noughts (List.replicate n 0) = true
  | 0 => rfl
  | n + 1 => by rw [List.replicate_succ, noughts_cons, noughts_rep n]; rfl
set_option maxRecDepth 100000 in
set_option maxHeartbeats 2000000 in
theorem sums_gen (w : World) (a : Option Addr) (L cap : Nat) (p s : Int) (ok r z : Bool)
    (c1 : Calls Try.prog 18 #[.slice a L cap] w fun e w' => e = .returned (.tuple #[.int .i64 p, .int .i64 s, .bool ok]) ∧ w = w')
    (c2 : Calls Try.prog 19 #[.slice a L cap] w fun e w' => e = .returned (.tuple #[.int .i64 p, .int .i64 s, .bool ok]) ∧ w = w')
    (c3 : Calls Try.prog 20 #[.slice a L cap] w fun e w' => e = .returned (.bool r) ∧ w = w')
    (c4 : Calls Try.prog 21 #[.slice a L cap] w fun e w' => e = .returned (.bool r) ∧ w = w')
    (c5 : Calls Try.prog 22 #[.slice a L cap] w fun e w' => e = .returned (.bool z) ∧ w = w')
    (c6 : Calls Try.prog 23 #[.slice a L cap] w fun e w' => e = .returned (.bool z) ∧ w = w') :
    Calls Try.prog 5 #[.slice a L cap] w fun e w' => e = .returned (.bool true) ∧ Below w.heap.size w w' := by
  have hm : (Instr.makeSlice 22 (.int .i64 512) (.int .i64 512)).run Try.prog w = .ok (.slice (some ⟨w.heap.size, 0, none⟩) 512 512) (w.alloc (.cells (vn (List.replicate 512 0)).toArray 5)) := made 512 (by decide) w
  have bk := Bk.new w 512
  have c7 := zero_c (some ⟨w.heap.size, 0, none⟩) (List.replicate 512 0) 512 _ List.length_replicate bk.lies
  rw [noughts_rep] at c7
  have hbel := bk.bel
  clear bk
  generalize (vn (List.replicate 512 0)).toArray = cs at *
  have e1 : (p == p) = true := by simp
  have e2 : (s == s) = true := by simp
  have e3 : (ok == ok) = true := by simp
  have e4 : (r == r) = true := by simp
  have e5 : (z == z) = true := by simp
  go_enter Try.func5, Try.ntmps5
  go_wp2_with fail
  refine c1.mono ?_
  rintro e u ⟨rfl, rfl⟩
  go_wp2_with fail
  refine c2.mono ?_
  rintro e u ⟨rfl, rfl⟩
  go_wp2_with fail
  refine c3.mono ?_
  rintro e u ⟨rfl, rfl⟩
  go_wp2_with fail
  refine c4.mono ?_
  rintro e u ⟨rfl, rfl⟩
  go_wp2_with fail
  refine c5.mono ?_
  rintro e u ⟨rfl, rfl⟩
  go_wp2_with fail
  refine c6.mono ?_
  rintro e u ⟨rfl, rfl⟩
  go_wp2_with fail
  refine c7.mono ?_
  rintro e u ⟨rfl, rfl⟩
  go_wp2_with fail
  go_ret
  exact ⟨rfl, hbel⟩
theorem sums_core (w : World) (a : Option Addr) (l : List Nat) (L cap : Nat) (hL : l.length = L) (hb : Oct l) (hlc : L ≤ cap) (hcap : cap < 9223372036854775808) (h : Lies w a l) :
    Calls Try.prog 5 #[.slice a L cap] w fun e w' => e = .returned (.bool true) ∧ Below w.heap.size w w' := by
  have c6 := rzero_c a l L cap w hL (by omega) h
  by_cases h5 : L = 512
  · subst h5
    rw [decide_eq_true rfl, Bool.and_true] at c6
    exact sums_gen w a 512 cap _ _ _ _ _ (sums_c a l cap w hL hb h) (rsums_c a l cap w hL hb h) (right_c a l cap w hL hb hlc hcap h) (rright_c a l cap w hL hb hlc hcap h) (zero_c a l cap w hL h) c6
  · rw [decide_eq_false h5, Bool.and_false] at c6
    exact sums_gen w a L cap _ _ _ _ _ (sums_no a L cap w h5) (rsums_no a L cap w h5) (right_no a L cap w h5) (rright_no a L cap w h5) (zero_no a L cap w h5) c6
end Go.Proofs.Ytmaojldkadpheaa
