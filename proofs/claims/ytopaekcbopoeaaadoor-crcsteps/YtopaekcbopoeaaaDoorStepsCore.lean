/-
  CrcSteps, behind the opening of its arguments: the call answers true, and what lay in memory is as it was.
  Conditions: the table holds its numbers; the list is shorter than 2^47.
-/
import Derived.Test.YtopaekcbopoeaaaDoorOpen
namespace Go.Proofs.YtopaekcbopoeaaaDoor
open Go.RowKit
set_option linter.unusedVariables false
set_option maxRecDepth 100000 in
set_option maxHeartbeats 1000000 in
theorem steps_core (w : World) (hT : Tab w) (a : Option Addr) (l : List Nat) (cap n : Nat) (hn : n < 65536) (hlc : l.length ≤ cap) (hcap : cap < 140737488355328) (ho : Oct l) (hr : Lies w a l) :
    Calls Tryd.prog 5 #[.slice a l.length cap, .int .u16 (n : Int)] w fun e w' => e = .returned (.bool true) ∧ Below w.heap.size w w' := by
  obtain ⟨k, hk⟩ : ∃ k, n % (l.length + 1) = k := ⟨_, rfl⟩
  have hkl : k ≤ l.length := by rw [← hk]; have := Nat.mod_lt n (show 0 < l.length + 1 by omega); omega
  have hkc : (l.take k).length = k := by rw [List.length_take]; omega
  have c1 := sum_c a (l.take k) cap w hT (ho.take k) (by omega) (lies_take hr k)
  have c2 := sum_c a l cap w hT ho (by omega) hr
  rw [hkc] at c1
  have hmod : (n : Int).tmod ((l.length : Int) + 1) = (k : Int) := by
    rw [← hk, Int.tmod_eq_emod_of_nonneg (by omega)]; push_cast; rfl
  have c3 : Calls Tryd.prog 8 #[.slice (some ⟨w.heap.size, 0, none⟩) 1 1] (w.alloc (.cells #[.int .u8 0] 5)) fun e w' => e = .returned (.int .u32 3523407757) ∧ w.alloc (.cells #[.int .u8 0] 5) = w' := by
    have := sum_c (some ⟨w.heap.size, 0, none⟩) [0] 1 _ (hT.below ((Below.refl w.heap.size w).alloc (Nat.le_refl _) (.cells #[.int .u8 0] 5)) hT.lt) (by intro x hx; simp at hx; omega) (by decide) (lies_new w 0)
    rw [sum_nought] at this
    exact this
  have hsl := ho.sm_lt
  obtain ⟨L, hL⟩ : ∃ L, l.length = L := ⟨_, rfl⟩
  have AL : Aside (l.length = L ∧ L < 140737488355328 ∧ L ≤ cap ∧ cap < 140737488355328 ∧ k ≤ L) := ⟨hL, by omega, by omega, hcap, by omega⟩
  rw [hL] at hmod c2 ⊢
  have hL1 : (L : Int) + 1 < 9223372036854775808 := by omega
  have hL0 : ¬ ((L : Int) + 1 = 0) := by omega
  have hkL : (k : Int) ≤ (cap : Int) := by omega
  clear hcap hlc hk hkl hkc hL
  go_enter Tryd.func5, Tryd.ntmps5
  go_wp2_with fail
  refine c1.mono ?_
  rintro e w' ⟨rfl, rfl⟩
  go_wp2_with fail
  go_loopg [6, 7] (L - k) (fun g sx si wr => ∃ j : Nat, j + g = L ∧ si = .int .i64 j ∧ sx = .int .u32 (sm 0 (l.take j) : Nat) ∧ w = wr)
  case atStart => exact ⟨k, by have := AL.out; omega, rfl, rfl, rfl⟩
  case round =>
    obtain ⟨j, hj, rfl, rfl, rfl⟩ := hrel
    have hsj := (ho.take j).sm_lt
    by_cases hlt : j < L
    · have hki : (j : Int) < (L : Int) := by omega
      have hjl : j < l.length := by rw [AL.out.1]; exact hlt
      have hx := List.getElem?_eq_getElem hjl
      have hx2 := ho _ (List.getElem_mem hjl)
      obtain ⟨x, hxx⟩ : ∃ x, l[j] = x := ⟨_, rfl⟩
      rw [hxx] at hx hx2
      have AX : Aside (sm 0 (l.take (j + 1)) = stp (sm 0 (l.take j)) x) := sm_take l j x hx
      have AK : Aside (j + gk = L) := hj
      have hkb : (j : Int) + 1 < 9223372036854775808 := by have := AL.out; omega
      rcases hr with rfl | ⟨b, o, rfl, hc⟩
      · simp at hjl
      have hcell := hc j x hx
      clear hc hx hxx hjl hj c1 c2 c3
      obtain ⟨s, hs⟩ : ∃ s, sm 0 (l.take j) = s := ⟨_, rfl⟩
      rw [hs] at hsj AX ⊢
      clear hs
      go_wp2_with (go_at_call 10; refine (step_c s x hsj hx2 _ hT).mono ?_; rintro e3 w3 ⟨rfl, rfl⟩)
      have hj := AK.out
      go_roundg (gk - 1)
      case measure => omega
      case rel => exact ⟨j + 1, by omega, by go_num, by rw [AX.out], rfl⟩
    · have hki : ¬ (j : Int) < (L : Int) := by omega
      have hk2 : l.take j = l := List.take_of_length_le (by have := AL.out; omega)
      rw [hk2]
      clear hk2
      obtain ⟨s, hs⟩ : ∃ s, sm 0 l = s := ⟨_, rfl⟩
      rw [hs] at c2 ⊢
      have e1 : ((s : Int) == s) = true := by simp
      clear hs
      go_wp2_with fail
      refine c2.mono ?_
      rintro e w' ⟨rfl, rfl⟩
      go_wp2_with fail
      refine c3.mono ?_
      rintro e w' ⟨rfl, rfl⟩
      go_wp2_with fail
      go_ret
      exact ⟨rfl, (Below.refl _ _).alloc (Nat.le_refl _) _⟩
end Go.Proofs.YtopaekcbopoeaaaDoor
