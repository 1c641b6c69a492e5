/-
  What Sums and Zero come to: at lists that are no block, and the document's.
  Conditions: the bytes lie side by side.
-/
import Derived.Test.YtcmmjbkgoafbnaaGreatDoorOwn
import Derived.Test.YtcmmjbkgoafbnaaGreatDoorSums
import Derived.OwnWalk
namespace Go.Proofs.YtcmmjbkgoafbnaaGreatDoor
open Go.RowKit
set_option linter.unusedVariables false
theorem ne512 {L : Nat} (h : L ≠ 512) : ((L : Int) != 512) = true := by rw [bne_iff_ne]; omega
theorem sums_no (a : Option Addr) (L cap : Nat) (w : World) (hL : L ≠ 512) :
    Calls Tryz.prog 51 #[.slice a L cap] w fun e w' => e = .returned (.tuple #[.int .i64 0, .int .i64 0, .bool false]) ∧ w = w' := by
  have h1 := ne512 hL
  clear hL
  go_enter Tryz.func51, Tryz.ntmps51
  go_wp2_with fail
  go_ret3
  exact ⟨rfl, rfl⟩
theorem rsums_no (a : Option Addr) (L cap : Nat) (w : World) (hL : L ≠ 512) :
    Calls Tryz.prog 32 #[.slice a L cap] w fun e w' => e = .returned (.tuple #[.int .i64 0, .int .i64 0, .bool false]) ∧ w = w' := by
  have h1 := ne512 hL
  clear hL
  go_enter Tryz.func32, Tryz.ntmps32
  go_wp2_with fail
  go_ret3
  exact ⟨rfl, rfl⟩
set_option maxRecDepth 100000 in
set_option maxHeartbeats 1000000 in
theorem rsums_c (a : Option Addr) (l : List Nat) (cap : Nat) (w : World) (hL : l.length = 512) (hb : Oct l) (h : Lies w a l) :
    Calls Tryz.prog 32 #[.slice a 512 cap] w fun e w' => e = .returned (.tuple #[.int .i64 (pl l 512), .int .i64 (sn l 512), .bool true]) ∧ w = w' := by
  rcases h with rfl | ⟨b, o, rfl, hc⟩
  · simp at hL
  go_enter Tryz.func32, Tryz.ntmps32
  go_wp2_with fail
  go_loopg [5, 6, 7] 512 (fun g sp ss si wr => ∃ k : Nat, k + g = 512 ∧ si = .int .i64 k ∧ sp = .int .i64 (pl l k) ∧ ss = .int .i64 (sn l k) ∧ w = wr)
  case atStart => exact ⟨0, rfl, rfl, rfl, rfl, rfl⟩
  case round =>
    obtain ⟨k, hk, rfl, rfl, rfl, rfl⟩ := hrel
    have AK : Aside (k + gk = 512) := hk
    have hp := pl_bd hb k
    have hs := sn_bd hb k
    by_cases hlt : k < 512
    · have hki : (k : Int) < 512 := by omega
      have hkl : k < l.length := by omega
      have hx := List.getElem?_eq_getElem hkl
      obtain ⟨x, hxx⟩ : ∃ x, l[k] = x := ⟨_, rfl⟩
      have hx2 : x < 256 := by rw [← hxx]; exact hb _ (List.getElem_mem hkl)
      rw [hxx] at hx
      have hcell := hc k x hx
      by_cases hin : 148 ≤ k ∧ k < 156
      · obtain ⟨h1, h2⟩ := hin
        have h1i : (148 : Int) ≤ (k : Int) := by omega
        have h2i : (k : Int) ≤ 155 := by omega
        have AV : Aside (val l k = 32) := val_in h1 h2
        clear hx hxx hkl hk h1 h2 hlt
        go_wp2_with fail
        have hk := AK.out
        go_roundg (gk - 1)
        case measure => omega
        case rel => exact ⟨k + 1, by omega, by go_num, by rw [pl, AV.out]; go_num, by rw [sn, AV.out]; rfl, rfl⟩
      · have AV : Aside (val l k = x) := val_out (by omega) hx
        have hin2 : ¬ (148 : Int) ≤ (k : Int) ∨ (148 : Int) ≤ (k : Int) ∧ ¬ (k : Int) ≤ 155 := by omega
        by_cases h128 : 128 ≤ x
        · have h128i : (128 : Int) ≤ (x : Int) := by omega
          have AZ : Aside (sg x = (x : Int) - 256) := by show _ = _; unfold sg; rw [if_pos h128]
          clear hx hxx hkl hk hlt hin h128
          rcases hin2 with h1i | ⟨h1i, h2i⟩
          all_goals
            go_wp2_with fail
            have hk := AK.out
            go_roundg (gk - 1)
            case measure => omega
            case rel => exact ⟨k + 1, by omega, by go_num, by rw [pl, AV.out], by rw [sn, AV.out, AZ.out]; try go_num, rfl⟩
        · have h128i : ¬ (128 : Int) ≤ (x : Int) := by omega
          have AZ : Aside (sg x = (x : Int)) := by show _ = _; unfold sg; rw [if_neg h128]
          clear hx hxx hkl hk hlt hin h128
          rcases hin2 with h1i | ⟨h1i, h2i⟩
          all_goals
            go_wp2_with fail
            have hk := AK.out
            go_roundg (gk - 1)
            case measure => omega
            case rel => exact ⟨k + 1, by omega, by go_num, by rw [pl, AV.out], by rw [sn, AV.out, AZ.out], rfl⟩
    · have hki : ¬ (k : Int) < 512 := by omega
      have hk2 : k = 512 := by omega
      subst hk2
      go_wp2_with fail
      go_ret3
      exact ⟨rfl, rfl⟩
theorem noughts_cons (x : Nat) (r : List Nat) : noughts (x :: r) = (x == 0 && noughts r) := rfl
theorem zero_no (a : Option Addr) (L cap : Nat) (w : World) (hL : L ≠ 512) :
    Calls Tryz.prog 41 #[.slice a L cap] w fun e w' => e = .returned (.bool false) ∧ w = w' := by
  have h1 := ne512 hL
  clear hL
  go_enter Tryz.func41, Tryz.ntmps41
  go_wp2_with fail
  go_ret
  exact ⟨rfl, rfl⟩
set_option maxRecDepth 100000 in
set_option maxHeartbeats 1000000 in
theorem zero_c (a : Option Addr) (l : List Nat) (cap : Nat) (w : World) (hL : l.length = 512) (h : Lies w a l) :
    Calls Tryz.prog 41 #[.slice a 512 cap] w fun e w' => e = .returned (.bool (noughts l)) ∧ w = w' := by
  rcases h with rfl | ⟨b, o, rfl, hc⟩
  · simp at hL
  go_enter Tryz.func41, Tryz.ntmps41
  go_wp2_with fail
  go_loopg [10] 512 (fun g si wr => ∃ k : Nat, k + g = 512 ∧ si = .int .i64 k ∧ noughts (l.drop k) = noughts l ∧ w = wr)
  case atStart => exact ⟨0, rfl, rfl, by rw [List.drop_zero], rfl⟩
  case round =>
    obtain ⟨k, hk, rfl, hn, rfl⟩ := hrel
    have AK : Aside (k + gk = 512) := hk
    by_cases hlt : k < 512
    · have hki : (k : Int) < 512 := by omega
      have hkl : k < l.length := by omega
      have hx := List.getElem?_eq_getElem hkl
      have hd := List.drop_eq_getElem_cons hkl
      obtain ⟨x, hxx⟩ : ∃ x, l[k] = x := ⟨_, rfl⟩
      rw [hxx] at hx hd
      have hcell := hc k x hx
      rw [hd, noughts_cons] at hn
      by_cases h0 : x = 0
      · have h0i : ((x : Int) != 0) = false := by rw [h0]; rfl
        have h0n : (x == 0) = true := by rw [h0]; rfl
        rw [h0n, Bool.true_and] at hn
        have AN : Aside (noughts (l.drop (k + 1)) = noughts l) := hn
        clear hn h0 h0n hx hd hxx hkl hk hlt
        go_wp2_with fail
        have hk := AK.out
        go_roundg (gk - 1)
        case measure => omega
        case rel => exact ⟨k + 1, by omega, by go_num, AN.out, rfl⟩
      · have h0i : ((x : Int) != 0) = true := by rw [bne_iff_ne]; omega
        have h0n : (x == 0) = false := by rw [beq_eq_false_iff_ne]; exact h0
        rw [h0n, Bool.false_and] at hn
        have AN : Aside (false = noughts l) := hn
        clear hn h0 h0n hx hd hxx hkl hk hlt
        go_wp2_with fail
        go_ret
        exact ⟨by rw [← AN.out]; rfl, rfl⟩
    · have hki : ¬ (k : Int) < 512 := by omega
      have hk2 : l.drop k = [] := List.drop_eq_nil_of_le (by omega)
      rw [hk2] at hn
      have AN : Aside (true = noughts l) := hn
      clear hn hk2
      go_wp2_with fail
      go_ret
      exact ⟨by rw [← AN.out]; rfl, rfl⟩
set_option maxRecDepth 100000 in
set_option maxHeartbeats 1000000 in
theorem rzero_c (a : Option Addr) (l : List Nat) (L cap : Nat) (w : World) (hL : l.length = L) (hcap : L < 9223372036854775808) (h : Lies w a l) :
    Calls Tryz.prog 18 #[.slice a L cap] w fun e w' => e = .returned (.bool (noughts l && decide (L = 512))) ∧ w = w' := by
  have AL : Aside (l.length = L ∧ L < 9223372036854775808) := ⟨hL, hcap⟩
  have h512 : ((L : Int) == 512) = decide (L = 512) := beq_int L 512
  generalize decide (L = 512) = q at *
  clear hL hcap
  go_enter Tryz.func18, Tryz.ntmps18
  go_wp2_with fail
  go_loopg [3] L (fun g si wr => ∃ k : Nat, k + g = L ∧ si = .int .i64 k ∧ noughts (l.drop k) = noughts l ∧ w = wr)
  case atStart => exact ⟨0, by omega, rfl, by rw [List.drop_zero], rfl⟩
  case round =>
    obtain ⟨k, hk, rfl, hn, rfl⟩ := hrel
    have AK : Aside (k + gk = L) := hk
    clear hk
    by_cases hlt : k < L
    · have hki : (k : Int) < (L : Int) := by omega
      have hkl : k < l.length := by rw [AL.out.1]; exact hlt
      have hx := List.getElem?_eq_getElem hkl
      have hd := List.drop_eq_getElem_cons hkl
      obtain ⟨x, hxx⟩ : ∃ x, l[k] = x := ⟨_, rfl⟩
      rw [hxx] at hx hd
      rcases h with rfl | ⟨b, o, rfl, hc⟩
      · simp at hkl
      have hcell := hc k x hx
      rw [hd, noughts_cons] at hn
      have hkb : (k : Int) + 1 < 9223372036854775808 := by have := AL.out; omega
      by_cases h0 : x = 0
      · have h0i : ((x : Int) != 0) = false := by rw [h0]; rfl
        have h0n : (x == 0) = true := by rw [h0]; rfl
        rw [h0n, Bool.true_and] at hn
        have AN : Aside (noughts (l.drop (k + 1)) = noughts l) := hn
        clear hn h0 h0n hx hd hxx hkl
        go_wp2_with fail
        have hk := AK.out
        go_roundg (gk - 1)
        case measure => omega
        case rel => exact ⟨k + 1, by omega, by go_num, AN.out, rfl⟩
      · have h0i : ((x : Int) != 0) = true := by rw [bne_iff_ne]; omega
        have h0n : (x == 0) = false := by rw [beq_eq_false_iff_ne]; exact h0
        rw [h0n, Bool.false_and] at hn
        have AN : Aside (false = noughts l) := hn
        clear hn h0 h0n hx hd hxx hkl hkb
        go_wp2_with fail
        go_ret
        exact ⟨by rw [← AN.out]; rfl, rfl⟩
    · have hki : ¬ (k : Int) < (L : Int) := by omega
      have hk2 : l.drop k = [] := List.drop_eq_nil_of_le (by have := AL.out; omega)
      rw [hk2] at hn
      have AN : Aside (true = noughts l) := hn
      clear hn hk2
      go_wp2_with fail
      go_ret
      exact ⟨by rw [← AN.out]; rfl, rfl⟩
end Go.Proofs.YtcmmjbkgoafbnaaGreatDoor
