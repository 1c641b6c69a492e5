/-
  What Sums and Zero come to, the program's and the document's: the two sums of a block, whether it holds noughts alone.
  Conditions: the bytes lie side by side.
-/
import Derived.Test.YtcmmjbkgoafbnaaGreatDoorOwn
import Derived.Test.YtcmmjbkgoafbnaaGreatDoorRead
namespace Go.Proofs.YtcmmjbkgoafbnaaGreatDoor
open Go.RowKit
set_option linter.unusedVariables false
theorem val_lt {l : List Nat} (h : Oct l) (i : Nat) : val l i < 256 := by
  unfold val
  split
  · decide
  · rw [List.getD_eq_getElem?_getD]
    cases hx : l[i]? with
    | none => simp
    | some x => exact h x (List.mem_of_getElem? hx)
theorem sg_bd (x : Nat) (h : x < 256) : -128 ≤ sg x ∧ sg x ≤ 127 := by unfold sg; split <;> omega
theorem pl_bd {l : List Nat} (h : Oct l) : ∀ k : Nat, 0 ≤ pl l k ∧ pl l k ≤ 255 * k
  | 0 => by simp [pl]
  | k + 1 => by have := pl_bd h k; have := val_lt h k; rw [pl]; omega
theorem sn_bd {l : List Nat} (h : Oct l) : ∀ k : Nat, -128 * (k : Int) ≤ sn l k ∧ sn l k ≤ 127 * k
  | 0 => by simp [sn]
  | k + 1 => by have := sn_bd h k; have := sg_bd _ (val_lt h k); rw [sn]; omega
theorem val_in {l : List Nat} {i : Nat} (h : 148 ≤ i) (h2 : i < 156) : val l i = 32 := by unfold val; rw [if_pos ⟨h, h2⟩]
theorem val_out {l : List Nat} {i x : Nat} (h : i < 148 ∨ 156 ≤ i) (hx : l[i]? = some x) : val l i = x := by
  unfold val; rw [if_neg (by omega), List.getD_eq_getElem?_getD, hx]; rfl
theorem sg_all : ∀ x : Fin 256, IntKind.i8.wrap (x.val : Int) = sg x.val := by decide +kernel
theorem sg_wrap (x : Nat) (h : x < 256) : IntKind.i8.wrap (x : Int) = sg x := sg_all ⟨x, h⟩
set_option maxRecDepth 100000 in
set_option maxHeartbeats 1000000 in
theorem sums_c (a : Option Addr) (l : List Nat) (cap : Nat) (w : World) (hL : l.length = 512) (hb : Oct l) (h : Lies w a l) :
    Calls Tryz.prog 51 #[.slice a 512 cap] w fun e w' => e = .returned (.tuple #[.int .i64 (pl l 512), .int .i64 (sn l 512), .bool true]) ∧ w = w' := by
  rcases h with rfl | ⟨b, o, rfl, hc⟩
  · simp at hL
  go_enter Tryz.func51, Tryz.ntmps51
  go_wp2_with fail
  go_loopg [2, 3, 12] 512 (fun g sp ss si wr => ∃ k : Nat, k + g = 512 ∧ si = .int .i64 k ∧ sp = .int .i64 (pl l k) ∧ ss = .int .i64 (sn l k) ∧ w = wr)
  case atStart => exact ⟨0, rfl, rfl, rfl, rfl, rfl⟩
  case round =>
    obtain ⟨k, hk, rfl, rfl, rfl, rfl⟩ := hrel
    have AK : Aside (k + gk = 512) := hk
    have hp := pl_bd hb k
    have hs := sn_bd hb k
    by_cases hlt : k < 512
    · have hki : (k : Int) < 512 := by omega
      have hkl : k < l.length := by omega
      have hx := List.getElem?_eq_getElem hkl
      obtain ⟨x, hxx⟩ : ∃ x, l[k] = x := ⟨_, rfl⟩
      have hx2 : x < 256 := by rw [← hxx]; exact hb _ (List.getElem_mem hkl)
      rw [hxx] at hx
      have hcell := hc k x hx
      by_cases h1 : 148 ≤ k
      · have h1i : (148 : Int) ≤ (k : Int) := by omega
        by_cases h2 : k < 156
        · have h2i : (k : Int) < 156 := by omega
          have AV : Aside (val l k = 32) := val_in h1 h2
          clear hx hxx hkl hk h1 h2 hlt
          go_wp2_with fail
          have hk := AK.out
          go_roundg (gk - 1)
          case measure => omega
          case rel => exact ⟨k + 1, by omega, by go_num, by rw [pl, AV.out]; go_num, by rw [sn, AV.out]; rfl, rfl⟩
        · have h2i : ¬ (k : Int) < 156 := by omega
          have AV : Aside (val l k = x) := val_out (by omega) hx
          have hsg := sg_wrap x hx2
          have hsb := sg_bd x hx2
          obtain ⟨z, hz⟩ : ∃ z, sg x = z := ⟨_, rfl⟩
          have AZ : Aside (sg x = z) := hz
          rw [hz] at hsg hsb
          clear hx hxx hkl hk h1 h2 hlt hz
          go_wp2_with fail
          have hk := AK.out
          go_roundg (gk - 1)
          case measure => omega
          case rel => exact ⟨k + 1, by omega, by go_num, by rw [pl, AV.out], by rw [sn, AV.out, AZ.out], rfl⟩
      · have h1i : ¬ (148 : Int) ≤ (k : Int) := by omega
        have AV : Aside (val l k = x) := val_out (by omega) hx
        have hsg := sg_wrap x hx2
        have hsb := sg_bd x hx2
        obtain ⟨z, hz⟩ : ∃ z, sg x = z := ⟨_, rfl⟩
        have AZ : Aside (sg x = z) := hz
        rw [hz] at hsg hsb
        clear hx hxx hkl hk h1 hlt hz
        go_wp2_with fail
        have hk := AK.out
        go_roundg (gk - 1)
        case measure => omega
        case rel => exact ⟨k + 1, by omega, by go_num, by rw [pl, AV.out], by rw [sn, AV.out, AZ.out], rfl⟩
    · have hki : ¬ (k : Int) < 512 := by omega
      have hk2 : k = 512 := by omega
      subst hk2
      go_wp2_with fail
      exact bodyPost_ret (v := .tuple #[.int .i64 (pl l 512), .int .i64 (sn l 512), .bool true]) (by simp [results, Tryz.results51, go_sem]) rfl ⟨rfl, rfl⟩
end Go.Proofs.YtcmmjbkgoafbnaaGreatDoor
