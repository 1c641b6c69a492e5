/-
  What Binary and Field come to, the document's: the same numbers.
  Conditions: the bytes lie side by side, and are no more than the slice's room.
-/
import Derived.Test.YtcmmjbkgoafbnaaGreatDoorOwn
import Derived.Test.YtcmmjbkgoafbnaaGreatDoorRefRead
namespace Go.Proofs.YtcmmjbkgoafbnaaGreatDoor
open Go.RowKit
set_option linter.unusedVariables false
set_option maxRecDepth 100000 in
set_option maxHeartbeats 1000000 in
theorem rbinary_c (a : Option Addr) (l : List Nat) (L cap : Nat) (w : World) (hL : l.length = L) (hb : Oct l) (hlc : L ≤ cap) (hcap : cap < 9223372036854775808) (h : Lies w a l) :
    Calls Tryz.prog 30 #[.slice a L cap] w fun e w' => e = .returned (ans (bin l)) ∧ w = w' := by
  cases l with
  | nil =>
    have hL0 : L = 0 := by simpa using hL.symm
    subst hL0
    go_enter Tryz.func30, Tryz.ntmps30
    go_wp2_with fail
    go_ret2
    exact ⟨rfl, rfl⟩
  | cons x r =>
    rcases h with h | ⟨b, o, rfl, hc⟩
    · cases h
    have hL1 : L = r.length + 1 := by simpa using hL.symm
    have hL0 : 0 < L := by omega
    have hp : (0 : Int) < (L : Int) := by omega
    have hz : ((L : Int) == 0) = false := by rw [beq_eq_false_iff_ne]; omega
    have hc0 := hc 0 x rfl
    rw [Nat.add_zero] at hc0
    have hx := hb x (by simp)
    by_cases h1 : 128 ≤ x
    · have h1i : ¬ (x : Int) < 128 := by omega
      by_cases h2 : 192 ≤ x
      · have h2i : (192 : Int) ≤ (x : Int) := by omega
        have e : bin (x :: r) = none := by rw [bin, if_neg (by omega)]
        rw [e]
        clear e hL hb hL1 hcap hlc
        go_enter Tryz.func30, Tryz.ntmps30
        go_wp2_with fail
        go_ret2
        exact ⟨rfl, rfl⟩
      · have h2i : ¬ (192 : Int) ≤ (x : Int) := by omega
        have e : bin (x :: r) = bins (x - 128) r := by rw [bin, if_pos (by omega)]
        rw [e]
        obtain ⟨v0, hv0⟩ : ∃ v0, x - 128 = v0 := ⟨_, rfl⟩
        have hv1 : v0 < 128 := by omega
        have hvi : (x : Int) - 128 = (v0 : Int) := by omega
        have hd0 : (x :: r).drop 1 = r := rfl
        obtain ⟨l, hl⟩ : ∃ l, x :: r = l := ⟨_, rfl⟩
        rw [hl] at hc hb hL hd0
        have AM : Aside (l.length = L ∧ L < 9223372036854775808 ∧ l.drop 1 = r) := ⟨hL, by omega, hd0⟩
        rw [hv0]
        clear e hL hL1 hcap hlc hv0 hl hd0
        go_enter Tryz.func30, Tryz.ntmps30
        go_wp2_with fail
        clear h1i h2i hz hc0 hvi h1 h2
        obtain ⟨G, hG⟩ : ∃ G, L - 1 = G := ⟨_, rfl⟩
        have AG : Aside (1 + G = L) := by show _ = _; omega
        clear hG
        go_loopg [4, 5] G (fun g sv si wr => ∃ i v : Nat, i + g = L ∧ si = .int .i64 i ∧ sv = .int .u64 v ∧ v < 9223372036854775808 ∧ bins v (l.drop i) = bins v0 r ∧ w = wr)
        case atStart => exact ⟨1, v0, AG.out, rfl, rfl, by omega, by rw [AM.out.2.2], rfl⟩
        case round =>
          clear AG
          obtain ⟨k, v, hk, rfl, rfl, hv, hd, rfl⟩ := hrel
          have AK : Aside (k + gk = L) := hk
          clear hk
          by_cases hlt : k < L
          · have hki : (k : Int) < (L : Int) := by omega
            have hkl : k < l.length := by rw [AM.out.1]; exact hlt
            have hx := List.getElem?_eq_getElem hkl
            have hx2 := hb _ (List.getElem_mem hkl)
            have hdm := List.drop_eq_getElem_cons hkl
            obtain ⟨y, hxx⟩ : ∃ y, l[k] = y := ⟨_, rfl⟩
            rw [hxx] at hx hdm hx2
            have hcell := hc k y hx
            rw [hdm, bins] at hd
            have hkb : (k : Int) + 1 < 9223372036854775808 := by have := AM.out; omega
            clear hx hxx hkl hdm
            by_cases hgr : 36028797018963968 ≤ v
            · rw [if_pos hgr] at hd
              have hgi : (36028797018963968 : Int) ≤ (v : Int) := by omega
              have AD : Aside (none = bins v0 r) := hd
              clear hd hgr hv
              go_wp2_with fail
              go_ret2
              exact ⟨by rw [← AD.out]; rfl, rfl⟩
            · rw [if_neg hgr] at hd
              have hgi : ¬ (36028797018963968 : Int) ≤ (v : Int) := by omega
              have AD : Aside (bins (256 * v + y) (l.drop (k + 1)) = bins v0 r ∧ 256 * v + y < 9223372036854775808) := ⟨hd, by omega⟩
              clear hd hgr
              go_wp2_with fail
              have hk := AK.out
              go_roundg (gk - 1)
              case measure => omega
              case rel => exact ⟨k + 1, 256 * v + y, by omega, by go_num, by go_num, AD.out.2, AD.out.1, rfl⟩
          · have hki : ¬ (k : Int) < (L : Int) := by omega
            have hk2 : l.drop k = [] := List.drop_eq_nil_of_le (by have := AM.out; omega)
            rw [hk2, bins] at hd
            have AD : Aside (some v = bins v0 r) := hd
            clear hd hk2
            go_wp2_with fail
            go_ret2
            exact ⟨by rw [← AD.out]; rfl, rfl⟩
    · have h1i : (x : Int) < 128 := by omega
      have e : bin (x :: r) = none := by rw [bin, if_neg (by omega)]
      rw [e]
      clear e hL hb hL1 hcap hlc
      go_enter Tryz.func30, Tryz.ntmps30
      go_wp2_with fail
      go_ret2
      exact ⟨rfl, rfl⟩
theorem rfield_c (a : Option Addr) (l : List Nat) (L cap : Nat) (w : World) (hL : l.length = L) (hb : Oct l) (hlc : L ≤ cap) (hcap : cap < 9223372036854775808) (h : Lies w a l) :
    Calls Tryz.prog 19 #[.slice a L cap] w fun e w' => e = .returned (ans (fld l)) ∧ w = w' := by
  have co := roctal_c a l L cap w hL hb hlc hcap h
  have cb := rbinary_c a l L cap w hL hb hlc hcap h
  cases l with
  | nil =>
    have hL0 : L = 0 := by simpa using hL.symm
    subst hL0
    have e : ans (oct []) = .tuple #[.int .u64 0, .bool true] := rfl
    rw [e] at co
    clear cb h e
    go_enter Tryz.func19, Tryz.ntmps19
    go_wp2_with fail
    refine co.mono ?_
    rintro e w' ⟨rfl, rfl⟩
    go_wp2_with fail
    go_ret2
    exact ⟨rfl, rfl⟩
  | cons x r =>
    rcases h with h | ⟨b, o, rfl, hc⟩
    · cases h
    have hL0 : 0 < L := by rw [← hL]; simp
    have hp : (0 : Int) < (L : Int) := by omega
    have hc0 := hc 0 x rfl
    rw [Nat.add_zero] at hc0
    by_cases h1 : 128 ≤ x
    · have h1i : (128 : Int) ≤ (x : Int) := by omega
      have e : fld (x :: r) = bin (x :: r) := by unfold fld; rw [if_pos]; exact decide_eq_true h1
      rw [e]
      unfold ans at *
      generalize bin (x :: r) = q at *
      clear e co hL hb hc hlc hcap h1
      go_enter Tryz.func19, Tryz.ntmps19
      go_wp2_with fail
      refine cb.mono ?_
      rintro e w' ⟨rfl, rfl⟩
      go_wp2_with fail
      go_ret2
      exact ⟨rfl, rfl⟩
    · have h1i : ¬ (128 : Int) ≤ (x : Int) := by omega
      have e : fld (x :: r) = oct (x :: r) := by
        unfold fld; rw [if_neg]
        show ¬ decide (128 ≤ x) = true
        rw [decide_eq_false h1]; decide
      rw [e]
      unfold ans at *
      generalize oct (x :: r) = q at *
      clear e cb hL hb hc hlc hcap h1
      go_enter Tryz.func19, Tryz.ntmps19
      go_wp2_with fail
      refine co.mono ?_
      rintro e w' ⟨rfl, rfl⟩
      go_wp2_with fail
      go_ret2
      exact ⟨rfl, rfl⟩
end Go.Proofs.YtcmmjbkgoafbnaaGreatDoor
