/-
  What Binary and Field come to, the program's: the number of a field of bytes that lie side by side, or none.
  Conditions: the bytes lie side by side, and are no more than the slice's room.
-/
import Derived.Test.YtcmmjbkgoafbnaaGreatDoorOwn
import Derived.Test.YtcmmjbkgoafbnaaGreatDoorRead
namespace Go.Proofs.YtcmmjbkgoafbnaaGreatDoor
open Go.RowKit
set_option linter.unusedVariables false
theorem and128 : ∀ x : Fin 256, (x.val &&& 128 = 0) = (x.val < 128) := by decide +kernel
theorem and64 : ∀ x : Fin 256, (x.val &&& 64 = 0) = (x.val % 128 < 64) := by decide +kernel
theorem not128 : ∀ x : Fin 256, x.val &&& 127 = x.val % 128 := by decide +kernel
theorem top_bit (x : Nat) (hx : x < 256) : (bits .and .u8 (x : Int) 128 != 0) = decide (128 ≤ x) := by
  have h := and128 ⟨x, hx⟩
  rw [show (128 : Int) = ((128 : Nat) : Int) from rfl, u8_and_nat x 128 hx (by decide)]
  dsimp only at h
  by_cases h2 : 128 ≤ x
  · have h3 : ¬ (x &&& 128 = 0) := by rw [h]; omega
    rw [decide_eq_true h2, bne_iff_ne]; omega
  · have h3 : x &&& 128 = 0 := by rw [h]; omega
    rw [decide_eq_false h2, h3]; rfl
theorem next_bit (x : Nat) (hx : x < 256) (h2 : 128 ≤ x) : (bits .and .u8 (x : Int) 64 != 0) = decide (192 ≤ x) := by
  have h := and64 ⟨x, hx⟩
  rw [show (64 : Int) = ((64 : Nat) : Int) from rfl, u8_and_nat x 64 hx (by decide)]
  dsimp only at h
  by_cases h2 : 192 ≤ x
  · have h3 : ¬ (x &&& 64 = 0) := by rw [h]; omega
    rw [decide_eq_true h2, bne_iff_ne]; omega
  · have h3 : x &&& 64 = 0 := by rw [h]; omega
    rw [decide_eq_false h2, h3]; rfl
theorem low_bits (x : Nat) (hx : x < 256) (h2 : 128 ≤ x) : bits .andNot .u8 (x : Int) 128 = ((x - 128 : Nat) : Int) := by
  rw [show (128 : Int) = ((128 : Nat) : Int) from rfl, u8_andNot_nat x 128 hx (by decide)]
  have h := not128 ⟨x, hx⟩
  dsimp only at h
  rw [show 255 - 128 = 127 from rfl, h]
  omega
theorem or_byte (v x : Nat) (hv : v < 36028797018963968) (hx : x < 256) : bits .or .u64 (IntKind.u64.wrap ((v : Int) * 256)) (x : Int) = ((256 * v + x : Nat) : Int) := by
  have e : IntKind.u64.wrap ((v : Int) * 256) = ((256 * v : Nat) : Int) := by rw [IntKind.wrap_u64]; omega
  rw [e, u64_or_nat _ _ (by omega) (by omega)]
  congr 1
  exact (Nat.two_pow_add_eq_or_of_lt (i := 8) (b := x) hx v).symm
theorem marked_c (a : Option Addr) (l : List Nat) (L cap : Nat) (w : World) (hL : l.length = L) (hb : Oct l) (h : Lies w a l) :
    Calls Tryz.prog 53 #[.slice a L cap] w fun e w' => e = .returned (.bool (marked l)) ∧ w = w' := by
  cases l with
  | nil =>
    have hL0 : L = 0 := by simpa using hL.symm
    subst hL0
    go_enter Tryz.func53, Tryz.ntmps53
    go_wp2
    go_ret
    exact ⟨rfl, rfl⟩
  | cons x r =>
    rcases h with h | ⟨b, o, rfl, hc⟩
    · cases h
    have hL0 : 0 < L := by rw [← hL]; simp
    have hp : (0 : Int) < (L : Int) := by omega
    have hc0 := hc 0 x rfl
    rw [Nat.add_zero] at hc0
    have ht := top_bit x (hb x (by simp))
    have e : marked (x :: r) = decide (128 ≤ x) := rfl
    rw [e]
    generalize decide (128 ≤ x) = q at *
    clear hL hc e hb
    go_enter Tryz.func53, Tryz.ntmps53
    go_wp2
    go_ret
    exact ⟨rfl, rfl⟩
set_option maxRecDepth 100000 in
set_option maxHeartbeats 1000000 in
theorem binary_c (a : Option Addr) (l : List Nat) (L cap : Nat) (w : World) (hL : l.length = L) (hb : Oct l) (hlc : L ≤ cap) (hcap : cap < 9223372036854775808) (h : Lies w a l) :
    Calls Tryz.prog 54 #[.slice a L cap] w fun e w' => e = .returned (ans (bin l)) ∧ w = w' := by
  have cm := marked_c a l L cap w hL hb h
  cases l with
  | nil =>
    have hL0 : L = 0 := by simpa using hL.symm
    subst hL0
    go_enter Tryz.func54, Tryz.ntmps54
    go_wp2_with fail
    refine cm.mono ?_
    rintro e w' ⟨rfl, rfl⟩
    go_wp2_with fail
    go_ret2
    exact ⟨rfl, rfl⟩
  | cons x r =>
    rcases h with h | ⟨b, o, rfl, hc⟩
    · cases h
    have hL1 : L = r.length + 1 := by simpa using hL.symm
    have hL0 : 0 < L := by omega
    have hp : (0 : Int) < (L : Int) := by omega
    have hc0 := hc 0 x rfl
    rw [Nat.add_zero] at hc0
    have hx := hb x (by simp)
    have e : marked (x :: r) = decide (128 ≤ x) := rfl
    rw [e] at cm
    clear e
    by_cases h1 : 128 ≤ x
    · have hn := next_bit x hx h1
      rw [decide_eq_true h1] at cm
      by_cases h2 : 192 ≤ x
      · have e : bin (x :: r) = none := by rw [bin, if_neg (by omega)]
        rw [e]
        rw [decide_eq_true h2] at hn
        clear e hL hb hL1 hcap hlc
        go_enter Tryz.func54, Tryz.ntmps54
        go_wp2_with fail
        refine cm.mono ?_
        rintro e w' ⟨rfl, rfl⟩
        go_wp2_with fail
        go_ret2
        exact ⟨rfl, rfl⟩
      · have e : bin (x :: r) = bins (x - 128) r := by rw [bin, if_pos (by omega)]
        rw [e]
        rw [decide_eq_false h2] at hn
        have hlow := low_bits x hx h1
        obtain ⟨R, hR⟩ : ∃ R, r.length = R := ⟨_, rfl⟩
        have hLR : L - 1 = R := by omega
        have AM : Aside (r.length = R ∧ L = R + 1 ∧ L ≤ cap ∧ cap < 9223372036854775808) := ⟨hR, by omega, hlc, hcap⟩
        have hlies := lies_drop hc 1
        rw [List.drop_succ_cons, List.drop_zero] at hlies
        have hor : Oct r := fun y hy => hb y (List.mem_cons_of_mem _ hy)
        obtain ⟨v0, hv0⟩ : ∃ v0, x - 128 = v0 := ⟨_, rfl⟩
        have hv1 : v0 < 128 := by omega
        rw [hv0] at hlow ⊢
        clear e hL hb hL1 hcap hR hc h1 h2 hv0
        go_enter Tryz.func54, Tryz.ntmps54
        go_wp2_with fail
        refine cm.mono ?_
        rintro e w' ⟨rfl, rfl⟩
        go_wp2_with fail
        all_goals
          clear hlow hn hc0 cm
          go_loopg [4, 25] R (fun g sv si wr => ∃ k v : Nat, k + g = R ∧ si = .int .i64 k ∧ sv = .int .u64 v ∧ v < 9223372036854775808 ∧ bins v (r.drop k) = bins v0 r ∧ w = wr)
          case atStart => exact ⟨0, v0, by omega, rfl, rfl, by omega, by rw [List.drop_zero], rfl⟩
          case round =>
            obtain ⟨k, v, hk, rfl, rfl, hv, hd, rfl⟩ := hrel
            have AK : Aside (k + gk = R) := hk
            clear hk
            by_cases hlt : k < R
            · have hki : (k : Int) < (R : Int) := by omega
              have hkl : k < r.length := by rw [AM.out.1]; exact hlt
              have hx := List.getElem?_eq_getElem hkl
              have hx2 := hor _ (List.getElem_mem hkl)
              have hdm := List.drop_eq_getElem_cons hkl
              obtain ⟨y, hxx⟩ : ∃ y, r[k] = y := ⟨_, rfl⟩
              rw [hxx] at hx hdm hx2
              first
                | (exfalso; have := AM.out; omega)
                | (rcases hlies with hlies | ⟨b2, o2, hb2, hc⟩
                   · rw [hlies] at hkl; simp at hkl
                   cases hb2
                   have hcell := hc k y hx
                   rw [hdm, bins] at hd
                   clear hc hx hxx hkl hdm
                   have cf := fits_c v 55 w (by omega) (by decide)
                   by_cases hgr : 36028797018963968 ≤ v
                   · rw [if_pos hgr] at hd
                     rw [decide_eq_false (by omega)] at cf
                     have AD : Aside (none = bins v0 r) := hd
                     clear hd hgr hv
                     go_wp2_with fail
                     refine cf.mono ?_
                     rintro e3 w3 ⟨rfl, rfl⟩
                     go_wp2_with fail
                     go_ret2
                     exact ⟨by rw [← AD.out]; rfl, rfl⟩
                   · rw [if_neg hgr] at hd
                     rw [decide_eq_true (by omega)] at cf
                     have hod := or_byte v y (by omega) hx2
                     have AD : Aside (bins (256 * v + y) (r.drop (k + 1)) = bins v0 r ∧ 256 * v + y < 9223372036854775808) := ⟨hd, by omega⟩
                     obtain ⟨z, hz⟩ : ∃ z, 256 * v + y = z := ⟨_, rfl⟩
                     rw [hz] at hod AD
                     clear hd hz hgr hv
                     go_wp2_with fail
                     refine cf.mono ?_
                     rintro e3 w3 ⟨rfl, rfl⟩
                     have hkb : (k : Int) + 1 < 9223372036854775808 := by have := AM.out; omega
                     go_wp2_with fail
                     have hk := AK.out
                     go_roundg (gk - 1)
                     case measure => omega
                     case rel => exact ⟨k + 1, z, by omega, by go_num, rfl, AD.out.2, AD.out.1, rfl⟩)
            · have hki : ¬ (k : Int) < (R : Int) := by omega
              have hk2 : r.drop k = [] := List.drop_eq_nil_of_le (by have := AM.out; omega)
              rw [hk2, bins] at hd
              have AD : Aside (some v = bins v0 r) := hd
              clear hd hk2
              go_wp2_with fail
              go_ret2
              exact ⟨by rw [← AD.out]; rfl, rfl⟩
    · have e : bin (x :: r) = none := by rw [bin, if_neg (by omega)]
      rw [e]
      rw [decide_eq_false h1] at cm
      clear e hL hb hL1 hcap hlc
      go_enter Tryz.func54, Tryz.ntmps54
      go_wp2_with fail
      refine cm.mono ?_
      rintro e w' ⟨rfl, rfl⟩
      go_wp2_with fail
      go_ret2
      exact ⟨rfl, rfl⟩
theorem field_c (a : Option Addr) (l : List Nat) (L cap : Nat) (w : World) (hL : l.length = L) (hb : Oct l) (hlc : L ≤ cap) (hcap : cap < 9223372036854775808) (h : Lies w a l) :
    Calls Tryz.prog 43 #[.slice a L cap] w fun e w' => e = .returned (ans (fld l)) ∧ w = w' := by
  have cm := marked_c a l L cap w hL hb h
  have co := octal_c a l L cap w hL hb hlc hcap h
  have cb := binary_c a l L cap w hL hb hlc hcap h
  unfold fld
  cases hm : marked l with
  | true =>
    rw [hm] at cm
    rw [if_pos rfl]
    unfold ans at *
    generalize bin l = q at *
    clear hm co hL hb h hlc hcap
    go_enter Tryz.func43, Tryz.ntmps43
    go_wp2_with fail
    refine cm.mono ?_
    rintro e w' ⟨rfl, rfl⟩
    go_wp2_with fail
    refine cb.mono ?_
    rintro e w' ⟨rfl, rfl⟩
    go_wp2_with fail
    go_ret2
    exact ⟨rfl, rfl⟩
  | false =>
    rw [hm] at cm
    rw [if_neg (by decide)]
    unfold ans at *
    generalize oct l = q at *
    clear hm cb hL hb h hlc hcap
    go_enter Tryz.func43, Tryz.ntmps43
    go_wp2_with fail
    refine cm.mono ?_
    rintro e w' ⟨rfl, rfl⟩
    go_wp2_with fail
    refine co.mono ?_
    rintro e w' ⟨rfl, rfl⟩
    go_wp2_with fail
    go_ret2
    exact ⟨rfl, rfl⟩
end Go.Proofs.YtcmmjbkgoafbnaaGreatDoor
