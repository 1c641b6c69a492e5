/-
  What Octal, Binary and Field come to, the program's: the number of a field of bytes that lie side by side, or none.
  Conditions: the bytes lie side by side, and are no more than the slice's room.
-/
import Derived.Test.YtcmmjbkgoafbnaaGreatDoorOwn
import Derived.Test.YtcmmjbkgoafbnaaGreatDoorProg
import Derived.Test.YtcmmjbkgoafbnaaGreatDoorMem
import Derived.Test.YtcmmjbkgoafbnaaGreatDoorNum
import Derived.WalkSpells
import Derived.Laws.BitsAllLaws
import Derived.Laws.Bits64
import Derived.Laws.Bits64b
import Derived.Deep.LoopGhost
import Derived.WalkMore
namespace Go.Proofs.YtcmmjbkgoafbnaaGreatDoor
open Go.RowKit
set_option linter.unusedVariables false
theorem Lies.drew {w : World} {a : Option Addr} {l : List Nat} (h : Lies w a l) : Lies w.drew a l := h
theorem Oct.skip {l : List Nat} (h : Oct l) : Oct (skip l) := fun x hx => h x (skip_mem l x hx)
theorem lies_drop {w : World} {b o : Nat} {l : List Nat} (h : ∀ (i x : Nat), l[i]? = some x → w.cell? ⟨b, o + i, none⟩ = some (.int .u8 (x : Int))) (k : Nat) : Lies w (some ⟨b, o + k, none⟩) (l.drop k) :=
  Or.inr ⟨b, o + k, rfl, fun i x hx => by rw [List.getElem?_drop] at hx; rw [Nat.add_assoc]; exact h _ _ hx⟩
theorem beq_int (x c : Nat) : ((x : Int) == (c : Int)) = decide (x = c) := by
  by_cases h : x = c
  · simp [h]
  · rw [decide_eq_false h, beq_eq_false_iff_ne]; omega
theorem shr_min (v n : Nat) (hv : v < 18446744073709551616) : v / 2 ^ min n 64 = 0 ↔ v / 2 ^ n = 0 := by
  by_cases h : n ≤ 64
  · rw [Nat.min_eq_left h]
  · rw [Nat.min_eq_right (by omega)]
    have h2 : 2 ^ 64 ≤ 2 ^ n := Nat.pow_le_pow_right (by decide) (by omega)
    constructor
    · intro _; exact Nat.div_eq_of_lt (by omega)
    · intro _; exact Nat.div_eq_of_lt (by omega)
theorem fits_c (v n : Nat) (w : World) (hv : v < 18446744073709551616) (hn : n < 1000) :
    Calls Tryz.prog 63 #[.int .u64 v, .int .i64 n] w fun e w' => e = .returned (.bool (decide (v / 2 ^ n = 0))) ∧ w = w' := by
  have e : ((v : Int) / 2 ^ min n 64 == 0) = decide (v / 2 ^ n = 0) := by
    rw [show (v : Int) / 2 ^ min n 64 = ((v / 2 ^ min n 64 : Nat) : Int) by push_cast; rfl, show (0 : Int) = ((0 : Nat) : Int) from rfl, beq_int]
    exact decide_eq_decide.2 (shr_min v n hv)
  generalize decide (v / 2 ^ n = 0) = q at *
  go_enter Tryz.func63, Tryz.ntmps63
  go_wp2
  go_ret
  exact ⟨rfl, rfl⟩
theorem pad_c (x : Nat) (w : World) :
    Calls Tryz.prog 61 #[.int .u8 x] w fun e w' => e = .returned (.bool (pad x)) ∧ w = w' := by
  obtain ⟨p, hp⟩ : ∃ p, pad x = p := ⟨_, rfl⟩
  rw [hp]
  have hp' : ((x : Int) == 0 || (x : Int) == 32) = p := by
    rw [← hp]; unfold pad
    have h1 := beq_int x 0
    have h2 := beq_int x 32
    have h3 : (x == 0) = decide (x = 0) := rfl
    have h4 : (x == 32) = decide (x = 32) := rfl
    rw [h3, h4, ← h1, ← h2]; rfl
  by_cases h0 : x = 0
  · have h1 : ((x : Int) == 0) = true := by subst h0; rfl
    rw [h1, Bool.true_or] at hp'
    clear hp h0
    go_enter Tryz.func61, Tryz.ntmps61
    go_wp2
    go_ret
    exact ⟨by rw [← hp']; rfl, rfl⟩
  · have h1 : ((x : Int) == 0) = false := by rw [beq_eq_false_iff_ne]; omega
    rw [h1, Bool.false_or] at hp'
    clear hp h0
    go_enter Tryz.func61, Tryz.ntmps61
    go_wp2
    go_ret
    exact ⟨by rw [← hp']; rfl, rfl⟩
set_option maxHeartbeats 1000000 in
theorem allpad_c (a : Option Addr) (l : List Nat) (L cap : Nat) (w : World) (hL : l.length = L) (hcap : L < 9223372036854775808) (h : Lies w a l) :
    Calls Tryz.prog 62 #[.slice a L cap] w fun e w' => e = .returned (.bool (pads l)) ∧ w = w' := by
  have AL : Aside (l.length = L ∧ L < 9223372036854775808) := ⟨hL, hcap⟩
  clear hL hcap
  go_enter Tryz.func62, Tryz.ntmps62
  go_wp2_with fail
  go_loopg [7] L (fun g si wr => ∃ k : Nat, k + g = L ∧ si = .int .i64 k ∧ pads (l.drop k) = pads l ∧ w = wr)
  case atStart => exact ⟨0, by omega, rfl, by rw [List.drop_zero], rfl⟩
  case round =>
    obtain ⟨k, hk, rfl, hp, rfl⟩ := hrel
    have AK : Aside (k + gk = L) := hk
    clear hk
    by_cases hlt : k < L
    · have hki : (k : Int) < (L : Int) := by omega
      have hkl : k < l.length := by rw [AL.out.1]; exact hlt
      have hx := List.getElem?_eq_getElem hkl
      have hd := List.drop_eq_getElem_cons hkl
      obtain ⟨x, hxx⟩ : ∃ x, l[k] = x := ⟨_, rfl⟩
      rw [hxx] at hx hd
      rw [hd, pads, List.all_cons] at hp
      have hkb : (k : Int) + 1 < 9223372036854775808 := by have := AL.out; omega
      rcases h with rfl | ⟨b, o, rfl, hc⟩
      · simp at hkl
      have hcell := hc k x hx
      clear hc hx hxx hkl hd
      cases hpx : pad x with
      | false =>
        rw [hpx, Bool.false_and] at hp
        have AP : Aside (false = pads l) := hp
        have cx := pad_c x w
        rw [hpx] at cx
        clear hp hpx
        go_wp2_with (go_at_call 61; refine cx.mono ?_; rintro e3 w3 ⟨rfl, rfl⟩)
        go_ret
        exact ⟨by rw [← AP.out]; rfl, rfl⟩
      | true =>
        rw [hpx, Bool.true_and] at hp
        have AP : Aside (pads (l.drop (k + 1)) = pads l) := hp
        have cx := pad_c x w
        rw [hpx] at cx
        clear hp hpx
        go_wp2_with (go_at_call 61; refine cx.mono ?_; rintro e3 w3 ⟨rfl, rfl⟩)
        have hk := AK.out
        go_roundg (gk - 1)
        case measure => omega
        case rel => exact ⟨k + 1, by omega, by go_num, AP.out, rfl⟩
    · have hki : ¬ (k : Int) < (L : Int) := by omega
      have hk2 : l.drop k = [] := List.drop_eq_nil_of_le (by have := AL.out; omega)
      rw [hk2] at hp
      have AP : Aside (pads [] = pads l) := hp
      clear hp hk2
      go_wp2_with fail
      go_ret
      exact ⟨by rw [← AP.out]; rfl, rfl⟩
set_option maxHeartbeats 1000000 in
theorem behind_c (a : Option Addr) (l : List Nat) (L cap : Nat) (w : World) (hL : l.length = L) (hlc : L ≤ cap) (hcap : cap < 9223372036854775808) (h : Lies w a l) :
    Calls Tryz.prog 60 #[.slice a L cap] w fun e w' => ∃ a' K c', e = .returned (.slice a' K c') ∧ (skip l).length = K ∧ K ≤ c' ∧ c' ≤ cap ∧ Lies w a' (skip l) ∧ w = w' := by
  go_enter Tryz.func60, Tryz.ntmps60
  go_wp2_with fail
  go_loopg [0] L (fun g s0 wr => ∃ (a' : Option Addr) (c' M : Nat) (m : List Nat), s0 = .slice a' M c' ∧ M = g ∧ m.length = M ∧ M ≤ c' ∧ c' ≤ cap ∧ Lies w a' m ∧ skip m = skip l ∧ w = wr)
  case atStart => exact ⟨a, cap, L, l, rfl, rfl, hL, by omega, Nat.le_refl _, h, rfl, rfl⟩
  case round =>
    obtain ⟨a', c', M, m, rfl, hg, hM, hMc, hcc, hl', hs, rfl⟩ := hrel
    have AG : Aside (M = gk ∧ m.length = M) := ⟨hg, hM⟩
    clear hg
    cases m with
    | nil =>
      have hM0 : M = 0 := by simpa using hM.symm
      subst hM0
      rw [skip] at hs
      have AS : Aside ([] = skip l) := hs
      clear hs hM
      go_wp2_with fail
      go_ret
      exact ⟨a', 0, c', rfl, by rw [← AS.out]; rfl, Nat.zero_le _, hcc, by rw [← AS.out]; exact Or.inl rfl, rfl⟩
    | cons x r =>
      have hM1 : M = r.length + 1 := by simpa using hM.symm
      have hp : (0 : Int) < (M : Int) := by omega
      rcases hl' with hl' | ⟨b, o, rfl, hc⟩
      · cases hl'
      have hc0 := hc 0 x rfl
      rw [Nat.add_zero] at hc0
      have AR : Aside (M = r.length + 1) := hM1
      have hM2 : 0 < M := by omega
      clear hM hM1
      by_cases hx : x = 32
      · have hx2 : ((x : Int) == 32) = true := by simp; omega
        have AS : Aside (skip r = skip l) := by show _ = _; rw [← hs, skip, if_pos hx]
        have AC : Aside (Lies w (some ⟨b, o + 1, none⟩) r) := lies_drop hc 1
        clear hs hc hx
        go_wp2_with fail
        · have h1 := AG.out.1
          have h2 := AR.out
          have h3 : r = [] := List.eq_nil_of_length_eq_zero (by omega)
          go_roundg (gk - 1)
          case measure => omega
          case rel => exact ⟨_, _, _, r, rfl, by omega, by omega, by omega, by omega, Or.inl h3, AS.out, rfl⟩
        · have h1 := AG.out.1
          have h2 := AR.out
          go_roundg (gk - 1)
          case measure => omega
          case rel => exact ⟨_, _, _, r, rfl, by omega, by omega, by omega, by omega, AC.out, AS.out, rfl⟩
      · have hx2 : ((x : Int) == 32) = false := by rw [beq_eq_false_iff_ne]; omega
        rw [skip, if_neg hx] at hs
        have AS : Aside (x :: r = skip l ∧ Lies w (some ⟨b, o, none⟩) (x :: r)) := ⟨hs, Or.inr ⟨b, o, rfl, hc⟩⟩
        clear hs hc hx
        go_wp2_with fail
        go_ret
        exact ⟨_, M, c', rfl, by rw [← AS.out.1]; exact AG.out.2, hMc, hcc, by rw [← AS.out.1]; exact AS.out.2, rfl⟩
theorem or_dig (v x : Nat) (hv : v < 1152921504606846976) (h1 : 48 ≤ x) (h2 : x ≤ 55) : bits .or .u64 (IntKind.u64.wrap ((v : Int) * 8)) ((x : Int) - 48) = ((8 * v + (x - 48) : Nat) : Int) := by
  have e : IntKind.u64.wrap ((v : Int) * 8) = ((8 * v : Nat) : Int) := by rw [IntKind.wrap_u64]; omega
  have e2 : (x : Int) - 48 = ((x - 48 : Nat) : Int) := by omega
  rw [e, e2, u64_or_nat _ _ (by omega) (by omega)]
  congr 1
  exact (Nat.two_pow_add_eq_or_of_lt (i := 3) (b := x - 48) (by omega) v).symm
/-- A reader's answer. -/
def ans (o : Option Nat) : Value := .tuple #[.int .u64 (o.getD 0 : Nat), .bool o.isSome]
set_option maxRecDepth 100000 in
set_option maxHeartbeats 1000000 in
theorem octal_c (a : Option Addr) (l : List Nat) (L cap : Nat) (w : World) (hL : l.length = L) (hb : Oct l) (hlc : L ≤ cap) (hcap : cap < 9223372036854775808) (h : Lies w a l) :
    Calls Tryz.prog 52 #[.slice a L cap] w fun e w' => e = .returned (ans (oct l)) ∧ w = w' := by
  have cb := behind_c a l L cap w hL hlc hcap h
  have hbm := hb.skip
  obtain ⟨m, hmm⟩ : ∃ m, skip l = m := ⟨_, rfl⟩
  have ho : oct l = digs 0 m := by unfold oct; rw [hmm]
  rw [hmm] at hbm cb
  rw [ho]
  clear ho hmm hb h hL hlc
  go_enter Tryz.func52, Tryz.ntmps52
  go_wp2_with fail
  go_step3
  go_wp2_with fail
  refine cb.mono ?_
  rintro e w' ⟨a', K, c', rfl, hK, hKc, hcc, hm, rfl⟩
  clear cb
  have AM : Aside (m.length = K ∧ K ≤ c' ∧ c' ≤ cap ∧ cap < 9223372036854775808) := ⟨hK, hKc, hcc, hcap⟩
  clear hK hKc hcc hcap
  go_wp2_with fail
  go_step3
  go_wp2_with fail
  go_loopg [4, 11] K (fun g sv si wr => ∃ k v : Nat, k + g = K ∧ si = .int .i64 k ∧ sv = .int .u64 v ∧ v < 9223372036854775808 ∧ digs v (m.drop k) = digs 0 m ∧ w = wr)
  case atStart => exact ⟨0, 0, by omega, rfl, rfl, by decide, by rw [List.drop_zero], rfl⟩
  case round =>
    obtain ⟨k, v, hk, rfl, rfl, hv, hd, rfl⟩ := hrel
    have AK : Aside (k + gk = K) := hk
    clear hk
    by_cases hlt : k < K
    · have hki : (k : Int) < (K : Int) := by omega
      have hkl : k < m.length := by rw [AM.out.1]; exact hlt
      have hx := List.getElem?_eq_getElem hkl
      have hx2 := hbm _ (List.getElem_mem hkl)
      have hdm := List.drop_eq_getElem_cons hkl
      obtain ⟨x, hxx⟩ : ∃ x, m[k] = x := ⟨_, rfl⟩
      rw [hxx] at hx hdm hx2
      have hkb : (k : Int) + 1 < 9223372036854775808 := by have := AM.out; omega
      have hkc : k ≤ c' := by have := AM.out; omega
      have hkn : ¬ c' = k := by have := AM.out; omega
      rcases hm with rfl | ⟨b, o, rfl, hc⟩
      · simp at hkl
      have hcell := hc k x hx
      have hall := allpad_c (some ⟨b, o + k, none⟩) (m.drop k) (K - k) (c' - k) w (by rw [List.length_drop, AM.out.1]) (by have := AM.out; omega) (lies_drop hc k)
      rw [hdm] at hd hall
      rw [digs] at hd
      rw [pads, List.all_cons] at hall
      clear hc hx hxx hkl hdm
      have cx := pad_c x w
      cases hpx : pad x with
      | true =>
        rw [hpx] at cx hd hall
        rw [Bool.true_and] at hall
        rw [if_pos rfl] at hd
        cases hpr : pads (m.drop (k + 1)) with
        | true =>
          rw [hpr] at hd
          rw [if_pos rfl] at hd
          rw [show (m.drop (k + 1)).all pad = true from hpr] at hall
          have AD : Aside (some v = digs 0 m) := hd
          clear hd hpr hpx
          go_wp2_with fail
          refine cx.mono ?_
          rintro e3 w3 ⟨rfl, rfl⟩
          go_wp2_with fail
          refine hall.mono ?_
          rintro e3 w3 ⟨rfl, rfl⟩
          go_wp2_with fail
          (try rw [Exit.noGoto_ret]); go_ret2
          exact ⟨by rw [← AD.out]; rfl, rfl⟩
        | false =>
          rw [hpr] at hd
          rw [if_neg (by decide)] at hd
          rw [show (m.drop (k + 1)).all pad = false from hpr] at hall
          have AD : Aside (none = digs 0 m) := hd
          clear hd hpr hpx
          go_wp2_with fail
          refine cx.mono ?_
          rintro e3 w3 ⟨rfl, rfl⟩
          go_wp2_with fail
          refine hall.mono ?_
          rintro e3 w3 ⟨rfl, rfl⟩
          go_wp2_with fail
          (try rw [Exit.noGoto_ret]); go_ret2
          exact ⟨by rw [← AD.out]; rfl, rfl⟩
      | false =>
        rw [hpx] at cx hd
        rw [if_neg (by decide)] at hd
        clear hall hpx
        by_cases hdig : x < 48 ∨ 55 < x
        · rw [if_pos hdig] at hd
          have AD : Aside (none = digs 0 m) := hd
          clear hd
          rcases hdig with hdig | hdig
          · have h1 : (x : Int) < 48 := by omega
            go_wp2_with fail
            refine cx.mono ?_
            rintro e3 w3 ⟨rfl, rfl⟩
            go_wp2_with fail
            (try rw [Exit.noGoto_ret]); go_ret2
            exact ⟨by rw [← AD.out]; rfl, rfl⟩
          · have h1 : ¬ (x : Int) < 48 := by omega
            have h2 : (55 : Int) < x := by omega
            go_wp2_with fail
            refine cx.mono ?_
            rintro e3 w3 ⟨rfl, rfl⟩
            go_wp2_with fail
            (try rw [Exit.noGoto_ret]); go_ret2
            exact ⟨by rw [← AD.out]; rfl, rfl⟩
        · rw [if_neg hdig] at hd
          have h1 : ¬ (x : Int) < 48 := by omega
          have h2 : ¬ (55 : Int) < x := by omega
          have cf := fits_c v 60 w (by omega) (by decide)
          by_cases hgr : 1152921504606846976 ≤ v
          · rw [if_pos hgr] at hd
            rw [decide_eq_false (by omega)] at cf
            have AD : Aside (none = digs 0 m) := hd
            clear hd hdig hgr hv hkb
            go_wp2_with fail
            refine cx.mono ?_
            rintro e3 w3 ⟨rfl, rfl⟩
            go_wp2_with fail
            refine cf.mono ?_
            rintro e3 w3 ⟨rfl, rfl⟩
            go_wp2_with fail
            (try rw [Exit.noGoto_ret]); go_ret2
            exact ⟨by rw [← AD.out]; rfl, rfl⟩
          · rw [if_neg hgr] at hd
            rw [decide_eq_true (by omega)] at cf
            have hod := or_dig v x (by omega) (by omega) (by omega)
            have AD : Aside (digs (8 * v + (x - 48)) (m.drop (k + 1)) = digs 0 m ∧ 8 * v + (x - 48) < 9223372036854775808) := ⟨hd, by omega⟩
            obtain ⟨y, hy⟩ : ∃ y, 8 * v + (x - 48) = y := ⟨_, rfl⟩
            rw [hy] at hod AD
            have AO : Aside (bits .or .u64 (IntKind.u64.wrap ((v : Int) * 8)) ((x : Int) - 48) = (y : Int)) := hod
            clear hd hdig hy hgr hv hkb hod
            go_wp2_with fail
            refine cx.mono ?_
            rintro e3 w3 ⟨rfl, rfl⟩
            go_wp2_with fail
            refine cf.mono ?_
            rintro e3 w3 ⟨rfl, rfl⟩
            have hkb : (k : Int) + 1 < 9223372036854775808 := by have := AM.out; omega
            have hod := AO.out
            go_wp2_with fail
            have hk := AK.out
            go_roundg (gk - 1)
            case measure => omega
            case rel => exact ⟨k + 1, y, by omega, by go_num, rfl, AD.out.2, AD.out.1, rfl⟩
    · have hki : ¬ (k : Int) < (K : Int) := by omega
      have hk2 : m.drop k = [] := List.drop_eq_nil_of_le (by have := AM.out; omega)
      rw [hk2, digs] at hd
      have AD : Aside (some v = digs 0 m) := hd
      clear hd hk2
      go_wp2_with fail
      (try rw [Exit.noGoto_ret]); go_ret2
      exact ⟨by rw [← AD.out]; rfl, rfl⟩
end Go.Proofs.YtcmmjbkgoafbnaaGreatDoor
