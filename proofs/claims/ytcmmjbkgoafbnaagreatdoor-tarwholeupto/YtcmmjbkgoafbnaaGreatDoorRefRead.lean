/-
  What Octal, Binary and Field come to, the document's: the same numbers.
  Conditions: the bytes lie side by side, and are no more than the slice's room.
-/
import Derived.Test.YtcmmjbkgoafbnaaGreatDoorOwn
import Derived.Test.YtcmmjbkgoafbnaaGreatDoorReadB
namespace Go.Proofs.YtcmmjbkgoafbnaaGreatDoor
open Go.RowKit
set_option linter.unusedVariables false
theorem pads_cons (x : Nat) (s : List Nat) : pads (x :: s) = (pad x && pads s) := rfl
/-- Where no digit stands, what is left is padding or the field is none. -/
theorem digs_end (v : Nat) : ∀ r : List Nat, (∀ x, r[0]? = some x → x < 48 ∨ 55 < x) → digs v r = if pads r = true then some v else none
  | [], _ => rfl
  | x :: s, h => by
    have h1 := h x rfl
    rw [digs, pads_cons]
    cases pad x with
    | true => rw [if_pos rfl, Bool.true_and]
    | false => rw [if_neg (by decide), if_pos h1, Bool.false_and, if_neg (by decide)]
theorem pad_dig {x : Nat} (h1 : 48 ≤ x) : pad x = false := by
  unfold pad
  rw [show (x == 0) = false by rw [beq_eq_false_iff_ne]; omega, show (x == 32) = false by rw [beq_eq_false_iff_ne]; omega]; rfl
theorem skip_end : ∀ r : List Nat, (∀ x, r[0]? = some x → x ≠ 32) → skip r = r
  | [], _ => rfl
  | x :: s, h => by rw [skip, if_neg (h x rfl)]
/-- The document's field, as far as it was gone through. -/
def sofar (g : Bool) (v : Nat) (r : List Nat) : Option Nat := if g = true then none else digs v r
/-- Its last loop: the padding. -/
def padded (g : Bool) (v : Nat) (r : List Nat) : Option Nat := if pads r = true then (if g = true then none else some v) else none
theorem sofar_end (g : Bool) (v : Nat) (r : List Nat) (h : ∀ x, r[0]? = some x → x < 48 ∨ 55 < x) : sofar g v r = padded g v r := by
  unfold sofar padded
  rw [digs_end v r h]
  cases g <;> cases pads r <;> rfl
theorem sofar_dig (v x : Nat) (s : List Nat) (h1 : 48 ≤ x) (h2 : x ≤ 55) : sofar false v (x :: s) = if 1152921504606846976 ≤ v then none else digs (8 * v + (x - 48)) s := by
  unfold sofar
  rw [if_neg (by decide), digs, pad_dig h1, if_neg (by decide), if_neg (by omega)]
set_option maxRecDepth 100000 in
set_option maxHeartbeats 2000000 in
theorem roctal_nil (a : Option Addr) (cap : Nat) (w : World) :
    Calls Tryz.prog 31 #[.slice a 0 cap] w fun e w' => e = .returned (ans (oct [])) ∧ w = w' := by
  go_enter Tryz.func31, Tryz.ntmps31
  go_wp2_with fail
  go_loopg [4] 0 (fun g si wr => si = .int .i64 0 ∧ w = wr)
  case atStart => exact ⟨rfl, rfl⟩
  case round =>
    obtain ⟨rfl, rfl⟩ := hrel
    go_wp2_with fail
    go_loopg [4, 5, 6] 0 (fun g si sv sg wr => si = .int .i64 0 ∧ sv = .int .u64 0 ∧ sg = .bool false ∧ w = wr)
    case atStart => exact ⟨rfl, rfl, rfl, rfl⟩
    case round =>
      obtain ⟨rfl, rfl, rfl, rfl⟩ := hrel
      go_wp2_with fail
      go_loopg [4] 0 (fun g si wr => si = .int .i64 0 ∧ w = wr)
      case atStart => exact ⟨rfl, rfl⟩
      case round =>
        obtain ⟨rfl, rfl⟩ := hrel
        go_wp2_with fail
        go_ret2
        exact ⟨rfl, rfl⟩
set_option maxRecDepth 100000 in
set_option maxHeartbeats 2000000 in
theorem roctal_some (b o : Nat) (l : List Nat) (L cap : Nat) (w : World) (hL : l.length = L) (hb : Oct l) (hlc : L ≤ cap) (hcap : cap < 9223372036854775808) (hc : ∀ (i x : Nat), l[i]? = some x → w.cell? ⟨b, o + i, none⟩ = some (.int .u8 (x : Int))) :
    Calls Tryz.prog 31 #[.slice (some ⟨b, o, none⟩) L cap] w fun e w' => e = .returned (ans (oct l)) ∧ w = w' := by
  have AM : Aside (l.length = L ∧ L < 9223372036854775808) := ⟨hL, by omega⟩
  clear hL hlc hcap
  go_enter Tryz.func31, Tryz.ntmps31
  go_wp2_with fail
  go_loopg [4] L (fun g si wr => ∃ k : Nat, k + g = L ∧ si = .int .i64 k ∧ skip (l.drop k) = skip l ∧ w = wr)
  case atStart => exact ⟨0, by omega, rfl, by rw [List.drop_zero], rfl⟩
  case round =>
    obtain ⟨k, hk, rfl, hs, rfl⟩ := hrel
    have AK : Aside (k + gk = L) := hk
    clear hk
    by_cases hgo : ∃ h : k < l.length, l[k] = 32
    · obtain ⟨hkl, hx⟩ := hgo
      have hlt : k < L := by rw [← AM.out.1]; exact hkl
      have hki : (k : Int) < (L : Int) := by omega
      have hx1 := List.getElem?_eq_getElem hkl
      have hdm := List.drop_eq_getElem_cons hkl
      rw [hx] at hx1 hdm
      rw [hdm, skip, if_pos rfl] at hs
      have hcell := hc k 32 hx1
      have AS : Aside (skip (l.drop (k + 1)) = skip l) := hs
      clear hx1 hdm hs hx hkl
      have hkb : (k : Int) + 1 < 9223372036854775808 := by have := AM.out; omega
      go_wp2_with fail
      have hk := AK.out
      go_roundg (gk - 1)
      case measure => omega
      case rel => exact ⟨k + 1, by omega, by go_num, AS.out, rfl⟩
    · have hsk : skip l = l.drop k := by
        rw [← hs]
        apply skip_end
        intro x hx e
        rw [List.getElem?_drop, Nat.add_zero] at hx
        obtain ⟨h1, h2⟩ := List.getElem?_eq_some_iff.1 hx
        exact hgo ⟨h1, by rw [h2]; exact e⟩
      have AO : Aside (sofar false 0 (l.drop k) = oct l) := by show _ = _; unfold oct; rw [hsk]; rfl
      have hcase : (k : Int) < (L : Int) ∧ (∃ (x : Nat), w.cell? ⟨b, o + k, none⟩ = some (.int .u8 (x : Int)) ∧ ((x : Int) == 32) = false) ∨ ¬ (k : Int) < (L : Int) := by
        by_cases hlt : k < L
        · left
          refine ⟨by omega, ?_⟩
          have hkl : k < l.length := by rw [AM.out.1]; exact hlt
          refine ⟨l[k], hc k _ (List.getElem?_eq_getElem hkl), ?_⟩
          rw [beq_eq_false_iff_ne]
          intro e
          exact hgo ⟨hkl, by omega⟩
        · right; omega
      clear hgo hs hsk
      rcases hcase with ⟨hki, x, hcell, hx⟩ | hki
      all_goals
        go_wp2_with fail
        obtain ⟨G, hG⟩ : ∃ G, L - k = G := ⟨_, rfl⟩
        have AG : Aside (k + G = L) := by show _ = _; have := AK.out; omega
        clear hG AK hki
        try clear hcell hx
        go_loopg [4, 5, 6] G (fun g si sv sg wr => ∃ (j v : Nat) (gr : Bool), j + g = L ∧ si = .int .i64 j ∧ sv = .int .u64 v ∧ sg = .bool gr ∧ v < 9223372036854775808 ∧ sofar gr v (l.drop j) = oct l ∧ w = wr)
        case atStart => exact ⟨k, 0, false, AG.out, rfl, rfl, rfl, by decide, AO.out, rfl⟩
        case round =>
          clear AO AG
          obtain ⟨j, v, gr, hj, rfl, rfl, rfl, hv, hs, rfl⟩ := hrel
          have AJ : Aside (j + gk = L) := hj
          clear hj
          by_cases hgo : ∃ h : j < l.length, 48 ≤ l[j] ∧ l[j] ≤ 55
          · obtain ⟨hkl, h1, h2⟩ := hgo
            have hlt : j < L := by rw [← AM.out.1]; exact hkl
            have hki : (j : Int) < (L : Int) := by omega
            have hx1 := List.getElem?_eq_getElem hkl
            have hdm := List.drop_eq_getElem_cons hkl
            obtain ⟨x, hxx⟩ : ∃ x, l[j] = x := ⟨_, rfl⟩
            rw [hxx] at hx1 hdm h1 h2
            rw [hdm] at hs
            have hcell := hc j x hx1
            have h1' : (48 : Int) ≤ (x : Int) := by omega
            have h2' : (x : Int) ≤ 55 := by omega
            clear hx1 hdm hxx hkl
            cases gr with
            | true =>
              have AS : Aside (sofar true v (l.drop (j + 1)) = oct l ∧ v < 9223372036854775808) := ⟨hs, hv⟩
              clear hs hv
              have hkb : (j : Int) + 1 < 9223372036854775808 := by have := AM.out; omega
              have hj := AJ.out
              go_wp2_with fail
              go_roundg (gk - 1)
              case measure => omega
              case rel => exact ⟨j + 1, v, true, by omega, by go_num, rfl, rfl, AS.out.2, AS.out.1, rfl⟩
            | false =>
              have hs2 : (if 1152921504606846976 ≤ v then none else digs (8 * v + (x - 48)) (l.drop (j + 1))) = oct l := by
                rw [← hs, sofar_dig v x _ h1 h2]
              clear hs
              by_cases hgr : 1152921504606846976 ≤ v
              · rw [if_pos hgr] at hs2
                have hgi : (1152921504606846976 : Int) ≤ (v : Int) := by omega
                have AS : Aside (sofar true v (l.drop (j + 1)) = oct l ∧ v < 9223372036854775808) := ⟨hs2, hv⟩
                clear hs2 hv hgr
                have hkb : (j : Int) + 1 < 9223372036854775808 := by have := AM.out; omega
                have hj := AJ.out
                go_wp2_with fail
                go_roundg (gk - 1)
                case measure => omega
                case rel => exact ⟨j + 1, v, true, by omega, by go_num, rfl, rfl, AS.out.2, AS.out.1, rfl⟩
              · rw [if_neg hgr] at hs2
                have hgi : ¬ (1152921504606846976 : Int) ≤ (v : Int) := by omega
                have AS : Aside (sofar false (8 * v + (x - 48)) (l.drop (j + 1)) = oct l ∧ 8 * v + (x - 48) < 9223372036854775808) := ⟨hs2, by omega⟩
                clear hs2 hgr
                have hkb : (j : Int) + 1 < 9223372036854775808 := by have := AM.out; omega
                have hj := AJ.out
                go_wp2_with fail
                go_roundg (gk - 1)
                case measure => omega
                case rel => exact ⟨j + 1, 8 * v + (x - 48), false, by omega, by go_num, by go_num, rfl, AS.out.2, AS.out.1, rfl⟩
          · have hend : sofar gr v (l.drop j) = padded gr v (l.drop j) := by
              apply sofar_end
              intro x hx
              rw [List.getElem?_drop, Nat.add_zero] at hx
              obtain ⟨h1, h2⟩ := List.getElem?_eq_some_iff.1 hx
              apply Decidable.byContradiction
              intro h3
              exact hgo ⟨h1, by omega, by omega⟩
            rw [hend] at hs
            have AO : Aside (padded gr v (l.drop j) = oct l) := hs
            have hcase : ((j : Int) < (L : Int) ∧ (∃ (x : Nat), w.cell? ⟨b, o + j, none⟩ = some (.int .u8 (x : Int)) ∧ (¬ (48 : Int) ≤ (x : Int) ∨ (48 : Int) ≤ (x : Int) ∧ ¬ (x : Int) ≤ 55))) ∨ ¬ (j : Int) < (L : Int) := by
              by_cases hlt : j < L
              · left
                refine ⟨by omega, ?_⟩
                have hkl : j < l.length := by rw [AM.out.1]; exact hlt
                refine ⟨l[j], hc j _ (List.getElem?_eq_getElem hkl), ?_⟩
                apply Decidable.byContradiction
                intro h3
                exact hgo ⟨hkl, by omega, by omega⟩
              · right; omega
            clear hgo hs hend hv
            rcases hcase with ⟨hki, x, hcell, hx | ⟨hx, hx'⟩⟩ | hki
            all_goals
              go_wp2_with fail
              obtain ⟨G, hG⟩ : ∃ G, L - j = G := ⟨_, rfl⟩
              have AG : Aside (j + G = L) := by show _ = _; have := AJ.out; omega
              clear hG AJ hki
              try clear hcell
              try clear hx
              try clear hx'
              go_loopg [4] G (fun g si wr => ∃ (i : Nat), i + g = L ∧ si = .int .i64 i ∧ padded gr v (l.drop i) = oct l ∧ w = wr)
              case atStart => exact ⟨j, AG.out, rfl, AO.out, rfl⟩
              case round =>
                clear AO AG
                obtain ⟨i, hi, rfl, hs, rfl⟩ := hrel
                have AI : Aside (i + gk = L) := hi
                clear hi
                by_cases hlt : i < L
                · have hki : (i : Int) < (L : Int) := by omega
                  have hkl : i < l.length := by rw [AM.out.1]; exact hlt
                  have hx1 := List.getElem?_eq_getElem hkl
                  have hdm := List.drop_eq_getElem_cons hkl
                  obtain ⟨x, hxx⟩ : ∃ x, l[i] = x := ⟨_, rfl⟩
                  rw [hxx] at hx1 hdm
                  rw [hdm] at hs
                  have hcell := hc i x hx1
                  have hkb : (i : Int) + 1 < 9223372036854775808 := by have := AM.out; omega
                  clear hx1 hdm hxx hkl
                  unfold padded at hs
                  rw [pads_cons] at hs
                  by_cases hx0 : x = 0
                  · have e0 : ((x : Int) != 0) = false := by rw [hx0]; rfl
                    have hp : pad x = true := by rw [hx0]; rfl
                    rw [hp, Bool.true_and] at hs
                    have AS : Aside (padded gr v (l.drop (i + 1)) = oct l) := hs
                    clear hs hp hx0
                    go_wp2_with fail
                    have hi := AI.out
                    go_roundg (gk - 1)
                    case measure => omega
                    case rel => exact ⟨i + 1, by omega, by go_num, AS.out, rfl⟩
                  · have e0 : ((x : Int) != 0) = true := by rw [bne_iff_ne]; omega
                    by_cases hx32 : x = 32
                    · have e32 : ((x : Int) != 32) = false := by rw [hx32]; rfl
                      have hp : pad x = true := by rw [hx32]; rfl
                      rw [hp, Bool.true_and] at hs
                      have AS : Aside (padded gr v (l.drop (i + 1)) = oct l) := hs
                      clear hs hp hx0 hx32
                      go_wp2_with fail
                      have hi := AI.out
                      go_roundg (gk - 1)
                      case measure => omega
                      case rel => exact ⟨i + 1, by omega, by go_num, AS.out, rfl⟩
                    · have e32 : ((x : Int) != 32) = true := by rw [bne_iff_ne]; omega
                      have hp : pad x = false := by
                        unfold pad
                        rw [show (x == 0) = false by rw [beq_eq_false_iff_ne]; omega, show (x == 32) = false by rw [beq_eq_false_iff_ne]; omega]; rfl
                      rw [hp, Bool.false_and, if_neg (by decide)] at hs
                      have AS : Aside (none = oct l) := hs
                      clear hs hp hx0 hx32
                      go_wp2_with fail
                      go_ret2
                      exact ⟨by rw [← AS.out]; rfl, rfl⟩
                · have hki : ¬ (i : Int) < (L : Int) := by omega
                  have hk2 : l.drop i = [] := List.drop_eq_nil_of_le (by have := AM.out; omega)
                  rw [hk2] at hs
                  cases gr with
                  | true =>
                    have AS : Aside (none = oct l) := hs
                    clear hs hk2
                    go_wp2_with fail
                    go_ret2
                    exact ⟨by rw [← AS.out]; rfl, rfl⟩
                  | false =>
                    have AS : Aside (some v = oct l) := hs
                    clear hs hk2
                    go_wp2_with fail
                    go_ret2
                    exact ⟨by rw [← AS.out]; rfl, rfl⟩
theorem roctal_c (a : Option Addr) (l : List Nat) (L cap : Nat) (w : World) (hL : l.length = L) (hb : Oct l) (hlc : L ≤ cap) (hcap : cap < 9223372036854775808) (h : Lies w a l) :
    Calls Tryz.prog 31 #[.slice a L cap] w fun e w' => e = .returned (ans (oct l)) ∧ w = w' := by
  rcases h with rfl | ⟨b, o, rfl, hc⟩
  · have : L = 0 := by simpa using hL.symm
    subst this
    exact roctal_nil a cap w
  · exact roctal_some b o l L cap w hL hb hlc hcap hc
end Go.Proofs.YtcmmjbkgoafbnaaGreatDoor
