/-
  What Right comes to, the program's and the document's: whether the sum field's number is one of the two sums.
  Conditions: the bytes lie side by side, and are no more than the slice's room.
-/
import Derived.Test.YtcmmjbkgoafbnaaGreatDoorOwn
import Derived.Test.YtcmmjbkgoafbnaaGreatDoorSumsB
import Derived.Test.YtcmmjbkgoafbnaaGreatDoorRefRead
namespace Go.Proofs.YtcmmjbkgoafbnaaGreatDoor
open Go.RowKit
set_option linter.unusedVariables false
theorem lies_first {w : World} {a : Option Addr} {l : List Nat} (h : Lies w a l) (k : Nat) : Lies w a (l.take k) := by
  rcases h with rfl | ⟨b, o, ha, hc⟩
  · left; simp
  · refine Or.inr ⟨b, o, ha, fun i z hz => hc i z ?_⟩
    rw [List.getElem?_take] at hz
    split at hz
    · exact hz
    · cases hz
theorem int_beq (x y : Int) : (x == y) = decide (x = y) := rfl
set_option maxRecDepth 100000 in
set_option maxHeartbeats 1000000 in
theorem right_c (a : Option Addr) (l : List Nat) (cap : Nat) (w : World) (hL : l.length = 512) (hb : Oct l) (hlc : 512 ≤ cap) (hcap : cap < 9223372036854775808) (h : Lies w a l) :
    Calls Tryz.prog 42 #[.slice a 512 cap] w fun e w' => e = .returned (.bool (rgt l)) ∧ w = w' := by
  have cs := sums_c a l cap w hL hb h
  rcases h with rfl | ⟨b, o, rfl, hc⟩
  · simp at hL
  have hlen : (sumfield l).length = 8 := by unfold sumfield; rw [List.length_take, List.length_drop]; omega
  have co := octal_c (some ⟨b, o + 148, none⟩) (sumfield l) 8 (cap - 148) w hlen ((hb.drop 148).take 8) (by omega) (by omega) (lies_first (lies_drop hc 148) 8)
  have hn : ¬ cap = 148 := by omega
  unfold rgt
  cases ho : oct (sumfield l) with
  | none =>
    rw [ho] at co
    have co : Calls Tryz.prog 52 #[.slice (some ⟨b, o + 148, none⟩) 8 (cap - 148)] w fun e w' => e = .returned (.tuple #[.int .u64 0, .bool false]) ∧ w = w' := co
    clear ho hlen hc hL hb hcap
    go_enter Tryz.func42, Tryz.ntmps42
    go_wp2_with fail
    refine cs.mono ?_
    rintro e u ⟨rfl, rfl⟩
    go_wp2_with fail
    refine co.mono ?_
    rintro e u ⟨rfl, rfl⟩
    go_wp2_with fail
    go_ret
    exact ⟨rfl, rfl⟩
  | some v =>
    rw [ho] at co
    have hv := oct_lt ho
    have co : Calls Tryz.prog 52 #[.slice (some ⟨b, o + 148, none⟩) 8 (cap - 148)] w fun e w' => e = .returned (.tuple #[.int .u64 v, .bool true]) ∧ w = w' := co
    have hw : IntKind.i64.wrap (v : Int) = (v : Int) := by rw [IntKind.wrap_i64]; omega
    show Calls _ _ _ _ fun e w' => e = .returned (.bool (decide ((v : Int) = pl l 512) || decide ((v : Int) = sn l 512))) ∧ w = w'
    have e1 := int_beq (v : Int) (pl l 512)
    have e2 := int_beq (v : Int) (sn l 512)
    generalize pl l 512 = p at *
    generalize sn l 512 = s at *
    generalize decide ((v : Int) = p) = q1 at *
    generalize decide ((v : Int) = s) = q2 at *
    clear ho hlen hc hL hb hcap hv
    cases q1
    all_goals
      go_enter Tryz.func42, Tryz.ntmps42
      go_wp2_with fail
      refine cs.mono ?_
      rintro e u ⟨rfl, rfl⟩
      go_wp2_with fail
      refine co.mono ?_
      rintro e u ⟨rfl, rfl⟩
      go_wp2_with fail
      go_ret
      exact ⟨rfl, rfl⟩
theorem right_no (a : Option Addr) (L cap : Nat) (w : World) (hL : L ≠ 512) :
    Calls Tryz.prog 42 #[.slice a L cap] w fun e w' => e = .returned (.bool false) ∧ w = w' := by
  have cs := sums_no a L cap w hL
  clear hL
  go_enter Tryz.func42, Tryz.ntmps42
  go_wp2_with fail
  refine cs.mono ?_
  rintro e u ⟨rfl, rfl⟩
  go_wp2_with fail
  go_ret
  exact ⟨rfl, rfl⟩
theorem rright_no (a : Option Addr) (L cap : Nat) (w : World) (hL : L ≠ 512) :
    Calls Tryz.prog 20 #[.slice a L cap] w fun e w' => e = .returned (.bool false) ∧ w = w' := by
  have cs := rsums_no a L cap w hL
  clear hL
  go_enter Tryz.func20, Tryz.ntmps20
  go_wp2_with fail
  refine cs.mono ?_
  rintro e u ⟨rfl, rfl⟩
  go_wp2_with fail
  go_ret
  exact ⟨rfl, rfl⟩
set_option maxRecDepth 100000 in
set_option maxHeartbeats 1000000 in
theorem rright_c (a : Option Addr) (l : List Nat) (cap : Nat) (w : World) (hL : l.length = 512) (hb : Oct l) (hlc : 512 ≤ cap) (hcap : cap < 9223372036854775808) (h : Lies w a l) :
    Calls Tryz.prog 20 #[.slice a 512 cap] w fun e w' => e = .returned (.bool (rgt l)) ∧ w = w' := by
  have cs := rsums_c a l cap w hL hb h
  rcases h with rfl | ⟨b, o, rfl, hc⟩
  · simp at hL
  have hlen : (sumfield l).length = 8 := by unfold sumfield; rw [List.length_take, List.length_drop]; omega
  have co := roctal_c (some ⟨b, o + 148, none⟩) (sumfield l) 8 (cap - 148) w hlen ((hb.drop 148).take 8) (by omega) (by omega) (lies_first (lies_drop hc 148) 8)
  have hn : ¬ cap = 148 := by omega
  unfold rgt
  cases ho : oct (sumfield l) with
  | none =>
    rw [ho] at co
    have co : Calls Tryz.prog 31 #[.slice (some ⟨b, o + 148, none⟩) 8 (cap - 148)] w fun e w' => e = .returned (.tuple #[.int .u64 0, .bool false]) ∧ w = w' := co
    clear ho hlen hc hL hb hcap
    go_enter Tryz.func20, Tryz.ntmps20
    go_wp2_with fail
    refine cs.mono ?_
    rintro e u ⟨rfl, rfl⟩
    go_wp2_with fail
    refine co.mono ?_
    rintro e u ⟨rfl, rfl⟩
    go_wp2_with fail
    go_ret
    exact ⟨rfl, rfl⟩
  | some v =>
    rw [ho] at co
    have hv := oct_lt ho
    have co : Calls Tryz.prog 31 #[.slice (some ⟨b, o + 148, none⟩) 8 (cap - 148)] w fun e w' => e = .returned (.tuple #[.int .u64 v, .bool true]) ∧ w = w' := co
    show Calls _ _ _ _ fun e w' => e = .returned (.bool (decide ((v : Int) = pl l 512) || decide ((v : Int) = sn l 512))) ∧ w = w'
    have e1 := int_beq (v : Int) (pl l 512)
    have e2 := int_beq (v : Int) (sn l 512)
    have hp := pl_bd hb 512
    have hs := sn_bd hb 512
    have hwp : IntKind.u64.wrap (pl l 512) = pl l 512 := by rw [IntKind.wrap_u64]; omega
    by_cases h0 : 0 ≤ sn l 512
    · have h0i : decide (0 ≤ sn l 512) = true := decide_eq_true h0
      have hws : IntKind.u64.wrap (sn l 512) = sn l 512 := by rw [IntKind.wrap_u64]; omega
      generalize pl l 512 = p at *
      generalize sn l 512 = s at *
      generalize decide ((v : Int) = p) = q1 at *
      generalize decide ((v : Int) = s) = q2 at *
      clear ho hlen hc hL hb hcap hv hp hs h0
      cases q1
      all_goals
        go_enter Tryz.func20, Tryz.ntmps20
        go_wp2_with fail
        refine cs.mono ?_
        rintro e u ⟨rfl, rfl⟩
        go_wp2_with fail
        refine co.mono ?_
        rintro e u ⟨rfl, rfl⟩
        go_wp2_with fail
        go_ret
        exact ⟨rfl, rfl⟩
    · have h0i : decide (0 ≤ sn l 512) = false := decide_eq_false h0
      have hq2 : decide ((v : Int) = sn l 512) = false := decide_eq_false (by omega)
      rw [hq2, Bool.or_false]
      generalize pl l 512 = p at *
      generalize sn l 512 = s at *
      generalize decide ((v : Int) = p) = q1 at *
      clear ho hlen hc hL hb hcap hv hp hs h0 e2 hq2
      cases q1
      all_goals
        go_enter Tryz.func20, Tryz.ntmps20
        go_wp2_with fail
        refine cs.mono ?_
        rintro e u ⟨rfl, rfl⟩
        go_wp2_with fail
        refine co.mono ?_
        rintro e u ⟨rfl, rfl⟩
        go_wp2_with fail
        go_ret
        exact ⟨rfl, rfl⟩
end Go.Proofs.YtcmmjbkgoafbnaaGreatDoor
