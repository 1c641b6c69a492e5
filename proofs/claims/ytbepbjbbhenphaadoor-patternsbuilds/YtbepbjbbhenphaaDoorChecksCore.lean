/-
  PatternsChecks, behind the opening of its argument: the call answers true, and what lay in memory is as it was.
  Conditions: the library's table holds what its text lays there; the patterns lie in memory.
-/
import Derived.Test.YtbepbjbbhenphaaDoorAwake
import Derived.Test.YtbepbjbbhenphaaDoorCopy
import Derived.Test.YtbepbjbbhenphaaDoorRefCheck
namespace Go.Proofs.YtbepbjbbhenphaaDoor
open Go.RowKit
set_option linter.unusedVariables false
/-- Build of a copy: Check's error and no machine, or no error and a machine. -/
theorem build_any (a : Option Addr) (ps : List (List Nat)) (L C : Nat) (w : World) (hp : Rows2 w a ps) (hL : ps.length = L) (hLC : L ≤ C) (hC : L < 140737488355328) (ho : Octs ps) (hz : a = none → C = 0) :
    Calls Tryd.prog 10 #[.slice a L C] w fun e w' => ∃ p : Option Addr, e = .returned (.tuple #[.pointer p, .int .i64 (chk ps : Nat)]) ∧ (p.isSome = decide (chk ps = 0)) ∧ Below w.heap.size w w' := by
  by_cases h : chk ps = 0
  · refine (build_ok a ps L C w hp hL hLC hC ho hz h).mono ?_
    rintro e w' ⟨A, rfl, nd, G, _, _, hb⟩
    exact ⟨some ⟨A, 0, none⟩, by rw [h]; rfl, by rw [decide_eq_true h]; rfl, hb⟩
  · refine (build_err a ps L C w hp hL hLC hC ho hz h).mono ?_
    rintro e w' ⟨rfl, hb⟩
    exact ⟨none, rfl, by rw [decide_eq_false h]; rfl, hb⟩
set_option maxRecDepth 100000 in
set_option maxHeartbeats 4000000 in
theorem checks_core (w : World) (hT : Tab w) (a : Option Addr) (ps : List (List Nat)) (L C : Nat) (hp : Rows2 w a ps) (hL : ps.length = L) (hLC : L ≤ C) (hC : C * 24 < 140737488355328) (ho : Octs ps) (hz : a = none → C = 0) :
    Calls Tryd.prog 3 #[.slice a L C] w fun e w' => e = .returned (.bool true) ∧ Below w.heap.size w w' := by
  obtain ⟨H, hH⟩ : ∃ H, w.heap.size = H := ⟨_, rfl⟩
  have AB : Aside (Tab w ∧ Rows2 w a ps ∧ ps.length = L ∧ L ≤ C ∧ C * 24 < 140737488355328 ∧ Octs ps ∧ (a = none → C = 0) ∧ w.heap.size = H) := ⟨hT, hp, hL, hLC, hC, ho, hz, hH⟩
  have c1 := rcheck_c a ps L C w hp hL hLC (by omega)
  obtain ⟨z, hzz⟩ : ∃ z, chk ps = z := ⟨_, rfl⟩
  rw [hzz] at c1
  rw [hH]
  have AZ : Aside (chk ps = z) := hzz
  clear hT hp hL hLC hC ho hz hH hzz
  go_enter Tryd.func3, Tryd.ntmps3
  go_wp2_with fail
  refine c1.mono ?_
  rintro e1 w1 ⟨rfl, hd1⟩
  have b1 : Below H w w1 := Drawn.below (w := w) hd1 H
  have b1w : Below w.heap.size w w1 := Drawn.below (w := w) hd1 _
  have s1 : H ≤ w1.heap.size := by have := b1w.size; rw [AB.out.2.2.2.2.2.2.2] at this; exact this
  go_wp2_with fail
  refine (copy_c a ps L C w1 (AB.out.2.1.below b1w) AB.out.2.2.1 AB.out.2.2.2.1 (by have := AB.out; omega)).mono ?_
  rintro e2 w2 ⟨v2, rfl, hc2⟩
  obtain ⟨a2, C2, hv2, hL2, hr2, hz2⟩ := hc2.rows
  rw [AB.out.2.2.1] at hv2 hL2
  subst hv2
  have b2 : Below H w w2 := b1.trans (hc2.bel.mono s1)
  have s2 : H ≤ w2.heap.size := Nat.le_trans s1 hc2.bel.size
  clear c1
  go_wp2_with fail
  refine (build_any a2 ps L C2 w2 hr2 AB.out.2.2.1 hL2 (by have := AB.out; omega) AB.out.2.2.2.2.2.1 hz2).mono ?_
  rintro e3 w3 ⟨p3, rfl, hp3, hb3⟩
  have b3 : Below H w w3 := b2.trans (hb3.mono s2)
  have s3 : H ≤ w3.heap.size := Nat.le_trans s2 hb3.size
  have b3w : Below w.heap.size w w3 := by rw [AB.out.2.2.2.2.2.2.2]; exact b3
  go_wp2_with fail
  refine (copy_c a ps L C w3 (AB.out.2.1.below b3w) AB.out.2.2.1 AB.out.2.2.2.1 (by have := AB.out; omega)).mono ?_
  rintro e4 w4 ⟨v4, rfl, hc4⟩
  obtain ⟨a4, C4, hv4, hL4, hr4, hz4⟩ := hc4.rows
  rw [AB.out.2.2.1] at hv4 hL4
  subst hv4
  have b4 : Below H w w4 := b3.trans (hc4.bel.mono s3)
  have s4 : H ≤ w4.heap.size := Nat.le_trans s3 hc4.bel.size
  go_wp2_with fail
  refine (check_c a4 ps L C4 w4 hr4 AB.out.2.2.1 hL4 (by have := AB.out; omega) AB.out.2.2.2.2.2.1 hz4).mono ?_
  rintro e5 w5 ⟨rfl, hb5⟩
  have b5 : Below H w w5 := b4.trans (hb5.mono s4)
  have s5 : H ≤ w5.heap.size := Nat.le_trans s4 hb5.size
  have AF : Aside (Below H w w5 ∧ H ≤ w5.heap.size) := ⟨b5, s5⟩
  have hwake := awake_c w5 (AB.out.1.below (by rw [AB.out.2.2.2.2.2.2.2]; exact b5))
  rw [AZ.out]
  rw [AZ.out] at hp3
  clear b1 b1w s1 hc2 hr2 hz2 hL2 b2 s2 hb3 b3 s3 b3w hc4 hr4 hz4 hL4 b4 s4 hb5 b5 s5
  have hzz : ((z : Int) == (z : Int)) = true := by simp
  by_cases h0 : z = 0
  · subst h0
    rw [decide_eq_true rfl] at hp3
    obtain ⟨p, rfl⟩ := Option.isSome_iff_exists.1 hp3
    go_wp2_with (go_at_call 13; refine hwake.mono ?_; rintro e6 w6 ⟨rfl, hb6⟩)
    go_ret
    exact ⟨rfl, AF.out.1.trans (hb6.mono AF.out.2)⟩
  · rw [decide_eq_false h0] at hp3
    have hpn : p3 = none := by cases p3 with
      | none => rfl
      | some x => cases hp3
    subst hpn
    have h0i : ((z : Int) == 0) = false := by rw [beq_eq_false_iff_ne]; omega
    clear hp3 h0
    go_wp2_with (go_at_call 13; refine hwake.mono ?_; rintro e6 w6 ⟨rfl, hb6⟩)
    go_ret
    exact ⟨rfl, AF.out.1.trans (hb6.mono AF.out.2)⟩
end Go.Proofs.YtbepbjbbhenphaaDoor
