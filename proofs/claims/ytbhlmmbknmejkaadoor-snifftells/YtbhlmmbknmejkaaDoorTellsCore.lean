/-
  SniffTells' walk.
-/
import Derived.Test.YtbhlmmbknmejkaaDoorRsn
namespace Go.Proofs.YtbhlmmbknmejkaaDoor
open Go.RowKit
set_option linter.unusedVariables false
set_option maxRecDepth 20000 in
set_option maxHeartbeats 2000000 in
theorem tells_core (w : World) (h : Mk w) (a : Option Addr) (l : List Nat) (L C : Nat) (hl : Lies w a l) (hL : l.length = L) (hLC : L ≤ C) (hLb : L ≤ 140737488355320) (ho : Oct l) (haz : a = none → L = 0 ∧ C = 0) (e : Bool) :
    Calls Tryd.prog 3 #[.slice a L C, .bool e] w fun ex w' => ex = .returned (.bool true) ∧ Below w.heap.size w w' := by
  obtain ⟨B, hB⟩ : ∃ B, w.heap.size = B := ⟨_, rfl⟩
  rw [hB]
  have hob0 : Ow (w.alloc (.cells #[] 5)) B 5 1 (.slice (some ⟨B, 0, none⟩) 0 0) 0 (ob []) := by rw [← hB]; exact Ow.empty (Nat.le_refl _)
  have b0 : Below w.heap.size w (w.alloc (.cells #[] 5)) := (Below.refl _ w).alloc (Nat.le_refl _) _
  have hl0 := lies_ob (hl.below b0)
  rw [hB] at b0
  obtain ⟨i0, hi, hz0, hz1, hz2⟩ := ginfo_parts ginfo5
  have A : Aside (Lies w a l ∧ l.length = L ∧ L ≤ C ∧ L ≤ 140737488355320 ∧ Oct l ∧ w.heap.size = B ∧ Below B w (w.alloc (.cells #[] 5)) ∧ 0 + L ≤ maxLen ∧ (0 + L) * 1 ≤ 140737488355328 ∧ (ob l).length = L * 1 ∧ Mk w) := ⟨hl, hL, hLC, hLb, ho, hB, b0, by unfold maxLen; omega, by omega, by rw [ob_length]; omega, h⟩
  have AZ : Aside (a = none → L = 0 ∧ C = 0) := haz
  obtain ⟨K, hK⟩ : ∃ K, (sn l e).1 = K := ⟨_, rfl⟩
  obtain ⟨F, hF⟩ : ∃ F, (sn l e).2 = F := ⟨_, rfl⟩
  have AR : Aside ((sn l e).1 = K ∧ (sn l e).2 = F) := ⟨hK, hF⟩
  clear hl hLb ho haz b0 hLC hL h hK hF
  go_enter Tryd.func3, Tryd.ntmps3
  go_upto_region 2 with (at_builtin; refine wpList_ow Tryd.prog _ rfl (.tmp 10) (.tmp 11) 22 rfl 5 i0 _ 1 1 Tryd.underlying22 hi hz0 hz1 hz2 rfl (by decide) B (.slice (some ⟨B, 0, none⟩) 0 0) 0 _ (by rfl) hob0 a (ob l) L C A.out.2.2.2.2.2.2.2.2.2.1 (by rfl) AZ.out hl0 ob_one A.out.2.2.2.2.2.2.2.1 A.out.2.2.2.2.2.2.2.2.1 ?_; intro v1 w1 hgot; have how := ow_first hgot; obtain ⟨va, vc, hv, _, hvc, hlies, hvz⟩ := how.lies; subst hv)
  have aa := A.out
  have bel1 : Below B w w1 := aa.2.2.2.2.2.2.1.trans hgot.bel
  have hBl : B ≤ w1.heap.size := how.le
  have m1 : Mk w1 := aa.2.2.2.2.2.2.2.2.2.2.below bel1 (by have := aa.2.2.2.2.2.2.2.2.2.2.lt; omega)
  have s1 := sniff_c w1 m1 va l L vc hlies aa.2.1 aa.2.2.2.2.1 (by omega) e
  rw [AR.out.1, AR.out.2] at s1
  have A1 : Aside (Below B w w1 ∧ B ≤ w1.heap.size ∧ Mk w1 ∧ Lies w1 va l) := ⟨bel1, hBl, m1, hlies⟩
  clear aa bel1 hBl m1 hlies how hgot hob0 hl0 hvz hvc
  go_upto_region 3 with (go_at_call 7; refine s1.mono ?_; rintro e1 w2 ⟨rfl, hb2⟩)
  have aa := A.out
  have a1 := A1.out
  have bel2 : Below B w w2 := a1.1.trans (hb2.mono a1.2.1)
  have hla : Lies w2 a l := aa.1.below (by rw [aa.2.2.2.2.2.1]; exact bel2)
  have s2 := rsniff_c w2 a l L C hla aa.2.1 aa.2.2.1 aa.2.2.2.2.1 aa.2.2.2.1 AZ.out e
  rw [rs_eq, AR.out.1, AR.out.2] at s2
  have A2 : Aside (Below B w w2 ∧ B ≤ w2.heap.size ∧ Mk w2 ∧ Lies w2 va l ∧ Lies w2 a l) := ⟨bel2, by have := hb2.size; omega, a1.2.2.1.below hb2 a1.2.2.1.lt, a1.2.2.2.below hb2, hla⟩
  clear aa a1 bel2 hla s1 hb2
  go_upto_region 4 with (go_at_call 8; refine s2.mono ?_; rintro e1 w3 ⟨rfl, hb3⟩)
  have aa := A.out
  have a2 := A2.out
  have bel3 : Below B w w3 := a2.1.trans (hb3.mono a2.2.1)
  have hc1 := conv_st L vc aa.2.1 aa.2.2.2.2.1 (a2.2.2.2.1.below hb3)
  have hc2 := conv_st L C aa.2.1 aa.2.2.2.2.1 (a2.2.2.2.2.below hb3)
  have haw := awake_c w3 (a2.2.2.1.below hb3 a2.2.2.1.lt)
  have A3 : Aside (Below B w w3 ∧ B ≤ w3.heap.size) := ⟨bel3, by have := hb3.size; omega⟩
  have q1 : (F == F) = true := by simp
  have q2 : ((K : Int) == (K : Int)) = true := by simp
  clear aa a2 bel3 s2 hb3
  go_wp2_with (go_at_call 9; refine haw.mono ?_; rintro e1 w4 ⟨rfl, hb4⟩)
  first | go_ret | go_ret2
  exact ⟨rfl, A3.out.1.trans (hb4.mono A3.out.2)⟩
end Go.Proofs.YtbhlmmbknmejkaaDoor
