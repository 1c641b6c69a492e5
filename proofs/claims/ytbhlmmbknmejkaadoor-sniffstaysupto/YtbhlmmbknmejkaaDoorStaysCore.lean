/-
  SniffStays' walk.
-/
import Derived.Test.YtbhlmmbknmejkaaDoorRsn
namespace Go.Proofs.YtbhlmmbknmejkaaDoor
open Go.RowKit
set_option linter.unusedVariables false
theorem stays_facts (l m : List Nat) : ∃ (K N Q : Nat) (F G : Bool), sn l false = (K, F) ∧ sn (l ++ m) false = (N, G) ∧ sn (l ++ m) true = (Q, true) ∧ Q ≠ 0 ∧ ((F = true ∧ G = true ∧ N = K ∧ Q = K) ∨ (F = false ∧ K = 0 ∧ l.length < 262 ∧ ((G = true ∧ N = Q) ∨ G = false))) := by
  refine ⟨(sn l false).1, (sn (l ++ m) false).1, kd (l ++ m), (sn l false).2, (sn (l ++ m) false).2, rfl, rfl, sn_end _, kd_ne _, ?_⟩
  rcases hF : (sn l false).2 with _ | _
  · right
    refine ⟨rfl, by rw [(sn_open hF).1], sn_long hF, ?_⟩
    rcases hG : (sn (l ++ m) false).2 with _ | _
    · right; rfl
    · left
      have h2 := known_kd hG []
      rw [List.append_nil] at h2
      exact ⟨rfl, by rw [h2]⟩
  · left
    have h1 := sn_mono hF m false
    have h2 := known_kd hF m
    exact ⟨rfl, by rw [h1]; exact hF, by rw [h1], by rw [h2]⟩
set_option maxRecDepth 20000 in
set_option maxHeartbeats 2000000 in
theorem stays_core (w : World) (h : Mk w) (a : Option Addr) (l : List Nat) (L C : Nat) (hl : Lies w a l) (hL : l.length = L) (hLC : L ≤ C) (hLb : L ≤ 2000000) (ho : Oct l) (haz : a = none → L = 0 ∧ C = 0)
    (a2 : Option Addr) (m : List Nat) (M D : Nat) (hm : Lies w a2 m) (hM : m.length = M) (hMb : M ≤ 2000000) (hom : Oct m) (haz2 : a2 = none → M = 0 ∧ D = 0) :
    Calls Tryd.prog 4 #[.slice a L C, .slice a2 M D] w fun ex w' => ex = .returned (.bool true) ∧ Below w.heap.size w w' := by
  obtain ⟨B, hB⟩ : ∃ B, w.heap.size = B := ⟨_, rfl⟩
  rw [hB]
  obtain ⟨K, N, Q, F, G, hs1, hs2, hs3, hQ0, hcase⟩ := stays_facts l m
  have s1 := sniff_c w h a l L C hl hL ho (by omega) false
  rw [hs1, hB] at s1
  obtain ⟨i0, hi, hz0, hz1, hz2⟩ := ginfo_parts ginfo5
  have A : Aside (Lies w a l ∧ l.length = L ∧ Lies w a2 m ∧ m.length = M ∧ Oct (l ++ m) ∧ L ≤ 2000000 ∧ M ≤ 2000000 ∧ w.heap.size = B ∧ Mk w ∧ sn (l ++ m) false = (N, G) ∧ sn (l ++ m) true = (Q, true)) := ⟨hl, hL, hm, hM, ho.append hom, hLb, hMb, hB, h, hs2, hs3⟩
  have AZ : Aside ((a = none → L = 0 ∧ C = 0) ∧ (a2 = none → M = 0 ∧ D = 0) ∧ 0 + L ≤ maxLen ∧ (0 + L) * 1 ≤ 140737488355328 ∧ (ob l).length = L * 1 ∧ L + M ≤ maxLen ∧ (L + M) * 1 ≤ 140737488355328 ∧ (ob m).length = M * 1) := ⟨haz, haz2, by unfold maxLen; omega, by omega, by rw [ob_length]; omega, by unfold maxLen; omega, by omega, by rw [ob_length]; omega⟩
  have AC : Aside (Q ≠ 0 ∧ ((F = true ∧ G = true ∧ N = K ∧ Q = K) ∨ (F = false ∧ K = 0 ∧ L < 262 ∧ ((G = true ∧ N = Q) ∨ G = false)))) := ⟨hQ0, by rw [← hL]; exact hcase⟩
  clear hl hL hLC hLb ho haz hm hM hMb hom haz2 h hs1 hs2 hs3 hQ0 hcase hB
  go_enter Tryd.func4, Tryd.ntmps4
  go_upto_region 2 with (go_at_call 7; refine s1.mono ?_; rintro e1 w1 ⟨rfl, hb1⟩)
  have aa := A.out
  obtain ⟨H, hH⟩ : ∃ H, w1.heap.size = H := ⟨_, rfl⟩
  have hBH : B ≤ H := by have := hb1.size; have := aa.2.2.2.2.2.2.2.1; omega
  have bA : Below H w1 (w1.alloc (.cells #[] 5)) := by rw [← hH]; exact (Below.refl _ w1).alloc (Nat.le_refl _) _
  have belA : Below B w (w1.alloc (.cells #[] 5)) := hb1.trans (bA.mono hBH)
  have hob0 : Ow (w1.alloc (.cells #[] 5)) H 5 1 (.slice (some ⟨H, 0, none⟩) 0 0) 0 (ob []) := by rw [← hH]; exact Ow.empty (Nat.le_refl _)
  have hl0 := lies_ob (aa.1.below (by rw [aa.2.2.2.2.2.2.2.1]; exact belA))
  have hlm : ∀ W, Below H (w1.alloc (.cells #[] 5)) W → ob m = [] ∨ ∃ b o, a2 = some ⟨b, o, none⟩ ∧ ∀ (i : Nat) u, (ob m)[i]? = some u → W.cell? ⟨b, o + i, none⟩ = some u := fun W hW => lies_ob (aa.2.2.1.below (by rw [aa.2.2.2.2.2.2.2.1]; exact belA.trans (hW.mono hBH)))
  have A1 : Aside (Below B w (w1.alloc (.cells #[] 5)) ∧ B ≤ H) := ⟨belA, hBH⟩
  clear aa hBH bA belA s1 hb1
  go_upto_region 3 with (first
    | (at_builtin; refine wpList_ow Tryd.prog _ rfl (.tmp 17) (.tmp 18) 22 rfl 5 i0 _ 1 1 Tryd.underlying22 hi hz0 hz1 hz2 rfl (by decide) H (.slice (some ⟨H, 0, none⟩) 0 0) 0 _ (by rfl) hob0 a (ob l) L C AZ.out.2.2.2.2.1 (by rfl) AZ.out.1 hl0 ob_one AZ.out.2.2.1 AZ.out.2.2.2.1 ?_; intro v2 w2 hgot2; have how2 := ow_first hgot2; have hl2 := hlm w2 hgot2.bel; obtain ⟨va2, vc2, hv2, _⟩ := how2.shape; subst hv2)
    | (at_builtin; refine wpList_ow Tryd.prog _ rfl (.tmp 19) (.tmp 20) 22 rfl 5 i0 _ 1 1 Tryd.underlying22 hi hz0 hz1 hz2 rfl (by decide) H (.slice va2 L vc2) L _ (by rfl) how2 a2 (ob m) M D AZ.out.2.2.2.2.2.2.2 (by rfl) AZ.out.2.1 hl2 ob_one AZ.out.2.2.2.2.2.1 AZ.out.2.2.2.2.2.2.1 ?_; intro v3 w3 hgot3; have how3 := ow_next hgot3; obtain ⟨va3, vc3, hv3, hlen3, _, hl3, _⟩ := how3.lies; subst hv3))
  have aa := A.out
  have bel3 : Below B w w3 := A1.out.1.trans ((hgot2.bel.trans hgot3.bel).mono A1.out.2)
  have hB3 : B ≤ w3.heap.size := by have := bel3.size; omega
  have m3 : Mk w3 := aa.2.2.2.2.2.2.2.2.1.below bel3 (by have := aa.2.2.2.2.2.2.2.2.1.lt; omega)
  have s2 := sniff_c w3 m3 va3 (l ++ m) (L + M) vc3 hl3 hlen3 aa.2.2.2.2.1 (by omega) false
  rw [aa.2.2.2.2.2.2.2.2.2.1] at s2
  have s3 := fun (u : World) (hu : Below w3.heap.size w3 u) => sniff_c u (m3.below hu m3.lt) va3 (l ++ m) (L + M) vc3 (hl3.below hu) hlen3 aa.2.2.2.2.1 (by omega) true
  rw [aa.2.2.2.2.2.2.2.2.2.2] at s3
  have A3 : Aside (Below B w w3 ∧ B ≤ w3.heap.size ∧ Mk w3 ∧ ∀ (u : World), Below w3.heap.size w3 u → Calls Tryd.prog 7 #[.slice va3 (L + M) vc3, .bool true] u fun ex w' => ex = .returned (.tuple #[.int .i64 (Q : Int), .bool true]) ∧ Below u.heap.size u w') := ⟨bel3, hB3, m3, s3⟩
  clear aa bel3 hB3 m3 s3 hl3 hlen3 how3 how2 hgot3 hgot2 hl2 hlm hl0 hob0 hH
  go_upto_region 4 with (go_at_call 7; refine s2.mono ?_; rintro e1 w4 ⟨rfl, hb4⟩)
  have s4 := A3.out.2.2.2 w4 hb4
  have A4 : Aside (Below w3.heap.size w3 w4) := hb4
  clear s2 hb4
  go_upto_region 5 with (go_at_call 7; refine s4.mono ?_; rintro e1 w5 ⟨rfl, hb5⟩)
  have a3 := A3.out
  have b35 : Below w3.heap.size w3 w5 := A4.out.trans (hb5.mono A4.out.size)
  have haw := awake_c w5 (a3.2.2.1.below b35 a3.2.2.1.lt)
  have A5 : Aside (Below B w w5 ∧ B ≤ w5.heap.size) := ⟨a3.1.trans (b35.mono a3.2.1), by have := b35.size; omega⟩
  have ac := AC.out
  have q0 : ((Q : Int) == 0) = false := by rw [beq_eq_false_iff_ne]; omega
  clear a3 b35 s4 hb5 A3 A4
  rcases ac.2 with ⟨rfl, rfl, rfl, rfl⟩ | ⟨rfl, rfl, hL2, ⟨rfl, rfl⟩ | rfl⟩
  · have q1 : ((Q : Int) == (Q : Int)) = true := by simp
    clear ac AC
    go_wp2_with (go_at_call 9; refine haw.mono ?_; rintro e1 w6 ⟨rfl, hb6⟩)
    first | go_ret | go_ret2
    exact ⟨rfl, A5.out.1.trans (hb6.mono A5.out.2)⟩
  · have q1 : ((N : Int) == (N : Int)) = true := by simp
    have q2 : ((262 : Int) ≤ (L : Int)) = False := eq_false (by omega)
    have q2n : (262 ≤ L) = False := eq_false (by omega)
    clear ac AC hL2
    go_wp2_with (go_at_call 9; refine haw.mono ?_; rintro e1 w6 ⟨rfl, hb6⟩)
    first | go_ret | go_ret2
    exact ⟨rfl, A5.out.1.trans (hb6.mono A5.out.2)⟩
  · have q2 : ((262 : Int) ≤ (L : Int)) = False := eq_false (by omega)
    have q2n : (262 ≤ L) = False := eq_false (by omega)
    clear ac AC hL2
    go_wp2_with (go_at_call 9; refine haw.mono ?_; rintro e1 w6 ⟨rfl, hb6⟩)
    first | go_ret | go_ret2
    exact ⟨rfl, A5.out.1.trans (hb6.mono A5.out.2)⟩
end Go.Proofs.YtbhlmmbknmejkaaDoor
