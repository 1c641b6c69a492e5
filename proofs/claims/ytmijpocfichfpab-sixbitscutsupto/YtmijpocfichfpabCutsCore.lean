/-
  SixbitsCuts' walk.
-/
import Derived.Test.YtmijpocfichfpabBackCore
namespace Go.Proofs.Ytmijpocfichfpab
open Go.RowKit
set_option linter.unusedVariables false
theorem slice_none (W : World) : (Instr.slice 22 (.slice none 0 0) none (some (.int .i64 0)) none).run Try.prog W = .ok (.slice none 0 0) W := by go_simp
theorem slice_nought (p : Addr) (C : Nat) (W : World) : (Instr.slice 22 (.slice (some p) 0 C) none (some (.int .i64 0)) none).run Try.prog W = .ok (.slice (some p) 0 C) W := by
  have h : (0 : Int) ≤ (C : Int) := by omega
  go_simp
/-- The first k of a slice of bytes. -/
theorem slice_first (a : Option Addr) (l : List Nat) (L C k : Nat) (hL : l.length = L) (hLC : L ≤ C) (hk : k ≤ L) (haz : a = none → L = 0 ∧ C = 0) (w : World) (hl : Lies w a l) (W : World) : (Instr.slice 22 (.slice a L C) none (some (.int .i64 (k : Int))) none).run Try.prog W = .ok (.slice a k C) W := by
  cases a with
  | none =>
    obtain ⟨h1, h2⟩ := haz rfl
    subst h1
    subst h2
    obtain rfl : k = 0 := by omega
    exact slice_none W
  | some p =>
    rcases hl with e | ⟨b, o, e, _⟩
    · rw [e] at hL
      have h0 : L = 0 := by simpa using hL.symm
      subst h0
      obtain rfl : k = 0 := by omega
      exact slice_nought p C W
    · cases e
      exact slice_to b o L C k (by omega) W
set_option maxRecDepth 20000 in
set_option maxHeartbeats 2000000 in
theorem cuts_core (w : World) (a : Option Addr) (l : List Nat) (L C t : Nat) (hl : Lies w a l) (hL : l.length = L) (hLb : L ≤ 2000000) (hLC : L ≤ C) (ho : Oct l) (haz : a = none → L = 0 ∧ C = 0) (ht : t < 65536) :
    Calls Try.prog 3 #[.slice a L C, .int .u16 (t : Int)] w fun e w' => e = .returned (.bool true) ∧ Below w.heap.size w w' := by
  have hwr := writes_c w a l L C 0 hl hL hLb hLC ho (by decide) haz
  obtain ⟨B, hB⟩ : ∃ B, w.heap.size = B := ⟨_, rfl⟩
  have hw0 : wri l 0 = enc l := by unfold wri; rw [if_pos (by decide)]
  rw [hB, hw0] at hwr
  rw [hB]
  have hel := enc_len l
  rw [hL] at hel
  obtain ⟨W, hW⟩ : ∃ W, (L + 2) / 3 * 4 = W := ⟨_, rfl⟩
  rw [hW] at hel
  have hWi : ((L : Int) + 2) / 3 * 4 = (W : Int) := by omega
  obtain ⟨k, hk⟩ : ∃ k, t % (W + 1) = k := ⟨_, rfl⟩
  have hkW : k ≤ W := by have := Nat.mod_lt t (show 0 < W + 1 by omega); omega
  have hrem : Int.tmod (t : Int) ((W : Int) + 1) = (k : Int) := by
    rw [show ((W : Int) + 1) = ((W + 1 : Nat) : Int) by omega, ← hk, Int.ofNat_tmod]
  have hne : ((W : Int) + 1) ≠ 0 := by omega
  have hLi : (L : Int) ≤ 2000000 := by omega
  have hWb : (W : Int) < 10000000 := by omega
  have hti : (t : Int) < 65536 := by omega
  have hki : (k : Int) < 10000000 := by omega
  have A : Aside (Lies w a l ∧ l.length = L ∧ L ≤ 2000000 ∧ Oct l ∧ w.heap.size = B ∧ (enc l).length = W ∧ k ≤ W ∧ L ≤ C ∧ (a = none → L = 0 ∧ C = 0) ∧ (L + 2) / 3 * 4 = W) := ⟨hl, hL, hLb, ho, hB, hel, hkW, hLC, haz, hW⟩
  clear hl hL hLb hLC ho haz hB hw0 hel hW hk hkW ht
  go_enter Try.func3, Try.ntmps3
  go_upto_region 2 with (go_at_call 4; refine hwr.mono ?_; rintro e1 w1 ⟨v1, rfl, hob1, hb1⟩)
  have a0 := A.out
  obtain ⟨va, vc, hv, hvc, hlies1, hvn⟩ := hob1.shape
  rw [a0.2.2.2.2.2.1] at hv hvc hvn
  subst hv
  have sl1 := slice_first va (enc l) W vc k a0.2.2.2.2.2.1 hvc a0.2.2.2.2.2.2.1 hvn w1 hlies1
  have htl : ((enc l).take k).length = k := by rw [List.length_take]; omega
  have hwh := whole_c w1 va ((enc l).take k) k vc (hlies1.take k) htl (by omega) (fun x hx => enc_oct l a0.2.2.2.1 x (List.mem_of_mem_take hx))
  obtain ⟨c1, c2⟩ := cut l k 0 0 a0.2.2.2.1 (by omega)
  have c3 : (rn 0 0 false 0 ((enc l).take k)).at_ = k := by
    rw [rn_none _ _ _ _ _ (by rw [c2]; split <;> omega), Nat.zero_add, htl]
  unfold WhTo at hwh
  obtain ⟨y, hy⟩ : ∃ y, (if k % 4 = 0 then 0 else 1) = y := ⟨_, rfl⟩
  obtain ⟨nx, hnx⟩ : ∃ nx, (l.take (mm k L)).length = nx := ⟨_, rfl⟩
  rw [c1, c2, c3, a0.2.1, hy] at hwh
  have hnx2 : nx = min (mm k L) L := by rw [← hnx, List.length_take, a0.2.1]
  have htk : l.take (mm k L) = l.take nx := by
    rw [List.take_eq_take_iff, a0.2.1, hnx2]
    omega
  rw [htk] at hwh hnx
  have sl2 := slice_first a l L C nx a0.2.1 a0.2.2.2.2.2.2.2.1 (by omega) a0.2.2.2.2.2.2.2.2.1 w a0.1
  obtain ⟨q4, hq4⟩ : ∃ q4, k / 4 = q4 := ⟨_, rfl⟩
  obtain ⟨r4, hr4⟩ : ∃ r4, k % 4 = r4 := ⟨_, rfl⟩
  have hq4i : (k : Int) / 4 = (q4 : Int) := by omega
  have hr4i : (k : Int) % 4 = (r4 : Int) := by omega
  have hq4b : (q4 : Int) < 10000000 := by omega
  have AX : Aside (Below B w w1 ∧ B ≤ w1.heap.size ∧ (l.take nx).length = nx ∧ nx ≤ L ∧ nx = min (mm k L) L ∧ k / 4 = q4 ∧ k % 4 = r4 ∧ (if k % 4 = 0 then 0 else 1) = y) := ⟨hb1, hob1.le, hnx, by omega, hnx2, hq4, hr4, hy⟩
  have hnxL : ((L : Int) < (nx : Int)) = False := eq_false (by omega)
  have hnxL' : (L < nx) = False := eq_false (by omega)
  have hkk : ((k : Int) != (k : Int)) = false := by simp
  clear a0 hvc hlies1 hvn hob1 hb1 htl c1 c2 c3 hy hnx hnx2 htk hq4 hr4 hwr
  go_upto_region 6 with (go_at_call 5; refine hwh.mono ?_; rintro e1 w2 ⟨vo, rfl, hob2, hb2⟩)
  have a0 := A.out
  have ax := AX.out
  obtain ⟨va2, vc2, hv2, hvc2, hlies2, hvn2⟩ := hob2.shape
  rw [ax.2.2.1] at hv2
  subst hv2
  have bel2 : Below B w w2 := ax.1.trans (hb2.mono ax.2.1)
  have hla : Lies w2 a (l.take nx) := (a0.1.below (by rw [a0.2.2.2.2.1]; exact bel2)).take nx
  have hsm := same_c va2 a (l.take nx) (l.take nx) nx nx vc2 C w2 ax.2.2.1 ax.2.2.1 (by omega) hlies2 hla
  rw [decide_eq_true rfl] at hsm
  have A2 : Aside (Below B w w2 ∧ B ≤ w2.heap.size) := ⟨bel2, by have := bel2.size; omega⟩
  have hr3 : r4 = 0 ∨ r4 = 1 ∨ r4 = 2 ∨ r4 = 3 := by omega
  have hmm : mm k L = 3 * q4 + min (r4 - 1) (L - 3 * q4) := by unfold mm; rw [ax.2.2.2.2.2.1, ax.2.2.2.2.2.2.1]
  have hyr : y = if r4 = 0 then 0 else 1 := by rw [← ax.2.2.2.2.2.2.2, ax.2.2.2.2.2.2.1]
  have hnxm := ax.2.2.2.2.1
  have hkq : k = 4 * q4 + r4 := by omega
  have hWL := a0.2.2.2.2.2.2.2.2.2
  have hkW := a0.2.2.2.2.2.2.1
  have hLb := a0.2.2.1
  clear a0 ax hob2 hb2 hvc2 hlies2 hvn2 hla bel2 hwh sl1 hrem hne
  by_cases hlt : k < W
  · have t1 : ((k : Int) < (W : Int)) = True := eq_true (by omega)
    have t1' : (k < W) = True := eq_true hlt
    have hd0 : 3 * q4 < L := by omega
    obtain ⟨d, hd⟩ : ∃ d, L - 3 * q4 = d := ⟨_, rfl⟩
    have hdi : (L : Int) - 3 * (q4 : Int) = (d : Int) := by omega
    have hdp : 0 < d := by omega
    rcases hr3 with rfl | rfl | rfl | rfl
    · obtain rfl : y = 0 := by simpa using hyr
      have tn : ((nx : Int) != 3 * (q4 : Int)) = false := by rw [bne_eq_false_iff_eq]; omega
      have tn' : ((nx : Int) = 3 * (q4 : Int)) = True := eq_true (by omega)
      have tdm : ((d : Int) < -1) = False := eq_false (by omega)
      clear hmm hyr hnxm hkq hWL hkW hLb hlt hd0 hd hdp
      go_wp2_with (first
        | (go_at_call 6; refine hsm.mono ?_; rintro e1 w3 ⟨rfl, n3, hw3⟩; have haw := awake_c w3; have A3 : Aside (Below B w w3 ∧ B ≤ w3.heap.size) := (by rw [hw3]; exact ⟨Below.drewN' A2.out.1 n3, A2.out.2⟩); clear hw3 hsm)
        | (go_at_call 7; refine haw.mono ?_; rintro e1 w4 ⟨rfl, hb4⟩))
      first | go_ret | go_ret2
      exact ⟨rfl, A3.out.1.trans (hb4.mono A3.out.2)⟩
    · obtain rfl : y = 1 := by simpa using hyr
      have tn : ((nx : Int) != 3 * (q4 : Int)) = false := by rw [bne_eq_false_iff_eq]; omega
      have tn' : ((nx : Int) = 3 * (q4 : Int)) = True := eq_true (by omega)
      have td0 : ((d : Int) < 0) = False := eq_false (by omega)
      clear hmm hyr hnxm hkq hWL hkW hLb hlt hd0 hd hdp
      go_wp2_with (first
        | (go_at_call 6; refine hsm.mono ?_; rintro e1 w3 ⟨rfl, n3, hw3⟩; have haw := awake_c w3; have A3 : Aside (Below B w w3 ∧ B ≤ w3.heap.size) := (by rw [hw3]; exact ⟨Below.drewN' A2.out.1 n3, A2.out.2⟩); clear hw3 hsm)
        | (go_at_call 7; refine haw.mono ?_; rintro e1 w4 ⟨rfl, hb4⟩))
      first | go_ret | go_ret2
      exact ⟨rfl, A3.out.1.trans (hb4.mono A3.out.2)⟩
    · obtain rfl : y = 1 := by simpa using hyr
      have tn : ((nx : Int) != 3 * (q4 : Int) + 1) = false := by rw [bne_eq_false_iff_eq]; omega
      have tn' : ((nx : Int) = 3 * (q4 : Int) + 1) = True := eq_true (by omega)
      have td1 : ((d : Int) < 1) = False := eq_false (by omega)
      clear hmm hyr hnxm hkq hWL hkW hLb hlt hd0 hd hdp
      go_wp2_with (first
        | (go_at_call 6; refine hsm.mono ?_; rintro e1 w3 ⟨rfl, n3, hw3⟩; have haw := awake_c w3; have A3 : Aside (Below B w w3 ∧ B ≤ w3.heap.size) := (by rw [hw3]; exact ⟨Below.drewN' A2.out.1 n3, A2.out.2⟩); clear hw3 hsm)
        | (go_at_call 7; refine haw.mono ?_; rintro e1 w4 ⟨rfl, hb4⟩))
      first | go_ret | go_ret2
      exact ⟨rfl, A3.out.1.trans (hb4.mono A3.out.2)⟩
    · by_cases hd2 : 2 ≤ d
      · obtain rfl : y = 1 := by simpa using hyr
        have tn : ((nx : Int) != 3 * (q4 : Int) + 2) = false := by rw [bne_eq_false_iff_eq]; omega
        have tn' : ((nx : Int) = 3 * (q4 : Int) + 2) = True := eq_true (by omega)
        have td2 : ((d : Int) < 2) = False := eq_false (by omega)
        clear hmm hyr hnxm hkq hWL hkW hLb hlt hd0 hd hdp
        go_wp2_with (first
          | (go_at_call 6; refine hsm.mono ?_; rintro e1 w3 ⟨rfl, n3, hw3⟩; have haw := awake_c w3; have A3 : Aside (Below B w w3 ∧ B ≤ w3.heap.size) := (by rw [hw3]; exact ⟨Below.drewN' A2.out.1 n3, A2.out.2⟩); clear hw3 hsm)
          | (go_at_call 7; refine haw.mono ?_; rintro e1 w4 ⟨rfl, hb4⟩))
        first | go_ret | go_ret2
        exact ⟨rfl, A3.out.1.trans (hb4.mono A3.out.2)⟩
      · obtain rfl : y = 1 := by simpa using hyr
        have tn : ((nx : Int) != 3 * (q4 : Int) + (d : Int)) = false := by rw [bne_eq_false_iff_eq]; omega
        have tn' : ((nx : Int) = 3 * (q4 : Int) + (d : Int)) = True := eq_true (by omega)
        have td2 : ((d : Int) < 2) = True := eq_true (by omega)
        have tdp : ((0 : Int) < (d : Int)) = True := eq_true (by omega)
        have tdp' : (0 < d) = True := eq_true hdp
        have tdn : d ≠ 0 := by omega
        clear hd2
        clear hmm hyr hnxm hkq hWL hkW hLb hlt hd0 hd hdp
        go_wp2_with (first
          | (go_at_call 6; refine hsm.mono ?_; rintro e1 w3 ⟨rfl, n3, hw3⟩; have haw := awake_c w3; have A3 : Aside (Below B w w3 ∧ B ≤ w3.heap.size) := (by rw [hw3]; exact ⟨Below.drewN' A2.out.1 n3, A2.out.2⟩); clear hw3 hsm)
          | (go_at_call 7; refine haw.mono ?_; rintro e1 w4 ⟨rfl, hb4⟩))
        first | go_ret | go_ret2
        exact ⟨rfl, A3.out.1.trans (hb4.mono A3.out.2)⟩
  · have hkW2 : k = W := by omega
    have t1 : ((k : Int) < (W : Int)) = False := eq_false (by omega)
    have t1' : (k < W) = False := eq_false hlt
    obtain rfl : r4 = 0 := by omega
    obtain rfl : y = 0 := by simpa using hyr
    clear hr3 hmm hyr hnxm hkq hWL hkW hLb hlt hkW2
    go_wp2_with (first
      | (go_at_call 6; refine hsm.mono ?_; rintro e1 w3 ⟨rfl, n3, hw3⟩; have haw := awake_c w3; have A3 : Aside (Below B w w3 ∧ B ≤ w3.heap.size) := (by rw [hw3]; exact ⟨Below.drewN' A2.out.1 n3, A2.out.2⟩); clear hw3 hsm)
      | (go_at_call 7; refine haw.mono ?_; rintro e1 w4 ⟨rfl, hb4⟩))
    first | go_ret | go_ret2
    exact ⟨rfl, A3.out.1.trans (hb4.mono A3.out.2)⟩
end Go.Proofs.Ytmijpocfichfpab
