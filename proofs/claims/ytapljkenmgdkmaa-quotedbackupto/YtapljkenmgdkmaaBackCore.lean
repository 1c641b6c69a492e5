/-
  QuotedBack's walk.
-/
import Derived.Test.YtapljkenmgdkmaaWholeCore
namespace Go.Proofs.Ytapljkenmgdkmaa
open Go.RowKit
set_option linter.unusedVariables false
theorem lok_step {most n k x : Nat} {l : List Nat} (hx : l[k]? = some x) (h : lok most n (l.drop k)) : (if x = 10 then 0 else n + 1) ≤ most + 1 ∧ ((if x = 10 then 0 else n + 1) ≤ most ∨ x = 13) ∧ lok most (if x = 10 then 0 else n + 1) (l.drop (k + 1)) := by
  rw [drop_more hx, lok] at h
  exact ⟨h.1.1, h.1.2, h.2⟩
set_option maxRecDepth 20000 in
set_option maxHeartbeats 1000000 in
theorem back_core (w : World) (a : Option Addr) (l : List Nat) (L C : Nat) (z : Int) (hl : Lies w a l) (hL : l.length = L) (hLb : L ≤ 2000000) (hLC : L ≤ C) (ho : Oct l) (hln : z < 9223372036854775808) (haz : a = none → L = 0 ∧ C = 0) :
    Calls Try.prog 7 #[.slice a L C, .int .i64 z] w fun e w' => e = .returned (.bool true) ∧ Below w.heap.size w w' := by
  obtain ⟨B, hB⟩ : ∃ B, w.heap.size = B := ⟨_, rfl⟩
  rw [hB]
  have hwr := write_c w a l L C z hl hL (by omega) hLC ho haz
  obtain ⟨q, hq⟩ : ∃ q, decide (z < 4 ∨ 76 < z) = q := ⟨_, rfl⟩
  obtain ⟨m, hm⟩ : ∃ m, wid z = m := ⟨_, rfl⟩
  rw [hm] at hwr
  have hm4 := wid_le z
  rw [hm] at hm4
  have hmq : Aside ((q = true → m = 76) ∧ (q = false → z = (m : Int))) := by
    subst hq
    subst hm
    unfold wid
    by_cases h : z < 4 ∨ 76 < z
    · rw [decide_eq_true h, if_pos h]; exact ⟨fun _ => rfl, (fun h => by cases h)⟩
    · rw [decide_eq_false h, if_neg h]; exact ⟨(fun h => by cases h), fun _ => by omega⟩
  have AQ : Aside (decide (z < 4 ∨ 76 < z) = q) := hq
  have hrun := run_wri m l ho 0 [] (fun h => absurd rfl h)
  rw [List.nil_append] at hrun
  obtain ⟨r1, r2, r3⟩ := rn_run hrun 0
  have hlok := lok_wri hm4.1 l ho 0 (by omega)
  have hlen := wri_len m l 0
  have hoct := wri_oct m l ho 0
  obtain ⟨W, hW⟩ : ∃ W, wri m 0 l = W := ⟨_, rfl⟩
  rw [hW] at hwr r1 r2 r3 hlok hlen hoct
  obtain ⟨N, hN⟩ : ∃ N, W.length = N := ⟨_, rfl⟩
  rw [hN] at r3 hlen
  have A : Aside (Lies w a l ∧ l.length = L ∧ L ≤ 2000000 ∧ Oct l ∧ w.heap.size = B ∧ 4 ≤ m ∧ m ≤ 76) := ⟨hl, hL, hLb, ho, hB, hm4.1, hm4.2⟩
  have AW : Aside (W.length = N ∧ N ≤ 6 * L ∧ Oct W ∧ lok m 0 W ∧ (rn 0 .no [] W).out = l ∧ (rn 0 .no [] W).why = 0 ∧ (rn 0 .no [] W).at_ = N) := ⟨hN, by omega, hoct, hlok, by simpa [fin] using r1, r2, by omega⟩
  clear hl hL hLb hLC ho haz hm hm4 hq hrun r1 r2 r3 hlok hlen hoct hW hN hln
  go_enter Try.func7, Try.ntmps7
  go_upto_region 2 with (go_at_call 19; refine hwr.mono ?_; rintro e1 w1 ⟨v1, rfl, hob1, hb1⟩)
  clear hwr
  have a0 := A.out
  have aw := AW.out
  obtain ⟨va, vc, hv, hvc, hlies1, hvn⟩ := hob1.shape
  rw [aw.1] at hv
  subst hv
  have hwh := whole_c w1 va W N vc hlies1 aw.1 (by omega) aw.2.2.1
  unfold WhTo at hwh
  rw [aw.2.2.2.2.1, aw.2.2.2.2.2.1, aw.2.2.2.2.2.2] at hwh
  rw [hB] at hb1 hob1
  have A1 : Aside (Below B w w1 ∧ Lies w1 va W ∧ Lies w1 a l ∧ B ≤ w1.heap.size) := ⟨hb1, hlies1, a0.1.below (by rw [hB]; exact hb1), hob1.le⟩
  clear a0 aw hob1 hb1 hvc hlies1 hvn hB
  go_upto_region 3 with (go_at_call 9; refine hwh.mono ?_; rintro e1 w2 ⟨vo, he2, hob2, hb2⟩; obtain rfl := (show e1 = .returned (.tuple #[vo, .int .i64 0, .int .i64 (N : Int)]) from he2))
  clear hwh
  have a0 := A.out
  have a1 := A1.out
  obtain ⟨oa, oc, hv2, _, hlies2, _⟩ := hob2.shape
  rw [a0.2.1] at hv2
  subst hv2
  have hs := same_c oa a l l L L oc C w2 a0.2.1 a0.2.1 (by omega) hlies2 (a1.2.2.1.below hb2)
  rw [decide_eq_true rfl] at hs
  have A2 : Aside (Below B w w2 ∧ Lies w2 va W ∧ B ≤ w2.heap.size) := ⟨a1.1.trans (hb2.mono a1.2.2.2), a1.2.1.below hb2, by have := hb2.size; omega⟩
  clear a0 a1 hob2 hb2 hlies2
  have hq2 : ((N : Int) != (N : Int)) = false := by simp
  go_upto_region 5 with (go_at_call 11; refine hs.mono ?_; rintro e1 w3 ⟨rfl, n3, hw3⟩; have A3 : Aside (Below B w w3 ∧ Lies w3 va W ∧ B ≤ w3.heap.size) := (by rw [hw3]; exact ⟨Below.drewN' A2.out.1 n3, A2.out.2.1.drewN n3, A2.out.2.2⟩); clear hw3)
  clear hs
  go_upto_region 6 with fail
  go_cut [41] (fun s41 wc => wc = w3 ∧ s41 = .bool q)
  case first =>
    by_cases h1 : z < 4
    · have t1 : (z < 4) = True := eq_true h1
      have e : q = true := by rw [← AQ.out]; exact decide_eq_true (Or.inl h1)
      clear h1
      go_wp2_with fail
      go_meet
      exact ⟨rfl, by rw [e]⟩
    · have t1 : (z < 4) = False := eq_false h1
      by_cases h2 : 76 < z
      · have t2 : (76 < z) = True := eq_true h2
        have e : q = true := by rw [← AQ.out]; exact decide_eq_true (Or.inr h2)
        clear h1 h2
        go_wp2_with fail
        go_meet
        exact ⟨rfl, by rw [e]⟩
      · have t2 : (76 < z) = False := eq_false h2
        have e : q = false := by rw [← AQ.out]; exact decide_eq_false (by omega)
        clear h1 h2
        go_wp2_with fail
        go_meet
        exact ⟨rfl, by rw [e]⟩
  case rest =>
    obtain ⟨hw, rfl⟩ := hcut
    have hw := hw.symm
    subst hw
    go_upto_if 41 with fail
    go_cut [9] (fun s9 wc => wc = w3 ∧ s9 = .int .i64 (m : Int))
    case first =>
      cases q with
      | true =>
        have e : Aside (m = 76) := hmq.out.1 rfl
        go_wp2_with fail
        go_meet
        exact ⟨rfl, by rw [e.out]; rfl⟩
      | false =>
        have e : Aside (z = (m : Int)) := hmq.out.2 rfl
        go_wp2_with fail
        go_meet
        exact ⟨rfl, by rw [e.out]⟩
    case rest =>
      obtain ⟨hw, rfl⟩ := hcut
      have hw := hw.symm
      subst hw
      clear AQ hmq
      go_wp2_with fail
      go_loopg [10, 11] N (fun gg s10 s11 wr => ∃ k n : Nat, s11 = .int .i64 (k : Int) ∧ s10 = .int .i64 (n : Int) ∧ wr = w3 ∧ Aside (k + gg = N ∧ n ≤ m + 1 ∧ lok m n (W.drop k)))
      case atStart => exact ⟨0, 0, rfl, rfl, rfl, by omega, by omega, AW.out.2.2.2.1⟩
      case round =>
        obtain ⟨k, n, rfl, rfl, hw, hI⟩ := hrel
        have hw := hw.symm
        subst hw
        obtain ⟨hkg, hnm, hlk⟩ := hI.out
        have a0 := A.out
        have aw := AW.out
        by_cases hk : k < N
        · have t1 : ((k : Int) < (N : Int)) = True := eq_true (by omega)
          have t1' : (k < N) = True := eq_true hk
          have hkI : (k : Int) < 100000000 := by omega
          obtain ⟨x, hx⟩ : ∃ x, W[k]? = some x := ⟨_, List.getElem?_eq_getElem (by omega)⟩
          have hx256 := aw.2.2.1 x (List.mem_of_getElem? hx)
          obtain ⟨ab, ao, ha⟩ := A3.out.2.1.some' (by omega)
          subst ha
          have cx := A3.out.2.1.at' hx
          obtain ⟨h1, h2, h3⟩ := lok_step hx hlk
          have hmI : (m : Int) < 100 := by omega
          have hnI : (n : Int) < 200 := by omega
          obtain ⟨m1, hm1⟩ : ∃ m1, m + 1 = m1 := ⟨_, rfl⟩
          have hm1I : (m : Int) + 1 = (m1 : Int) := by omega
          have hm1b : (m1 : Int) < 200 := by omega
          obtain ⟨n1, hn1⟩ : ∃ n1, n + 1 = n1 := ⟨_, rfl⟩
          have hn1I : (n : Int) + 1 = (n1 : Int) := by omega
          have hn1b : (n1 : Int) < 300 := by omega
          by_cases h10 : x = 10
          · subst h10
            rw [if_pos rfl] at h1 h2 h3
            have s1 : ((m1 : Int) < (0 : Int)) = False := eq_false (by omega)
            have s2 : ((m : Int) < (0 : Int)) = False := eq_false (by omega)
            have AX : Aside (k + gk = N ∧ k < N ∧ lok m 0 (W.drop (k + 1))) := ⟨hkg, hk, h3⟩
            clear hI hkg hnm hlk a0 aw hk hx hx256 h1 h2 h3 hm1 hn1
            go_wp2_with fail
            have ax := AX.out
            go_roundg (gk - 1)
            case measure => omega
            case rel => exact ⟨k + 1, 0, by go_num, rfl, rfl, by omega, by omega, ax.2.2⟩
          · have u10 : ((x : Int) == 10) = false := by rw [beq_eq_false_iff_ne]; omega
            rw [if_neg h10, hn1] at h1 h2 h3
            have s1 : ((m1 : Int) < (n1 : Int)) = False := eq_false (by omega)
            have s1' : (m1 < n1) = False := eq_false (by omega)
            have AX : Aside (k + gk = N ∧ k < N ∧ n1 ≤ m + 1 ∧ lok m n1 (W.drop (k + 1))) := ⟨hkg, hk, h1, h3⟩
            by_cases hle : n1 ≤ m
            · have s2 : ((m : Int) < (n1 : Int)) = False := eq_false (by omega)
              have s2' : (m < n1) = False := eq_false (by omega)
              clear hI hkg hnm hlk a0 aw hk hx hx256 h1 h2 h3 hm1 hn1 h10 hle
              go_wp2_with fail
              have ax := AX.out
              go_roundg (gk - 1)
              case measure => omega
              case rel => exact ⟨k + 1, n1, by go_num, rfl, rfl, by omega, ax.2.2.1, ax.2.2.2⟩
            · have h13 : x = 13 := by omega
              subst h13
              have s2 : ((m : Int) < (n1 : Int)) = True := eq_true (by omega)
              have s2' : (m < n1) = True := eq_true (by omega)
              clear hI hkg hnm hlk a0 aw hk hx hx256 h1 h2 h3 hm1 hn1 h10 hle
              go_wp2_with fail
              have ax := AX.out
              go_roundg (gk - 1)
              case measure => omega
              case rel => exact ⟨k + 1, n1, by go_num, rfl, rfl, by omega, ax.2.2.1, ax.2.2.2⟩
        · have t1 : ((k : Int) < (N : Int)) = False := eq_false (by omega)
          have t1' : (k < N) = False := eq_false hk
          have haw := awake_c w3
          clear hI hkg hnm hlk a0 aw hk
          go_wp2_with (go_at_call 12; refine haw.mono ?_; rintro e1 w5 ⟨rfl, hb5⟩)
          first | go_ret | go_ret2
          exact ⟨rfl, A3.out.1.trans (hb5.mono A3.out.2.2)⟩
end Go.Proofs.Ytapljkenmgdkmaa
