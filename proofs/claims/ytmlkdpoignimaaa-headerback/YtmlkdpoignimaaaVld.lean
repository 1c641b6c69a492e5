/-
  The law's values.
-/
import Derived.Test.YtmlkdpoignimaaaNmd
namespace Go.Proofs.Ytmlkdpoignimaaa
open Go.RowKit
set_option linter.unusedVariables false
set_option maxHeartbeats 1000000 in
theorem valued_c (w : World) (a : Option Addr) (l : List Nat) (L C : Nat) (hl : Lies w a l) (hL : l.length = L) (ho : Oct l) : Calls Try.prog 25 #[.slice a L C] w fun e w' => e = .returned (.string (st (trm (vlr l 60)))) ∧ Below w.heap.size w w' := by
  obtain ⟨B, hB⟩ : ∃ B, w.heap.size = B := ⟨_, rfl⟩
  obtain ⟨i0, hi, hz0, hz1, hz2⟩ := ginfo_parts ginfo5
  obtain ⟨M, hM⟩ : ∃ M, min L 60 = M := ⟨_, rfl⟩
  have A : Aside (Lies w a l ∧ l.length = L ∧ Oct l ∧ w.heap.size = B ∧ min L 60 = M) := ⟨hl, hL, ho, hB, hM⟩
  rw [hB]
  clear hl hL ho hM hB
  go_enter Try.func25, Try.ntmps25
  go_wp2_with fail
  go_loopg [3, 4] M (fun gg s3 s4 wr => ∃ (k : Nat) (va : Option Addr) (n c : Nat), s3 = .slice va n c ∧ s4 = .int .i64 (k : Int) ∧ Aside (k + gg = M ∧ Ow wr B 5 1 (.slice va n c) n (ob (vlr l k)) ∧ (vlr l k).length = n ∧ Below B w wr))
  case atStart => exact ⟨0, _, _, _, rfl, rfl, by omega, Ow.nil (by have := A.out.2.2.2.1; omega), rfl, Below.refl _ _⟩
  case round =>
    obtain ⟨k, va, n, c, rfl, rfl, hI⟩ := hrel
    obtain ⟨hkg, how, hn, hbel⟩ := hI.out
    have a0 := A.out
    have hnb := vlr_len l k
    by_cases hk : k < M
    · have t1 : ((k : Int) < (L : Int)) = True := eq_true (by omega)
      have t1' : (k < L) = True := eq_true (by omega)
      have t2 : ((k : Int) < 60) = True := eq_true (by omega)
      have t2' : (k < 60) = True := eq_true (by omega)
      have hkI : (k : Int) < 60 := by omega
      obtain ⟨x, hx⟩ : ∃ x, l[k]? = some x := ⟨_, List.getElem?_eq_getElem (by omega)⟩
      have hx256 := a0.2.2.1 x (List.mem_of_getElem? hx)
      obtain ⟨ab, ao, ha, hcx⟩ := a0.1.pick a0.2.2.2.1 hbel hx
      subst ha
      have hsu := vlr_succ hx
      by_cases h58 : x = 10 ∨ x = 13
      · rw [if_pos h58] at hsu
        have A2 : Aside (k + gk = M ∧ k < M ∧ Ow wr B 5 1 (.slice va n c) n (ob (vlr l (k + 1))) ∧ (vlr l (k + 1)).length = n ∧ Below B w wr) := ⟨hkg, hk, by rw [hsu]; exact how, by rw [hsu]; exact hn, hbel⟩
        clear hI hkg how hn hbel a0 hnb hk hx hx256 hsu
        rcases h58 with rfl | rfl
        all_goals
          go_wp2_with fail
          have a2 := A2.out
          go_roundg (gk - 1)
          case measure => omega
          case rel => exact ⟨k + 1, va, n, c, rfl, by go_num, by omega, a2.2.2⟩
      · have u1 : ((x : Int) != 10) = true := by rw [bne_iff_ne]; omega
        have u2 : ((x : Int) != 13) = true := by rw [bne_iff_ne]; omega
        rw [if_neg h58] at hsu
        obtain ⟨H, hH⟩ : ∃ H, wr.heap.size = H := ⟨_, rfl⟩
        have bal : Below wr.heap.size wr (wr.alloc (.cells #[.int .u8 (x : Int)] 5)) := (Below.refl _ wr).alloc (Nat.le_refl _) _
        have how2 := how.below bal (Nat.le_refl _)
        have hlz := lies_ob (lies_new wr H hH [x] (0, 0))
        have A2 : Aside (k + gk = M ∧ k < M ∧ (vlr l (k + 1)) = vlr l k ++ [x] ∧ (vlr l k).length = n ∧ Below B w (wr.alloc (.cells #[.int .u8 (x : Int)] 5)) ∧ n + 1 ≤ maxLen ∧ (n + 1) * 1 ≤ 140737488355328) := ⟨hkg, hk, hsu, hn, hbel.trans (bal.mono how.le), by unfold maxLen; omega, by omega⟩
        clear hI hkg how hn hbel a0 hnb hk hx hx256 hsu h58 bal
        go_wp2_with (at_builtin; refine wpList_ow Try.prog _ rfl (.tmp 27) (.tmp 32) 22 rfl 5 i0 _ 1 1 Try.underlying22 hi hz0 hz1 hz2 rfl (by decide) B (.slice va n c) n _ (by rfl) how2 (some ⟨H, 0, none⟩) (ob [x]) 1 1 rfl (by rfl) (by intro h; cases h) hlz ob_one A2.out.2.2.2.2.2.1 A2.out.2.2.2.2.2.2 ?_; intro v3 w3 hgot; have how3 := ow_next hgot; obtain ⟨va3, vc3, hv3, _⟩ := how3.shape; subst hv3)
        have a2 := A2.out
        go_roundg (gk - 1)
        case measure => omega
        case rel => exact ⟨k + 1, va3, n + 1, vc3, rfl, by go_num, by omega, by rw [a2.2.2.1]; exact how3, by rw [a2.2.2.1, List.length_append, a2.2.2.2.1]; rfl, a2.2.2.2.2.1.trans (hgot.bel)⟩
    · have hkm : k = min l.length 60 := by omega
      have hlies : Lies wr va (vlr l k) := by
        obtain ⟨va', vc', hv', _, h', _⟩ := ow_lies how hn
        cases hv'; exact h'
      have hcv := conv_st n c hn (vlr_oct a0.2.2.1 k) hlies
      rw [vlr_end hkm] at hcv
      have htr := rtrim_c (vlr l 60) (vlr_oct a0.2.2.1 60) (by have := vlr_len l 60; omega) wr
      have AE : Aside (Below B w wr) := hbel
      by_cases hkL : k < L
      · have t1 : ((k : Int) < (L : Int)) = True := eq_true (by omega)
        have t1' : (k < L) = True := eq_true (by omega)
        have t2 : ((k : Int) < 60) = False := eq_false (by omega)
        have t2' : (k < 60) = False := eq_false (by omega)
        clear hI hkg how hn hbel a0 hnb hk hkm hlies hkL
        go_wp2_with (go_at_call 23; refine htr.mono ?_; rintro e3 w3 ⟨rfl, hw3⟩; subst hw3)
        go_ret
        exact ⟨rfl, AE.out⟩
      · have t1 : ((k : Int) < (L : Int)) = False := eq_false (by omega)
        have t1' : (k < L) = False := eq_false (by omega)
        clear hI hkg how hn hbel a0 hnb hk hkm hlies hkL
        go_wp2_with (go_at_call 23; refine htr.mono ?_; rintro e3 w3 ⟨rfl, hw3⟩; subst hw3)
        go_ret
        exact ⟨rfl, AE.out⟩
end Go.Proofs.Ytmlkdpoignimaaa
