/-
  The law's names.
-/
import Derived.Test.YtmlkdpoignimaaaBck
import Derived.Test.YtmlkdpoignimaaaEndsCore
import Derived.Laws.OwnMore
namespace Go.Proofs.Ytmlkdpoignimaaa
open Go.RowKit
set_option linter.unusedVariables false
theorem Ow.lit {w : World} {lo B sz n : Nat} {e : TypeId} {cs : Array Value} (hB : w.heap.size = B) (h : lo ≤ B) (hm : n ≤ maxLen) (hs : cs.size = n * sz) : Ow (w.alloc (.cells cs e)) lo e sz (.slice (some ⟨B, 0, none⟩) n n) n cs.toList := by
  rw [← hB] at h ⊢
  exact ⟨World.ownsRow_lit w cs n h hm hs, by show _ ≤ (w.heap.push _).size; simp; omega⟩
theorem nmd_end {l : List Nat} {k : Nat} (h : k = min l.length 20) : nmd l k = nmd l 20 := by
  unfold nmd
  rw [h, List.take_eq_take_min (l := l) (i := 20), Nat.min_comm]
theorem vlr_end {l : List Nat} {k : Nat} (h : k = min l.length 60) : vlr l k = vlr l 60 := by
  unfold vlr
  rw [h, List.take_eq_take_min (l := l) (i := 60), Nat.min_comm]
theorem Lies.pick {w u : World} {a : Option Addr} {l : List Nat} {B k x : Nat} (h : Lies w a l) (hB : w.heap.size = B) (hb : Below B w u) (hx : l[k]? = some x) : ∃ ab ao, a = some ⟨ab, ao, none⟩ ∧ u.cell? ⟨ab, ao + k, none⟩ = some (.int .u8 (x : Int)) := by
  rcases h.below (by rw [hB]; exact hb) with rfl | ⟨b, o, ha, hc⟩
  · simp at hx
  · exact ⟨b, o, ha, hc k x hx⟩
set_option maxHeartbeats 1000000 in
theorem named_c (w : World) (a : Option Addr) (l : List Nat) (L C : Nat) (hl : Lies w a l) (hL : l.length = L) (ho : Oct l) : Calls Try.prog 24 #[.slice a L C] w fun e w' => e = .returned (.string (st (nmd l 20))) ∧ Below w.heap.size w w' := by
  obtain ⟨B, hB⟩ : ∃ B, w.heap.size = B := ⟨_, rfl⟩
  obtain ⟨w1, hw1⟩ : ∃ w1, w1 = w.alloc (.cells #[.int .u8 120] 5) := ⟨_, rfl⟩
  have how1 : Ow w1 B 5 1 (.slice (some ⟨B, 0, none⟩) 1 1) 1 (ob (nmd l 0)) := by rw [hw1]; exact Ow.lit hB (Nat.le_refl _) (by decide) rfl
  have b1 : Below B w w1 := by rw [hw1, ← hB]; exact (Below.refl _ w).alloc (Nat.le_refl _) _
  obtain ⟨i0, hi, hz0, hz1, hz2⟩ := ginfo_parts ginfo5
  obtain ⟨M, hM⟩ : ∃ M, min L 20 = M := ⟨_, rfl⟩
  have A : Aside (Lies w a l ∧ l.length = L ∧ Oct l ∧ w.heap.size = B ∧ min L 20 = M) := ⟨hl, hL, ho, hB, hM⟩
  have A1 : Aside (Ow w1 B 5 1 (.slice (some ⟨B, 0, none⟩) 1 1) 1 (ob (nmd l 0)) ∧ Below B w w1) := ⟨how1, b1⟩
  clear hl hL ho how1 b1 hM
  rw [hB]
  go_enter Try.func24, Try.ntmps24
  go_upto_region 2 with fail
  rw [← hw1]
  clear hw1 hB
  go_wp2_with fail
  go_loopg [3, 4, 5] M (fun gg s3 s4 s5 wr => ∃ (k : Nat) (va : Option Addr) (n c : Nat), s3 = .slice va n c ∧ s4 = .int .i64 (k : Int) ∧ Aside (k + gg = M ∧ Ow wr B 5 1 (.slice va n c) n (ob (nmd l k)) ∧ (nmd l k).length = n ∧ Below B w wr))
  case atStart => exact ⟨0, _, _, _, rfl, rfl, by omega, A1.out.1, rfl, A1.out.2⟩
  case round =>
    obtain ⟨k, va, n, c, rfl, rfl, hI⟩ := hrel
    obtain ⟨hkg, how, hn, hbel⟩ := hI.out
    have a0 := A.out
    have hnb := nmd_len l k
    by_cases hk : k < M
    · have t1 : ((k : Int) < (L : Int)) = True := eq_true (by omega)
      have t1' : (k < L) = True := eq_true (by omega)
      have t2 : ((k : Int) < 20) = True := eq_true (by omega)
      have t2' : (k < 20) = True := eq_true (by omega)
      have hkI : (k : Int) < 20 := by omega
      obtain ⟨x, hx⟩ : ∃ x, l[k]? = some x := ⟨_, List.getElem?_eq_getElem (by omega)⟩
      have hx256 := a0.2.2.1 x (List.mem_of_getElem? hx)
      obtain ⟨ab, ao, ha, hcx⟩ := a0.1.pick a0.2.2.2.1 hbel hx
      subst ha
      obtain ⟨y, hy⟩ : ∃ y, x % 94 = y := ⟨_, rfl⟩
      obtain ⟨z, hz⟩ : ∃ z, 33 + y = z := ⟨_, rfl⟩
      have hmI : (x : Int).tmod 94 = (y : Int) := by rw [Int.tmod_eq_emod_of_nonneg (by omega)]; omega
      have hzI : (33 : Int) + (y : Int) = (z : Int) := by omega
      have hyb : (y : Int) < 94 := by omega
      have hzb : (z : Int) < 127 := by omega
      have hsu := nmd_succ hx
      rw [hy, hz] at hsu
      by_cases h58 : z = 58
      · have u1 : ((z : Int) != 58) = false := by rw [bne_eq_false_iff_eq]; omega
        rw [if_pos h58] at hsu
        have A2 : Aside (k + gk = M ∧ k < M ∧ Ow wr B 5 1 (.slice va n c) n (ob (nmd l (k + 1))) ∧ (nmd l (k + 1)).length = n ∧ Below B w wr) := ⟨hkg, hk, by rw [hsu]; exact how, by rw [hsu]; exact hn, hbel⟩
        clear hI hkg how hn hbel a0 hnb hk hx hx256 hy hz hsu h58
        go_wp2_with fail
        have a2 := A2.out
        go_roundg (gk - 1)
        case measure => omega
        case rel => exact ⟨k + 1, va, n, c, rfl, by go_num, by omega, a2.2.2⟩
      · have u1 : ((z : Int) != 58) = true := by rw [bne_iff_ne]; omega
        rw [if_neg h58] at hsu
        obtain ⟨H, hH⟩ : ∃ H, wr.heap.size = H := ⟨_, rfl⟩
        have bal : Below wr.heap.size wr (wr.alloc (.cells #[.int .u8 (z : Int)] 5)) := (Below.refl _ wr).alloc (Nat.le_refl _) _
        have how2 := how.below bal (Nat.le_refl _)
        have hlz := lies_ob (lies_new wr H hH [z] (0, 0))
        have A2 : Aside (k + gk = M ∧ k < M ∧ (nmd l (k + 1)) = nmd l k ++ [z] ∧ (nmd l k).length = n ∧ Below B w (wr.alloc (.cells #[.int .u8 (z : Int)] 5)) ∧ n + 1 ≤ maxLen ∧ (n + 1) * 1 ≤ 140737488355328) := ⟨hkg, hk, hsu, hn, hbel.trans (bal.mono how.le), by unfold maxLen; omega, by omega⟩
        clear hI hkg how hn hbel a0 hnb hk hx hx256 hy hz hsu h58 bal
        go_wp2_with (at_builtin; refine wpList_ow Try.prog _ rfl (.tmp 25) (.tmp 27) 22 rfl 5 i0 _ 1 1 Try.underlying22 hi hz0 hz1 hz2 rfl (by decide) B (.slice va n c) n _ (by rfl) how2 (some ⟨H, 0, none⟩) (ob [z]) 1 1 rfl (by rfl) (by intro h; cases h) hlz ob_one A2.out.2.2.2.2.2.1 A2.out.2.2.2.2.2.2 ?_; intro v3 w3 hgot; have how3 := ow_next hgot; obtain ⟨va3, vc3, hv3, _⟩ := how3.shape; subst hv3)
        have a2 := A2.out
        go_roundg (gk - 1)
        case measure => omega
        case rel => exact ⟨k + 1, va3, n + 1, vc3, rfl, by go_num, by omega, by rw [a2.2.2.1]; exact how3, by rw [a2.2.2.1, List.length_append, a2.2.2.2.1]; rfl, a2.2.2.2.2.1.trans (hgot.bel)⟩
    · have hkm : k = min l.length 20 := by omega
      have hlies : Lies wr va (nmd l k) := by
        obtain ⟨va', vc', hv', _, h', _⟩ := ow_lies how hn
        cases hv'; exact h'
      have hcv := conv_st n c hn (nmd_oct l k) hlies
      rw [nmd_end hkm] at hcv
      have AE : Aside (Below B w wr) := hbel
      by_cases hkL : k < L
      · have t1 : ((k : Int) < (L : Int)) = True := eq_true (by omega)
        have t1' : (k < L) = True := eq_true (by omega)
        have t2 : ((k : Int) < 20) = False := eq_false (by omega)
        have t2' : (k < 20) = False := eq_false (by omega)
        clear hI hkg how hn hbel a0 hnb hk hkm hlies hkL
        go_wp2_with fail
        go_ret
        exact ⟨rfl, AE.out⟩
      · have t1 : ((k : Int) < (L : Int)) = False := eq_false (by omega)
        have t1' : (k < L) = False := eq_false (by omega)
        clear hI hkg how hn hbel a0 hnb hk hkm hlies hkL
        go_wp2_with fail
        go_ret
        exact ⟨rfl, AE.out⟩
end Go.Proofs.Ytmlkdpoignimaaa
