/-
  What Lower, the document's Low, Lower, mark, Token, and both small come to.
-/
import Derived.Test.YtdndlegfalmkaabCnv
namespace Go.Proofs.Ytdndlegfalmkaab
open Go.RowKit
set_option linter.unusedVariables false
/-- Small letters up to a place. -/
def lk (l : List Nat) (k : Nat) : List Nat := low (l.take k) ++ l.drop k
theorem lk_get {l : List Nat} {k x : Nat} (hx : l[k]? = some x) : (lk l k)[k]? = some x := by
  have hk := (List.getElem?_eq_some_iff.1 hx).1
  unfold lk
  rw [drop_more hx, List.getElem?_append_right (by rw [low_length]; simp; omega)]
  have : k - (low (l.take k)).length = 0 := by rw [low_length]; simp; omega
  rw [this]
  rfl
theorem lk_set {l : List Nat} {k x : Nat} (hx : l[k]? = some x) : (lk l k).set k (lo x) = lk l (k + 1) := by
  have hk := (List.getElem?_eq_some_iff.1 hx).1
  unfold lk
  rw [drop_more hx, take_more hx, low_append]
  have hl : (low (l.take k)).length = k := by rw [low_length]; simp; omega
  rw [List.set_append_right _ _ (by omega), hl, Nat.sub_self, List.set_cons_zero]
  simp [low]
theorem lk_same {l : List Nat} {k x : Nat} (hx : l[k]? = some x) (h : lo x = x) : lk l k = lk l (k + 1) := by
  rw [← lk_set hx, h]
  refine (List.ext_getElem? fun i => ?_)
  rw [List.getElem?_set]
  split
  · rename_i e
    subst e
    rw [lk_get hx]
    have := (List.getElem?_eq_some_iff.1 (lk_get hx)).1
    simp [this]
  · rfl
theorem lk_len (l : List Nat) (k : Nat) : (lk l k).length = l.length := by
  unfold lk
  rw [List.length_append, low_length, ← List.length_append, List.take_append_drop]
set_option maxHeartbeats 1000000 in
theorem lower_c (l : List Nat) (ho : Oct l) (hl : l.length ≤ 281474976710656) (w : World) : Calls Try.prog 5 #[.string (st l)] w fun e w' => e = .returned (.string (st (low l))) ∧ Below w.heap.size w w' := by
  obtain ⟨w1, c, hcv, hC, hb1, hz1, hlc⟩ := bytes_of ho w
  obtain ⟨H, hH⟩ : ∃ H, w.heap.size = H := ⟨_, rfl⟩
  obtain ⟨L, hL⟩ : ∃ L, l.length = L := ⟨_, rfl⟩
  obtain ⟨s, hs⟩ : ∃ s, s = st l := ⟨_, rfl⟩
  rw [hH, hL, ← hs] at hcv
  rw [hH] at hC hb1 hz1
  rw [hH, ← hs]
  have A : Aside (l.length = L ∧ L ≤ 281474976710656 ∧ Oct l ∧ Cv w1 H (lk l 0) ∧ Below H w w1) := ⟨hL, by omega, ho, by simpa [lk, low] using hC, hb1⟩
  clear hs hL hl ho hC hb1 hz1 hlc hH
  go_enter Try.func5, Try.ntmps5
  go_wp2_with fail
  go_loopg [10] L (fun g s10 wr => ∃ k : Nat, s10 = .int .i64 k ∧ Aside (k + g = L ∧ Cv wr H (lk l k) ∧ Below H w wr))
  case atStart => exact ⟨0, rfl, ⟨by omega, A.out.2.2.2.1, A.out.2.2.2.2⟩⟩
  case round =>
    obtain ⟨k, rfl, hT⟩ := hrel
    obtain ⟨hkg, hC, hB⟩ := hT.out
    have a0 := A.out
    by_cases hk : k < L
    · have hki : ((k : Int) < (L : Int)) = True := eq_true (by omega)
      have hkn : (k < L) = True := eq_true hk
      have hkb : (k : Int) < 1000000000000000 := by omega
      obtain ⟨x, hx⟩ : ∃ x, l[k]? = some x := ⟨_, List.getElem?_eq_getElem (by omega)⟩
      have hcell := hC.cell (lk_get hx)
      have hfz := hC.frozen (i := k) (by rw [lk_len]; omega)
      have hx256 : x < 256 := a0.2.2.1 x (List.mem_of_getElem? hx)
      by_cases h1 : 65 ≤ x ∧ x ≤ 90
      · have t1 : ((65 : Int) ≤ (x : Int)) = True := eq_true (by omega)
        have t1' : (65 ≤ x) = True := eq_true (by omega)
        have t2 : ((x : Int) ≤ (90 : Int)) = True := eq_true (by omega)
        have t2' : (x ≤ 90) = True := eq_true (by omega)
        have A5 : Aside (((x : Int) + 97 - 65) % 256 = ((x + 32 : Nat) : Int)) := by show _ = _; omega
        have e2 : lo x = x + 32 := if_pos h1
        have hC2 := hC.set k (x + 32)
        rw [← e2, lk_set hx] at hC2
        rw [e2] at hC2
        have A2 : Aside (k + gk = L ∧ k < L ∧ Cv (wr.setCell ⟨H, k, none⟩ (.int .u8 ((x + 32 : Nat) : Int))) H (lk l (k + 1)) ∧ Below H w (wr.setCell ⟨H, k, none⟩ (.int .u8 ((x + 32 : Nat) : Int)))) := ⟨hkg, hk, hC2, hB.setCell (p := ⟨H, k, none⟩) (Nat.le_refl _) _⟩
        clear hT a0 hx hk h1 e2 hC2 hC hB hkg
        go_wp2_with fail
        have a2 := A2.out
        go_roundg (gk - 1)
        case measure => omega
        case rel => exact ⟨k + 1, by go_num, ⟨by omega, (by rw [A5.out]; exact a2.2.2.1), (by rw [A5.out]; exact a2.2.2.2)⟩⟩
      · have e2 : lo x = x := if_neg h1
        have A2 : Aside (k + gk = L ∧ k < L ∧ Cv wr H (lk l (k + 1)) ∧ Below H w wr) := ⟨hkg, hk, lk_same hx e2 ▸ hC, hB⟩
        by_cases h3 : 65 ≤ x
        · have t1 : ((65 : Int) ≤ (x : Int)) = True := eq_true (by omega)
          have t1' : (65 ≤ x) = True := eq_true (by omega)
          have t2 : ((x : Int) ≤ (90 : Int)) = False := eq_false (by omega)
          have t2' : (x ≤ 90) = False := eq_false (by omega)
          clear hT a0 hx hk h1 e2 hC hB hkg h3
          go_wp2_with fail
          have a2 := A2.out
          go_roundg (gk - 1)
          case measure => omega
          case rel => exact ⟨k + 1, by go_num, ⟨by omega, a2.2.2.1, a2.2.2.2⟩⟩
        · have t1 : ((65 : Int) ≤ (x : Int)) = False := eq_false (by omega)
          have t1' : (65 ≤ x) = False := eq_false (by omega)
          clear hT a0 hx hk h1 e2 hC hB hkg h3
          go_wp2_with fail
          have a2 := A2.out
          go_roundg (gk - 1)
          case measure => omega
          case rel => exact ⟨k + 1, by go_num, ⟨by omega, a2.2.2.1, a2.2.2.2⟩⟩
    · have hki : ((k : Int) < (L : Int)) = False := eq_false (by omega)
      have hkn : (k < L) = False := eq_false hk
      have hkL : k = L := by omega
      have e : lk l k = low l := by
        unfold lk
        rw [List.take_of_length_le (by omega), List.drop_of_length_le (by omega), List.append_nil]
      rw [e] at hC
      have hst := conv_st (w := wr) L c (by rw [low_length]; omega) a0.2.2.1.low hC.lies
      clear hT a0 hk hC e hkL hkg hcv
      have A3 : Aside (Below H w wr) := hB
      clear hB
      go_wp2_with fail
      go_ret
      exact ⟨rfl, A3.out⟩
end Go.Proofs.Ytdndlegfalmkaab
