/-
  What mixed comes to.
-/
import Derived.Test.YtdndlegfalmkaaaPut
namespace Go.Proofs.Ytdndlegfalmkaaa
open Go.RowKit
set_option linter.unusedVariables false
set_option maxRecDepth 20000 in
set_option maxHeartbeats 4000000 in
theorem mixed_c (w : World) (l : List Nat) (a : Option Addr) (N c : Nat) (A : List Nat) (ho : Oct l) (hl : l.length ≤ 281474976710656) (hA : Lies w a A) (hN : A.length = N) (hNb : N ≤ 1000000000) (hoA : Oct A) : Calls Try.prog 24 #[.string (st l), .slice a N c] w fun e w' => e = .returned (.string (st (mxf A 0 l))) ∧ Below w.heap.size w w' := by
  obtain ⟨w1, c1, hcv, hC, hb1, hz1, hlc⟩ := bytes_of ho w
  obtain ⟨H, hH⟩ : ∃ H, w.heap.size = H := ⟨_, rfl⟩
  obtain ⟨L, hL⟩ : ∃ L, l.length = L := ⟨_, rfl⟩
  obtain ⟨s, hs⟩ : ∃ s, s = st l := ⟨_, rfl⟩
  rw [hH, hL, ← hs] at hcv
  rw [hH] at hC hb1 hz1
  rw [hH, ← hs]
  have Q : Aside (l.length = L ∧ L ≤ 281474976710656 ∧ Oct l ∧ Cv w1 H (mk A l 0) ∧ Below H w w1 ∧ w.heap.size = H ∧ Lies w a A ∧ A.length = N ∧ N ≤ 1000000000 ∧ Oct A) := ⟨hL, by omega, ho, by simpa [mk, mxf] using hC, hb1, hH, hA, hN, hNb, hoA⟩
  clear hs hL hl ho hC hb1 hz1 hlc hH hA hN hNb hoA
  go_enter Try.func24, Try.ntmps24
  go_wp2_with fail
  go_loopg [6] L (fun g s6 wr => ∃ k : Nat, s6 = .int .i64 k ∧ Aside (k + g = L ∧ Cv wr H (mk A l k) ∧ Below H w wr))
  case atStart => exact ⟨0, rfl, ⟨by omega, Q.out.2.2.2.1, Q.out.2.2.2.2.1⟩⟩
  case round =>
    obtain ⟨k, rfl, hT⟩ := hrel
    obtain ⟨hkg, hC, hB⟩ := hT.out
    obtain ⟨hlL, hLb, hol, _, _, hH, hA, hN, hNb, hoA⟩ := Q.out
    by_cases hk : k < L
    · have hki : ((k : Int) < (L : Int)) = True := eq_true (by omega)
      have hkn : (k < L) = True := eq_true hk
      have hkb : (k : Int) < 1000000000000000 := by omega
      obtain ⟨x, hx⟩ : ∃ x, l[k]? = some x := ⟨_, List.getElem?_eq_getElem (by omega)⟩
      have hcell := hC.cell (mk_get hx)
      have hfz := hC.frozen (i := k) (by rw [mk_len]; omega)
      have hx256 : x < 256 := hol x (List.mem_of_getElem? hx)
      by_cases h0 : N = 0
      · have e2 : up A k x = x := if_neg (fun h => h.1.1 (List.eq_nil_of_length_eq_zero (by omega)))
        have A2 : Aside (k + gk = L ∧ k < L ∧ Cv wr H (mk A l (k + 1)) ∧ Below H w wr) := ⟨hkg, hk, mk_same hx e2 ▸ hC, hB⟩
        have n0 : ((0 : Int) < (N : Int)) = False := eq_false (by omega)
        have n0' : (0 < N) = False := eq_false (by omega)
        clear hT hx hk e2 hC hB hkg hlL hLb hol hH hA hN hNb hoA hcell hfz h0
        go_wp2_with fail
        have a2 := A2.out
        go_roundg (gk - 1)
        case measure => omega
        case rel => exact ⟨k + 1, by go_num, ⟨by omega, a2.2.2.1, a2.2.2.2⟩⟩
      · have hne : A ≠ [] := fun e => by rw [e] at hN; exact h0 hN.symm
        rcases hA with hA | ⟨b, o, rfl, hc⟩
        · exact absurd hA hne
        have hlt : k % N < N := Nat.mod_lt _ (by omega)
        obtain ⟨y, hy⟩ : ∃ y, A[k % N]? = some y := ⟨_, List.getElem?_eq_getElem (by omega)⟩
        have hyo := hoA y (List.mem_of_getElem? hy)
        have hcy := hc _ _ hy
        have hcy1 : wr.cell? ⟨b, o + k % N, none⟩ = some (.int .u8 (y : Int)) := (hB.cell (p := ⟨b, o + k % N, none⟩) (by rw [← hH]; exact World.block_lt_of_cell? w ⟨b, o + k % N, none⟩ hcy)).trans hcy
        have hgd : A.getD (k % A.length) 0 = y := by rw [hN]; simp [hy]
        have hup : up A k x = if y % 2 = 1 ∧ 97 ≤ x ∧ x ≤ 122 then x - 32 else x := by
          unfold up
          rw [hgd]
          by_cases h : y % 2 = 1 ∧ 97 ≤ x ∧ x ≤ 122
          · rw [if_pos ⟨⟨hne, h.1⟩, h.2⟩, if_pos h]
          · rw [if_neg (fun h2 => h ⟨h2.1.2, h2.2⟩), if_neg h]
        have n0 : ((0 : Int) < (N : Int)) = True := eq_true (by omega)
        have n0' : (0 < N) = True := eq_true (by omega)
        have n1 : ((N : Int) == 0) = false := by rw [beq_eq_false_iff_ne]; omega
        have n2 : (N : Int) < 10000000000 := by omega
        by_cases hy1 : y % 2 = 1
        · by_cases h97 : 97 ≤ x
          · by_cases h122 : x ≤ 122
            · have ty : (((y : Int) % 2) == 1) = true := by rw [beq_iff_eq]; omega
              have t1 : ((97 : Int) ≤ (x : Int)) = True := eq_true (by omega)
              have t1' : (97 ≤ x) = True := eq_true (by omega)
              have t2 : ((x : Int) ≤ (122 : Int)) = True := eq_true (by omega)
              have t2' : (x ≤ 122) = True := eq_true (by omega)
              have A5 : Aside (((x : Int) - 32) % 256 = ((x - 32 : Nat) : Int) ∧ (x : Int) - 32 = ((x - 32 : Nat) : Int)) := by constructor <;> omega
              have e2 : up A k x = x - 32 := by rw [hup]; exact if_pos ⟨hy1, h97, h122⟩
              have hC2 := hC.set k (x - 32)
              rw [← e2, mk_set hx] at hC2
              rw [e2] at hC2
              have A2 : Aside (k + gk = L ∧ k < L ∧ Cv (wr.setCell ⟨H, k, none⟩ (.int .u8 ((x - 32 : Nat) : Int))) H (mk A l (k + 1)) ∧ Below H w (wr.setCell ⟨H, k, none⟩ (.int .u8 ((x - 32 : Nat) : Int)))) := ⟨hkg, hk, hC2, hB.setCell (p := ⟨H, k, none⟩) (Nat.le_refl _) _⟩
              clear hT hx hk hC hB hkg hlL hLb hol hH hN hNb hoA hc hy hcy hne hgd hup h0 e2 hC2 hy1 h97 h122
              go_wp2_with fail
              have a2 := A2.out
              go_roundg (gk - 1)
              case measure => omega
              case rel => exact ⟨k + 1, by go_num, ⟨by omega, (by first | exact a2.2.2.1 | (rw [A5.out.1]; exact a2.2.2.1) | (rw [A5.out.2]; exact a2.2.2.1)), (by first | exact a2.2.2.2 | (rw [A5.out.1]; exact a2.2.2.2) | (rw [A5.out.2]; exact a2.2.2.2))⟩⟩
            · have ty : (((y : Int) % 2) == 1) = true := by rw [beq_iff_eq]; omega
              have t1 : ((97 : Int) ≤ (x : Int)) = True := eq_true (by omega)
              have t1' : (97 ≤ x) = True := eq_true (by omega)
              have t2 : ((x : Int) ≤ (122 : Int)) = False := eq_false (by omega)
              have t2' : (x ≤ 122) = False := eq_false (by omega)
              have e2 : up A k x = x := by rw [hup]; exact if_neg (by omega)
              have A2 : Aside (k + gk = L ∧ k < L ∧ Cv wr H (mk A l (k + 1)) ∧ Below H w wr) := ⟨hkg, hk, mk_same hx e2 ▸ hC, hB⟩
              clear hT hx hk hC hB hkg hlL hLb hol hH hN hNb hoA hc hy hcy hne hgd hup h0 e2 hy1 h97 h122
              go_wp2_with fail
              have a2 := A2.out
              go_roundg (gk - 1)
              case measure => omega
              case rel => exact ⟨k + 1, by go_num, ⟨by omega, a2.2.2.1, a2.2.2.2⟩⟩
          · have ty : (((y : Int) % 2) == 1) = true := by rw [beq_iff_eq]; omega
            have t1 : ((97 : Int) ≤ (x : Int)) = False := eq_false (by omega)
            have t1' : (97 ≤ x) = False := eq_false (by omega)
            have e2 : up A k x = x := by rw [hup]; exact if_neg (by omega)
            have A2 : Aside (k + gk = L ∧ k < L ∧ Cv wr H (mk A l (k + 1)) ∧ Below H w wr) := ⟨hkg, hk, mk_same hx e2 ▸ hC, hB⟩
            clear hT hx hk hC hB hkg hlL hLb hol hH hN hNb hoA hc hy hcy hne hgd hup h0 e2 hy1 h97
            go_wp2_with fail
            have a2 := A2.out
            go_roundg (gk - 1)
            case measure => omega
            case rel => exact ⟨k + 1, by go_num, ⟨by omega, a2.2.2.1, a2.2.2.2⟩⟩
        · have ty : (((y : Int) % 2) == 1) = false := by rw [beq_eq_false_iff_ne]; omega
          have e2 : up A k x = x := by rw [hup]; exact if_neg (by omega)
          have A2 : Aside (k + gk = L ∧ k < L ∧ Cv wr H (mk A l (k + 1)) ∧ Below H w wr) := ⟨hkg, hk, mk_same hx e2 ▸ hC, hB⟩
          clear hT hx hk hC hB hkg hlL hLb hol hH hN hNb hoA hc hy hcy hne hgd hup h0 e2 hy1
          go_wp2_with fail
          have a2 := A2.out
          go_roundg (gk - 1)
          case measure => omega
          case rel => exact ⟨k + 1, by go_num, ⟨by omega, a2.2.2.1, a2.2.2.2⟩⟩
    · have hki : ((k : Int) < (L : Int)) = False := eq_false (by omega)
      have hkn : (k < L) = False := eq_false hk
      have e : mk A l k = mxf A 0 l := by
        unfold mk
        rw [List.take_of_length_le (by omega), List.drop_of_length_le (by omega), List.append_nil]
      rw [e] at hC
      have hst := conv_st (w := wr) L c1 (by rw [mxf_len]; omega) (oct_mxf A l 0 hol) hC.lies
      clear hT hk hC e hkg hcv hlL hLb hol hH hA hN hNb hoA
      have A3 : Aside (Below H w wr) := hB
      clear hB
      go_wp2_with fail
      go_ret
      exact ⟨rfl, A3.out⟩
end Go.Proofs.Ytdndlegfalmkaaa
