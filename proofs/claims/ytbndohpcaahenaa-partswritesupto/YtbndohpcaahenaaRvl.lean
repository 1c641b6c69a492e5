/-
  What the document's Valid comes to.
-/
import Derived.Test.YtbndohpcaahenaaVlc
namespace Go.Proofs.Ytbndohpcaahenaa
open Go.RowKit
set_option linter.unusedVariables false
def let' (x : Nat) : Bool := (decide (97 ≤ x) && decide (x ≤ 122)) || (decide (65 ≤ x) && decide (x ≤ 90)) || (decide (48 ≤ x) && decide (x ≤ 57))
theorem okb_let (x : Nat) : okb x = (let' x || more.contains x) := rfl
set_option maxHeartbeats 2000000 in
set_option maxRecDepth 20000 in
theorem rvalid_c (b : List Nat) (ho : Oct b) (hb : b.length < 100000000) (w : World) : Calls Try.prog 10 #[.string (st b)] w fun e w' => e = .returned (.bool (vd b)) ∧ w' = w := by
  obtain ⟨r, hr⟩ : ∃ r, vd b = r := ⟨_, rfl⟩
  rw [hr]
  obtain ⟨S, hS⟩ : ∃ S, S = st b := ⟨_, rfl⟩
  obtain ⟨L, hL⟩ : ∃ L, b.length = L := ⟨_, rfl⟩
  have hz : S.size = L := by rw [hS, st_size, hL]
  rw [← hS]
  obtain ⟨M, hM⟩ : ∃ M : ByteArray, M = ⟨#[39, 40, 41, 43, 95, 44, 45, 46, 47, 58, 61, 63, 32]⟩ := ⟨_, rfl⟩
  have hMs : M.size = 13 := by rw [hM]; rfl
  have A : Aside (b.length = L ∧ Oct b ∧ L < 100000000 ∧ vd b = r ∧ S = st b) := ⟨hL, ho, by omega, hr, hS⟩
  clear hr hS hL ho hb
  go_enter Try.func10, Try.ntmps10
  go_wp2_with fail
  go_loopg [3] L (fun gg s3 wr => ∃ i : Nat, s3 = .int .i64 (i : Int) ∧ wr = w ∧ Aside (i + gg = L ∧ (b.take i).all okb = true))
  case atStart => exact ⟨0, rfl, rfl, ⟨by omega, by simp⟩⟩
  case round =>
    obtain ⟨i, rfl, hw, hT⟩ := hrel
    have hw := hw.symm
    subst hw
    obtain ⟨hig, hall⟩ := hT.out
    have a0 := A.out
    by_cases hi : i < L
    · have t1 : ((i : Int) < (L : Int)) = True := eq_true (by omega)
      have t2 : (i < L) = True := eq_true hi
      obtain ⟨x, hx⟩ : ∃ x, b[i]? = some x := ⟨_, List.getElem?_eq_getElem (by omega)⟩
      have hx0 : ∀ h : i < S.size, (S[i]'h).toNat = x := by rw [a0.2.2.2.2]; exact fun h => st_get a0.2.1 hx h
      have hx2 : x < 256 := a0.2.1 x (List.mem_of_getElem? hx)
      have A2 : Aside (i + gk = L ∧ i < L ∧ (b.take i).all okb = true ∧ b[i]? = some x ∧ x < 256) := ⟨hig, hi, hall, hx, hx2⟩
      obtain ⟨q, hq⟩ : ∃ q, let' x = q := ⟨_, rfl⟩
      have AQ : Aside (let' x = q) := hq
      clear hT a0 hig hall hi hx
      go_upto_region 5 with fail
      go_cut [5] (fun s5 wc => s5 = .bool q ∧ wc = w)
      case first =>
        clear hx0
        rcases (show (97 ≤ x ∧ x ≤ 122) ∨ 122 < x ∨ (90 < x ∧ x < 97) ∨ (65 ≤ x ∧ x ≤ 90) ∨ (57 < x ∧ x < 65) ∨ (48 ≤ x ∧ x ≤ 57) ∨ x < 48 by omega) with h | h | h | h | h | h | h
        · have e : q = true := by rw [← hq]; simp [let']; omega
          have f0 : ((97 : Int) ≤ (x : Int)) = True := eq_true (by omega)
          have g0 : (97 ≤ x) = True := eq_true (by omega)
          have f1 : ((x : Int) ≤ 122) = True := eq_true (by omega)
          have g1 : (x ≤ 122) = True := eq_true (by omega)
          clear hq h
          go_wp2_with fail
          go_meet
          exact ⟨by rw [e], rfl⟩
        · have e : q = false := by rw [← hq]; simp [let']; omega
          have f0 : ((97 : Int) ≤ (x : Int)) = True := eq_true (by omega)
          have g0 : (97 ≤ x) = True := eq_true (by omega)
          have f1 : ((x : Int) ≤ 122) = False := eq_false (by omega)
          have g1 : (x ≤ 122) = False := eq_false (by omega)
          have f2 : ((65 : Int) ≤ (x : Int)) = True := eq_true (by omega)
          have g2 : (65 ≤ x) = True := eq_true (by omega)
          have f3 : ((x : Int) ≤ 90) = False := eq_false (by omega)
          have g3 : (x ≤ 90) = False := eq_false (by omega)
          have f4 : ((48 : Int) ≤ (x : Int)) = True := eq_true (by omega)
          have g4 : (48 ≤ x) = True := eq_true (by omega)
          have f5 : ((x : Int) ≤ 57) = False := eq_false (by omega)
          have g5 : (x ≤ 57) = False := eq_false (by omega)
          clear hq h
          go_wp2_with fail
          go_meet
          exact ⟨by rw [e], rfl⟩
        · have e : q = false := by rw [← hq]; simp [let']; omega
          have f0 : ((97 : Int) ≤ (x : Int)) = False := eq_false (by omega)
          have g0 : (97 ≤ x) = False := eq_false (by omega)
          have f1 : ((65 : Int) ≤ (x : Int)) = True := eq_true (by omega)
          have g1 : (65 ≤ x) = True := eq_true (by omega)
          have f2 : ((x : Int) ≤ 90) = False := eq_false (by omega)
          have g2 : (x ≤ 90) = False := eq_false (by omega)
          have f3 : ((48 : Int) ≤ (x : Int)) = True := eq_true (by omega)
          have g3 : (48 ≤ x) = True := eq_true (by omega)
          have f4 : ((x : Int) ≤ 57) = False := eq_false (by omega)
          have g4 : (x ≤ 57) = False := eq_false (by omega)
          clear hq h
          go_wp2_with fail
          go_meet
          exact ⟨by rw [e], rfl⟩
        · have e : q = true := by rw [← hq]; simp [let']; omega
          have f0 : ((97 : Int) ≤ (x : Int)) = False := eq_false (by omega)
          have g0 : (97 ≤ x) = False := eq_false (by omega)
          have f1 : ((65 : Int) ≤ (x : Int)) = True := eq_true (by omega)
          have g1 : (65 ≤ x) = True := eq_true (by omega)
          have f2 : ((x : Int) ≤ 90) = True := eq_true (by omega)
          have g2 : (x ≤ 90) = True := eq_true (by omega)
          clear hq h
          go_wp2_with fail
          go_meet
          exact ⟨by rw [e], rfl⟩
        · have e : q = false := by rw [← hq]; simp [let']; omega
          have f0 : ((97 : Int) ≤ (x : Int)) = False := eq_false (by omega)
          have g0 : (97 ≤ x) = False := eq_false (by omega)
          have f1 : ((65 : Int) ≤ (x : Int)) = False := eq_false (by omega)
          have g1 : (65 ≤ x) = False := eq_false (by omega)
          have f2 : ((48 : Int) ≤ (x : Int)) = True := eq_true (by omega)
          have g2 : (48 ≤ x) = True := eq_true (by omega)
          have f3 : ((x : Int) ≤ 57) = False := eq_false (by omega)
          have g3 : (x ≤ 57) = False := eq_false (by omega)
          clear hq h
          go_wp2_with fail
          go_meet
          exact ⟨by rw [e], rfl⟩
        · have e : q = true := by rw [← hq]; simp [let']; omega
          have f0 : ((97 : Int) ≤ (x : Int)) = False := eq_false (by omega)
          have g0 : (97 ≤ x) = False := eq_false (by omega)
          have f1 : ((65 : Int) ≤ (x : Int)) = False := eq_false (by omega)
          have g1 : (65 ≤ x) = False := eq_false (by omega)
          have f2 : ((48 : Int) ≤ (x : Int)) = True := eq_true (by omega)
          have g2 : (48 ≤ x) = True := eq_true (by omega)
          have f3 : ((x : Int) ≤ 57) = True := eq_true (by omega)
          have g3 : (x ≤ 57) = True := eq_true (by omega)
          clear hq h
          go_wp2_with fail
          go_meet
          exact ⟨by rw [e], rfl⟩
        · have e : q = false := by rw [← hq]; simp [let']; omega
          have f0 : ((97 : Int) ≤ (x : Int)) = False := eq_false (by omega)
          have g0 : (97 ≤ x) = False := eq_false (by omega)
          have f1 : ((65 : Int) ≤ (x : Int)) = False := eq_false (by omega)
          have g1 : (65 ≤ x) = False := eq_false (by omega)
          have f2 : ((48 : Int) ≤ (x : Int)) = False := eq_false (by omega)
          have g2 : (48 ≤ x) = False := eq_false (by omega)
          clear hq h
          go_wp2_with fail
          go_meet
          exact ⟨by rw [e], rfl⟩
      case rest =>
        obtain ⟨rfl, hw2⟩ := hcut
        have hw2 := hw2.symm
        subst hw2
        obtain ⟨G, hG⟩ : ∃ G, G = gk := ⟨_, rfl⟩
        subst hG
        clear hx0 hq
        go_wp2_with fail
        go_loopg [5, 6] 13 (fun gg s5 s6 wq => ∃ (k : Nat) (p : Bool), s5 = .bool p ∧ s6 = .int .i64 (k : Int) ∧ wq = w ∧ Aside (k + gg = 13 ∧ p = (q || (more.take k).contains x)))
        case atStart => exact ⟨0, q, rfl, rfl, rfl, ⟨by omega, by simp⟩⟩
        case round =>
          obtain ⟨k, p, rfl, rfl, hw3, hT2⟩ := hrel
          have hw3 := hw3.symm
          subst hw3
          obtain ⟨hkg, hp⟩ := hT2.out
          by_cases hk : k < 13
          · have t3 : ((k : Int) < 13) = True := eq_true (by omega)
            have t4 : (k < 13) = True := eq_true hk
            have bk : (k : Int) < 100 := by omega
            obtain ⟨y, hy⟩ : ∃ y, more[k]? = some y := ⟨_, List.getElem?_eq_getElem (by show k < 13; exact hk)⟩
            have hy0 : ∀ h : k < (⟨#[39, 40, 41, 43, 95, 44, 45, 46, 47, 58, 61, 63, 32]⟩ : ByteArray).size, ((⟨#[39, 40, 41, 43, 95, 44, 45, 46, 47, 58, 61, 63, 32]⟩ : ByteArray)[k]'h).toNat = y := fun h => st_get (l := more) (show ∀ x ∈ more, x < 256 by decide) hy h
            have htk : (more.take (k + 1)).contains x = ((more.take k).contains x || (y == x)) := by
              rw [take_more hy]
              rw [Bool.eq_iff_iff]
              simp only [List.contains_iff_mem, List.mem_append, List.mem_singleton, Bool.or_eq_true, beq_iff_eq]
              rw [eq_comm (a := x)]
            cases p with
            | true =>
              have A3 : Aside (k + gk = 13 ∧ k < 13 ∧ true = (q || (more.take (k + 1)).contains x)) := ⟨hkg, hk, by rw [htk, ← Bool.or_assoc, ← hp]; rfl⟩
              clear hT2 hkg hp hk hy hy0 htk
              go_wp2_with fail
              have a3 := A3.out
              go_roundg (gk - 1)
              case measure => omega
              case rel => exact ⟨k + 1, true, rfl, by go_num, rfl, ⟨by omega, a3.2.2⟩⟩
            | false =>
              obtain ⟨z, hz2⟩ : ∃ z, (y == x) = z := ⟨_, rfl⟩
              have hzI : ((y : Int) == (x : Int)) = z := by rw [← hz2, Bool.eq_iff_iff, beq_iff_eq, beq_iff_eq]; omega
              have A3 : Aside (k + gk = 13 ∧ k < 13 ∧ z = (q || (more.take (k + 1)).contains x)) := ⟨hkg, hk, by rw [htk, ← Bool.or_assoc, ← hp, hz2]; rfl⟩
              have AZ : Aside (((y : Int) == (x : Int)) = z) := hzI
              clear hT2 hkg hp hk hy htk hz2
              go_wp2_with fail
              have a3 := A3.out
              go_roundg (gk - 1)
              case measure => omega
              case rel => exact ⟨k + 1, z, by first | rfl | (rw [AZ.out]), by go_num, rfl, ⟨by omega, a3.2.2⟩⟩
          · have t3 : ((k : Int) < 13) = False := eq_false (by omega)
            have t4 : (k < 13) = False := eq_false hk
            have hfull : more.take k = more := List.take_of_length_le (by show 13 ≤ k; omega)
            rw [hfull] at hp
            have a2 := A2.out
            have hpo : p = okb x := by rw [hp, okb_let, AQ.out]
            cases p with
            | true =>
              have A3 : Aside (i + G = L ∧ i < L ∧ (b.take (i + 1)).all okb = true) := ⟨a2.1, a2.2.1, by rw [take_more a2.2.2.2.1, List.all_append, a2.2.2.1]; simp [← hpo]⟩
              have bi : (i : Int) < 200000000 := by have := A.out.2.2.1; have := a2.2.1; omega
              clear hT2 hkg hp hk hfull a2 hpo
              go_wp2_with fail
              have a3 := A3.out
              go_roundg (G - 1)
              case measure => omega
              case rel => exact ⟨i + 1, by go_num, rfl, ⟨by omega, a3.2.2⟩⟩
            | false =>
              have e : r = false := by rw [← A.out.2.2.2.1]; exact vd_bad a2.2.2.2.1 hpo.symm
              subst e
              clear hT2 hkg hp hk hfull a2 hpo
              go_wp2_with fail
              first | go_ret | go_ret2
              exact ⟨rfl, rfl⟩
    · have t1 : ((i : Int) < (L : Int)) = False := eq_false (by omega)
      have t2 : (i < L) = False := eq_false hi
      rw [List.take_of_length_le (by omega)] at hall
      have hvd : r = (decide (1 ≤ L) && decide (L ≤ 70) && decide (b.getLast? ≠ some 32)) := by rw [← a0.2.2.2.1]; simp [vd, hall, a0.1]
      rcases Nat.eq_zero_or_pos L with h0 | h0
      · have e : r = false := by rw [hvd, h0]; rfl
        subst e
        subst h0
        clear hT a0 hig hall hi hvd
        go_wp2_with fail
        first | go_ret | go_ret2
        exact ⟨rfl, rfl⟩
      · have u1 : ((1 : Int) ≤ (L : Int)) = True := eq_true (by omega)
        have u2 : (1 ≤ L) = True := eq_true h0
        by_cases h70 : L ≤ 70
        · have u3 : ((L : Int) ≤ 70) = True := eq_true (by omega)
          have u4 : (L ≤ 70) = True := eq_true h70
          obtain ⟨p, hp⟩ : ∃ p, L = p + 1 := ⟨L - 1, by omega⟩
          obtain ⟨x, hx⟩ : ∃ x, b[p]? = some x := ⟨_, List.getElem?_eq_getElem (by omega)⟩
          have hx0 : ∀ h : p < S.size, (S[p]'h).toNat = x := by rw [a0.2.2.2.2]; exact fun h => st_get a0.2.1 hx h
          have hsub : (L : Int) - 1 = (p : Int) := by omega
          have bp : (p : Int) < (L : Int) := by omega
          have bpn : p < L := by omega
          have hlast := last_get (by rw [a0.1]; exact hp) hx
          have bL : (L : Int) < 100 := by omega
          have e : r = !((x : Int) == 32) := by
            rw [hvd, hlast]
            simp [h70]
            rw [Bool.eq_iff_iff]
            simp
            omega
          have AE : Aside (r = !((x : Int) == 32)) := e
          clear hT a0 hig hall hi hvd hx hlast h70 h0 hp e
          go_wp2_with fail
          first | go_ret | go_ret2
          exact ⟨by rw [AE.out]; rfl, rfl⟩
        · have u3 : ((L : Int) ≤ 70) = False := eq_false (by omega)
          have u4 : (L ≤ 70) = False := eq_false h70
          have e : r = false := by rw [hvd]; simp [h70]
          subst e
          clear hT a0 hig hall hi hvd h70 h0
          go_wp2_with fail
          first | go_ret | go_ret2
          exact ⟨rfl, rfl⟩
end Go.Proofs.Ytbndohpcaahenaa
