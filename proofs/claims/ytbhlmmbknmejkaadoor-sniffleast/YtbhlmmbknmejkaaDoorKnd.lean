/-
  The document's Kind: what a whole file is.
-/
import Derived.Test.YtbhlmmbknmejkaaDoorSnw
namespace Go.Proofs.YtbhlmmbknmejkaaDoor
open Go.RowKit
set_option linter.unusedVariables false
theorem gz_pref (l : List Nat) : gz.isPrefixOf l = decide (3 ≤ l.length ∧ l[0]? = some 31 ∧ l[1]? = some 139 ∧ l[2]? = some 8) := by
  rw [Bool.eq_iff_iff, decide_eq_true_iff, List.isPrefixOf_iff_prefix]
  match l with
  | [] => simp [gz]
  | [x] => simp [gz, List.cons_prefix_cons]
  | [x, y] => simp [gz, List.cons_prefix_cons]
  | x :: y :: z :: r => simp [gz, List.cons_prefix_cons]; omega
theorem pk_pref (l : List Nat) : pk.isPrefixOf l = decide (4 ≤ l.length ∧ l[0]? = some 80 ∧ l[1]? = some 75 ∧ l[2]? = some 3 ∧ l[3]? = some 4) := by
  rw [Bool.eq_iff_iff, decide_eq_true_iff, List.isPrefixOf_iff_prefix]
  match l with
  | [] => simp [pk]
  | [x] => simp [pk, List.cons_prefix_cons]
  | [x, y] => simp [pk, List.cons_prefix_cons]
  | [x, y, z] => simp [pk, List.cons_prefix_cons]
  | x :: y :: z :: v :: r => simp [pk, List.cons_prefix_cons]; omega
theorem us_pref (l : List Nat) : us.isPrefixOf (l.drop 257) = decide (262 ≤ l.length ∧ (l.drop 257).take 5 = us) := by
  rw [Bool.eq_iff_iff, decide_eq_true_iff, List.isPrefixOf_iff_prefix]
  constructor
  · intro h
    have h1 := h.length_le
    rw [List.length_drop, show us.length = 5 from rfl] at h1
    refine ⟨by omega, ?_⟩
    have := List.prefix_iff_eq_take.1 h
    exact this.symm
  · rintro ⟨_, h⟩
    rw [← h]
    exact List.take_prefix _ _
theorem kd_of (l : List Nat) : kd l = if gz.isPrefixOf l = true then 7 else if pk.isPrefixOf l = true then 9 else if us.isPrefixOf (l.drop 257) = true then 8 else 1 := rfl
theorem oct_us : Oct us := by intro x hx; simp [us] at hx; omega
set_option maxRecDepth 20000 in
set_option maxHeartbeats 1000000 in
theorem kind_c (w : World) (a : Option Addr) (l : List Nat) (L c : Nat) (hl : Lies w a l) (hL : l.length = L) (hc : L ≤ c) (ho : Oct l) (hb : L ≤ 281474976710656) : Calls Tryd.prog 10 #[.slice a L c] w fun ex w' => ex = .returned (.int .i64 (kd l : Int)) ∧ w = w' := by
  have hk := kd_of l
  obtain ⟨K, hK⟩ : ∃ K, kd l = K := ⟨_, rfl⟩
  obtain ⟨q0, hq0⟩ : ∃ q, gz.isPrefixOf l = q := ⟨_, rfl⟩
  obtain ⟨q1, hq1⟩ : ∃ q, pk.isPrefixOf l = q := ⟨_, rfl⟩
  obtain ⟨q2, hq2⟩ : ∃ q, us.isPrefixOf (l.drop 257) = q := ⟨_, rfl⟩
  rw [hK, hq0, hq1, hq2] at hk
  rw [gz_pref] at hq0
  rw [pk_pref] at hq1
  rw [us_pref] at hq2
  rw [hK]
  have A : Aside (Lies w a l ∧ l.length = L ∧ L ≤ c ∧ Oct l ∧ L ≤ 281474976710656) := ⟨hl, hL, hc, ho, hb⟩
  have AK : Aside (K = if q0 = true then 7 else if q1 = true then 9 else if q2 = true then 8 else 1) := hk
  have A0 : Aside (decide (3 ≤ l.length ∧ l[0]? = some 31 ∧ l[1]? = some 139 ∧ l[2]? = some 8) = q0) := hq0
  have A1 : Aside (decide (4 ≤ l.length ∧ l[0]? = some 80 ∧ l[1]? = some 75 ∧ l[2]? = some 3 ∧ l[3]? = some 4) = q1) := hq1
  have A2 : Aside (decide (262 ≤ l.length ∧ (l.drop 257).take 5 = us) = q2) := hq2
  have get : ∀ (i x : Nat), l[i]? = some x → ∃ b o, a = some ⟨b, o, none⟩ ∧ ∀ (j y : Nat), l[j]? = some y → w.cell? ⟨b, o + j, none⟩ = some (.int .u8 (y : Int)) := fun i x hx => by
    rcases (id hl : Lies w a l) with h0 | ⟨b, o, h1, h2⟩
    · subst h0; cases hx
    · exact ⟨b, o, h1, h2⟩
  have AG : Aside (∀ (i x : Nat), l[i]? = some x → ∃ b o, a = some ⟨b, o, none⟩ ∧ ∀ (j y : Nat), l[j]? = some y → w.cell? ⟨b, o + j, none⟩ = some (.int .u8 (y : Int))) := get
  clear hl hL hc ho hb hk hK hq0 hq1 hq2 get
  go_enter Tryd.func10, Tryd.ntmps10
  go_upto_region 1 with fail
  go_cut [23] (fun s wc => wc = w ∧ s = .bool q0)
  case first =>
    have aa := A.out
    have a0 := A0.out
    by_cases h3 : 3 ≤ L
    · have t0 : ((3 : Int) ≤ (L : Int)) = True := eq_true (by omega)
      have t0n : (3 ≤ L) = True := eq_true h3
      obtain ⟨x0, e0⟩ : ∃ x, l[0]? = some x := ⟨_, List.getElem?_eq_getElem (by omega)⟩
      obtain ⟨x1, e1⟩ : ∃ x, l[1]? = some x := ⟨_, List.getElem?_eq_getElem (by omega)⟩
      obtain ⟨x2, e2⟩ : ∃ x, l[2]? = some x := ⟨_, List.getElem?_eq_getElem (by omega)⟩
      obtain ⟨b, o, rfl, hcell⟩ := AG.out 0 x0 e0
      have g0 : w.cell? ⟨b, o, none⟩ = some (.int .u8 (x0 : Int)) := hcell 0 x0 e0
      have g1 := hcell 1 x1 e1
      have g2 := hcell 2 x2 e2
      have v0 : (0 : Int) < (L : Int) := by omega
      have v1 : (1 : Int) < (L : Int) := by omega
      have v2 : (2 : Int) < (L : Int) := by omega
      rw [e0, e1, e2] at a0
      simp only [Option.some.injEq] at a0
      by_cases k0 : x0 = 31
      · by_cases k1 : x1 = 139
        · by_cases k2 : x2 = 8
          · have hq : q0 = true := by rw [← a0]; exact decide_eq_true ⟨by omega, k0, k1, k2⟩
            subst k0 k1 k2 hq
            clear aa a0 e0 e1 e2 hcell h3
            go_wp2_with fail
            go_meet
            exact ⟨rfl, rfl⟩
          · have hq : q0 = false := by rw [← a0]; exact decide_eq_false (fun h => k2 h.2.2.2)
            have m2 : ((x2 : Int) == 8) = false := by rw [beq_eq_false_iff_ne]; omega
            subst k0 k1 hq
            clear aa a0 e0 e1 e2 hcell h3 k2
            go_wp2_with fail
            go_meet
            exact ⟨rfl, rfl⟩
        · have hq : q0 = false := by rw [← a0]; exact decide_eq_false (fun h => k1 h.2.2.1)
          have m1 : ((x1 : Int) == 139) = false := by rw [beq_eq_false_iff_ne]; omega
          subst k0 hq
          clear aa a0 e0 e1 e2 hcell h3 k1
          go_wp2_with fail
          go_meet
          exact ⟨rfl, rfl⟩
      · have hq : q0 = false := by rw [← a0]; exact decide_eq_false (fun h => k0 h.2.1)
        have m0 : ((x0 : Int) == 31) = false := by rw [beq_eq_false_iff_ne]; omega
        subst hq
        clear aa a0 e0 e1 e2 hcell h3 k0
        go_wp2_with fail
        go_meet
        exact ⟨rfl, rfl⟩
    · have t0 : ((3 : Int) ≤ (L : Int)) = False := eq_false (by omega)
      have hq : q0 = false := by rw [← a0]; exact decide_eq_false (fun h => by omega)
      subst hq
      clear aa a0 h3
      go_wp2_with fail
      go_meet
      exact ⟨rfl, rfl⟩
  case rest =>
    obtain ⟨hw, rfl⟩ := hcut
    subst hw
    cases q0 with
    | true =>
      have hk : K = 7 := AK.out
      subst hk
      clear A AK A0 A1 A2 AG
      go_wp2_with fail
      first | go_ret | go_ret2
      exact ⟨rfl, rfl⟩
    | false =>
    go_upto_region 3 with fail
    go_cut [50] (fun s wd => wd = wc ∧ s = .bool q1)
    case first =>
      have aa := A.out
      have a0 := A1.out
      by_cases h3 : 4 ≤ L
      · have t0 : ((4 : Int) ≤ (L : Int)) = True := eq_true (by omega)
        have t0n : (4 ≤ L) = True := eq_true h3
        obtain ⟨x0, e0⟩ : ∃ x, l[0]? = some x := ⟨_, List.getElem?_eq_getElem (by omega)⟩
        obtain ⟨x1, e1⟩ : ∃ x, l[1]? = some x := ⟨_, List.getElem?_eq_getElem (by omega)⟩
        obtain ⟨x2, e2⟩ : ∃ x, l[2]? = some x := ⟨_, List.getElem?_eq_getElem (by omega)⟩
        obtain ⟨x3, e3⟩ : ∃ x, l[3]? = some x := ⟨_, List.getElem?_eq_getElem (by omega)⟩
        obtain ⟨b, o, rfl, hcell⟩ := AG.out 0 x0 e0
        have g0 : wc.cell? ⟨b, o, none⟩ = some (.int .u8 (x0 : Int)) := hcell 0 x0 e0
        have g1 := hcell 1 x1 e1
        have g2 := hcell 2 x2 e2
        have g3 := hcell 3 x3 e3
        have v0 : (0 : Int) < (L : Int) := by omega
        have v1 : (1 : Int) < (L : Int) := by omega
        have v2 : (2 : Int) < (L : Int) := by omega
        have v3 : (3 : Int) < (L : Int) := by omega
        rw [e0, e1, e2, e3] at a0
        simp only [Option.some.injEq] at a0
        by_cases k0 : x0 = 80
        · by_cases k1 : x1 = 75
          · by_cases k2 : x2 = 3
            · by_cases k3 : x3 = 4
              · have hq : q1 = true := by rw [← a0]; exact decide_eq_true ⟨by omega, k0, k1, k2, k3⟩
                subst k0 k1 k2 k3 hq
                clear aa a0 e0 e1 e2 e3 hcell h3
                go_wp2_with fail
                go_meet
                exact ⟨rfl, rfl⟩
              · have hq : q1 = false := by rw [← a0]; exact decide_eq_false (fun h => k3 h.2.2.2.2)
                have m2 : ((x3 : Int) == 4) = false := by rw [beq_eq_false_iff_ne]; omega
                subst k0 k1 k2 hq
                clear aa a0 e0 e1 e2 e3 hcell h3 k3
                go_wp2_with fail
                go_meet
                exact ⟨rfl, rfl⟩
            · have hq : q1 = false := by rw [← a0]; exact decide_eq_false (fun h => k2 h.2.2.2.1)
              have m2 : ((x2 : Int) == 3) = false := by rw [beq_eq_false_iff_ne]; omega
              subst k0 k1 hq
              clear aa a0 e0 e1 e2 e3 hcell h3 k2
              go_wp2_with fail
              go_meet
              exact ⟨rfl, rfl⟩
          · have hq : q1 = false := by rw [← a0]; exact decide_eq_false (fun h => k1 h.2.2.1)
            have m1 : ((x1 : Int) == 75) = false := by rw [beq_eq_false_iff_ne]; omega
            subst k0 hq
            clear aa a0 e0 e1 e2 e3 hcell h3 k1
            go_wp2_with fail
            go_meet
            exact ⟨rfl, rfl⟩
        · have hq : q1 = false := by rw [← a0]; exact decide_eq_false (fun h => k0 h.2.1)
          have m0 : ((x0 : Int) == 80) = false := by rw [beq_eq_false_iff_ne]; omega
          subst hq
          clear aa a0 e0 e1 e2 e3 hcell h3 k0
          go_wp2_with fail
          go_meet
          exact ⟨rfl, rfl⟩
      · have t0 : ((4 : Int) ≤ (L : Int)) = False := eq_false (by omega)
        have hq : q1 = false := by rw [← a0]; exact decide_eq_false (fun h => by omega)
        subst hq
        clear aa a0 h3
        go_wp2_with fail
        go_meet
        exact ⟨rfl, rfl⟩
    case rest =>
      obtain ⟨hw, rfl⟩ := hcut
      subst hw
      cases q1 with
      | true =>
        have hk : K = 9 := AK.out
        subst hk
        clear A AK A0 A1 A2 AG
        go_wp2_with fail
        first | go_ret | go_ret2
        exact ⟨rfl, rfl⟩
      | false =>
      go_upto_region 5 with fail
      go_cut [59] (fun s wd => wd = wc ∧ s = .bool q2)
      case first =>
        have aa := A.out
        have a0 := A2.out
        by_cases h3 : 262 ≤ L
        · have t0 : ((262 : Int) ≤ (L : Int)) = True := eq_true (by omega)
          have t0n : (262 ≤ L) = True := eq_true h3
          obtain ⟨x0, e0⟩ : ∃ x, l[0]? = some x := ⟨_, List.getElem?_eq_getElem (by omega)⟩
          obtain ⟨b, o, rfl, hcell⟩ := AG.out 0 x0 e0
          have hlen5 : ((l.drop 257).take 5).length = 5 := by rw [List.length_take, List.length_drop]; omega
          have hli : Lies wc (some ⟨b, o + 257, none⟩) ((l.drop 257).take 5) := Or.inr ⟨b, o + 257, rfl, fun j x hx => by
            rw [List.getElem?_take] at hx
            split at hx
            · rw [List.getElem?_drop] at hx
              have := hcell _ _ hx
              rw [← Nat.add_assoc] at this
              exact this
            · cases hx⟩
          have hcv := conv_st 5 (c - 257) hlen5 ((aa.2.2.2.1.drop 257).take 5) hli
          have hbq := st_beq ((aa.2.2.2.1.drop 257).take 5) oct_us
          have hq : decide ((l.drop 257).take 5 = us) = q2 := by rw [← a0]; congr 1; simp; omega
          rw [hq] at hbq
          obtain ⟨S, hS⟩ : ∃ S, st ((l.drop 257).take 5) = S := ⟨_, rfl⟩
          have hU : st us = ⟨#[117, 115, 116, 97, 114]⟩ := rfl
          rw [hS] at hcv hbq
          rw [hU] at hbq
          have u1 : (262 : Int) ≤ (c : Int) := by omega
          have u3 : ¬ c = 257 := by omega
          have u4 : ¬ (c : Int) = 257 := by omega
          have hsl : ∀ W : World, (Instr.slice 22 (.slice (some ⟨b, o, none⟩) L c) (some (.int .i64 257)) (some (.int .i64 262)) none).run Tryd.prog W = .ok (.slice (some ⟨b, o + 257, none⟩) 5 (c - 257)) W := fun W => by
            have u2 : (262 : Int) ≤ (L : Int) := by omega
            clear aa a0 e0 hcell h3 hq hS hli hlen5 hcv hbq t0 t0n
            go_simp
          have hU2 : (⟨#[117, 115, 116, 97, 114]⟩ : ByteArray).toList = [117, 115, 116, 97, 114] := by rw [ByteArray.toList_eq]
          rw [hU2] at hbq
          have AB : Aside ((S.toList == ([117, 115, 116, 97, 114] : List UInt8)) = q2) := hbq
          clear aa a0 e0 hcell h3 hq hS hli hlen5 u1 u3 u4 hbq hU2
          go_wp2_with fail
          go_meet
          exact ⟨rfl, by rw [AB.out]⟩
        · have t0 : ((262 : Int) ≤ (L : Int)) = False := eq_false (by omega)
          have hq : q2 = false := by rw [← a0]; exact decide_eq_false (fun h => by omega)
          subst hq
          clear aa a0 h3
          go_wp2_with fail
          go_meet
          exact ⟨rfl, rfl⟩
      case rest =>
        obtain ⟨hw, rfl⟩ := hcut
        subst hw
        cases q2 with
        | true =>
          have hk : K = 8 := AK.out
          subst hk
          clear A AK A0 A1 A2 AG
          go_wp2_with fail
          first | go_ret | go_ret2
          exact ⟨rfl, rfl⟩
        | false =>
          have hk : K = 1 := AK.out
          subst hk
          clear A AK A0 A1 A2 AG
          go_wp2_with fail
          first | go_ret | go_ret2
          exact ⟨rfl, rfl⟩
end Go.Proofs.YtbhlmmbknmejkaaDoor
