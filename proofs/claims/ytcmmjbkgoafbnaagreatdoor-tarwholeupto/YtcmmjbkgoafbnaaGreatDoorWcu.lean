/-
  The first record of some: what cut comes to.
-/
import Derived.Test.YtcmmjbkgoafbnaaGreatDoorWrc
import Derived.Test.YtcmmjbkgoafbnaaGreatDoorTrm
namespace Go.Proofs.YtcmmjbkgoafbnaaGreatDoor
open Go.RowKit
set_option linter.unusedVariables false
set_option linter.unusedSimpArgs false
/-- What cut answers. -/
structure Ct (b o : Nat) (l : List Nat) (w : World) (e : Ending) (w' : World) : Prop where
  ex : (tcut l = none ∧ e = .returned (.tuple #[.slice none 0 0, .int .i64 0])) ∨ ∃ (x : List Nat) (n m c f : Nat), tcut l = some (x, n) ∧ x.length = m ∧ m < c ∧ c < 1000000 ∧ e = .returned (.tuple #[.slice (some ⟨b, o + f, none⟩) m c, .int .i64 (n : Int)]) ∧ ∀ (i z : Nat), x[i]? = some z → l[f + i]? = some z
  dr : w' = w
set_option maxRecDepth 100000 in
set_option maxHeartbeats 4000000 in
theorem cut_c (b o : Nat) (l : List Nat) (L C : Nat) (w : World) (hL : l.length = L) (hb : Oct l) (hlc : L ≤ C) (hC : C < 1000000) (hc : ∀ (i x : Nat), l[i]? = some x → w.cell? ⟨b, o + i, none⟩ = some (.int .u8 (x : Int))) : Calls Tryz.prog 65 #[.slice (some ⟨b, o, none⟩) L C] w fun e w' => Ct b o l w e w' := by
  have A : Aside (l.length = L ∧ Oct l ∧ L ≤ C ∧ C < 1000000 ∧ ∀ (i x : Nat), l[i]? = some x → w.cell? ⟨b, o + i, none⟩ = some (.int .u8 (x : Int))) := ⟨hL, hb, hlc, hC, hc⟩
  clear hL hb hlc hC hc
  go_enter Tryz.func65, Tryz.ntmps65
  go_upto_block 0 with fail
  go_cut [3, 4] (fun s3 s4 wx => ∃ d n : Nat, s3 = .int .i64 (n : Int) ∧ s4 = .int .i64 (d : Int) ∧ wx = w ∧ Aside (Dg l d ∧ d ≤ 4 ∧ n = num 0 (l.take d) ∧ (d = 4 ∨ d = l.length ∨ ∃ x, l[d]? = some x ∧ isd x = false)))
  case first =>
    go_wp2_with fail
    go_loopg [3, 4] 5 (fun gg s3 s4 wr => ∃ d n : Nat, s3 = .int .i64 (n : Int) ∧ s4 = .int .i64 (d : Int) ∧ wr = w ∧ Aside (d + gg = 5 ∧ d ≤ 4 ∧ Dg l d ∧ n = num 0 (l.take d)))
    case atStart => exact ⟨0, 0, rfl, rfl, rfl, ⟨rfl, by decide, dg_zero l, rfl⟩⟩
    case round =>
      obtain ⟨d, n, rfl, rfl, rfl, AR⟩ := hrel
      have a0 := A.out
      have r0 := AR.out
      obtain ⟨M, hM⟩ : ∃ M : Nat, (if (4 : Nat) < L then 4 else L) = M := ⟨_, rfl⟩
      have hMi : (if (L : Int) < 4 then (L : Int) else 4) = (M : Int) := by split <;> (split at hM <;> omega)
      have hMj : (if (4 : Int) < (L : Int) then 4 else (L : Int)) = (M : Int) := by split <;> (split at hM <;> omega)
      have hMk : M ≤ 4 ∧ M ≤ L ∧ (M = 4 ∨ M = L) := by split at hM <;> omega
      by_cases hd : d < M
      · obtain ⟨x, hx⟩ : ∃ x, l[d]? = some x := ⟨_, List.getElem?_eq_getElem (by omega)⟩
        have hcell := a0.2.2.2.2 d x hx
        have hx2 : x < 256 := a0.2.1 x (List.mem_of_getElem? hx)
        have t1 : ((d : Int) < (M : Int)) = True := eq_true (by omega)
        have t2 : (d < L) = True := eq_true (by omega)
        have t3 : ((d : Int) < (L : Int)) = True := eq_true (by omega)
        by_cases h1 : 48 ≤ x
        · have e1 : ((48 : Int) ≤ (x : Int)) = True := eq_true (by omega)
          by_cases h2 : x ≤ 57
          · have e2 : ((x : Int) ≤ 57) = True := eq_true (by omega)
            obtain ⟨y, hy⟩ : ∃ y : Nat, x = y + 48 := ⟨x - 48, by omega⟩
            have e3 : IntKind.u8.wrap ((x : Int) - 48) = (y : Int) := by rw [IntKind.wrap_u8]; omega
            have hid : isd x = true := isd_true.2 ⟨h1, h2⟩
            have hbd := r0.2.2.1.bound
            have hn4 : n < 100000 := by
              rw [r0.2.2.2]
              have : 10 ^ d ≤ 10 ^ 4 := Nat.pow_le_pow_right (by decide) (by omega)
              omega
            have e4 : (n : Int) < 100000 := by omega
            have e5 : (y : Int) < 256 := by omega
            have e6 : (d : Int) < 10 := by omega
            have AG : Aside (Dg l (d + 1) ∧ 10 * n + y = num 0 (l.take (d + 1)) ∧ d < 4 ∧ d + gk = 5) := ⟨r0.2.2.1.more hx hid, by rw [num_more hx, ← r0.2.2.2]; omega, by omega, r0.1⟩
            clear hx hx2 h1 h2 hy hid hbd hn4 a0 r0 AR hM hd
            go_wp2_with fail
            have ag := AG.out
            go_roundg (gk - 1)
            case measure => omega
            case rel => exact ⟨d + 1, 10 * n + y, by go_num, by go_num, rfl, ⟨by omega, by omega, ag.1, ag.2.1⟩⟩
          · have e2 : ((x : Int) ≤ 57) = False := eq_false (by omega)
            have hid : isd x = false := isd_false.2 (by omega)
            have AG : Aside (Dg l d ∧ d ≤ 4 ∧ n = num 0 (l.take d) ∧ (d = 4 ∨ d = l.length ∨ ∃ x, l[d]? = some x ∧ isd x = false)) := ⟨r0.2.2.1, r0.2.1, r0.2.2.2, Or.inr (Or.inr ⟨x, hx, hid⟩)⟩
            clear hx hx2 h1 h2 hid a0 r0 AR hM hd
            go_wp2_with fail
            go_meet
            exact ⟨d, n, rfl, rfl, rfl, AG⟩
        · have e1 : ((48 : Int) ≤ (x : Int)) = False := eq_false (by omega)
          have hid : isd x = false := isd_false.2 (by omega)
          have AG : Aside (Dg l d ∧ d ≤ 4 ∧ n = num 0 (l.take d) ∧ (d = 4 ∨ d = l.length ∨ ∃ x, l[d]? = some x ∧ isd x = false)) := ⟨r0.2.2.1, r0.2.1, r0.2.2.2, Or.inr (Or.inr ⟨x, hx, hid⟩)⟩
          clear hx hx2 h1 hid a0 r0 AR hM hd
          go_wp2_with fail
          go_meet
          exact ⟨d, n, rfl, rfl, rfl, AG⟩
      · have t1 : ((d : Int) < (M : Int)) = False := eq_false (by omega)
        have hdl := r0.2.2.1.1
        have AG : Aside (Dg l d ∧ d ≤ 4 ∧ n = num 0 (l.take d) ∧ (d = 4 ∨ d = l.length ∨ ∃ x, l[d]? = some x ∧ isd x = false)) := ⟨r0.2.2.1, r0.2.1, r0.2.2.2, by rcases hMk.2.2 with e | e; exact Or.inl (by omega); exact Or.inr (Or.inl (by omega))⟩
        clear hd hdl a0 r0 AR hM
        go_wp2_with fail
        go_meet
        exact ⟨d, n, rfl, rfl, rfl, AG⟩
  case rest =>
    obtain ⟨d, n, rfl, rfl, rfl, AR⟩ := hcut
    have a0 := A.out
    have r0 := AR.out
    have hq := tcut_eq r0.1 r0.2.1 r0.2.2.2
    rw [← r0.2.2.1] at hq
    have hbd := r0.1.bound
    have hn4 : n < 100000 := by
      rw [r0.2.2.1]
      have : 10 ^ d ≤ 10 ^ 4 := Nat.pow_le_pow_right (by decide) (by omega)
      omega
    have e6 : (d : Int) < 10 := by omega
    have e7 : (n : Int) < 100000 := by omega
    have e9 : (0 : Int) ≤ (n : Int) := by omega
    by_cases h1 : n < d + 2
    · have t1 : ((n : Int) - 1 < (d : Int) + 1) = True := eq_true (by omega)
      rw [if_pos (Or.inl h1)] at hq
      have AQ : Aside (tcut l = none) := hq
      clear hq h1 hn4 hbd r0 a0 AR A
      go_wp2_with fail
      go_ret2
      exact ⟨Or.inl ⟨AQ.out, rfl⟩, rfl⟩
    · have t1 : ((n : Int) - 1 < (d : Int) + 1) = False := eq_false (by omega)
      by_cases h2 : l.length < n
      · rw [if_pos (Or.inr (Or.inl h2))] at hq
        have t2 : ((L : Int) < (n : Int)) = True := eq_true (by omega)
        have AQ : Aside (tcut l = none) := hq
        clear hq h1 h2 hn4 hbd r0 a0 AR A
        go_wp2_with fail
        go_ret2
        exact ⟨Or.inl ⟨AQ.out, rfl⟩, rfl⟩
      · have t2 : ((L : Int) < (n : Int)) = False := eq_false (by omega)
        obtain ⟨x, hx⟩ : ∃ x, l[d]? = some x := ⟨_, List.getElem?_eq_getElem (by omega)⟩
        obtain ⟨m, hm⟩ : ∃ m : Nat, n = m + 1 := ⟨n - 1, by omega⟩
        obtain ⟨y, hy⟩ : ∃ y, l[m]? = some y := ⟨_, List.getElem?_eq_getElem (by omega)⟩
        have c1 := a0.2.2.2.2 d x hx
        have c2 := a0.2.2.2.2 m y hy
        have u1 : (d < L) = True := eq_true (by omega)
        have u2 : (m < L) = True := eq_true (by omega)
        have u3 : ((d : Int) < (L : Int)) = True := eq_true (by omega)
        have u4 : ((m : Int) < (L : Int)) = True := eq_true (by omega)
        have u5 : (n : Int) - 1 = (m : Int) := by omega
        have u6 : ((m : Int) < (d : Int) + 1) = False := eq_false (by omega)
        rw [hx, show n - 1 = m by omega, hy] at hq
        have u7 : (m : Int) < 100000 := by omega
        clear t1
        by_cases h3 : x = 32
        · subst h3
          by_cases h4 : y = 10
          · subst h4
            rw [if_neg (by simp; omega)] at hq
            have hlen : ((l.take m).drop (d + 1)).length = m - (d + 1) := by rw [List.length_drop, List.length_take]; omega
            have hLi : ∀ (i z : Nat), ((l.take m).drop (d + 1))[i]? = some z → l[d + 1 + i]? = some z := fun i z hz => by
              rw [List.getElem?_drop, List.getElem?_take] at hz
              split at hz
              · exact hz
              · cases hz
            have AQ : Aside (tcut l = some ((l.take m).drop (d + 1), n) ∧ ((l.take m).drop (d + 1)).length = m - (d + 1) ∧ (∀ (i z : Nat), ((l.take m).drop (d + 1))[i]? = some z → l[d + 1 + i]? = some z) ∧ m < C ∧ d + 1 ≤ m ∧ C < 1000000) := ⟨hq, hlen, hLi, by omega, by omega, a0.2.2.2.1⟩
            have v1 : (d : Int) + 1 ≤ (m : Int) := by omega
            have v2 : (m : Int) ≤ (C : Int) := by omega
            have v3 : ¬ ((C : Int) = (d : Int) + 1) := by omega
            have v4 : (C : Int) < 1000000 := by omega
            have v5 : ¬ (C = d + 1) := by omega
            clear hm hq hlen hLi h1 h2 hn4 hbd r0 a0 AR A hx hy
            go_wp2_with fail
            go_ret2
            have aq := AQ.out
            exact ⟨Or.inr ⟨_, n, m - (d + 1), C - (d + 1), d + 1, aq.1, aq.2.1, by omega, by omega, by congr 2, aq.2.2.1⟩, rfl⟩
          · have t4 : ((y : Int) == 10) = false := by rw [beq_eq_false_iff_ne]; omega
            have t5 : ((y : Int) != 10) = true := by rw [bne_iff_ne]; omega
            rw [if_pos (Or.inr (Or.inr (Or.inr (by simp; exact h4))))] at hq
            have AQ : Aside (tcut l = none) := hq
            clear hm hq h1 h2 h4 hn4 hbd r0 a0 AR A hx hy
            go_wp2_with fail
            go_ret2
            exact ⟨Or.inl ⟨AQ.out, rfl⟩, rfl⟩
        · have t4 : ((x : Int) == 32) = false := by rw [beq_eq_false_iff_ne]; omega
          have t5 : ((x : Int) != 32) = true := by rw [bne_iff_ne]; omega
          rw [if_pos (Or.inr (Or.inr (Or.inl (by simp; exact h3))))] at hq
          have AQ : Aside (tcut l = none) := hq
          clear hm hq h1 h2 h3 hn4 hbd r0 a0 AR A hx hy
          go_wp2_with fail
          go_ret2
          exact ⟨Or.inl ⟨AQ.out, rfl⟩, rfl⟩
end Go.Proofs.YtcmmjbkgoafbnaaGreatDoor
