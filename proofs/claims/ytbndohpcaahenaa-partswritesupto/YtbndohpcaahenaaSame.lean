/-
  What Same comes to.
-/
import Derived.Test.YtbndohpcaahenaaOwn
import Derived.Deep.LoopGhost
import Derived.BigQuiet
namespace Go.Proofs.Ytbndohpcaahenaa
open Go.RowKit
set_option linter.unusedVariables false
set_option maxHeartbeats 1000000 in
theorem same_c (a b : Option Addr) (l m : List Nat) (L M c d : Nat) (w : World) (hL : l.length = L) (hM : m.length = M) (hlt : L < 9223372036854775808) (h1 : Lies w a l) (h2 : Lies w b m) : Calls Try.prog 17 #[.slice a L c, .slice b M d] w fun e w' => e = .returned (.bool (decide (l = m))) ∧ ∃ n, w' = w.drewN n := by
  have AL : Aside (l.length = L ∧ m.length = M ∧ L < 9223372036854775808) := ⟨hL, hM, hlt⟩
  clear hL hM hlt
  by_cases hLM : L = M
  · obtain ⟨q, hq⟩ : ∃ q, decide (l = m) = q := ⟨_, rfl⟩
    rw [hq]
    have AQ : Aside (decide (l = m) = q) := hq
    clear hq
    subst hLM
    have hlz : ((L : Int) != (L : Int)) = false := by simp
    go_enter Try.func17, Try.ntmps17
    go_wp2_with fail
    go_loopg [5] L (fun g si wr => ∃ k : Nat, k + g = L ∧ si = .int .i64 k ∧ Aside (l.take k = m.take k) ∧ ∃ n, wr = w.drewN n)
    case atStart => exact ⟨0, by omega, rfl, (show _ = _ by simp), 0, rfl⟩
    case round =>
      obtain ⟨k, hkg, rfl, hT, n, rfl⟩ := hrel
      have AK : Aside (k + gk = L) := hkg
      clear hkg
      by_cases hk : k < L
      · have hki : (k : Int) < (L : Int) := by omega
        have hkl : k < l.length := by have := AL.out; omega
        have hkm : k < m.length := by have := AL.out; omega
        rcases h1 with rfl | ⟨b1, o1, rfl, h1⟩
        · simp at hkl
        rcases h2 with rfl | ⟨b2, o2, rfl, h2⟩
        · simp at hkm
        have g1 := h1 k _ (List.getElem?_eq_getElem hkl)
        have g2 := h2 k _ (List.getElem?_eq_getElem hkm)
        obtain ⟨x, hx⟩ : ∃ x, l[k] = x := ⟨_, rfl⟩
        obtain ⟨y, hy⟩ : ∃ y, m[k] = y := ⟨_, rfl⟩
        have ex : l[k]? = some x := by rw [List.getElem?_eq_getElem hkl, hx]
        have ey : m[k]? = some y := by rw [List.getElem?_eq_getElem hkm, hy]
        rw [hx] at g1
        rw [hy] at g2
        have hkb : (k : Int) + 1 < 9223372036854775808 := by have := AL.out; omega
        by_cases hxy : x = y
        · have hT2 : Aside (l.take (k + 1) = m.take (k + 1)) := by show _ = _; rw [List.take_add_one, List.take_add_one, hT.out, ex, ey, hxy]
          subst hxy
          have hz : ((x : Int) != (x : Int)) = false := by simp
          clear h1 h2 hx hy hkl hkm ex ey hT
          go_wp2_with fail
          go_quiet (fail)
          go_wp2_with fail
          have AK := AK.out
          go_roundg (gk - 1)
          case measure => omega
          case rel => exact ⟨k + 1, by omega, by go_num, hT2, _, rfl⟩
        · have hz : ((x : Int) != (y : Int)) = true := by rw [bne_iff_ne]; omega
          have hz2 : ((x : Int) == (y : Int)) = false := by rw [beq_eq_false_iff_ne]; omega
          have hne : Aside (false = q) := by
            show _ = _
            rw [← AQ.out]
            exact (decide_eq_false (fun e => hxy (by rw [e, ey] at ex; cases ex; rfl))).symm
          clear h1 h2 hx hy hkl hkm ex ey hT hxy
          go_wp2_with fail
          go_quiet (fail)
          go_wp2_with fail
          go_ret
          exact ⟨by rw [← hne.out]; rfl, _, World.drewN_drewN _ _ _⟩
      · have hki : ¬ (k : Int) < (L : Int) := by omega
        have heq : Aside (true = q) := by
          show _ = _
          rw [← AQ.out]
          have h3 := hT.out
          rw [List.take_of_length_le (by have := AL.out; omega), List.take_of_length_le (by have := AL.out; omega)] at h3
          exact (decide_eq_true h3).symm
        clear hT
        go_wp2_with fail
        go_ret
        exact ⟨by rw [← heq.out]; rfl, _, rfl⟩
  · have hq : decide (l = m) = false := decide_eq_false (fun e => hLM (by rw [← AL.out.1, ← AL.out.2.1, e]))
    rw [hq]
    have hz : ((L : Int) != (M : Int)) = true := by rw [bne_iff_ne]; omega
    have hz2 : ((L : Int) == (M : Int)) = false := by rw [beq_eq_false_iff_ne]; omega
    clear hq hLM h1 h2
    go_enter Try.func17, Try.ntmps17
    go_wp2_with fail
    go_ret
    exact ⟨rfl, 0, rfl⟩
end Go.Proofs.Ytbndohpcaahenaa
