/-
  The document's Encoding; are two types one?
-/
import Derived.Test.YtdndlegfalmkaaaRty
namespace Go.Proofs.Ytdndlegfalmkaaa
open Go.RowKit
set_option linter.unusedVariables false
set_option maxHeartbeats 2000000 in
theorem renc_c (l : List Nat) (ho : Oct l) (hl : l.length ≤ 140737488355328) (w : World) : Calls Try.prog 23 #[.string (st l)] w fun e w' => e = .returned (.int .i64 (ec l : Nat)) ∧ Below w.heap.size w w' := by
  have hbt := rbt_c l ho hl w
  obtain ⟨E, hE⟩ : ∃ E, ec l = E := ⟨_, rfl⟩
  obtain ⟨s, hs⟩ : ∃ s, s = st l := ⟨_, rfl⟩
  rw [hE, ← hs]
  rw [← hs] at hbt
  clear hs
  unfold ec wd at hE
  cases h0 : bt 0 l with
  | none =>
    rw [h0] at hE hbt
    have A : Aside ((3 : Nat) = E) := hE
    replace hbt : Calls Try.prog 29 #[.string s] w fun e w' => (∃ u, e = .returned (.tuple #[.string u, .bool false])) ∧ w' = w := hbt.mono fun e w' h => ⟨h.1.no, h.2⟩
    clear h0 hE ho hl
    go_enter Try.func23, Try.ntmps23
    go_wp2_with (go_at_call 29; (with_reducible refine hbt.mono ?_); rintro e1 w2 ⟨⟨u, rfl⟩, rfl⟩)
    go_ret
    exact ⟨by rw [← A.out]; rfl, Below.refl _ _⟩
  | some r =>
    rw [h0] at hE hbt
    simp only [Option.bind_some] at hE
    have o0 := ho.suf (bt_suf h0)
    have l0 := bt_le h0
    obtain ⟨S0, hS0⟩ : ∃ S0, st r = S0 := ⟨_, rfl⟩
    have z0 : S0.size = r.length := by rw [← hS0, st_size]
    replace hbt : Calls Try.prog 29 #[.string s] w fun e w' => e = .returned (.tuple #[.string S0, .bool true]) ∧ w' = w := hbt.mono fun e w' h => ⟨by rw [← hS0]; exact h.1.ok, h.2⟩
    clear h0
    cases r with
    | nil =>
      have A : Aside ((0 : Nat) = E) := hE
      have z00 : S0.size = 0 := z0
      clear hE ho hl o0 l0 hS0 z0
      go_enter Try.func23, Try.ntmps23
      go_wp2_with (go_at_call 29; (with_reducible refine hbt.mono ?_); rintro e1 w2 ⟨rfl, rfl⟩)
      go_ret
      exact ⟨by rw [← A.out]; rfl, Below.refl _ _⟩
    | cons x r =>
      rw [if_neg (by simp)] at hE
      obtain ⟨n, hn⟩ : ∃ n, (x :: r).length = n := ⟨_, rfl⟩
      rw [hn] at z0
      have hn1 : r.length + 1 = n := by simpa using hn
      have t0 : ((n : Int) == 0) = false := by rw [beq_eq_false_iff_ne]; omega
      have htk := rtk_c (x :: r) o0 (by omega) w
      rw [hS0] at htk
      cases h1 : tkn (x :: r) with
      | none =>
        rw [h1] at hE htk
        have A : Aside ((3 : Nat) = E) := hE
        replace htk : Calls Try.prog 30 #[.string S0] w fun e w' => (∃ a b, e = .returned (.tuple #[.string a, .string b, .bool false])) ∧ w' = w := htk.mono fun e w' h => ⟨h.1.no, h.2⟩
        clear h1 hE ho hl o0 l0 hS0 hn hn1
        go_enter Try.func23, Try.ntmps23
        go_wp2_with (first
          | (go_at_call 29; (with_reducible refine hbt.mono ?_); rintro e1 w2 ⟨rfl, hw2⟩; have hw2' := hw2.symm; subst hw2')
          | (go_at_call 30; (with_reducible refine htk.mono ?_); rintro e2 w3 ⟨⟨a, b, rfl⟩, hw3⟩; have hw3' := hw3.symm; subst hw3'))
        go_ret
        exact ⟨by rw [← A.out]; rfl, Below.refl _ _⟩
      | some a =>
        obtain ⟨a1, a2⟩ := a
        rw [h1] at hE htk
        simp only [Option.bind_some] at hE
        have o1 := tkn_oct o0 h1
        have l1 := tkn_out h1
        obtain ⟨X, hX⟩ : ∃ X, st a1 = X := ⟨_, rfl⟩
        obtain ⟨S1, hS1⟩ : ∃ S1, st a2 = S1 := ⟨_, rfl⟩
        have z1 : S1.size = a2.length := by rw [← hS1, st_size]
        replace htk : Calls Try.prog 30 #[.string S0] w fun e w' => e = .returned (.tuple #[.string X, .string S1, .bool true]) ∧ w' = w := htk.mono fun e w' h => ⟨by rw [← hX, ← hS1]; exact h.1.ok, h.2⟩
        have hlo := rlower_c a1 o1.1 (by omega) w
        clear h1
        cases a2 with
        | cons y q =>
          rw [if_neg (by simp)] at hE
          have A : Aside ((3 : Nat) = E) := hE
          obtain ⟨m, hm⟩ : ∃ m, (y :: q).length = m := ⟨_, rfl⟩
          rw [hm] at z1
          have hm1 : q.length + 1 = m := by simpa using hm
          have t1 : ((0 : Int) < (m : Int)) = True := eq_true (by omega)
          have t1' : (0 < m) = True := eq_true (by omega)
          clear hE ho hl o0 l0 hS0 hn hn1 o1 l1 hX hS1 hlo hm hm1
          go_enter Try.func23, Try.ntmps23
          go_wp2_with (first
            | (go_at_call 29; (with_reducible refine hbt.mono ?_); rintro e1 w2 ⟨rfl, hw2⟩; have hw2' := hw2.symm; subst hw2')
            | (go_at_call 30; (with_reducible refine htk.mono ?_); rintro e2 w3 ⟨rfl, hw3⟩; have hw3' := hw3.symm; subst hw3'))
          go_ret
          exact ⟨by rw [← A.out]; rfl, Below.refl _ _⟩
        | nil =>
          rw [if_pos rfl] at hE
          have z10 : S1.size = 0 := z1
          have hne : low a1 ≠ [] := by
            intro e
            have := congrArg List.length e
            rw [low_length] at this
            simp at this
            have := l1.2.2.2.1
            simp_all
          replace hE : enk (low a1) = E := hE
          unfold enk at hE
          have q0 : ((st (low a1)).toList == [98, 97, 115, 101, 54, 52]) = decide (low a1 = [98, 97, 115, 101, 54, 52]) := st_lit o1.1.low [98, 97, 115, 101, 54, 52]
          have q1 : ((st (low a1)).toList == [113, 117, 111, 116, 101, 100, 45, 112, 114, 105, 110, 116, 97, 98, 108, 101]) = decide (low a1 = [113, 117, 111, 116, 101, 100, 45, 112, 114, 105, 110, 116, 97, 98, 108, 101]) := st_lit o1.1.low [113, 117, 111, 116, 101, 100, 45, 112, 114, 105, 110, 116, 97, 98, 108, 101]
          have q2 : ((st (low a1)).toList == [55, 98, 105, 116]) = decide (low a1 = [55, 98, 105, 116]) := st_lit o1.1.low [55, 98, 105, 116]
          have q3 : ((st (low a1)).toList == [56, 98, 105, 116]) = decide (low a1 = [56, 98, 105, 116]) := st_lit o1.1.low [56, 98, 105, 116]
          have q4 : ((st (low a1)).toList == [98, 105, 110, 97, 114, 121]) = decide (low a1 = [98, 105, 110, 97, 114, 121]) := st_lit o1.1.low [98, 105, 110, 97, 114, 121]
          obtain ⟨t, ht⟩ : ∃ t, t = st (low a1) := ⟨_, rfl⟩
          rw [hX, ← ht] at hlo
          rw [← ht] at q0 q1 q2 q3 q4
          clear ho hl o0 l0 hS0 hn hn1 o1 l1 hX hS1 z1 ht
          by_cases h0 : low a1 = [98, 97, 115, 101, 54, 52]
          · rw [decide_eq_true h0] at q0
            have A : Aside ((1 : Nat) = E) := by show _ = _; rw [← hE, h0]; rfl
            clear hE hne h0 q1 q2 q3 q4
            go_enter Try.func23, Try.ntmps23
            go_wp2_with (first
              | (go_at_call 29; (with_reducible refine hbt.mono ?_); rintro e1 w2 ⟨rfl, hw2⟩; have hw2' := hw2.symm; subst hw2')
              | (go_at_call 30; (with_reducible refine htk.mono ?_); rintro e2 w3 ⟨rfl, hw3⟩; have hw3' := hw3.symm; subst hw3')
              | (go_at_call 15; (with_reducible refine hlo.mono ?_); rintro e3 w4 ⟨rfl, hb4⟩))
            go_ret
            exact ⟨by rw [← A.out]; rfl, hb4⟩
          rw [decide_eq_false h0] at q0
          by_cases h1 : low a1 = [113, 117, 111, 116, 101, 100, 45, 112, 114, 105, 110, 116, 97, 98, 108, 101]
          · rw [decide_eq_true h1] at q1
            have A : Aside ((2 : Nat) = E) := by show _ = _; rw [← hE, h1]; rfl
            clear hE hne h1 h0 q2 q3 q4
            go_enter Try.func23, Try.ntmps23
            go_wp2_with (first
              | (go_at_call 29; (with_reducible refine hbt.mono ?_); rintro e1 w2 ⟨rfl, hw2⟩; have hw2' := hw2.symm; subst hw2')
              | (go_at_call 30; (with_reducible refine htk.mono ?_); rintro e2 w3 ⟨rfl, hw3⟩; have hw3' := hw3.symm; subst hw3')
              | (go_at_call 15; (with_reducible refine hlo.mono ?_); rintro e3 w4 ⟨rfl, hb4⟩))
            go_ret
            exact ⟨by rw [← A.out]; rfl, hb4⟩
          rw [decide_eq_false h1] at q1
          by_cases h2 : low a1 = [55, 98, 105, 116]
          · rw [decide_eq_true h2] at q2
            have A : Aside ((0 : Nat) = E) := by show _ = _; rw [← hE, h2]; rfl
            clear hE hne h2 h0 h1 q3 q4
            go_enter Try.func23, Try.ntmps23
            go_wp2_with (first
              | (go_at_call 29; (with_reducible refine hbt.mono ?_); rintro e1 w2 ⟨rfl, hw2⟩; have hw2' := hw2.symm; subst hw2')
              | (go_at_call 30; (with_reducible refine htk.mono ?_); rintro e2 w3 ⟨rfl, hw3⟩; have hw3' := hw3.symm; subst hw3')
              | (go_at_call 15; (with_reducible refine hlo.mono ?_); rintro e3 w4 ⟨rfl, hb4⟩))
            go_ret
            exact ⟨by rw [← A.out]; rfl, hb4⟩
          rw [decide_eq_false h2] at q2
          by_cases h3 : low a1 = [56, 98, 105, 116]
          · rw [decide_eq_true h3] at q3
            have A : Aside ((0 : Nat) = E) := by show _ = _; rw [← hE, h3]; rfl
            clear hE hne h3 h0 h1 h2 q4
            go_enter Try.func23, Try.ntmps23
            go_wp2_with (first
              | (go_at_call 29; (with_reducible refine hbt.mono ?_); rintro e1 w2 ⟨rfl, hw2⟩; have hw2' := hw2.symm; subst hw2')
              | (go_at_call 30; (with_reducible refine htk.mono ?_); rintro e2 w3 ⟨rfl, hw3⟩; have hw3' := hw3.symm; subst hw3')
              | (go_at_call 15; (with_reducible refine hlo.mono ?_); rintro e3 w4 ⟨rfl, hb4⟩))
            go_ret
            exact ⟨by rw [← A.out]; rfl, hb4⟩
          rw [decide_eq_false h3] at q3
          by_cases h4 : low a1 = [98, 105, 110, 97, 114, 121]
          · rw [decide_eq_true h4] at q4
            have A : Aside ((0 : Nat) = E) := by show _ = _; rw [← hE, h4]; rfl
            clear hE hne h4 h0 h1 h2 h3
            go_enter Try.func23, Try.ntmps23
            go_wp2_with (first
              | (go_at_call 29; (with_reducible refine hbt.mono ?_); rintro e1 w2 ⟨rfl, hw2⟩; have hw2' := hw2.symm; subst hw2')
              | (go_at_call 30; (with_reducible refine htk.mono ?_); rintro e2 w3 ⟨rfl, hw3⟩; have hw3' := hw3.symm; subst hw3')
              | (go_at_call 15; (with_reducible refine hlo.mono ?_); rintro e3 w4 ⟨rfl, hb4⟩))
            go_ret
            exact ⟨by rw [← A.out]; rfl, hb4⟩
          rw [decide_eq_false h4] at q4
          have A : Aside ((3 : Nat) = E) := by
            show _ = _
            rw [← hE, if_neg (by rintro (h | h | h | h); exact hne h; exact h2 h; exact h3 h; exact h4 h), if_neg h0, if_neg h1]
          clear hE hne h0 h1 h2 h3 h4
          go_enter Try.func23, Try.ntmps23
          go_wp2_with (first
            | (go_at_call 29; (with_reducible refine hbt.mono ?_); rintro e1 w2 ⟨rfl, hw2⟩; have hw2' := hw2.symm; subst hw2')
            | (go_at_call 30; (with_reducible refine htk.mono ?_); rintro e2 w3 ⟨rfl, hw3⟩; have hw3' := hw3.symm; subst hw3')
            | (go_at_call 15; (with_reducible refine hlo.mono ?_); rintro e3 w4 ⟨rfl, hb4⟩))
          go_ret
          exact ⟨by rw [← A.out]; rfl, hb4⟩
set_option maxHeartbeats 1000000 in
theorem same_c (w : World) (M S : ByteArray) (a b : Option Addr) (L c L2 d : Nat) (T : List Fd) (h1 : FL w (.slice a L c) T) (h2 : FL w (.slice b L2 d) T) (hT : OctF T) (hb : L < 1000000000000000) : Calls Try.prog 11 #[.agg #[.string M, .string S, .slice a L c], .agg #[.string M, .string S, .slice b L2 d]] w fun e w' => e = .returned (.bool true) ∧ Below w.heap.size w w' := by
  obtain ⟨H, hH⟩ : ∃ H, w.heap.size = H := ⟨_, rfl⟩
  obtain ⟨w1, hw1⟩ : ∃ w1, w1 = (w.alloc (.cells #[.string M, .string S, .slice a L c] 24)).alloc (.cells #[.string M, .string S, .slice b L2 d] 24) := ⟨_, rfl⟩
  have b1 : Below w.heap.size w w1 := by rw [hw1]; exact ((Below.refl _ w).alloc (Nat.le_refl _) _).alloc (by simp) _
  have k1 : Cells w1 H #[.string M, .string S, .slice a L c] 24 := by rw [hw1, ← hH]; exact (Cells.new w _ 24).alloc _
  have k2 : Cells w1 (H + 1) #[.string M, .string S, .slice b L2 d] 24 := by
    have := Cells.new (w.alloc (.cells #[.string M, .string S, .slice a L c] 24)) #[.string M, .string S, .slice b L2 d] 24
    rw [hw1]
    simpa [hH] using this
  have hl1 := h1.len
  have hfe := feq_c w1 (.slice a L c) (.slice b L2 d) T T (h1.below b1) (h2.below b1) hT hT (by omega)
  rw [decide_eq_true rfl] at hfe
  have x0 : w1.cell? ⟨H, 0, none⟩ = some (.string M) := by rw [k1.cell]; rfl
  have x1 : w1.cell? ⟨H, 1, none⟩ = some (.string S) := by rw [k1.cell]; rfl
  have x2 : w1.cell? ⟨H, 2, none⟩ = some (.slice a L c) := by rw [k1.cell]; rfl
  have y0 : w1.cell? ⟨H + 1, 0, none⟩ = some (.string M) := by rw [k2.cell]; rfl
  have y1 : w1.cell? ⟨H + 1, 1, none⟩ = some (.string S) := by rw [k2.cell]; rfl
  have y2 : w1.cell? ⟨H + 1, 2, none⟩ = some (.slice b L2 d) := by rw [k2.cell]; rfl
  rw [hH] at b1 ⊢
  have A : Aside (Below H w w1 ∧ w.heap.size = H) := ⟨b1, hH⟩
  clear h1 h2 hT hb b1 k1 k2 hl1 hH
  go_enter Try.func11, Try.ntmps11
  go_upto_region 1 with fail
  (try simp only [A.out.2])
  rw [← hw1]
  clear hw1
  go_wp2_with (go_at_call 21; (with_reducible refine hfe.mono ?_); rintro e1 w2 ⟨rfl, hw2⟩)
  go_ret
  obtain ⟨n, hn⟩ := hw2
  exact ⟨rfl, by rw [hn]; exact Below.drewN2 A.out.1 n⟩
end Go.Proofs.Ytdndlegfalmkaaa
