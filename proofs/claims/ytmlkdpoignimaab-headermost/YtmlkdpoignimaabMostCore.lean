/-
  HeaderMost's walk.
-/
import Derived.Test.YtmlkdpoignimaabWha
import Derived.Test.YtmlkdpoignimaabAwk
namespace Go.Proofs.Ytmlkdpoignimaab
open Go.RowKit
set_option linter.unusedVariables false
/-- Without a reason no more bytes were counted than are allowed. -/
theorem rn_under (most : Nat) : ∀ (l : List Nat) (k : Nat) (F : List Fd) (c : List Nat), k ≤ most → (rn most k F c l).why = 0 → min ((rn most k F c l).at_ + 1) (k + l.length) ≤ most
  | [], k, F, c => fun h _ => by simp only [List.length_nil]; omega
  | b :: l, k, F, c => by
    intro hk hw
    rw [rn] at hw ⊢
    by_cases h0 : most ≤ k
    · rw [if_pos h0] at hw; simp at hw
    · rw [if_neg h0] at hw ⊢
      have hlen : k + (b :: l).length = k + 1 + l.length := by simp only [List.length_cons]; omega
      by_cases h10 : b = 10
      · rw [if_pos h10] at hw ⊢
        by_cases hd : d13 c = []
        · rw [if_pos hd]; simp only; omega
        · rw [if_neg hd] at hw ⊢
          by_cases hl : (lin F (d13 c)).1 = 0
          · rw [if_pos hl] at hw ⊢
            rw [hlen]
            exact rn_under most l _ _ _ (by omega) hw
          · rw [if_neg hl] at hw; exact absurd hw hl
      · rw [if_neg h10] at hw ⊢
        rw [hlen]
        exact rn_under most l _ _ _ (by omega) hw
set_option maxHeartbeats 1000000 in
theorem most_core (w : World) (a : Option Addr) (l : List Nat) (L C : Nat) (hl : Lies w a l) (hL : l.length = L) (hLb : L < 1000000000000000) (ho : Oct l) :
    Calls Try.prog 3 #[.slice a L C] w fun e w' => e = .returned (.bool true) ∧ Below w.heap.size w w' := by
  obtain ⟨B, hB⟩ : ∃ B, w.heap.size = B := ⟨_, rfl⟩
  obtain ⟨R, hR⟩ : ∃ R, rn 65536 0 [] [] l = R := ⟨_, rfl⟩
  obtain ⟨u, hu⟩ : ∃ u, min (R.at_ + 1) L = u := ⟨_, rfl⟩
  obtain ⟨y, hy⟩ : ∃ y, R.why = y := ⟨_, rfl⟩
  obtain ⟨T, hT⟩ : ∃ T, told R.fs = T := ⟨_, rfl⟩
  have hwh := whole_a w a l L C 65536 R hR u hu y hy T hT hl hL hLb ho (by decide) (by decide)
  have hro : OctF T ∧ T.length ≤ 64 := by have := rn_oct 65536 ho; rw [hR, hT] at this; exact this
  have haw := fun W => awake_c W
  have A : Aside (Lies w a l ∧ l.length = L ∧ Oct l ∧ w.heap.size = B ∧ OctF T ∧ T.length ≤ 64 ∧ L < 1000000000000000) := ⟨hl, hL, ho, hB, hro.1, hro.2, hLb⟩
  have AR : Aside (rn 65536 0 [] [] l = R ∧ min (R.at_ + 1) L = u ∧ R.why = y ∧ told R.fs = T) := ⟨hR, hu, hy, hT⟩
  rw [hB]
  clear hl hL hLb ho hR hu hy hT hro hB
  go_enter Try.func3, Try.ntmps3
  go_upto_region 2 with (go_at_call 4; refine hwh.mono ?_; rintro e1 w1 ⟨a1, n1, c1, rfl, hfl1, hb1⟩)
  have a0 := A.out
  have ar := AR.out
  have bel1 : Below B w w1 := by rw [← a0.2.2.2.1]; exact hb1
  have A1 : Aside (Below B w w1 ∧ B ≤ w1.heap.size ∧ FL w1 (.slice a1 n1 c1) T) := ⟨bel1, by have := hb1.size; have := a0.2.2.2.1; omega, hfl1⟩
  clear bel1 hfl1 hb1 hwh
  by_cases hy0 : y = 0
  · subst hy0
    by_cases hu2 : u < 2
    · have t1 : ((u : Int) < 2) = True := eq_true (by omega)
      have t1' : (u < 2) = True := eq_true hu2
      clear a0 ar AR hu2
      go_wp2_with (go_at_call 5; refine (haw _).mono ?_; rintro e6 w6 ⟨rfl, hb6⟩)
      first | go_ret | go_ret2
      exact ⟨rfl, A1.out.1.trans (hb6.mono A1.out.2.1)⟩
    · obtain ⟨m, hm⟩ : ∃ m, u = m + 1 := ⟨u - 1, by omega⟩
      have hun : u ≤ 65536 := by have := rn_under 65536 l 0 [] [] (by omega) (by rw [ar.1]; exact ar.2.2.1); rw [ar.1, Nat.zero_add, a0.2.1, ar.2.1] at this; exact this
      have hR2 : rn u 0 [] [] l = R := by
        rw [← ar.1]
        exact rn_enough 65536 u l 0 [] [] (by rw [ar.1]; exact ar.2.2.1) (by rw [ar.1, Nat.zero_add, a0.2.1, ar.2.1]; omega)
      have hR3 : rn m 0 [] [] l = ⟨[], 31, m⟩ :=
        rn_fewer 65536 m l 0 [] [] (by rw [ar.1]; exact ar.2.2.1) (by omega) (by rw [ar.1, Nat.zero_add, a0.2.1, ar.2.1]; omega)
      have h2 := fun W (h : Lies W a l) => whole_a W a l L C u R hR2 u ar.2.1 0 ar.2.2.1 T ar.2.2.2 h a0.2.1 a0.2.2.2.2.2.2 a0.2.2.1 (by omega) hun
      have h3 := fun W (h : Lies W a l) => whole_a W a l L C m ⟨[], 31, m⟩ hR3 u (by have := ar.2.1; simp only; omega) 31 rfl [] rfl h a0.2.1 a0.2.2.2.2.2.2 a0.2.2.1 (by omega) (by omega)
      have t1 : ((u : Int) < 2) = False := eq_false (by omega)
      have t1' : (u < 2) = False := eq_false hu2
      have hum : (u : Int) - 1 = (m : Int) := by omega
      have hub : (u : Int) ≤ 65536 := by omega
      have hq := h2 w1 (a0.1.below (by rw [a0.2.2.2.1]; exact A1.out.1))
      clear ar AR hu2 hR2 hR3 h2 hun a0 hm
      go_upto_region 5 with (go_at_call 4; refine hq.mono ?_; rintro e2 w2 ⟨a2, n2, c2, rfl, hfl2, hb2⟩)
      have a0 := A.out
      have a1' := A1.out
      have bel2 : Below B w w2 := a1'.1.trans (hb2.mono a1'.2.1)
      have hq3 := h3 w2 (a0.1.below (by rw [a0.2.2.2.1]; exact bel2))
      have A2 : Aside (Below B w w2 ∧ B ≤ w2.heap.size ∧ FL w2 (.slice a1 n1 c1) T ∧ FL w2 (.slice a2 n2 c2) T) := ⟨bel2, by have := hb2.size; omega, a1'.2.2.below hb2, hfl2⟩
      clear a0 a1' bel2 hfl2 hb2 h3 hq
      go_upto_region 6 with (go_at_call 4; refine hq3.mono ?_; rintro e3 w3 ⟨a3, n3, c3, rfl, hfl3, hb3⟩)
      have a2' := A2.out
      have bel3 : Below B w w3 := a2'.1.trans (hb3.mono a2'.2.1)
      obtain ⟨_, _, hv3, _⟩ := id hfl3
      have hn3 : n3 = 0 := by cases hv3; rfl
      subst hn3
      have hfe := feq_c w3 _ _ _ _ (a2'.2.2.1.below hb3) (a2'.2.2.2.below hb3) A.out.2.2.2.2.1 A.out.2.2.2.2.1 (by have := A.out.2.2.2.2.2.1; omega)
      rw [decide_eq_true rfl] at hfe
      have A3 : Aside (Below B w w3 ∧ B ≤ w3.heap.size) := ⟨bel3, by have := hb3.size; omega⟩
      have e1 : ((u : Int) == (u : Int)) = true := by simp
      clear a2' bel3 hb3 hfl3 hq3 hv3 hum
      go_wp2_with (first
        | (go_at_call 6; refine hfe.mono ?_; rintro e5 w5 ⟨rfl, n5, hw5⟩; have A5 : Aside (Below B w w5 ∧ B ≤ w5.heap.size) := (by rw [hw5]; exact ⟨Below.drewN2 A3.out.1 n5, A3.out.2⟩); clear hw5)
        | (go_at_call 5; refine (haw _).mono ?_; rintro e6 w6 ⟨rfl, hb6⟩))
      first | go_ret | go_ret2
      exact ⟨rfl, A5.out.1.trans (hb6.mono A5.out.2)⟩
  · have t4 : ((y : Int) != 0) = true := by rw [bne_iff_ne]; omega
    have t4' : ((y : Int) == 0) = false := by rw [beq_eq_false_iff_ne]; omega
    clear a0 ar AR hy0
    go_wp2_with (go_at_call 5; refine (haw _).mono ?_; rintro e6 w6 ⟨rfl, hb6⟩)
    first | go_ret | go_ret2
    exact ⟨rfl, A1.out.1.trans (hb6.mono A1.out.2.1)⟩
end Go.Proofs.Ytmlkdpoignimaab
