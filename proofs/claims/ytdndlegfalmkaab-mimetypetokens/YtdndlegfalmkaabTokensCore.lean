/-
  MimetypeTokens' walk.
-/
import Derived.Test.YtdndlegfalmkaabAwk
namespace Go.Proofs.Ytdndlegfalmkaab
open Go.RowKit
set_option linter.unusedVariables false
theorem st_ne {l : List Nat} (h : l ≠ []) : ((st l).toList = []) = False := eq_false fun e => h (by
  have h2 : (st l).toList.length = 0 := by rw [e]; rfl
  rw [ByteArray.toList_eq, Array.length_toList] at h2
  exact List.eq_nil_of_length_eq_zero (by rw [← st_size l]; exact h2))
set_option maxHeartbeats 4000000 in
theorem tokens_core (a b : List Nat) (ha : Oct a) (hb : Oct b) (hla : a.length ≤ 140737488351232) (hlb : b.length ≤ 140737488351232) (w : World) : Calls Try.prog 3 #[.string (st a), .string (st b)] w fun e w' => e = .returned (.bool true) ∧ Below w.heap.size w w' := by
  have hab : Oct (a ++ b) := ha.append hb
  have hlab : (a ++ b).length ≤ 281474976710656 := by rw [List.length_append]; omega
  have tA := fun W => token_c a ha (by omega) W
  have tB := fun W => token_c b hb (by omega) W
  have tAB := fun W => token_c (a ++ b) hab hlab W
  have tLA := fun W => token_c (low a) ha.low (by rw [low_length]; omega) W
  have lA := fun W => lower_c a ha (by omega) W
  have lLA := fun W => lower_c (low a) ha.low (by rw [low_length]; omega) W
  have lAB := fun W => lower_c (a ++ b) hab hlab W
  have lB := fun W => lower_c b hb (by omega) W
  rw [low_low] at lLA
  rw [tok_low] at tLA
  rw [low_append] at lAB
  have hawk := fun W => awake_c W
  have zA : (st a).size = a.length := st_size a
  have zB : (st b).size = b.length := st_size b
  have zLA : (st (low a)).size = a.length := by rw [st_size, low_length]
  have zLB : (st (low b)).size = b.length := by rw [st_size, low_length]
  have eAB : st a ++ st b = st (a ++ b) := st_append a b
  have eL : st (low a) ++ st (low b) = st (low a ++ low b) := st_append _ _
  have nA := st_none (l := a)
  have nB := st_none (l := b)
  have hor : a = [] ∨ (a ≠ [] ∧ b = []) ∨ (a ≠ [] ∧ b ≠ [] ∧ tok (a ++ b) = (tok a && tok b)) := by
    by_cases h1 : a = []
    · exact Or.inl h1
    · by_cases h2 : b = []
      · exact Or.inr (Or.inl ⟨h1, h2⟩)
      · exact Or.inr (Or.inr ⟨h1, h2, tok_append h1 h2⟩)
  have mA : a ≠ [] → ((st a).toList = []) = False := st_ne
  have mB : b ≠ [] → ((st b).toList = []) = False := st_ne
  have vA : a = [] → ((st a).toList = []) = True := fun h => eq_true (by rw [h, ByteArray.toList_eq]; rfl)
  have vB : b = [] → ((st b).toList = []) = True := fun h => eq_true (by rw [h, ByteArray.toList_eq]; rfl)
  obtain ⟨A, hA⟩ : ∃ A, st a = A := ⟨_, rfl⟩
  obtain ⟨B, hB⟩ : ∃ B, st b = B := ⟨_, rfl⟩
  obtain ⟨AB, hAB⟩ : ∃ AB, st (a ++ b) = AB := ⟨_, rfl⟩
  obtain ⟨LA, hLA⟩ : ∃ LA, st (low a) = LA := ⟨_, rfl⟩
  obtain ⟨LB, hLB⟩ : ∃ LB, st (low b) = LB := ⟨_, rfl⟩
  obtain ⟨LAB, hLAB⟩ : ∃ LAB, st (low a ++ low b) = LAB := ⟨_, rfl⟩
  obtain ⟨p, hp⟩ : ∃ p, tok a = p := ⟨_, rfl⟩
  obtain ⟨q, hq⟩ : ∃ q, tok b = q := ⟨_, rfl⟩
  obtain ⟨r, hr⟩ : ∃ r, tok (a ++ b) = r := ⟨_, rfl⟩
  obtain ⟨na, hna⟩ : ∃ na, a.length = na := ⟨_, rfl⟩
  obtain ⟨nb, hnb⟩ : ∃ nb, b.length = nb := ⟨_, rfl⟩
  simp only [hA, hp] at tA
  simp only [hB, hq] at tB
  simp only [hAB, hr] at tAB
  simp only [hLA, hp] at tLA
  simp only [hA, hLA] at lA
  simp only [hLA] at lLA
  simp only [hAB, hLAB] at lAB
  simp only [hB, hLB] at lB
  rw [hA] at zA nA mA vA
  rw [hB] at zB nB mB vB
  rw [hLA] at zLA
  rw [hLB] at zLB
  rw [hA, hB, hAB] at eAB
  rw [hLA, hLB, hLAB] at eL
  rw [hp, hq, hr] at hor
  rw [hna] at zA zLA
  rw [hnb] at zB zLB
  rw [hA, hB]
  have u1 : (9223372036854775807 < na + nb) = False := eq_false (by omega)
  have hpp : (p == p) = true := by cases p <;> rfl
  clear hA hB hAB hLA hLB hLAB hp hq hr hna hnb ha hb hla hlb hab hlab
  rcases hor with h1 | ⟨h1, h2⟩ | ⟨h1, h2, h3⟩
  · rw [decide_eq_true h1] at nA
    have v := vA h1
    clear mA mB vA vB h1 nB tAB
    go_enter Try.func3, Try.ntmps3
    go_wp2_with (first
      | (go_at_call 4; (with_reducible refine (tA _).mono ?_); rintro e1 w1 ⟨rfl, hw1⟩; have hw1' := hw1.symm; subst hw1')
      | (go_at_call 4; (with_reducible refine (tB _).mono ?_); rintro e2 w2 ⟨rfl, hw2⟩; have hw2' := hw2.symm; subst hw2')
      | (go_at_call 4; (with_reducible refine (tLA _).mono ?_); rintro e3 w3 ⟨rfl, hw3⟩; have hw3' := hw3.symm; subst hw3')
      | (go_at_call 5; (with_reducible refine (lA w).mono ?_); rintro e4 w4 ⟨rfl, hb4⟩)
      | (go_at_call 5; (with_reducible refine (lLA w4).mono ?_); rintro e5 w5 ⟨rfl, hb5⟩)
      | (go_at_call 5; (with_reducible refine (lAB w5).mono ?_); rintro e6 w6 ⟨rfl, hb6⟩)
      | (go_at_call 5; (with_reducible refine (lB w6).mono ?_); rintro e7 w7 ⟨rfl, hb7⟩)
      | (go_at_call 6; (with_reducible refine (hawk _).mono ?_); rintro e8 w8 ⟨rfl, hb8⟩))
    go_ret
    have s4 := hb4.size
    have s5 := hb5.size
    have s6 := hb6.size
    have s7 := hb7.size
    exact ⟨rfl, (((hb4.trans (hb5.mono (by omega))).trans (hb6.mono (by omega))).trans (hb7.mono (by omega))).trans (hb8.mono (by omega))⟩
  · rw [decide_eq_false h1] at nA
    rw [decide_eq_true h2] at nB
    have v := mA h1
    have v2 := vB h2
    clear mA mB vA vB h1 h2 tAB
    go_enter Try.func3, Try.ntmps3
    go_wp2_with (first
      | (go_at_call 4; (with_reducible refine (tA _).mono ?_); rintro e1 w1 ⟨rfl, hw1⟩; have hw1' := hw1.symm; subst hw1')
      | (go_at_call 4; (with_reducible refine (tB _).mono ?_); rintro e2 w2 ⟨rfl, hw2⟩; have hw2' := hw2.symm; subst hw2')
      | (go_at_call 4; (with_reducible refine (tLA _).mono ?_); rintro e3 w3 ⟨rfl, hw3⟩; have hw3' := hw3.symm; subst hw3')
      | (go_at_call 5; (with_reducible refine (lA w).mono ?_); rintro e4 w4 ⟨rfl, hb4⟩)
      | (go_at_call 5; (with_reducible refine (lLA w4).mono ?_); rintro e5 w5 ⟨rfl, hb5⟩)
      | (go_at_call 5; (with_reducible refine (lAB w5).mono ?_); rintro e6 w6 ⟨rfl, hb6⟩)
      | (go_at_call 5; (with_reducible refine (lB w6).mono ?_); rintro e7 w7 ⟨rfl, hb7⟩)
      | (go_at_call 6; (with_reducible refine (hawk _).mono ?_); rintro e8 w8 ⟨rfl, hb8⟩))
    go_ret
    have s4 := hb4.size
    have s5 := hb5.size
    have s6 := hb6.size
    have s7 := hb7.size
    exact ⟨rfl, (((hb4.trans (hb5.mono (by omega))).trans (hb6.mono (by omega))).trans (hb7.mono (by omega))).trans (hb8.mono (by omega))⟩
  · rw [decide_eq_false h1] at nA
    rw [decide_eq_false h2] at nB
    have v := mA h1
    have v2 := mB h2
    clear mA mB vA vB h1 h2
    subst h3
    cases p <;> cases q
    all_goals
      simp only [Bool.and_self, Bool.and_true, Bool.and_false] at tAB
      go_enter Try.func3, Try.ntmps3
      go_wp2_with (first
        | (go_at_call 4; (with_reducible refine (tA _).mono ?_); rintro e1 w1 ⟨rfl, hw1⟩; have hw1' := hw1.symm; subst hw1')
        | (go_at_call 4; (with_reducible refine (tB _).mono ?_); rintro e2 w2 ⟨rfl, hw2⟩; have hw2' := hw2.symm; subst hw2')
        | (go_at_call 4; (with_reducible refine (tAB _).mono ?_); rintro e9 w9 ⟨rfl, hw9⟩; have hw9' := hw9.symm; subst hw9')
        | (go_at_call 4; (with_reducible refine (tLA _).mono ?_); rintro e3 w3 ⟨rfl, hw3⟩; have hw3' := hw3.symm; subst hw3')
        | (go_at_call 5; (with_reducible refine (lA w).mono ?_); rintro e4 w4 ⟨rfl, hb4⟩)
        | (go_at_call 5; (with_reducible refine (lLA w4).mono ?_); rintro e5 w5 ⟨rfl, hb5⟩)
        | (go_at_call 5; (with_reducible refine (lAB w5).mono ?_); rintro e6 w6 ⟨rfl, hb6⟩)
        | (go_at_call 5; (with_reducible refine (lB w6).mono ?_); rintro e7 w7 ⟨rfl, hb7⟩)
        | (go_at_call 6; (with_reducible refine (hawk _).mono ?_); rintro e8 w8 ⟨rfl, hb8⟩))
      go_ret
      have s4 := hb4.size
      have s5 := hb5.size
      have s6 := hb6.size
      have s7 := hb7.size
      exact ⟨rfl, (((hb4.trans (hb5.mono (by omega))).trans (hb6.mono (by omega))).trans (hb7.mono (by omega))).trans (hb8.mono (by omega))⟩
end Go.Proofs.Ytdndlegfalmkaab
