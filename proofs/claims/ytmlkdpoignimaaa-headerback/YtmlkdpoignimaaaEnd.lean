/-
  What bytes behind a header do, and what the bound on its bytes does. No walk.
-/
import Derived.Test.YtmlkdpoignimaaaWholeCore
namespace Go.Proofs.Ytmlkdpoignimaaa
set_option linter.unusedVariables false
theorem nx_ten {most k : Nat} {F : List Fd} {c : List Nat} : (nx most k F c 10).2.2.2 = [] := by
  unfold nx
  split
  · rfl
  · rw [if_pos rfl]
    split <;> rfl
/-- A run over bytes: over within them, or somewhere behind them. -/
theorem rn_split (most : Nat) : ∀ (l : List Nat) (k : Nat) (F : List Fd) (c : List Nat), ((rn most k F c l).at_ < k + l.length ∧ ∀ m, rn most k F c (l ++ m) = rn most k F c l) ∨ ∃ F' c', (∀ m, rn most k F c (l ++ m) = rn most (k + l.length) F' c' m) ∧ (l.getLast? = some 10 → c' = []) ∧ (l = [] → c' = c)
  | [], k, F, c => Or.inr ⟨F, c, fun m => rfl, by simp, fun _ => rfl⟩
  | b :: l, k, F, c => by
    by_cases e1 : (nx most k F c b).1 ≠ 0
    · refine Or.inl ⟨by rw [rn_cons, if_pos e1]; simp, fun m => ?_⟩
      rw [List.cons_append, rn_cons, rn_cons, if_pos e1, if_pos e1]
    · by_cases e2 : (nx most k F c b).2.1 = true
      · refine Or.inl ⟨by rw [rn_cons, if_neg e1, if_pos e2]; simp, fun m => ?_⟩
        rw [List.cons_append, rn_cons, rn_cons, if_neg e1, if_neg e1, if_pos e2, if_pos e2]
      · have hc : ∀ m, rn most k F c ((b :: l) ++ m) = rn most (k + 1) (nx most k F c b).2.2.1 (nx most k F c b).2.2.2 (l ++ m) := fun m => by
          rw [List.cons_append, rn_cons, if_neg e1, if_neg e2]
        have hc0 : rn most k F c (b :: l) = rn most (k + 1) (nx most k F c b).2.2.1 (nx most k F c b).2.2.2 l := by
          rw [rn_cons, if_neg e1, if_neg e2]
        rcases rn_split most l (k + 1) (nx most k F c b).2.2.1 (nx most k F c b).2.2.2 with ⟨h1, h2⟩ | ⟨F', c', h1, h2, h3⟩
        · refine Or.inl ⟨by rw [hc0]; simp only [List.length_cons]; omega, fun m => by rw [hc, h2, hc0]⟩
        · refine Or.inr ⟨F', c', fun m => by rw [hc, h1]; simp only [List.length_cons]; congr 1; omega, fun hl => ?_, by simp⟩
          cases l with
          | nil =>
            rw [h3 rfl]
            simp at hl
            rw [hl]
            exact nx_ten
          | cons x l => exact h2 (by rw [List.getLast?_cons_cons] at hl; exact hl)
theorem rn_more {most : Nat} {l m : List Nat} (h : min ((rn most 0 [] [] l).at_ + 1) l.length < l.length) : rn most 0 [] [] (l ++ m) = rn most 0 [] [] l := by
  rcases rn_split most l 0 [] [] with ⟨_, h2⟩ | ⟨F', c', h1, _, _⟩
  · exact h2 m
  · have e := h1 []
    rw [List.append_nil] at e
    have := (rn_at most [] (0 + l.length) F' c').1
    rw [← e] at this
    omega
/-- Of a header that has come to a line's end: an empty line ends it. -/
theorem rn_close {most : Nat} {l : List Nat} (hu : min ((rn most 0 [] [] l).at_ + 1) l.length = l.length) (hw : (rn most 0 [] [] l).why = 0) (hl : l = [] ∨ l.getLast? = some 10) (hm : l.length < most) : (rn most 0 [] [] (l ++ [10, 122])).fs = (rn most 0 [] [] l).fs ∧ (rn most 0 [] [] (l ++ [10, 122])).why = 0 ∧ (min ((rn most 0 [] [] (l ++ [10, 122])).at_ + 1) (l.length + 2) = l.length + 1 ∨ min ((rn most 0 [] [] (l ++ [10, 122])).at_ + 1) (l.length + 2) = l.length) := by
  rcases rn_split most l 0 [] [] with ⟨h1, h2⟩ | ⟨F', c', h1, h2, h3⟩
  · rw [h2]
    exact ⟨rfl, hw, by omega⟩
  · have hc : c' = [] := by
      rcases hl with e | e
      · exact h3 e
      · exact h2 e
    subst hc
    have e0 := h1 []
    rw [List.append_nil, rn_nil] at e0
    have e1 : rn most 0 [] [] (l ++ [10, 122]) = ⟨F', 0, l.length⟩ := by
      rw [h1, rn, if_neg (by omega), if_pos rfl, if_pos d13_nil, Nat.zero_add]
    have hf : fin F' [] = (0, F') := rfl
    rw [hf] at e0
    rw [e1, e0]
    exact ⟨rfl, rfl, by simp only; omega⟩
/-- With at least as many bytes allowed as there are, the same. -/
theorem rn_enough (most most' : Nat) : ∀ (l : List Nat) (k : Nat) (F : List Fd) (c : List Nat), (rn most k F c l).why = 0 → min ((rn most k F c l).at_ + 1) (k + l.length) ≤ most' → rn most' k F c l = rn most k F c l
  | [], k, F, c => fun _ _ => rfl
  | b :: l, k, F, c => by
    intro hw hm
    have hat := (rn_at most (b :: l) k F c).1
    have hk : ¬ most' ≤ k := by simp only [List.length_cons] at hm; omega
    rw [rn] at hw hm ⊢
    rw [rn]
    rw [if_neg hk]
    by_cases h0 : most ≤ k
    · rw [if_pos h0] at hw; simp at hw
    · rw [if_neg h0] at hw hm ⊢
      by_cases h10 : b = 10
      · rw [if_pos h10] at hw hm ⊢
        rw [if_pos h10]
        by_cases hd : d13 c = []
        · rw [if_pos hd, if_pos hd]
        · rw [if_neg hd] at hw hm ⊢
          rw [if_neg hd]
          by_cases hl : (lin F (d13 c)).1 = 0
          · rw [if_pos hl] at hw hm ⊢
            rw [if_pos hl]
            exact rn_enough most most' l _ _ _ hw (by simp only [List.length_cons] at hm; rw [show k + (l.length + 1) = k + 1 + l.length by omega] at hm; exact hm)
          · rw [if_neg hl, if_neg hl]
      · rw [if_neg h10] at hw hm ⊢
        rw [if_neg h10]
        exact rn_enough most most' l _ _ _ hw (by simp only [List.length_cons] at hm; rw [show k + (l.length + 1) = k + 1 + l.length by omega] at hm; exact hm)
/-- With one fewer, too big. -/
theorem rn_fewer (most most' : Nat) : ∀ (l : List Nat) (k : Nat) (F : List Fd) (c : List Nat), (rn most k F c l).why = 0 → k ≤ most' → most' + 1 = min ((rn most k F c l).at_ + 1) (k + l.length) → rn most' k F c l = ⟨[], 31, most'⟩
  | [], k, F, c => fun _ h1 h2 => by rw [rn_nil] at h2; simp at h2; omega
  | b :: l, k, F, c => by
    intro hw hk hm
    by_cases hkm : most' ≤ k
    · rw [rn, if_pos hkm]
      have : k = most' := by omega
      rw [this]
    · rw [rn] at hw hm
      rw [rn, if_neg hkm]
      by_cases h0 : most ≤ k
      · rw [if_pos h0] at hw; simp at hw
      · rw [if_neg h0] at hw hm
        by_cases h10 : b = 10
        · rw [if_pos h10] at hw hm ⊢
          by_cases hd : d13 c = []
          · rw [if_pos hd] at hm; simp only at hm; omega
          · rw [if_neg hd] at hw hm ⊢
            by_cases hl : (lin F (d13 c)).1 = 0
            · rw [if_pos hl] at hw hm ⊢
              exact rn_fewer most most' l _ _ _ hw (by omega) (by simp only [List.length_cons] at hm; rw [show k + (l.length + 1) = k + 1 + l.length by omega] at hm; exact hm)
            · rw [if_neg hl] at hw; exact absurd hw hl
        · rw [if_neg h10] at hw hm ⊢
          exact rn_fewer most most' l _ _ _ hw (by omega) (by simp only [List.length_cons] at hm; rw [show k + (l.length + 1) = k + 1 + l.length by omega] at hm; exact hm)
end Go.Proofs.Ytmlkdpoignimaaa
