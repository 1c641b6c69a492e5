/-
  What the parts of a beginning are, one by one. No walk.
-/
import Derived.Test.YtbndohpcaahenaaEnm
namespace Go.Proofs.Ytbndohpcaahenaa
set_option linter.unusedVariables false
/-- What is asked of the parts of a beginning. -/
structure En (D : List Nat) (ps : List (List Nat)) (k : Nat) (m : List (List Nat)) : Prop where
  len : m.length ≤ ps.length + 1
  a2 : ∀ (i : Nat) (x : List Nat), m[i]? = some x → i + 1 < m.length → ps[i]? = some x
  a3 : ∀ (i : Nat) (x : List Nat), m[i]? = some x → i = ps.length → x = []
  a4 : ∀ (i : Nat) (x : List Nat), m[i]? = some x → i < ps.length → fr D ps i + x.length ≤ k → ((wri D ps).take (fr D ps i + x.length)).drop (fr D ps i) = x
  a5 : ∀ (i : Nat) (x : List Nat), m[i]? = some x → i < ps.length → ¬ fr D ps i + x.length ≤ k → x = []
theorem wpre_step (D : List Nat) {ps : List (List Nat)} {i : Nat} {x : List Nat} (h : ps[i]? = some x) : (wpre D (ps.take (i + 1))).length = fr D ps i + (x.length + 2) := by
  rw [wpre_take h]
  simp [fr]
  omega
theorem wpre_mono (D : List Nat) {ps : List (List Nat)} {i j : Nat} (h : i ≤ j) : (wpre D (ps.take i)).length ≤ (wpre D (ps.take j)).length := by
  have e : ps.take j = ps.take i ++ (ps.take j).drop i := by
    conv => lhs; rw [← List.take_append_drop i (ps.take j)]
    rw [List.take_take, Nat.min_eq_left h]
  rw [e, wpre_append]
  simp
theorem part_at (D : List Nat) {ps : List (List Nat)} {i : Nat} {x : List Nat} (h : ps[i]? = some x) : ((wri D ps).take (fr D ps i + x.length)).drop (fr D ps i) = x := by
  have e : ∃ v, wri D ps = (wpre D (ps.take i) ++ (D ++ [13, 10])) ++ (x ++ v) := by
    rw [wri_pre]
    have h1 : ps = ps.take (i + 1) ++ ps.drop (i + 1) := (List.take_append_drop _ _).symm
    refine ⟨[13, 10] ++ wpre D (ps.drop (i + 1)) ++ (D ++ [45, 45, 13, 10]), ?_⟩
    conv => lhs; rw [h1]
    rw [wpre_append, wpre_take h]
    simp
  obtain ⟨v, e⟩ := e
  have hf : fr D ps i = (wpre D (ps.take i) ++ (D ++ [13, 10])).length := by simp [fr]
  rw [e, hf, List.take_length_add_append, List.drop_left, List.take_left]
theorem en_of {D : List Nat} {ps : List (List Nat)} {k j : Nat} {t : List (List Nat)} (hk : k ≤ (wri D ps).length) (h1 : j ≤ ps.length) (h2 : (wpre D (ps.take j)).length ≤ k) (h3 : Shp D ps ((wri D ps).take k) j t) : En D ps k (ps.take j ++ t) := by
  have hj : (ps.take j).length = j := by rw [List.length_take]; omega
  have ht : t.length ≤ 1 := by
    rcases h3 with e | e | ⟨_, e, _⟩ <;> rw [e] <;> simp
  have lo : ∀ (i : Nat) (x : List Nat), (ps.take j ++ t)[i]? = some x → (i < j ∧ ps[i]? = some x) ∨ (i = j ∧ t = [x]) := by
    intro i x hx
    by_cases hi : i < j
    · left
      rw [List.getElem?_append_left (by omega), List.getElem?_take, if_pos hi] at hx
      exact ⟨hi, hx⟩
    · right
      rw [List.getElem?_append_right (by omega), hj] at hx
      have := (List.getElem?_eq_some_iff.1 hx).1
      have hij : i - j = 0 := by omega
      rw [hij] at hx
      refine ⟨by omega, ?_⟩
      match t, ht, hx with
      | [y], _, hx => simp at hx; rw [hx]
  have mid : ∀ x, t = [x] → j < ps.length → x = [] ∨ (x = ((wri D ps).take k).drop (fr D ps j) ∧ fr D ps j + x.length = k) := by
    intro x hx hl
    rcases h3 with e | e | ⟨_, e, e3⟩
    · rw [e] at hx; cases hx
    · rw [e] at hx; left; cases hx; rfl
    · rw [e] at hx
      cases hx
      right
      refine ⟨rfl, ?_⟩
      rw [List.length_drop]
      rw [List.length_take] at e3 ⊢
      omega
  refine ⟨by rw [List.length_append, hj]; omega, ?_, ?_, ?_, ?_⟩
  · intro i x hx hi
    rcases lo i x hx with ⟨_, e⟩ | ⟨e, e2⟩
    · exact e
    · rw [List.length_append, hj] at hi; omega
  · intro i x hx hi
    rcases lo i x hx with ⟨e, _⟩ | ⟨e, e2⟩
    · omega
    · rcases h3 with h | h | ⟨h, _, _⟩
      · rw [h] at e2; cases e2
      · rw [h] at e2; cases e2; rfl
      · omega
  · intro i x hx hi hle
    rcases lo i x hx with ⟨_, e⟩ | ⟨e, e2⟩
    · exact part_at D e
    · subst e
      rcases mid x e2 hi with e | ⟨e, e3⟩
      · rw [e]; simp
      · rw [e3]; exact e.symm
  · intro i x hx hi hle
    rcases lo i x hx with ⟨hij, e⟩ | ⟨e, e2⟩
    · exfalso
      have h5 := wpre_step D e
      have h6 := wpre_mono D (ps := ps) (i := i + 1) (j := j) (by omega)
      omega
    · subst e
      rcases mid x e2 hi with e | ⟨e, e3⟩
      · exact e
      · omega
theorem ends_en {D : List Nat} (hD : Bd D) (ps : List (List Nat)) (k : Nat) (hk : k < (wri D ps).length) (hp : ∀ p ∈ ps, Cl D p ∧ ∀ x ∈ p, x < 256) : En D ps k (po [] (tot D s0 ((wri D ps).take k))) ∧ cv D s0 ((wri D ps).take k) = decide (k + 2 = (wri D ps).length) ∧ ∀ p ∈ po [] (tot D s0 ((wri D ps).take k)), Oct p := by
  obtain ⟨j, t, h1, h2, h3, h4, h5⟩ := ends_back hD ps k hk hp
  rw [h4]
  refine ⟨en_of (by omega) h1 h2 h3, h5, fun p hm => ?_⟩
  rcases List.mem_append.1 hm with e | e
  · exact (hp p (List.mem_of_mem_take e)).2
  · rcases h3 with h | h | ⟨_, h, _⟩
    · rw [h] at e; simp at e
    · rw [h] at e; simp at e; rw [e]; exact Oct.nil
    · rw [h] at e
      simp at e
      rw [e]
      intro x hx
      exact wri_lt hD.oct ps (fun p hp' => (hp p hp').2) x (List.mem_of_mem_take (List.mem_of_mem_drop hx))
end Go.Proofs.Ytbndohpcaahenaa
