/-
  Lines and delimiters: what a line's last bytes make of what it is. No walk.
-/
import Derived.Test.YtbndohpcaahenabCns
namespace Go.Proofs.Ytbndohpcaahenab
set_option linter.unusedVariables false
set_option linter.unusedSimpArgs false
/-- How what some bytes are of a delimiter hangs on the last ones. -/
structure Lin (K : List Nat → Nat × Bool) : Prop where
  a3 : ∀ c l, K c = (2, l) → K (c ++ [10]) = (3, l) ∧ K (c ++ [13]) = (1, l) ∧ K (c ++ [13, 10]) = (3, l)
  a1 : ∀ c, (K (c ++ [13])).1 = 1 → (K c).1 = 2
  a4 : ∀ c, (K (c ++ [13])).1 ≠ 2
  a5 : ∀ c, 10 ∉ c → (K c).1 ≠ 3
  a6 : ∀ c, (K c).1 = 1 → (K (c ++ [10])).1 = 0 ∨ ∃ c', c = c' ++ [13] ∧ (K c').1 = 2
  a7 : ∀ c r, (K c).1 = 0 → (K (c ++ r)).1 = 0
theorem lin_p (l : Bool) : ∀ n, Lin (fun c => lkP c n l) := by
  have key : ∀ c : List Nat, ∀ n, (∀ l', lkP c n l = (2, l') → lkP (c ++ [10]) n l = (3, l') ∧ lkP (c ++ [13]) n l = (1, l') ∧ lkP (c ++ [13, 10]) n l = (3, l')) ∧ ((lkP (c ++ [13]) n l).1 = 1 → (lkP c n l).1 = 2) ∧ (lkP (c ++ [13]) n l).1 ≠ 2 ∧ (10 ∉ c → (lkP c n l).1 ≠ 3) ∧ ((lkP c n l).1 = 1 → (lkP (c ++ [10]) n l).1 = 0 ∨ ∃ c', c = c' ++ [13] ∧ (lkP c' n l).1 = 2) ∧ (∀ r, (lkP c n l).1 = 0 → (lkP (c ++ r) n l).1 = 0) := by
    intro c
    induction c with
    | nil =>
      intro n
      refine ⟨fun l' h => ?_, fun _ => by simp [lkP], by simp [lkP], fun _ => by simp [lkP], fun h => by simp [lkP] at h, fun r h => by simp [lkP] at h⟩
      simp [lkP] at h
      simp [lkP, h]
    | cons y c ih =>
      intro n
      by_cases hb : y = 9 ∨ y = 32
      · by_cases h16 : n = 16
        · simp [lkP, hb, h16]
        · have e : ∀ z, lkP (y :: z) n l = lkP z (n + 1) l := fun z => by simp [lkP, hb, h16]
          obtain ⟨i1, i2, i3, i4, i5, i6⟩ := ih (n + 1)
          have hy : y ≠ 10 := by omega
          refine ⟨?_, ?_, ?_, ?_, ?_, ?_⟩
          · simp only [List.cons_append, e]; exact i1
          · simp only [List.cons_append, e]; exact i2
          · simp only [List.cons_append, e]; exact i3
          · intro h; rw [e]; exact i4 (fun h2 => h (List.mem_cons_of_mem _ h2))
          · intro h
            rw [e] at h
            rcases i5 h with h5 | ⟨c', h5, h6⟩
            · left; rw [List.cons_append, e]; exact h5
            · exact Or.inr ⟨y :: c', by rw [h5]; rfl, by rw [e]; exact h6⟩
          · intro r h
            rw [e] at h
            rw [List.cons_append, e]
            exact i6 r h
      · have e : ∀ z, lkP (y :: z) n l = if y = 13 ∧ z = [] then (1, l) else if y = 10 ∨ (y = 13 ∧ z.head? = some 10) then (3, l) else (0, false) := fun z => by simp only [lkP, if_neg hb]
        refine ⟨fun l' h => ?_, fun h => ?_, ?_, fun h => ?_, fun h => ?_, fun r h => ?_⟩
        · rw [e] at h
          split at h
          · simp at h
          · split at h <;> simp at h
        · rw [List.cons_append, e] at h
          rw [if_neg (by simp)] at h
          split at h <;> simp at h
        · rw [List.cons_append, e, if_neg (by simp)]
          split <;> simp
        · rw [e]
          split
          · simp
          · split
            · rename_i h1 h2
              exfalso
              rcases h2 with rfl | ⟨_, h3⟩
              · exact h (by simp)
              · exact h (List.mem_cons_of_mem _ (List.mem_of_head? h3))
            · simp
        · rw [e] at h
          split at h
          · rename_i h1
            obtain ⟨rfl, rfl⟩ := h1
            exact Or.inr ⟨[], rfl, by simp [lkP]⟩
          · split at h <;> simp at h
        · rw [e] at h
          split at h
          · simp at h
          · rename_i h1
            split at h
            · simp at h
            · rename_i h2
              rw [List.cons_append, e]
              rw [if_neg (fun h3 => h1 ⟨h3.1, (List.append_eq_nil_iff.1 h3.2).1⟩), if_neg]
              intro h3
              rcases h3 with h3 | ⟨h3, h4⟩
              · exact h2 (Or.inl h3)
              · cases c with
                | nil => exact h1 ⟨h3, rfl⟩
                | cons a b => exact h2 (Or.inr ⟨h3, by simpa using h4⟩)
  intro n
  exact ⟨fun c => (key c n).1, fun c => (key c n).2.1, fun c => (key c n).2.2.1, fun c => (key c n).2.2.2.1, fun c => (key c n).2.2.2.2.1, fun c => (key c n).2.2.2.2.2⟩
theorem lkD_no {y : Nat} (z : List Nat) (h : y ≠ 45) : lkD (y :: z) = lkP (y :: z) 0 false := by simp [lkD, h]
theorem lkD_two (z : List Nat) : lkD (45 :: 45 :: z) = lkP z 0 true := by simp [lkD]
theorem lkD_one {y : Nat} (z : List Nat) (h : y ≠ 45) : lkD (45 :: y :: z) = (0, false) := by simp [lkD, h]
theorem lin_d : Lin lkD := by
  have p1 := lin_p true 0
  have p0 := lin_p false 0
  have key : ∀ c : List Nat, (∀ l', lkD c = (2, l') → lkD (c ++ [10]) = (3, l') ∧ lkD (c ++ [13]) = (1, l') ∧ lkD (c ++ [13, 10]) = (3, l')) ∧ ((lkD (c ++ [13])).1 = 1 → (lkD c).1 = 2) ∧ (lkD (c ++ [13])).1 ≠ 2 ∧ (10 ∉ c → (lkD c).1 ≠ 3) ∧ ((lkD c).1 = 1 → (lkD (c ++ [10])).1 = 0 ∨ ∃ c', c = c' ++ [13] ∧ (lkD c').1 = 2) ∧ (∀ r, (lkD c).1 = 0 → (lkD (c ++ r)).1 = 0) := by
    intro c
    match c with
    | [] =>
      refine ⟨fun l' h => ?_, fun _ => by simp [lkD, lkP], by simp [lkD, lkP], fun _ => by simp [lkD, lkP], fun h => by simp [lkD, lkP] at h, fun r h => by simp [lkD, lkP] at h⟩
      simp [lkD, lkP] at h
      simp [lkD, lkP, h]
    | [y] =>
      by_cases hy : y = 45
      · subst hy
        refine ⟨fun l' h => by simp [lkD] at h, fun h => by simp [lkD] at h, by simp [lkD], fun _ => by simp [lkD], fun h => Or.inl (by simp [lkD]), fun r h => by simp [lkD] at h⟩
      · simp only [List.cons_append, List.nil_append, lkD_no _ hy]
        refine ⟨p0.a3 [y], p0.a1 [y], p0.a4 [y], p0.a5 [y], fun h => ?_, p0.a7 [y]⟩
        rcases p0.a6 [y] h with h5 | ⟨c', h5, h6⟩
        · exact Or.inl h5
        · cases c' with
          | nil => exact Or.inr ⟨[], h5, by simp [lkD, lkP]⟩
          | cons a b => simp at h5
    | y :: z :: r =>
      by_cases hy : y = 45
      · subst hy
        by_cases hz : z = 45
        · subst hz
          simp only [List.cons_append, lkD_two]
          refine ⟨p1.a3 r, p1.a1 r, p1.a4 r, fun h => p1.a5 r (fun h2 => h (by simp [h2])), fun h => ?_, p1.a7 r⟩
          rcases p1.a6 r h with h5 | ⟨c', h5, h6⟩
          · exact Or.inl h5
          · exact Or.inr ⟨45 :: 45 :: c', by rw [h5]; rfl, by rw [lkD_two]; exact h6⟩
        · simp only [List.cons_append, lkD_one _ hz]
          simp
      · simp only [List.cons_append, lkD_no _ hy]
        refine ⟨p0.a3 (y :: z :: r), p0.a1 (y :: z :: r), p0.a4 (y :: z :: r), p0.a5 (y :: z :: r), fun h => ?_, p0.a7 (y :: z :: r)⟩
        rcases p0.a6 (y :: z :: r) h with h5 | ⟨c', h5, h6⟩
        · exact Or.inl h5
        · cases c' with
          | nil => simp at h5
          | cons a b =>
            have ha : a = y := by simp at h5; exact h5.1.symm
            exact Or.inr ⟨a :: b, h5, by rw [ha, lkD_no _ hy, ← ha]; exact h6⟩
  exact ⟨fun c => (key c).1, fun c => (key c).2.1, fun c => (key c).2.2.1, fun c => (key c).2.2.2.1, fun c => (key c).2.2.2.2.1, fun c => (key c).2.2.2.2.2⟩
theorem lin_b : ∀ (D : List Nat), 10 ∉ D → 13 ∉ D → Lin (lkB D) := by
  intro D
  induction D with
  | nil => intro _ _; exact lin_d
  | cons d ds ih =>
    intro h10 h13
    have i := ih (fun h => h10 (List.mem_cons_of_mem _ h)) (fun h => h13 (List.mem_cons_of_mem _ h))
    have d10 : (10 : Nat) ≠ d := fun e => h10 (by simp [e])
    have d13 : (13 : Nat) ≠ d := fun e => h13 (by simp [e])
    have e1 : ∀ z, lkB (d :: ds) (d :: z) = lkB ds z := fun z => by simp [lkB]
    have e0 : ∀ y z, y ≠ d → lkB (d :: ds) (y :: z) = (0, false) := fun y z h => by simp [lkB, h]
    have key : ∀ c : List Nat, (∀ l', lkB (d :: ds) c = (2, l') → lkB (d :: ds) (c ++ [10]) = (3, l') ∧ lkB (d :: ds) (c ++ [13]) = (1, l') ∧ lkB (d :: ds) (c ++ [13, 10]) = (3, l')) ∧ ((lkB (d :: ds) (c ++ [13])).1 = 1 → (lkB (d :: ds) c).1 = 2) ∧ (lkB (d :: ds) (c ++ [13])).1 ≠ 2 ∧ (10 ∉ c → (lkB (d :: ds) c).1 ≠ 3) ∧ ((lkB (d :: ds) c).1 = 1 → (lkB (d :: ds) (c ++ [10])).1 = 0 ∨ ∃ c', c = c' ++ [13] ∧ (lkB (d :: ds) c').1 = 2) ∧ (∀ r, (lkB (d :: ds) c).1 = 0 → (lkB (d :: ds) (c ++ r)).1 = 0) := by
      intro c
      cases c with
      | nil =>
        refine ⟨fun l' h => by simp [lkB] at h, fun h => ?_, ?_, fun _ => by simp [lkB], fun h => Or.inl ?_, fun r h => by simp [lkB] at h⟩
        · rw [List.nil_append, e0 _ _ d13] at h; simp at h
        · rw [List.nil_append, e0 _ _ d13]; simp
        · rw [List.nil_append, e0 _ _ d10]
      | cons y r =>
        by_cases hy : y = d
        · subst hy
          simp only [List.cons_append, e1]
          refine ⟨i.a3 r, i.a1 r, i.a4 r, fun h => i.a5 r (fun h2 => h (List.mem_cons_of_mem _ h2)), fun h => ?_, i.a7 r⟩
          rcases i.a6 r h with h5 | ⟨c', h5, h6⟩
          · exact Or.inl h5
          · exact Or.inr ⟨y :: c', by rw [h5]; rfl, by rw [e1]; exact h6⟩
        · simp only [List.cons_append, e0 _ _ hy]
          simp
    exact ⟨fun c => (key c).1, fun c => (key c).2.1, fun c => (key c).2.2.1, fun c => (key c).2.2.2.1, fun c => (key c).2.2.2.2.1, fun c => (key c).2.2.2.2.2⟩
end Go.Proofs.Ytbndohpcaahenab
