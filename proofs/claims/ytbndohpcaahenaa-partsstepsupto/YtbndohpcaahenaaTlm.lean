/-
  What is told of a whole body: signs, bytes behind an open part alone, not more than twice the bytes and three. No walk.
-/
import Derived.Test.YtbndohpcaahenaaWho
namespace Go.Proofs.Ytbndohpcaahenaa
set_option linter.unusedVariables false
theorem gd_app (ls : List (List Nat)) (o r : List Nat) (h : Gd (decide (ls ≠ [])) o) (k : Gd (decide (po ls o ≠ [])) r) : Gd (decide (ls ≠ [])) (o ++ r) := by
  induction o generalizing ls with
  | nil => exact k
  | cons g o ih =>
    by_cases h1 : g = 256
    · have e : po ls (g :: o) = po (ls ++ [[]]) o := by simp [po, h1]
      simp only [e] at k
      have h' : Gd true o := by simpa only [Gd, if_pos h1] using h
      have := ih (ls ++ [[]]) (by simpa using h') k
      simp only [List.cons_append, Gd, if_pos h1]
      simpa using this
    · by_cases h2 : g = 257
      · have e : po ls (g :: o) = po ls o := by simp [po, h2]
        simp only [e] at k
        have h' : Gd (decide (ls ≠ [])) o := by simpa only [Gd, if_neg h1, if_pos h2] using h
        simp only [List.cons_append, Gd, if_neg h1, if_pos h2]
        exact ih ls h' k
      · have e : po ls (g :: o) = po (ls.dropLast ++ [ls.getLastD [] ++ [g]]) o := by simp only [po, if_neg h1, if_neg h2]
        simp only [e] at k
        have h' : decide (ls ≠ []) = true ∧ Gd (decide (ls ≠ [])) o := by simpa only [Gd, if_neg h1, if_neg h2] using h
        simp only [List.cons_append, Gd, if_neg h1, if_neg h2]
        refine ⟨h'.1, ?_⟩
        have h3 := h'.2
        rw [h'.1] at h3 ⊢
        have := ih (ls.dropLast ++ [ls.getLastD [] ++ [g]]) (by simpa using h3) k
        simpa using this
theorem tot_cons (D : List Nat) (s : Sp) (g : Nat) (r : List Nat) : tot D s (g :: r) = out (stp D g s) ++ tot D (tk (stp D g s)) r := by simp [tot, fd]
theorem tot_tl {D : List Nat} (hD : D ≠ []) (ho : ∀ d ∈ D, d < 256) (x : List Nat) (hx : ∀ y ∈ x, y < 256) (s : Sp) (ls : List (List Nat)) (i : Nat) (h : Wi D s ls i) : Tl ls (tot D s x) := by
  induction x generalizing s ls i with
  | nil => exact (h.fin ho).1
  | cons g r ih =>
    obtain ⟨h1, _, h3⟩ := h.step hD ho (g := g) (hx g (by simp))
    have := ih (fun y hy => hx y (by simp [hy])) _ _ _ h3
    rw [tot_cons]
    refine ⟨fun y hy => ?_, gd_app ls _ _ h1.gd this.gd⟩
    rcases List.mem_append.1 hy with e | e
    · exact h1.sg y e
    · exact this.sg y e
theorem tot_len {D : List Nat} (hD : D ≠ []) (ho : ∀ d ∈ D, d < 256) (x : List Nat) (hx : ∀ y ∈ x, y < 256) (s : Sp) (ls : List (List Nat)) (i : Nat) (h : Wi D s ls i) : (tot D s x).length ≤ s.hl.length + 2 * x.length + 3 := by
  induction x generalizing s ls i with
  | nil =>
    have e : tot D s [] = out (en D s) := by simp [tot, fd]
    rw [e]
    have h9 : (out (en D s)).length ≤ (en D s).hl.length := by simp [out]; omega
    have h8 := (len_step h.ok 258).1
    have h7 : (en D s).hl.length ≤ (stp D 258 s).hl.length + 1 := by
      unfold en know add
      split <;> simp
    simp
    omega
  | cons g r ih =>
    obtain ⟨_, _, h3⟩ := h.step hD ho (g := g) (hx g (by simp))
    have := ih (fun y hy => hx y (by simp [hy])) _ _ _ h3
    have h8 := len_step h.ok g
    have h9 : (out (stp D g s)).length + (tk (stp D g s)).hl.length = (stp D g s).hl.length := by simp [out, tk]; omega
    rw [tot_cons, List.length_append]
    simp
    omega
theorem tot_facts {D : List Nat} (hD : Bd D) {x : List Nat} (hx : ∀ y ∈ x, y < 256) (hL : x.length ≤ 100000000) : (∀ g ∈ tot D s0 x, g < 258) ∧ Gd false (tot D s0 x) ∧ Bn 1000000000 [] (tot D s0 x) := by
  have h1 := tot_tl hD.ne hD.oct x hx s0 [] 0 (Wi.s0 hD.ne)
  have h2 := tot_len hD.ne hD.oct x hx s0 [] 0 (Wi.s0 hD.ne)
  have h3 : s0.hl.length = 0 := rfl
  exact ⟨h1.sg, h1.gd, ⟨by simp; omega, fun l hl => by simp at hl⟩⟩
/-- Bytes that are told are bytes. -/
theorem po_oct (ls : List (List Nat)) (o : List Nat) (ho : ∀ g ∈ o, g < 258) (h : ∀ l ∈ ls, ∀ y ∈ l, y < 256) : ∀ l ∈ po ls o, ∀ y ∈ l, y < 256 := by
  induction o generalizing ls with
  | nil => exact h
  | cons g r ih =>
    have hr := fun y hy => ho y (List.mem_cons_of_mem g hy)
    simp only [po]
    split
    · exact ih _ hr (fun l hl => by
        rcases List.mem_append.1 hl with e | e
        · exact h l e
        · simp at e; subst e; simp)
    · split
      · exact ih _ hr h
      · rename_i h1 h2
        refine ih _ hr (fun l hl => ?_)
        rcases List.mem_append.1 hl with e | e
        · exact h l (List.dropLast_subset _ e)
        · simp at e
          subst e
          intro y hy
          rcases List.mem_append.1 hy with e | e
          · cases hq : ls.getLast? with
            | none => rw [hq] at e; simp at e
            | some z => rw [hq] at e; exact h z (List.mem_of_getLast? hq) y e
          · simp at e; have := ho g (by simp); omega
end Go.Proofs.Ytbndohpcaahenaa
