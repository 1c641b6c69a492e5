/-
  What stands ahead of a body that was written, and behind. No walk.
-/
import Derived.Test.YtbndohpcaahenaaHld
namespace Go.Proofs.Ytbndohpcaahenaa
set_option linter.unusedVariables false
def lt (l : List Nat) : List Nat := l.map fun x => 97 + x % 26
def ahd (l : List Nat) : List Nat := if l = [] then [] else lt l ++ [13, 10]
theorem lt_le {l : List Nat} : ∀ x ∈ lt l, 97 ≤ x ∧ x < 123 := by
  intro x hx
  obtain ⟨y, _, rfl⟩ := List.mem_map.1 hx
  have := Nat.mod_lt y (show 26 > 0 by decide)
  omega
theorem lt_length (l : List Nat) : (lt l).length = l.length := by simp [lt]
theorem lt_take {l : List Nat} {k x : Nat} (h : l[k]? = some x) : lt (l.take (k + 1)) = lt (l.take k) ++ [97 + x % 26] := by
  rw [List.take_add_one, h]
  simp [lt]
theorem hs_letters {b : List Nat} : ∀ (l c : List Nat), (∀ x ∈ c, 97 ≤ x) → (∀ x ∈ l, 97 ≤ x) → c ++ l ≠ [] → hs (dd b) c l = false
  | [], c, hc, _, hne => by
    rw [List.append_nil] at hne
    cases c with
    | nil => exact absurd rfl hne
    | cons y r =>
      have := hc y (by simp)
      have h45 : ¬ y = 45 := by omega
      simp [hs, dd, lkB, h45]
  | y :: l, c, hc, hl, _ => by
    have hy := hl y (by simp)
    have h10 : ¬ y = 10 := by omega
    simp only [hs, if_neg h10]
    exact hs_letters l (c ++ [y]) (fun x hx => by
      rcases List.mem_append.1 hx with e | e
      · exact hc x e
      · simp at e; omega) (fun x hx => hl x (by simp [hx])) (by simp)
theorem ahead_back {b : List Nat} (hD : Bd (dd b)) (l z : List Nat) (ps : List (List Nat)) (hp : ∀ p ∈ ps, hs (dd b) [] p = false ∧ ∀ x ∈ p, x < 256) : po [] (tot (dd b) s0 (ahd l ++ wri (dd b) ps ++ z)) = ps ∧ cv (dd b) s0 (ahd l ++ wri (dd b) ps ++ z) = true := by
  rw [List.append_assoc]
  by_cases hl : l = []
  · have := wri_back hD z ps hp
    simp only [ahd, hl, if_true, List.nil_append]
    exact ⟨this.2.2, this.2.1⟩
  · obtain ⟨q, h1, h2⟩ := body_end hD (lt l) [] s0 [] Rs.s0.lb (by simp) (by simp) (fun x hx => by have := lt_le x hx; omega) (hs_letters (lt l) [] (by simp) (fun x hx => (lt_le x hx).1) (by
      intro e
      have := congrArg List.length e
      rw [List.nil_append, lt_length] at this
      exact hl (List.eq_nil_of_length_eq_zero this)))
    have h3 := wri_tot hD z ps q [13, 10] false h2 hp
    have ht := tot_append (dd b) s0 (ahd l) (wri (dd b) ps ++ z)
    have e : ahd l = [] ++ lt l ++ [13, 10] := by simp [ahd, hl]
    rw [ht.1, ht.2, e, h1]
    refine ⟨?_, h3.2⟩
    show po [] ([] ++ tot (dd b) q (wri (dd b) ps ++ z)) = ps
    rw [h3.1]
    show po [] ([] ++ ([] ++ sgs ps)) = ps
    rw [List.nil_append, List.nil_append, po_sgs ps [] (fun p hm => (hp p hm).2)]
    rfl
theorem ahd_len (l : List Nat) : (ahd l).length ≤ l.length + 2 := by
  unfold ahd
  split
  · simp
  · simp [lt_length]
theorem ahd_oct (l : List Nat) : Oct (ahd l) := by
  intro x hx
  unfold ahd at hx
  split at hx
  · simp at hx
  · rcases List.mem_append.1 hx with e | e
    · have := lt_le x e; omega
    · simp at e; omega
theorem wri_oct {D : List Nat} (hD : Oct D) : ∀ (ps : List (List Nat)), (∀ p ∈ ps, Oct p) → Oct (wri D ps)
  | [], _ => hD.append (show ∀ x ∈ [45, 45, 13, 10], x < 256 by decide)
  | p :: r, h => (hD.append (show ∀ x ∈ [13, 10], x < 256 by decide)).append (((h p (by simp)).append (show ∀ x ∈ [13, 10], x < 256 by decide)).append (wri_oct hD r (fun q hq => h q (by simp [hq]))))
end Go.Proofs.Ytbndohpcaahenaa
