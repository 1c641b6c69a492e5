/-
  What the statements' begins comes to: whether a text is a beginning of a pattern; and where the longest end of a text that begins a pattern stands.
  Conditions: the patterns and the text lie in memory.
-/
import Derived.Test.YtbepbjbbhenphabDoorRefCheck
import Derived.Test.YtbepbjbbhenphabDoorCopy
namespace Go.Proofs.YtbepbjbbhenphabDoor
open Go.RowKit
set_option linter.unusedVariables false
/-- Is a text a beginning of a pattern? -/
def begB (ps : List (List Nat)) (t : List Nat) : Bool := ps.any fun p => t.isPrefixOf p
theorem begB_iff {ps : List (List Nat)} {t : List Nat} : begB ps t = true ↔ ∃ p ∈ ps, t <+: p := by
  unfold begB
  rw [List.any_eq_true]
  constructor
  · rintro ⟨p, hp, h⟩; exact ⟨p, hp, List.isPrefixOf_iff_prefix.1 h⟩
  · rintro ⟨p, hp, h⟩; exact ⟨p, hp, List.isPrefixOf_iff_prefix.2 h⟩
theorem begB_words {ps : List (List Nat)} {t : List Nat} (h : t ≠ []) : begB ps t = true ↔ t ∈ words ps := by
  rw [begB_iff, words_mem_iff]
  constructor
  · exact Or.inr
  · rintro (h' | h')
    · exact absurd h' h
    · exact h'
theorem prefix_iff_take {t p : List Nat} (h : t.length ≤ p.length) : p.take t.length = t ↔ t <+: p := by
  constructor
  · intro e; rw [← e]; exact List.take_prefix _ _
  · intro e; exact (List.prefix_iff_eq_take.1 e).symm
theorem lsf_skip {ws : List (List Nat)} : ∀ (T : List Nat) (k : Nat), (∀ j, j < k → T.drop j ∉ ws ∨ T.drop j = []) → lsf ws T = lsf ws (T.drop k)
  | T, 0, _ => by simp
  | [], k + 1, _ => by simp
  | x :: T, k + 1, h => by
    rw [lsf, if_neg]
    · rw [List.drop_succ_cons]
      exact lsf_skip T k (fun j hj => by simpa using h (j + 1) (by omega))
    · rcases h 0 (by omega) with h0 | h0
      · simpa using h0
      · simp at h0
theorem longest_ge : ∀ {ps : List (List Nat)} {p : List Nat}, p ∈ ps → p.length ≤ longest ps := by
  have key : ∀ (ps : List (List Nat)) (m : Nat), (∀ p ∈ ps, p.length ≤ ps.foldl (fun m p => max m p.length) m) ∧ m ≤ ps.foldl (fun m p => max m p.length) m := by
    intro ps
    induction ps with
    | nil => intro m; exact ⟨by simp, Nat.le_refl _⟩
    | cons q ps ih =>
      intro m
      obtain ⟨h1, h2⟩ := ih (max m q.length)
      refine ⟨fun p hp => ?_, ?_⟩
      · rcases List.mem_cons.1 hp with rfl | hp
        · show _ ≤ ps.foldl _ (max m p.length); omega
        · exact h1 p hp
      · show _ ≤ ps.foldl _ (max m q.length); omega
  intro ps p hp
  exact (key ps 0).1 p hp
theorem words_short {ps : List (List Nat)} {u : List Nat} (h : u ∈ words ps) : u.length ≤ longest ps := by
  rcases words_mem_iff.1 h with rfl | ⟨p, hp, hu⟩
  · simp
  · exact Nat.le_trans hu.length_le (longest_ge hp)
end Go.Proofs.YtbepbjbbhenphabDoor
