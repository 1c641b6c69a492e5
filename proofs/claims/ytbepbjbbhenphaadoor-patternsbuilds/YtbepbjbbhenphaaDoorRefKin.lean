/-
  The ways of the document's machine, as states are added. No walk in this text.
-/
import Derived.Test.YtbepbjbbhenphaaDoorRefGrow
namespace Go.Proofs.YtbepbjbbhenphaaDoor
open Go.RowKit
set_option linter.unusedVariables false
/-- Each state's ways are those to the states one byte on. -/
def Kin (ws : List (List Nat)) (kids : List (List (Nat × Nat))) : Prop := ∀ (s : Nat) (u : List Nat) (l : List (Nat × Nat)), ws[s]? = some u → kids[s]? = some l → ∀ b, (∀ t : Nat, ws[t]? = some (u ++ [b]) → kidOf l b = (t : Int)) ∧ (u ++ [b] ∉ ws → kidOf l b = -1)
theorem kidOf_nil (b : Nat) : kidOf [] b = -1 := rfl
theorem kidOf_same {l : List (Nat × Nat)} {b n : Nat} (h : kidOf l b = -1) : kidOf (l ++ [(b, n)]) b = (n : Int) := by
  have : l.find? (fun x => x.1 == b) = none := by
    cases e : l.find? (fun x => x.1 == b) with
    | none => rfl
    | some x => unfold kidOf at h; rw [e] at h; simp at h
  unfold kidOf
  rw [List.find?_append, this]
  simp
theorem kidOf_other {l : List (Nat × Nat)} {b c n : Nat} (h : b ≠ c) : kidOf (l ++ [(b, n)]) c = kidOf l c := by
  unfold kidOf
  rw [List.find?_append]
  cases l.find? (fun x => x.1 == c) with
  | none => simp [h]
  | some x => simp
theorem kin_zero : Kin [[]] [[]] := by
  intro s u l hs hl b
  have h0 : s = 0 := by have := at_lt hs; simpa using this
  subst h0
  have e1 : [] = u := by simpa using hs
  have e2 : [] = l := by simpa using hl
  subst e1; subst e2
  refine ⟨fun t ht => ?_, fun _ => rfl⟩
  have h1 : t = 0 := by have := at_lt ht; simpa using this
  subst h1
  simp at ht
theorem kin_add {ws : List (List Nat)} {kids : List (List (Nat × Nat))} {s b : Nat} {u : List Nat} {l : List (Nat × Nat)} (ht : Tri ws) (h : Kin ws kids) (hlen : kids.length = ws.length) (hs : ws[s]? = some u) (hl : kids[s]? = some l) (hn : u ++ [b] ∉ ws) : Kin (ws ++ [u ++ [b]]) (kids.set s (l ++ [(b, ws.length)]) ++ [[]]) := by
  intro s' u' l' hs' hl' c
  have hsl := at_lt hl
  rcases at_app_iff.1 hs' with hs' | ⟨e1, e2⟩
  · have hs'l := at_lt hs'
    have hl2 : (kids.set s (l ++ [(b, ws.length)]))[s']? = some l' := by
      rcases at_app_iff.1 hl' with h1 | ⟨h1, _⟩
      · exact h1
      · rw [List.length_set] at h1; omega
    rw [List.getElem?_set] at hl2
    by_cases e : s = s'
    · rw [if_pos e, if_pos hsl] at hl2
      cases hl2
      subst e
      rw [hs] at hs'; cases hs'
      have hk := h s u l hs hl
      by_cases ec : b = c
      · subst ec
        have hm := (hk b).2 hn
        refine ⟨fun t htt => ?_, fun hno => absurd (List.mem_append_right _ (by simp)) hno⟩
        rcases at_app_iff.1 htt with h1 | ⟨rfl, _⟩
        · exact absurd (List.mem_of_getElem? h1) hn
        · exact kidOf_same hm
      · rw [kidOf_other ec]
        refine ⟨fun t htt => ?_, fun hno => (hk c).2 fun hm => hno (List.mem_append_left _ hm)⟩
        rcases at_app_iff.1 htt with h1 | ⟨_, h2⟩
        · exact (hk c).1 t h1
        · have := List.append_cancel_left h2
          simp at this
          exact absurd this.symm ec
    · rw [if_neg e] at hl2
      have hk := h s' u' l' hs' hl2 c
      refine ⟨fun t htt => ?_, fun hno => hk.2 fun hm => hno (List.mem_append_left _ hm)⟩
      rcases at_app_iff.1 htt with h1 | ⟨_, h2⟩
      · exact hk.1 t h1
      · have h3 := (List.append_inj' h2 rfl).1
        rw [h3] at hs'
        exact absurd (ht.one hs hs') e
  · subst e2
    have : l' = [] := by
      rcases at_app_iff.1 hl' with h1 | ⟨_, h1⟩
      · have := at_lt h1; rw [List.length_set] at this; omega
      · exact h1
    subst this
    refine ⟨fun t htt => ?_, fun _ => rfl⟩
    rcases at_app_iff.1 htt with h1 | ⟨_, h2⟩
    · exact absurd (ht.closed (List.mem_of_getElem? h1)) hn
    · have := congrArg List.length h2
      simp at this
/-- No state has more ways than there are states. -/
theorem few_add {ws : List (List Nat)} {kids : List (List (Nat × Nat))} {s b : Nat} {u : List Nat} {l : List (Nat × Nat)} (h : ∀ l ∈ kids, l.length ≤ ws.length) (hl : kids[s]? = some l) : ∀ l' ∈ kids.set s (l ++ [(b, ws.length)]) ++ [[]], l'.length ≤ (ws ++ [u ++ [b]]).length := by
  intro l' hm
  rw [List.length_append]
  rcases List.mem_append.1 hm with hm | hm
  · rcases List.mem_or_eq_of_mem_set hm with hm | rfl
    · have := h l' hm; omega
    · have := h l (List.mem_of_getElem? hl)
      rw [List.length_append]
      show _ + 1 ≤ _ + 1
      omega
  · have : l' = [] := by simpa using hm
    rw [this]; simp
end Go.Proofs.YtbepbjbbhenphaaDoor
