/-
  How the inflater stands beside the document's run, whatever was called. No walk in this text.
-/
import Derived.Test.YtikdpnpkmmmacaaDoorPTim
import Derived.Test.YtikdpnpkmmmacaaDoorMr
namespace Go.Proofs.YtikdpnpkmmmacaaDoor
open Go.RowKit
set_option linter.unusedVariables false
theorem give_bad {M : Nat} {k : St} {b p y : Nat} {c : Cfg} (h : (give M k b p c).st = .bad y) (hk : ∀ z, k ≠ .bad z) : y ≠ 1 := by
  unfold give at h
  split at h
  · exact absurd h (hk y)
  · cases h; decide
theorem ite_bad {p : Prop} [Decidable p] {n y : Nat} {k : St} (h : (if p then St.bad n else k) = .bad y) (hn : n ≠ 1) (hk : ∀ z, k = .bad z → z ≠ 1) : y ≠ 1 := by
  split at h
  · cases h; exact hn
  · exact hk y h
theorem ite_bad' {p : Prop} [Decidable p] {n y : Nat} {k : St} (h : (if p then k else St.bad n) = .bad y) (hn : n ≠ 1) (hk : ∀ z, k = .bad z → z ≠ 1) : y ≠ 1 := by
  split at h
  · exact hk y h
  · cases h; exact hn
/-- No step says 'cut off'. -/
theorem step_bad {bs : List Bool} {N : Nat} {c d : Cfg} (h : step bs N c = some d) {y : Nat} (hy : d.st = .bad y) : y ≠ 1 := by
  obtain ⟨st, pos, out, times⟩ := c
  unfold step at h
  cases st using St.el with
  | head last =>
    cases last with
    | true => cases h; cases hy
    | false =>
      obtain ⟨v, _, rfl⟩ := Option.map_eq_some_iff.1 h
      simp only [] at hy
      split at hy <;> cases hy
      decide
  | slen last => obtain ⟨v, _, rfl⟩ := Option.map_eq_some_iff.1 h; cases hy
  | snot last l => obtain ⟨v, _, rfl⟩ := Option.map_eq_some_iff.1 h; exact ite_bad' hy (by decide) (fun z e => by cases e)
  | sraw last n =>
    cases n with
    | zero => cases h; cases hy
    | succ n => obtain ⟨v, _, rfl⟩ := Option.map_eq_some_iff.1 h; exact give_bad hy (fun z e => by cases e)
  | dnum last => obtain ⟨v, _, rfl⟩ := Option.map_eq_some_iff.1 h; exact ite_bad hy (by decide) (fun z e => by cases e)
  | dfst last a b k i first =>
    simp only [] at h
    split at h
    · obtain ⟨v, _, rfl⟩ := Option.map_eq_some_iff.1 h; cases hy
    · cases h; exact ite_bad' hy (by decide) (fun z e => by cases e)
  | dsym last a b code l =>
    simp only [] at h
    split at h
    · split at h
      · cases h
      · cases h; cases hy; decide
      · cases h
        simp only [] at hy
        split at hy
        · cases hy
        · exact ite_bad hy (by decide) (fun z e => by cases e)
    · cases h; exact ite_bad hy (by decide) (fun z e => by cases e)
  | drep last a b code l s => obtain ⟨v, _, rfl⟩ := Option.map_eq_some_iff.1 h; exact ite_bad hy (by decide) (fun z e => by cases e)
  | sym last lit di =>
    simp only [] at h
    split at h
    · cases h
    · cases h; cases hy; decide
    · split at h
      · cases h; exact give_bad hy (fun z e => by cases e)
      · cases h
        simp only [] at hy
        split at hy
        · cases hy
        · exact ite_bad hy (by decide) (fun z e => by cases e)
  | lext last lit di s => obtain ⟨v, _, rfl⟩ := Option.map_eq_some_iff.1 h; cases hy
  | dist last lit di n =>
    simp only [] at h
    split at h
    · cases h
    · cases h; cases hy; decide
    · cases h; exact ite_bad hy (by decide) (fun z e => by cases e)
  | dext last lit di n x => obtain ⟨v, _, rfl⟩ := Option.map_eq_some_iff.1 h; exact ite_bad hy (by decide) (fun z e => by cases e)
  | copy last lit di n d =>
    cases n with
    | zero => cases h; cases hy
    | succ n => cases h; exact give_bad hy (fun z e => by cases e)
  | done => cases h
  | bad y => cases h
theorem runs_bad {bs : List Bool} {N : Nat} {c d : Cfg} (h : Runs bs N c d) (hc : ∀ y, c.st = .bad y → y ≠ 1) : ∀ y, d.st = .bad y → y ≠ 1 := by
  induction h using Runs.el with
  | refl => exact hc
  | cons h1 _ ih => exact ih fun y hy => step_bad h1 hy
theorem why_endp {c : Cfg} (h : Over c) (hy : ∀ y, c.st = .bad y → y ≠ 0) (h1 : ∀ y, c.st = .bad y → y ≠ 1) : (endC c = true ∧ whyC c = 0) ∨ (endC c = false ∧ whyC c ≠ 0 ∧ whyC c ≠ 1) := by
  unfold endC whyC
  rcases h with e | ⟨y, e⟩
  · rw [e]; exact Or.inl ⟨rfl, rfl⟩
  · rw [e]; exact Or.inr ⟨rfl, hy y e, h1 y e⟩
theorem Inf.why_nep {w : World} {B D b R : Nat} {I : List Nat} {M : Nat} {c : Cfg} (h : Inf w B D b R I M c .over) : ∀ y, c.st = .bad y → y ≠ 0 := by
  obtain ⟨_, f, h3⟩ := h
  intro y hy
  rcases h3.how with ⟨e, _⟩ | ⟨y', e, _, _, h6⟩
  · rw [e] at hy; cases hy
  · rw [e] at hy; cases hy; exact h6
/-- How the inflater stands beside the document's run z: o: what was told; t: was an end said? -/
def Sy (z c : Cfg) (q : Md) (o : List Nat) (t : Bool) : Prop :=
  (∃ x, q = .wait x ∧ c.out = o ++ [x] ∧ (o ++ [x]) <+: z.out ∧ t = false)
  ∨ (q = .want ∧ c.out = o ∧ z.out = o ∧ endC z = false ∧ whyC z = 1 ∧ t = false)
  ∨ (q = .over ∧ c = z ∧ z.out = o ∧ t = false ∧ ((endC z = true ∧ whyC z = 0) ∨ (endC z = false ∧ whyC z ≠ 0 ∧ whyC z ≠ 1)))
  ∨ (q = .shut ∧ c.out = o ∧ z.out = o ∧ endC z = false ∧ whyC z = 1 ∧ t = true)
section
variable {w : World} {B D b R : Nat} {I : List Nat} {M N : Nat} {c z : Cfg} {q : Md}
theorem inf_le (h : Inf w B D b R I M c q) (hN : N ≤ M) (hz : Stands I N z) (h62 : whyC z ≠ 62) : c.out.length ≤ N := by
  rcases runs_fewer h.1 hN (Nat.zero_le _) (Nat.zero_le _) with ⟨_, q⟩ | ⟨e, q1, q2, _, _, q, _⟩
  · exact q
  · exfalso
    have hs : step (allb I) N e = none := by unfold step; rw [q2]
    have he := hz.one ⟨q1, hs⟩
    apply h62
    rw [he]
    unfold whyC
    rw [q2]
theorem sy_of {o : List Nat} (h : Inf w B D b R I M c q) (hN : N ≤ M) (hz : Stands I N z) (h62 : whyC z ≠ 62) (hp : Pd o c q) : Sy z c q o false := by
  have hle := inf_le h hN hz h62
  rcases hp with ⟨x, rfl, e⟩ | ⟨rfl | rfl, e⟩
  · refine Or.inl ⟨x, rfl, e, ?_, rfl⟩
    have hr := runs_pre (B := I) (i := I.length) (c := c) (by rw [List.take_length]; exact h.1) hN hle hz
    have hp : c.pos ≤ (allb I).length := runs_ends h.1 (Nat.zero_le _)
    have := runs_out hr hp
    rwa [e] at this
  · have hs := h.stands_over (N := N) hN hle
    have he := hs.one hz
    subst he
    exact Or.inr (Or.inr (Or.inl ⟨rfl, rfl, e, rfl, why_endp h.over_st h.why_nep (runs_bad h.1 (fun y hy => by cases hy))⟩))
  · obtain ⟨z1, h1, h2, h3⟩ := h.stands (N := N) hN hle
    have he := h1.one hz
    subst he
    obtain ⟨_, h5, h6⟩ := open_at (L := 0) h3
    exact Or.inr (Or.inl ⟨rfl, e, by rw [h2, e], h6, h5, rfl⟩)
end
end Go.Proofs.YtikdpnpkmmmacaaDoor
