/-
  What a run's fields are like.
-/
import Derived.Test.YtmlkdpoignimaabAwk
import Derived.Test.YtmlkdpoignimaabFeq
namespace Go.Proofs.Ytmlkdpoignimaab
open Go.RowKit
set_option linter.unusedVariables false
theorem flat_mem {F : List Fd} {f : Fd} (h : f ∈ F) : f.2.length ≤ (flat F).length ∧ f.1.length ≤ (flat F).length ∧ (Oct (flat F) → Oct f.1 ∧ Oct f.2) := by
  obtain ⟨i, hi⟩ := List.getElem?_of_mem h
  have e := flat_at hi
  refine ⟨by rw [e]; simp; omega, by rw [e]; simp; omega, fun ho => ?_⟩
  rw [e] at ho
  have h1 := ho.left.right
  exact ⟨h1.left, fun x hx => h1.right x (by simp [hx])⟩
theorem flat_octF {F : List Fd} (h : Oct (flat F)) : OctF F := fun f hf => (flat_mem hf).2.2 h
theorem Ow.empty {w : World} {lo : Nat} (h : lo ≤ w.heap.size) : Ow (w.alloc (.cells #[] 5)) lo 5 1 (.slice (some ⟨w.heap.size, 0, none⟩) 0 0) 0 (ob []) := Ow.made (cs := #[]) h (by decide) rfl
theorem ow_lies {w : World} {lo n : Nat} {v : Value} {l : List Nat} (h : Ow w lo 5 1 v n (ob l)) (hn : l.length = n) : ∃ a c, v = .slice a n c ∧ n ≤ c ∧ Lies w a l ∧ (a = none → n = 0 ∧ c = 0) := by
  obtain ⟨a, c, hv, hc, hq, hn'⟩ := h.shape
  refine ⟨a, c, hv, hc, ?_, hn'⟩
  rcases hq with h0 | ⟨g, ha, _, _, hx, _⟩
  · exact Or.inl (List.eq_nil_of_length_eq_zero (by omega))
  · exact Or.inr ⟨g, 0, ha, fun i x hi => by rw [Nat.zero_add]; exact hx i _ (by rw [ob_get, hi]; rfl)⟩
theorem lies_ob {w : World} {a : Option Addr} {l : List Nat} (h : Lies w a l) : ob l = [] ∨ ∃ b o, a = some ⟨b, o, none⟩ ∧ ∀ (i : Nat) u, (ob l)[i]? = some u → w.cell? ⟨b, o + i, none⟩ = some u := by
  rcases h with rfl | ⟨b, o, ha, hc⟩
  · exact Or.inl rfl
  · refine Or.inr ⟨b, o, ha, fun i u hu => ?_⟩
    rw [ob_get] at hu
    cases hx : l[i]? with
    | none => rw [hx] at hu; simp at hu
    | some x =>
      rw [hx] at hu
      simp at hu
      rw [← hu]; exact hc i x hx
/-- The told fields of a run. -/
theorem rn_flat (most : Nat) : ∀ (l : List Nat) (k : Nat) (F : List Fd) (c : List Nat), Oct (flat F ++ c) → Oct l → F.length ≤ 64 → (flat F ++ c).length ≤ k → OctF (rn most k F c l).fs ∧ (rn most k F c l).fs.length ≤ 64 ∧ (flat (rn most k F c l).fs).length ≤ k + l.length ∧ Oct (flat (rn most k F c l).fs)
  | [], k, F, c => fun ho _ h64 hk => by
    rw [rn_nil]
    show OctF (fin F c).2 ∧ (fin F c).2.length ≤ 64 ∧ (flat (fin F c).2).length ≤ k + 0 ∧ Oct (flat (fin F c).2)
    unfold fin
    split
    · rw [List.length_append] at hk
      exact ⟨flat_octF ho.left, h64, by show (flat F).length ≤ k + 0; omega, ho.left⟩
    · by_cases h0 : (lin F c).1 = 0
      · have := flat_lin h0
        exact ⟨flat_octF (by rw [this]; exact ho), lin_len h64, by rw [this]; exact hk, by rw [this]; exact ho⟩
      · rw [lin_stop h0]
        exact ⟨by simp [OctF], by simp, by simp [flat], by simp [flat, Oct]⟩
  | b :: l, k, F, c => fun ho hl h64 hk => by
    have hnil : OctF ([] : List Fd) ∧ ([] : List Fd).length ≤ 64 ∧ (flat []).length ≤ k + (b :: l).length ∧ Oct (flat []) := ⟨by simp [OctF], by simp, by simp [flat], by simp [flat, Oct]⟩
    have hl2 : Oct l := fun x hx => hl x (by simp [hx])
    rw [rn]
    split
    · exact hnil
    · split
      · split
        · rw [List.length_append] at hk
          exact ⟨flat_octF ho.left, h64, by simp only [List.length_cons]; omega, ho.left⟩
        · split
          · rename_i h0
            have hf := flat_lin h0
            have hd := d13_len c
            have := rn_flat most l (k + 1) (lin F (d13 c)).2 [] (by rw [List.append_nil, hf]; exact ho.left.append (d13_oct ho.right)) hl2 (lin_len h64) (by rw [List.append_nil, hf, List.length_append]; rw [List.length_append] at hk; omega)
            simp only [List.length_cons]
            refine ⟨this.1, this.2.1, by omega, this.2.2.2⟩
          · exact hnil
      · have := rn_flat most l (k + 1) F (c ++ [b]) (by rw [← List.append_assoc]; exact ho.append (fun x hx => by simp at hx; rw [hx]; exact hl b (by simp))) hl2 h64 (by rw [← List.append_assoc, List.length_append, List.length_singleton]; omega)
        simp only [List.length_cons]
        exact ⟨this.1, this.2.1, by omega, this.2.2.2⟩
theorem told_oct {F : List Fd} (h : OctF F) : OctF (told F) := by
  intro f hf
  obtain ⟨g, hg, rfl⟩ := List.mem_map.1 hf
  exact ⟨(h g hg).1, (h g hg).2.trm⟩
theorem rn_oct (most : Nat) {l : List Nat} (h : Oct l) : OctF (told (rn most 0 [] [] l).fs) ∧ (told (rn most 0 [] [] l).fs).length ≤ 64 := by
  have := rn_flat most l 0 [] [] (by simp [flat, Oct]) h (by simp) (by simp [flat])
  exact ⟨told_oct this.1, by rw [told_length]; exact this.2.1⟩
end Go.Proofs.Ytmlkdpoignimaab
