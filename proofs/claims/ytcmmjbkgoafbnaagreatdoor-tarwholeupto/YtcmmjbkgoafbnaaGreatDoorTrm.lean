/-
  Records: their digits, what is cut. No walk.
-/
import Derived.Test.YtcmmjbkgoafbnaaGreatDoorTmb
namespace Go.Proofs.YtcmmjbkgoafbnaaGreatDoor
set_option linter.unusedVariables false
theorem num_append (v : Nat) (l m : List Nat) : num v (l ++ m) = num (num v l) m := by
  induction l generalizing v with
  | nil => rfl
  | cons x r ih => exact ih _
theorem take_more2 {b : List Nat} {d x : Nat} (hx : b[d]? = some x) : b.take (d + 1) = b.take d ++ [x] := by
  obtain ⟨h1, h2⟩ := List.getElem?_eq_some_iff.1 hx
  rw [List.take_succ_eq_append_getElem h1, h2]
theorem num_more {b : List Nat} {d x : Nat} (hx : b[d]? = some x) : num 0 (b.take (d + 1)) = 10 * num 0 (b.take d) + (x - 48) := by
  rw [take_more2 hx, num_append]; rfl
theorem num_lt (l : List Nat) : ∀ (v : Nat), (∀ x ∈ l, x ≤ 57) → num v l < (v + 1) * 10 ^ l.length := by
  induction l with
  | nil => intro v _; show v < (v + 1) * 10 ^ 0; simp
  | cons x r ih =>
    intro v h
    have hx := h x (by simp)
    have ih := ih (10 * v + (x - 48)) fun y hy => h y (List.mem_cons_of_mem _ hy)
    show num (10 * v + (x - 48)) r < _
    rw [List.length_cons, Nat.pow_succ]
    have h2 : (10 * v + (x - 48) + 1) * 10 ^ r.length ≤ ((v + 1) * 10) * 10 ^ r.length := Nat.mul_le_mul_right _ (by omega)
    rw [Nat.mul_comm (10 ^ r.length) 10, ← Nat.mul_assoc]
    omega
theorem isd_true {x : Nat} : isd x = true ↔ 48 ≤ x ∧ x ≤ 57 := by simp [isd]
theorem isd_false {x : Nat} : isd x = false ↔ ¬ (48 ≤ x ∧ x ≤ 57) := by simp only [isd, decide_eq_false_iff_not]
/-- The first d bytes are digits, and no more are, or no more are looked at. -/
def Dg (b : List Nat) (d : Nat) : Prop := d ≤ b.length ∧ ∀ (i x : Nat), i < d → b[i]? = some x → isd x = true
theorem dg_zero (b : List Nat) : Dg b 0 := ⟨Nat.zero_le _, fun i x h => by omega⟩
theorem Dg.more {b : List Nat} {d x : Nat} (h : Dg b d) (hx : b[d]? = some x) (hd : isd x = true) : Dg b (d + 1) := by
  refine ⟨(List.getElem?_eq_some_iff.1 hx).1, fun i y hi hy => ?_⟩
  by_cases e : i = d
  · subst e; rw [hx] at hy; cases hy; exact hd
  · exact h.2 i y (by omega) hy
theorem Dg.le : ∀ {b : List Nat} {d : Nat}, Dg b d → d ≤ (b.takeWhile isd).length
  | b, 0, _ => Nat.zero_le _
  | [], d + 1, h => by have := h.1; simp at this
  | x :: r, d + 1, h => by
    have h0 := h.2 0 x (by omega) rfl
    have h1 : Dg r d := ⟨by have := h.1; simp at this; omega, fun i y hi hy => h.2 (i + 1) y (by omega) (by simpa using hy)⟩
    rw [List.takeWhile_cons, if_pos h0, List.length_cons]
    have := Dg.le h1
    omega
theorem Dg.stop : ∀ {b : List Nat} {d : Nat}, Dg b d → (∀ x, b[d]? = some x → isd x = false) → (b.takeWhile isd).length = d
  | [], d, h, _ => by have := h.1; simp at this; subst this; rfl
  | x :: r, 0, h, k => by rw [List.takeWhile_cons, if_neg (by rw [k x rfl]; decide)]; rfl
  | x :: r, d + 1, h, k => by
    have h0 := h.2 0 x (by omega) rfl
    have h1 : Dg r d := ⟨by have := h.1; simp at this; omega, fun i y hi hy => h.2 (i + 1) y (by omega) (by simpa using hy)⟩
    rw [List.takeWhile_cons, if_pos h0, List.length_cons, Dg.stop h1 (fun y hy => k y (by simpa using hy))]
theorem Dg.bound {b : List Nat} {d : Nat} (h : Dg b d) : num 0 (b.take d) < 10 ^ d := by
  have := num_lt (b.take d) 0 fun x hx => by
    obtain ⟨i, hi⟩ := List.getElem?_of_mem hx
    rw [List.getElem?_take] at hi
    split at hi
    · rename_i hid
      exact (isd_true.1 (h.2 i x hid hi)).2
    · cases hi
  rw [List.length_take, Nat.min_eq_left h.1] at this
  simpa using this
theorem Dg.digit {b : List Nat} {d i x : Nat} (h : Dg b d) (hi : i < d) (hx : b[i]? = some x) : 48 ≤ x ∧ x ≤ 57 := isd_true.1 (h.2 i x hi hx)
/-- What is cut, by the digits that are looked at (four at most). -/
theorem tcut_eq {b : List Nat} {d : Nat} (h : Dg b d) (h4 : d ≤ 4) (hs : d = 4 ∨ d = b.length ∨ ∃ x, b[d]? = some x ∧ isd x = false) :
    tcut b = if num 0 (b.take d) < d + 2 ∨ b.length < num 0 (b.take d) ∨ b[d]? ≠ some 32 ∨ b[num 0 (b.take d) - 1]? ≠ some 10 then none else some ((b.take (num 0 (b.take d) - 1)).drop (d + 1), num 0 (b.take d)) := by
  unfold tcut
  simp only
  by_cases hq : ∀ x, b[d]? = some x → isd x = false
  · rw [h.stop hq]
    by_cases h0 : d = 0
    · subst h0
      have hz : num 0 (b.take 0) < 0 + 2 := by rw [List.take_zero]; show 0 < 2; decide
      rw [if_pos (Or.inl rfl), if_pos (Or.inl hz)]
    · have e : (d = 0 ∨ 4 < d ∨ num 0 (b.take d) < d + 2 ∨ b.length < num 0 (b.take d) ∨ b[d]? ≠ some 32 ∨ b[num 0 (b.take d) - 1]? ≠ some 10) ↔ (num 0 (b.take d) < d + 2 ∨ b.length < num 0 (b.take d) ∨ b[d]? ≠ some 32 ∨ b[num 0 (b.take d) - 1]? ≠ some 10) := by
        constructor
        · rintro (q | q | q)
          · omega
          · omega
          · exact q
        · intro q; exact Or.inr (Or.inr q)
      simp only [e]
  · obtain ⟨x, hx⟩ : ∃ x, b[d]? = some x ∧ isd x = true := by
      refine Classical.byContradiction fun hc => hq fun x hx => ?_
      cases e : isd x with
      | false => rfl
      | true => exact absurd ⟨x, hx, e⟩ hc
    have h5 := (h.more hx.1 hx.2).le
    have hd4 : d = 4 := by
      rcases hs with q | q | ⟨y, q1, q2⟩
      · exact q
      · have := (List.getElem?_eq_some_iff.1 hx.1).1; omega
      · rw [hx.1] at q1; cases q1; rw [hx.2] at q2; cases q2
    rw [if_pos (Or.inr (Or.inl (by omega)))]
    have hne : b[d]? ≠ some 32 := by
      rw [hx.1]
      intro e
      cases e
      have := isd_true.1 hx.2
      omega
    rw [if_pos (Or.inr (Or.inr (Or.inl hne)))]
theorem tcut_len {b x : List Nat} {n : Nat} (h : tcut b = some (x, n)) : 2 ≤ n ∧ n ≤ b.length ∧ ∀ y ∈ x, y ∈ b := by
  unfold tcut at h
  simp only at h
  split at h
  · cases h
  · rename_i hn
    simp only [not_or] at hn
    simp only [Option.some.injEq, Prod.mk.injEq] at h
    obtain ⟨rfl, rfl⟩ := h
    exact ⟨by omega, by omega, fun y hy => List.mem_of_mem_take (List.mem_of_mem_drop hy)⟩
/-- The records, one more of them. -/
theorem trs_fuel : ∀ (f g : Nat) (b : List Nat) (c : Cm), b.length ≤ f → b.length ≤ g → trs f b c = trs g b c
  | 0, 0, b, c, _, _ => rfl
  | 0, g + 1, b, c, h, _ => by
    have : b = [] := List.length_eq_zero_iff.1 (by omega)
    subst this; simp [trs]
  | f + 1, 0, b, c, _, h => by
    have : b = [] := List.length_eq_zero_iff.1 (by omega)
    subst this; simp [trs]
  | f + 1, g + 1, b, c, h1, h2 => by
    unfold trs
    split
    · rfl
    · split
      · rfl
      · rename_i k v n hr
        have := (trc_mem hr).2.2
        split
        · rfl
        · exact trs_fuel f g _ _ (by rw [List.length_drop]; omega) (by rw [List.length_drop]; omega)
theorem trr_nil (c : Cm) : trr [] c = (c, 0) := rfl
theorem trr_none {b : List Nat} {c : Cm} (h0 : b ≠ []) (h : trc b = none) : trr b c = (c, 49) := by
  unfold trr
  obtain ⟨f, hf⟩ : ∃ f, b.length = f + 1 := ⟨b.length - 1, by have := List.length_pos_iff.2 h0; omega⟩
  rw [hf, trs, if_neg h0, h]
theorem trr_some {b k v : List Nat} {n : Nat} {c : Cm} (h : trc b = some (k, v, n)) : trr b c = if (tset k v c).2 ≠ 0 then tset k v c else trr (b.drop n) (tset k v c).1 := by
  have hm := (trc_mem h).2.2
  have h0 : b ≠ [] := fun e => by rw [e] at hm; simp at hm; omega
  unfold trr
  obtain ⟨f, hf⟩ : ∃ f, b.length = f + 1 := ⟨b.length - 1, by omega⟩
  rw [hf, trs, if_neg h0, h]
  simp only
  rw [trs_fuel f (b.drop n).length (b.drop n) _ (by rw [List.length_drop]; omega) (Nat.le_refl _)]
theorem trc_of {b x : List Nat} {n : Nat} (h : tcut b = some (x, n)) : trc b = match teq x with
    | none => none
    | some (k, v) => some (k, v, n) := by unfold trc; rw [h] <;> rfl
theorem trc_cut {b : List Nat} (h : tcut b = none) : trc b = none := by unfold trc; rw [h]
theorem teq_none {x : List Nat} (h : 61 ∉ x) : teq x = none := by unfold teq; rw [if_neg h]
theorem teq_at {x : List Nat} {i : Nat} (h : x[i]? = some 61) (hp : ∀ j y, j < i → x[j]? = some y → y ≠ 61) : teq x = some (x.take i, x.drop (i + 1)) := by
  have hi := (List.getElem?_eq_some_iff.1 h).1
  have e : x = x.take i ++ 61 :: x.drop (i + 1) := by
    conv => lhs; rw [← List.take_append_drop i x]
    rw [List.drop_eq_getElem_cons hi, (List.getElem?_eq_some_iff.1 h).2]
  have tw : x.takeWhile (fun y => y != 61) = x.take i := by
    rw [e]
    rw [List.takeWhile_append_of_pos (fun y hy => by
      obtain ⟨j, hj⟩ := List.getElem?_of_mem hy
      rw [List.getElem?_take] at hj
      split at hj
      · rename_i hji; have := hp j y hji hj; simpa using this
      · cases hj)]
    rw [← e]
    simp
  unfold teq
  rw [if_pos (by rw [e]; simp), tw, List.length_take, Nat.min_eq_left (by omega)]
end Go.Proofs.YtcmmjbkgoafbnaaGreatDoor
