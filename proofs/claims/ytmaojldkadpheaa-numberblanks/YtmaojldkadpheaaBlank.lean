/-
  Octal digits with blanks ahead and padding behind: what they read, and that an 8 behind them makes the field none: no walk in it.
-/
import Derived.Test.YtmaojldkadpheaaNum
namespace Go.Proofs.Ytmaojldkadpheaa
/-- The number of digits behind a number. -/
def fold (v : Nat) (l : List Nat) : Nat := l.foldl (fun u x => 8 * u + (x - 48)) v
theorem fold_nil (v : Nat) : fold v [] = v := List.foldl_nil
theorem fold_cons (v x : Nat) (r : List Nat) : fold v (x :: r) = fold (8 * v + (x - 48)) r := List.foldl_cons ..
def Digs (l : List Nat) : Prop := ∀ x ∈ l, 48 ≤ x ∧ x ≤ 55
theorem fold_append : ∀ (l m : List Nat) (v : Nat), fold v (l ++ m) = fold (fold v l) m
  | [], m, v => by rw [fold_nil]; rfl
  | x :: r, m, v => by rw [List.cons_append, fold_cons v x (r ++ m), fold_cons v x r, fold_append r m]
theorem fold_lt : ∀ (l : List Nat) (v j : Nat), Digs l → v < 8 ^ j → fold v l < 8 ^ (j + l.length)
  | [], v, j, _, h => by rw [fold_nil]; exact h
  | x :: r, v, j, hd, h => by
    have h1 := hd x (by simp)
    have h2 : 8 * v + (x - 48) < 8 ^ (j + 1) := by rw [Nat.pow_succ]; omega
    have := fold_lt r _ (j + 1) (fun y hy => hd y (by simp [hy])) h2
    rw [fold_cons v x r, List.length_cons, show j + (r.length + 1) = j + 1 + r.length by omega]; exact this
theorem pow_60 {j : Nat} (h : j ≤ 20) : 8 ^ j ≤ 1152921504606846976 := Nat.pow_le_pow_right (n := 8) (by decide) h
theorem digs_fold : ∀ (l R : List Nat) (v j : Nat), Digs l → v < 8 ^ j → j + l.length ≤ 20 → digs v (l ++ R) = digs (fold v l) R
  | [], R, v, _, _, _, _ => by rw [fold_nil]; rfl
  | x :: r, R, v, j, hd, h, hl => by
    have h1 := hd x (by simp)
    have h2 : 8 * v + (x - 48) < 8 ^ (j + 1) := by rw [Nat.pow_succ]; omega
    rw [List.length_cons] at hl
    have h3 := pow_60 (j := j) (by omega)
    have hp : pad x = false := by
      unfold pad
      rw [show (x == 0) = false by rw [beq_eq_false_iff_ne]; omega, show (x == 32) = false by rw [beq_eq_false_iff_ne]; omega]; rfl
    rw [List.cons_append, digs, hp, if_neg (by decide), if_neg (by omega), if_neg (by omega), fold_cons v x r]
    exact digs_fold r R _ (j + 1) (fun y hy => hd y (by simp [hy])) h2 (by omega)
theorem digs_pads (v : Nat) : ∀ Q : List Nat, pads Q = true → digs v Q = some v
  | [], _ => rfl
  | x :: r, h => by
    have h' : (pad x && pads r) = true := h
    rw [Bool.and_eq_true] at h'
    rw [digs, if_pos h'.1, if_pos h'.2]
theorem pads_bad : ∀ Q : List Nat, pads (Q ++ [56]) = false
  | [] => rfl
  | x :: r => by
    show (pad x && pads (r ++ [56])) = false
    rw [pads_bad r, Bool.and_false]
theorem digs_bad (v : Nat) : ∀ Q : List Nat, pads Q = true → digs v (Q ++ [56]) = none
  | [], _ => rfl
  | x :: r, h => by
    have h' : (pad x && pads r) = true := h
    rw [Bool.and_eq_true] at h'
    rw [List.cons_append, digs, if_pos h'.1, pads_bad r, if_neg (by decide)]
theorem skip_blanks (X : List Nat) : ∀ A : Nat, skip (List.replicate A 32 ++ X) = skip X
  | 0 => rfl
  | A + 1 => by rw [List.replicate_succ, List.cons_append, skip, if_pos rfl, skip_blanks X A]
theorem skip_pads : ∀ Q : List Nat, pads Q = true → ∃ Q', pads Q' = true ∧ skip Q = Q' ∧ skip (Q ++ [56]) = Q' ++ [56]
  | [], _ => ⟨[], rfl, rfl, rfl⟩
  | x :: r, h => by
    have h' : (pad x && pads r) = true := h
    rw [Bool.and_eq_true] at h'
    by_cases hx : x = 32
    · obtain ⟨Q', h1, h2, h3⟩ := skip_pads r h'.2
      exact ⟨Q', h1, by rw [skip, if_pos hx, h2], by rw [List.cons_append, skip, if_pos hx, h3]⟩
    · exact ⟨x :: r, h, by rw [skip, if_neg hx], by rw [List.cons_append, skip, if_neg hx]⟩
theorem skip_digs {x : Nat} {r R : List Nat} (h : Digs (x :: r)) : skip (x :: r ++ R) = x :: r ++ R := by
  have := h x (by simp)
  rw [List.cons_append, skip, if_neg (by omega)]
/-- Blanks ahead of digits, and padding behind, change nothing. -/
theorem oct_within (A : Nat) (P Q : List Nat) (hP : Digs P) (hl : P.length ≤ 20) (hQ : pads Q = true) :
    oct (List.replicate A 32 ++ P ++ Q) = some (fold 0 P) ∧ oct (List.replicate A 32 ++ P ++ Q ++ [56]) = none := by
  unfold oct
  rw [List.append_assoc, List.append_assoc, List.append_assoc, skip_blanks, skip_blanks]
  cases P with
  | nil =>
    obtain ⟨Q', h1, h2, h3⟩ := skip_pads Q hQ
    rw [List.nil_append, List.nil_append, h2, h3]
    exact ⟨digs_pads 0 Q' h1, digs_bad 0 Q' h1⟩
  | cons x r =>
    rw [skip_digs hP, skip_digs hP, digs_fold _ _ 0 0 hP (by decide) (by omega), digs_fold _ _ 0 0 hP (by decide) (by omega)]
    exact ⟨digs_pads _ Q hQ, digs_bad _ Q hQ⟩
theorem oct_plain (P : List Nat) (hP : Digs P) (hl : P.length ≤ 20) : oct P = some (fold 0 P) := by
  have := (oct_within 0 P [] hP hl rfl).1
  rwa [List.append_nil] at this
end Go.Proofs.Ytmaojldkadpheaa
