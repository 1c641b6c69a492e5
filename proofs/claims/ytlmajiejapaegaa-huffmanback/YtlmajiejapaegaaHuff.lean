/-
  The mathematics of the chapter on codes, no walk in it: the first codes of each length, a symbol's code, that no code begins another one, and that full lengths leave no gap.
-/
import Derived.WalkKit
namespace Go.Proofs.Ytlmajiejapaegaa
set_option linter.unusedVariables false
/-- The codes of n bits or fewer, each as many as it leaves below it with n bits. -/
def part (ls : List Nat) : Nat → Nat
  | 0 => 0
  | n + 1 => 2 * part ls n + ls.count (n + 1)
/-- The first code of n bits. -/
def first (ls : List Nat) : Nat → Nat
  | 0 => 0
  | n + 1 => 2 * part ls n
/-- The code of symbol i, of n bits. -/
def code (ls : List Nat) (i n : Nat) : Nat := first ls n + (ls.take i).count n
/-- The sum. -/
def kr : List Nat → Nat
  | [] => 0
  | l :: ls => (if l = 0 then 0 else 2 ^ (15 - l)) + kr ls
theorem first_le (ls : List Nat) : ∀ n, 0 < n → part ls n = first ls n + ls.count n
  | 0, h => by omega
  | n + 1, _ => rfl
theorem part_cons (l : Nat) (ls : List Nat) : ∀ n, part (l :: ls) n = part ls n + (if 0 < l ∧ l ≤ n then 2 ^ (n - l) else 0)
  | 0 => by
    rw [if_neg (by omega)]; rfl
  | n + 1 => by
    have ih := part_cons l ls n
    rw [part, part, ih, List.count_cons]
    by_cases h : l = n + 1
    · have e1 : (if 0 < l ∧ l ≤ n then 2 ^ (n - l) else 0) = 0 := if_neg (by omega)
      have e2 : (if 0 < l ∧ l ≤ n + 1 then 2 ^ (n + 1 - l) else 0) = 1 := by rw [if_pos (by omega), h, Nat.sub_self, Nat.pow_zero]
      have e3 : (if (l == n + 1) = true then 1 else 0) = 1 := if_pos (by rw [beq_iff_eq]; exact h)
      rw [e1, e2, e3]; omega
    · have e3 : (if (l == n + 1) = true then 1 else 0) = 0 := if_neg (by rw [beq_iff_eq]; exact h)
      by_cases h2 : 0 < l ∧ l ≤ n
      · have e1 : (if 0 < l ∧ l ≤ n then 2 ^ (n - l) else 0) = 2 ^ (n - l) := if_pos h2
        have e2 : (if 0 < l ∧ l ≤ n + 1 then 2 ^ (n + 1 - l) else 0) = 2 ^ (n - l) * 2 := by rw [if_pos (by omega), show n + 1 - l = (n - l) + 1 by omega, Nat.pow_succ]
        rw [e1, e2, e3]; omega
      · have e1 : (if 0 < l ∧ l ≤ n then 2 ^ (n - l) else 0) = 0 := if_neg h2
        have e2 : (if 0 < l ∧ l ≤ n + 1 then 2 ^ (n + 1 - l) else 0) = 0 := if_neg (by omega)
        rw [e1, e2, e3]; omega
theorem part_nil : ∀ n, part [] n = 0
  | 0 => rfl
  | n + 1 => by rw [part, part_nil n]; rfl
theorem kr_part : ∀ {ls : List Nat}, (∀ l ∈ ls, l ≤ 15) → kr ls = part ls 15
  | [], _ => (part_nil 15).symm
  | l :: ls, h => by
    have ih := kr_part (ls := ls) (fun x hx => h x (by simp [hx]))
    have hl := h l (by simp)
    rw [part_cons, kr, ih]
    by_cases h0 : l = 0
    · rw [if_pos h0, if_neg (by omega)]; omega
    · rw [if_neg h0, if_pos (by omega)]; omega
theorem part_up (ls : List Nat) (n : Nat) : ∀ d, part ls n * 2 ^ d ≤ part ls (n + d)
  | 0 => by simp
  | d + 1 => by
    have ih := part_up ls n d
    have : n + (d + 1) = (n + d) + 1 := by omega
    rw [this, part, Nat.pow_succ, ← Nat.mul_assoc]
    omega
theorem part_fits {ls : List Nat} (h : part ls 15 ≤ 32768) {n : Nat} (hn : n ≤ 15) : part ls n ≤ 2 ^ n := by
  have h1 := part_up ls n (15 - n)
  rw [show n + (15 - n) = 15 by omega] at h1
  have h2 : (2 : Nat) ^ n * 2 ^ (15 - n) = 32768 := by rw [← Nat.pow_add, show n + (15 - n) = 15 by omega]
  have h3 : 0 < (2 : Nat) ^ (15 - n) := Nat.pow_pos (by decide)
  apply Decidable.byContradiction
  intro hc
  have h4 : (2 ^ n + 1) * 2 ^ (15 - n) ≤ part ls n * 2 ^ (15 - n) := Nat.mul_le_mul_right _ (by omega)
  rw [Nat.add_mul, h2] at h4
  omega
/-- How many of one length stand ahead: fewer than all. -/
theorem rank_lt {ls : List Nat} {i n : Nat} (h : ls[i]? = some n) : (ls.take i).count n < ls.count n := by
  have hi := (List.getElem?_eq_some_iff.1 h).1
  have e : ls = ls.take i ++ n :: ls.drop (i + 1) := by
    have h1 : ls.drop i = n :: ls.drop (i + 1) := by
      rw [List.drop_eq_getElem_cons hi]
      have := (List.getElem?_eq_some_iff.1 h).2
      rw [this]
    rw [← h1, List.take_append_drop]
  have h2 : ls.count n = (ls.take i).count n + (n :: ls.drop (i + 1)).count n := by
    rw [← List.count_append, ← e]
  rw [h2, List.count_cons_self]
  omega
theorem rank_step {ls : List Nat} {i n : Nat} (h : ls[i]? = some n) (m : Nat) : (ls.take (i + 1)).count m = (ls.take i).count m + (if n = m then 1 else 0) := by
  rw [List.take_add_one, h]
  simp only [Option.toList_some, List.count_append, List.count_cons, List.count_nil, Nat.zero_add]
  by_cases e : n = m
  · subst e; simp
  · simp [e]
theorem rank_mono {ls : List Nat} {i j : Nat} (m : Nat) (h : i ≤ j) : (ls.take i).count m ≤ (ls.take j).count m := by
  have e : ls.take i = (ls.take j).take i := by rw [List.take_take, Nat.min_eq_left h]
  rw [e]
  exact List.Sublist.count_le _ (List.take_sublist _ _)
theorem rank_inj {ls : List Nat} {i j n : Nat} (hi : ls[i]? = some n) (hj : ls[j]? = some n) (h : (ls.take i).count n = (ls.take j).count n) : i = j := by
  rcases Nat.lt_trichotomy i j with hlt | e | hlt
  · have h1 := rank_step hi n
    have h2 := rank_mono (ls := ls) n (show i + 1 ≤ j by omega)
    rw [if_pos rfl] at h1
    omega
  · exact e
  · have h1 := rank_step hj n
    have h2 := rank_mono (ls := ls) n (show j + 1 ≤ i by omega)
    rw [if_pos rfl] at h1
    omega
theorem rank_find {n : Nat} : ∀ {ls : List Nat} {r : Nat}, r < ls.count n → ∃ i, ls[i]? = some n ∧ (ls.take i).count n = r
  | [], r, h => by simp at h
  | l :: ls, r, h => by
    rw [List.count_cons] at h
    by_cases e : l = n
    · subst e
      cases r with
      | zero => exact ⟨0, rfl, by simp⟩
      | succ r =>
        obtain ⟨i, h1, h2⟩ := rank_find (ls := ls) (r := r) (by simp at h; omega)
        exact ⟨i + 1, by simpa using h1, by rw [List.take_succ_cons, List.count_cons_self, h2]⟩
    · have hb : (l == n) = false := by rw [beq_eq_false_iff_ne]; exact e
      rw [hb] at h
      obtain ⟨i, h1, h2⟩ := rank_find (ls := ls) (r := r) (by simpa using h)
      exact ⟨i + 1, by simpa using h1, by rw [List.take_succ_cons, List.count_cons, h2, hb]; simp⟩
theorem code_lt {ls : List Nat} {i n : Nat} (h : ls[i]? = some n) (h0 : 0 < n) : first ls n ≤ code ls i n ∧ code ls i n < part ls n := by
  have h1 := rank_lt h
  have h2 := first_le ls n h0
  unfold code
  omega
theorem code_fits {ls : List Nat} {i n : Nat} (hk : part ls 15 ≤ 32768) (h : ls[i]? = some n) (h0 : 0 < n) (hn : n ≤ 15) : code ls i n < 2 ^ n := by
  have h1 := code_lt h h0
  have h2 := part_fits hk hn
  omega
/-- Codes of one length rise by one with the symbols. -/
theorem code_next {ls : List Nat} {i j n : Nat} (hi : ls[i]? = some n) (hj : ls[j]? = some n) (hij : i < j) (hno : ∀ k, i < k → k < j → ls[k]? ≠ some n) : code ls j n = code ls i n + 1 := by
  have key : ∀ d, i + 1 + d ≤ j → (ls.take (i + 1 + d)).count n = (ls.take i).count n + 1 := by
    intro d
    induction d with
    | zero => intro _; have := rank_step hi n; rw [if_pos rfl] at this; exact this
    | succ d ih =>
      intro hd
      have hjl := (List.getElem?_eq_some_iff.1 hj).1
      obtain ⟨m, hm⟩ : ∃ m, ls[i + 1 + d]? = some m := ⟨_, List.getElem?_eq_getElem (by omega)⟩
      have hne : m ≠ n := fun e => hno (i + 1 + d) (by omega) (by omega) (by rw [hm, e])
      have := rank_step hm n
      rw [if_neg hne] at this
      rw [show i + 1 + (d + 1) = i + 1 + d + 1 by omega, this, ih (by omega)]
  have := key (j - (i + 1)) (by omega)
  rw [show i + 1 + (j - (i + 1)) = j by omega] at this
  unfold code
  omega
theorem div_pow_le {a b d : Nat} (h : a * 2 ^ d ≤ b) : a ≤ b / 2 ^ d := (Nat.le_div_iff_mul_le (Nat.pow_pos (by decide))).2 h
/-- No code begins another one. -/
theorem code_apart {ls : List Nat} {i j n m : Nat} (hi : ls[i]? = some n) (hj : ls[j]? = some m) (hn : 0 < n) (hnm : n ≤ m) (h : code ls j m / 2 ^ (m - n) = code ls i n) : i = j := by
  rcases Nat.lt_or_ge n m with hlt | hge
  · exfalso
    have h1 := (code_lt hi hn).2
    have h2 := (code_lt hj (by omega)).1
    obtain ⟨d, rfl⟩ : ∃ d, m = n + d + 1 := ⟨m - n - 1, by omega⟩
    have h3 := part_up ls n d
    have h4 : part ls n * 2 ^ (d + 1) ≤ code ls j (n + d + 1) := by
      have : first ls (n + d + 1) = 2 * part ls (n + d) := rfl
      rw [Nat.pow_succ, ← Nat.mul_assoc]
      omega
    have h5 := div_pow_le h4
    rw [show n + d + 1 - n = d + 1 by omega] at h
    omega
  · have e : n = m := by omega
    subst e
    rw [Nat.sub_self, Nat.pow_zero, Nat.div_one] at h
    unfold code at h
    exact (rank_inj hj hi (by omega)).symm
/-- Below the codes there is no gap. -/
theorem code_covers (ls : List Nat) : ∀ (n v : Nat), v < part ls n → ∃ i m, 0 < m ∧ m ≤ n ∧ ls[i]? = some m ∧ code ls i m = v / 2 ^ (n - m)
  | 0, v, h => by simp [part] at h
  | n + 1, v, h => by
    rcases Nat.lt_or_ge v (2 * part ls n) with hlt | hge
    · obtain ⟨i, m, h1, h2, h3, h4⟩ := code_covers ls n (v / 2) (by omega)
      refine ⟨i, m, h1, by omega, h3, ?_⟩
      rw [h4, Nat.div_div_eq_div_mul, show n + 1 - m = (n - m) + 1 by omega, Nat.pow_succ, Nat.mul_comm]
    · have hr : v - 2 * part ls n < ls.count (n + 1) := by rw [part] at h; omega
      obtain ⟨i, h1, h2⟩ := rank_find hr
      refine ⟨i, n + 1, by omega, Nat.le_refl _, h1, ?_⟩
      rw [Nat.sub_self, Nat.pow_zero, Nat.div_one]
      unfold code
      rw [h2]
      show 2 * part ls n + _ = v
      omega
end Go.Proofs.Ytlmajiejapaegaa
