/-
  Codes as lists of bits, first bit first; what a run of bits begins with. No walk in this text.
-/
import Derived.Test.YtlmajiejapaegaaHuff
namespace Go.Proofs.Ytlmajiejapaegaa
set_option linter.unusedVariables false
/-- The number of some bits, the first one highest. -/
def num : List Bool → Nat
  | [] => 0
  | b :: l => (if b then 2 ^ l.length else 0) + num l
/-- A number's lowest n bits, the highest of them first. -/
def bitsB : Nat → Nat → List Bool
  | 0, _ => []
  | n + 1, x => (x / 2 ^ n % 2 == 1) :: bitsB n x
theorem bitsB_len : ∀ n x, (bitsB n x).length = n
  | 0, _ => rfl
  | n + 1, x => by rw [bitsB, List.length_cons, bitsB_len n x]
theorem num_lt : ∀ l : List Bool, num l < 2 ^ l.length
  | [] => by simp [num]
  | b :: l => by
    have := num_lt l
    rw [num, List.length_cons, Nat.pow_succ]
    cases b <;> simp <;> omega
theorem num_bits : ∀ n x, num (bitsB n x) = x % 2 ^ n
  | 0, x => by simp [bitsB, num, Nat.mod_one]
  | n + 1, x => by
    rw [bitsB, num, bitsB_len, num_bits n x, Nat.pow_succ, Nat.mod_mul]
    have h2 : x / 2 ^ n % 2 = 0 ∨ x / 2 ^ n % 2 = 1 := by omega
    rcases h2 with h | h
    · rw [h]; simp
    · rw [h]; simp; omega
theorem num_app : ∀ (l m : List Bool), num (l ++ m) = num l * 2 ^ m.length + num m
  | [], m => by simp [num]
  | b :: l, m => by
    rw [List.cons_append, num, num, num_app l m, List.length_append, Nat.pow_add]
    cases b
    · simp
    · simp [Nat.add_mul]; omega
theorem num_inj : ∀ {l m : List Bool}, l.length = m.length → num l = num m → l = m
  | [], [], _, _ => rfl
  | [], _ :: _, h, _ => by simp at h
  | _ :: _, [], h, _ => by simp at h
  | b :: l, c :: m, h, e => by
    have hl : l.length = m.length := by simpa using h
    have h1 := num_lt l
    have h2 := num_lt m
    rw [num, num, hl] at e
    rw [hl] at h1
    have hbc : b = c := by cases b <;> cases c <;> simp at e ⊢ <;> omega
    subst hbc
    rw [num_inj hl (by omega)]
theorem bits_num {l : List Bool} {n : Nat} (h : l.length = n) : bitsB n (num l) = l := by
  apply num_inj
  · rw [bitsB_len, h]
  · rw [num_bits, ← h, Nat.mod_eq_of_lt (num_lt l)]
/-- A code begins a run of bits. -/
theorem bits_prefix {n x : Nat} {h : List Bool} (hx : x < 2 ^ n) : bitsB n x <+: h ↔ n ≤ h.length ∧ num (h.take n) = x := by
  constructor
  · rintro ⟨r, rfl⟩
    refine ⟨by rw [List.length_append, bitsB_len]; omega, ?_⟩
    rw [List.take_left' (bitsB_len n x), num_bits, Nat.mod_eq_of_lt hx]
  · rintro ⟨h1, h2⟩
    have : bitsB n x = h.take n := by rw [← h2]; exact bits_num (by rw [List.length_take]; omega)
    rw [this]; exact List.take_prefix _ _
/-- A run of bits begins a code. -/
theorem prefix_bits {m y : Nat} {h : List Bool} (hy : y < 2 ^ m) : h <+: bitsB m y ↔ h.length ≤ m ∧ y / 2 ^ (m - h.length) = num h := by
  constructor
  · rintro ⟨r, hr⟩
    have hlen : h.length + r.length = m := by have := congrArg List.length hr; rw [List.length_append, bitsB_len] at this; exact this
    refine ⟨by omega, ?_⟩
    have hn : num (h ++ r) = y := by rw [hr, num_bits, Nat.mod_eq_of_lt hy]
    rw [num_app] at hn
    rw [← hn, show m - h.length = r.length by omega, Nat.mul_comm, Nat.mul_add_div (Nat.pow_pos (by decide)), Nat.div_eq_of_lt (num_lt r)]
    omega
  · rintro ⟨h1, h2⟩
    refine ⟨bitsB (m - h.length) y, num_inj ?_ ?_⟩
    · rw [List.length_append, bitsB_len, bitsB_len]; omega
    · rw [num_app, bitsB_len, num_bits, num_bits, Nat.mod_eq_of_lt hy, ← h2, Nat.mul_comm]
      exact Nat.div_add_mod y (2 ^ (m - h.length))
/-- The bits of a symbol's code; of one without a code none. -/
def cbits (ls : List Nat) (i : Nat) : List Bool := match ls[i]? with
  | some n => bitsB n (code ls i n)
  | none => []
/-- Symbol i's code, of n bits, begins the run. -/
def Hit (ls : List Nat) (h : List Bool) (i n : Nat) : Prop := ls[i]? = some n ∧ 0 < n ∧ n ≤ h.length ∧ num (h.take n) = code ls i n
/-- The run, and more, is the beginning of a code. -/
def May (ls : List Nat) (h : List Bool) : Prop := ∃ i n, ls[i]? = some n ∧ 0 < n ∧ h.length ≤ n ∧ code ls i n / 2 ^ (n - h.length) = num h
theorem take_num {h : List Bool} {n m : Nat} (hnm : n ≤ m) (hm : m ≤ h.length) : num (h.take n) = num (h.take m) / 2 ^ (m - n) := by
  have e : h.take m = h.take n ++ (h.take m).drop n := by
    have h1 : (h.take m).take n = h.take n := by rw [List.take_take, Nat.min_eq_left hnm]
    rw [← h1, List.take_append_drop]
  have hl : ((h.take m).drop n).length = m - n := by rw [List.length_drop, List.length_take]; omega
  have h2 := num_app (h.take n) ((h.take m).drop n)
  rw [← e, hl] at h2
  have h3 := num_lt ((h.take m).drop n)
  rw [hl] at h3
  rw [h2, Nat.mul_comm, Nat.mul_add_div (Nat.pow_pos (by decide)), Nat.div_eq_of_lt h3]
  omega
theorem hit_one {ls : List Nat} {h : List Bool} {i j n m : Nat} (hi : Hit ls h i n) (hj : Hit ls h j m) : i = j ∧ n = m := by
  obtain ⟨a1, a2, a3, a4⟩ := hi
  obtain ⟨b1, b2, b3, b4⟩ := hj
  have key : i = j := by
    rcases Nat.le_total n m with hnm | hnm
    · exact code_apart a1 b1 a2 hnm (by rw [← b4, ← a4]; exact (take_num hnm b3).symm)
    · exact (code_apart b1 a1 b2 hnm (by rw [← a4, ← b4]; exact (take_num hnm a3).symm)).symm
  subst key
  rw [a1] at b1
  exact ⟨rfl, Option.some.inj b1⟩
theorem hit_prefix {ls : List Nat} {h : List Bool} {i n : Nat} (hk : part ls 15 ≤ 32768) (h15 : ∀ l ∈ ls, l ≤ 15) (hi : ls[i]? = some n) (h0 : 0 < n) : cbits ls i <+: h ↔ Hit ls h i n := by
  unfold cbits
  rw [hi]
  show bitsB n (code ls i n) <+: h ↔ _
  rw [bits_prefix (code_fits hk hi h0 (h15 n (List.mem_of_getElem? hi)))]
  exact ⟨fun ⟨a, b⟩ => ⟨hi, h0, a, b⟩, fun ⟨_, _, a, b⟩ => ⟨a, b⟩⟩
theorem may_prefix {ls : List Nat} {h : List Bool} {i n : Nat} (hk : part ls 15 ≤ 32768) (h15 : ∀ l ∈ ls, l ≤ 15) (hi : ls[i]? = some n) (h0 : 0 < n) : h <+: cbits ls i ↔ h.length ≤ n ∧ code ls i n / 2 ^ (n - h.length) = num h := by
  unfold cbits
  rw [hi]
  show h <+: bitsB n (code ls i n) ↔ _
  exact prefix_bits (code_fits hk hi h0 (h15 n (List.mem_of_getElem? hi)))
/-- Full lengths: every run of bits begins with a code, or begins one. -/
theorem full_any {ls : List Nat} (hk : part ls 15 = 32768) (h : List Bool) : (∃ i n, Hit ls h i n) ∨ (h.length < 15 ∧ May ls h) := by
  rcases Nat.lt_or_ge h.length 15 with hl | hl
  · have hv : num h * 2 ^ (15 - h.length) < part ls 15 := by
      rw [hk]
      have h1 := num_lt h
      have h2 : (2 : Nat) ^ h.length * 2 ^ (15 - h.length) = 32768 := by rw [← Nat.pow_add, show h.length + (15 - h.length) = 15 by omega]
      rw [← h2]
      exact Nat.mul_lt_mul_of_pos_right h1 (Nat.pow_pos (by decide))
    obtain ⟨i, m, h1, h2, h3, h4⟩ := code_covers ls 15 _ hv
    rcases Nat.le_total m h.length with hm | hm
    · left
      refine ⟨i, m, h3, h1, hm, ?_⟩
      have h5 := take_num (h := h) hm (Nat.le_refl _)
      rw [List.take_length] at h5
      rw [h5, h4, show 15 - m = (h.length - m) + (15 - h.length) by omega, Nat.pow_add, Nat.mul_comm (2 ^ (h.length - m)), ← Nat.div_div_eq_div_mul, Nat.mul_div_cancel _ (Nat.pow_pos (by decide))]
    · right
      refine ⟨hl, i, m, h3, h1, hm, ?_⟩
      rw [h4, Nat.div_div_eq_div_mul, ← Nat.pow_add, show 15 - m + (m - h.length) = 15 - h.length by omega, Nat.mul_div_cancel _ (Nat.pow_pos (by decide))]
  · left
    have hv : num (h.take 15) < part ls 15 := by
      rw [hk]
      have := num_lt (h.take 15)
      rw [List.length_take, Nat.min_eq_left hl] at this
      exact this
    obtain ⟨i, m, h1, h2, h3, h4⟩ := code_covers ls 15 _ hv
    exact ⟨i, m, h3, h1, by omega, by rw [take_num h2 hl, h4]⟩
end Go.Proofs.Ytlmajiejapaegaa
