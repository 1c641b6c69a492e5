/-
  Own texts of this seat, one behind the other: what each says stands ahead of it.
-/
import Derived.WalkKit
import Derived.Laws.BitsAllLaws
import Derived.Laws.Bits64
import Derived.Laws.Bits64b
import Derived.WalkSmall
import Derived.Below
import Derived.Deep.Draws
import Derived.Test.YtogednaamndpgaaDoorProg
import Derived.WalkSpells
import Derived.Deep.CutBlock
import Derived.Deep.DeepCutAuto
import Derived.BigQuiet
import Derived.Deep.LoopGhost
import Derived.OwnWalk
import Derived.Laws.AppendOwn
import Derived.WalkMore
/-
  The mathematics of the chapter on codes, no walk in it: the first codes of each length, a symbol's code, that no code begins another one, and that full lengths leave no gap.
-/
namespace Go.Proofs.YtogednaamndpgaaDoor
set_option linter.unusedVariables false
/-- The codes of n bits or fewer, each as many as it leaves below it with n bits. -/
def part (ls : List Nat) : Nat → Nat
  | 0 => 0
  | n + 1 => 2 * part ls n + ls.count (n + 1)
/-- The first code of n bits. -/
def first (ls : List Nat) : Nat → Nat
  | 0 => 0
  | n + 1 => 2 * part ls n
/-- The code of symbol i, of n bits. -/
def code (ls : List Nat) (i n : Nat) : Nat := first ls n + (ls.take i).count n
/-- The sum. -/
def kr : List Nat → Nat
  | [] => 0
  | l :: ls => (if l = 0 then 0 else 2 ^ (15 - l)) + kr ls
theorem first_le (ls : List Nat) : ∀ n, 0 < n → part ls n = first ls n + ls.count n
  | 0, h => by omega
  | n + 1, _ => rfl
theorem part_cons (l : Nat) (ls : List Nat) : ∀ n, part (l :: ls) n = part ls n + (if 0 < l ∧ l ≤ n then 2 ^ (n - l) else 0)
  | 0 => by
    rw [if_neg (by omega)]; rfl
  | n + 1 => by
    have ih := part_cons l ls n
    rw [part, part, ih, List.count_cons]
    by_cases h : l = n + 1
    · have e1 : (if 0 < l ∧ l ≤ n then 2 ^ (n - l) else 0) = 0 := if_neg (by omega)
      have e2 : (if 0 < l ∧ l ≤ n + 1 then 2 ^ (n + 1 - l) else 0) = 1 := by rw [if_pos (by omega), h, Nat.sub_self, Nat.pow_zero]
      have e3 : (if (l == n + 1) = true then 1 else 0) = 1 := if_pos (by rw [beq_iff_eq]; exact h)
      rw [e1, e2, e3]; omega
    · have e3 : (if (l == n + 1) = true then 1 else 0) = 0 := if_neg (by rw [beq_iff_eq]; exact h)
      by_cases h2 : 0 < l ∧ l ≤ n
      · have e1 : (if 0 < l ∧ l ≤ n then 2 ^ (n - l) else 0) = 2 ^ (n - l) := if_pos h2
        have e2 : (if 0 < l ∧ l ≤ n + 1 then 2 ^ (n + 1 - l) else 0) = 2 ^ (n - l) * 2 := by rw [if_pos (by omega), show n + 1 - l = (n - l) + 1 by omega, Nat.pow_succ]
        rw [e1, e2, e3]; omega
      · have e1 : (if 0 < l ∧ l ≤ n then 2 ^ (n - l) else 0) = 0 := if_neg h2
        have e2 : (if 0 < l ∧ l ≤ n + 1 then 2 ^ (n + 1 - l) else 0) = 0 := if_neg (by omega)
        rw [e1, e2, e3]; omega
theorem part_nil : ∀ n, part [] n = 0
  | 0 => rfl
  | n + 1 => by rw [part, part_nil n]; rfl
theorem kr_part : ∀ {ls : List Nat}, (∀ l ∈ ls, l ≤ 15) → kr ls = part ls 15
  | [], _ => (part_nil 15).symm
  | l :: ls, h => by
    have ih := kr_part (ls := ls) (fun x hx => h x (by simp [hx]))
    have hl := h l (by simp)
    rw [part_cons, kr, ih]
    by_cases h0 : l = 0
    · rw [if_pos h0, if_neg (by omega)]; omega
    · rw [if_neg h0, if_pos (by omega)]; omega
theorem part_up (ls : List Nat) (n : Nat) : ∀ d, part ls n * 2 ^ d ≤ part ls (n + d)
  | 0 => by simp
  | d + 1 => by
    have ih := part_up ls n d
    have : n + (d + 1) = (n + d) + 1 := by omega
    rw [this, part, Nat.pow_succ, ← Nat.mul_assoc]
    omega
theorem part_fits {ls : List Nat} (h : part ls 15 ≤ 32768) {n : Nat} (hn : n ≤ 15) : part ls n ≤ 2 ^ n := by
  have h1 := part_up ls n (15 - n)
  rw [show n + (15 - n) = 15 by omega] at h1
  have h2 : (2 : Nat) ^ n * 2 ^ (15 - n) = 32768 := by rw [← Nat.pow_add, show n + (15 - n) = 15 by omega]
  have h3 : 0 < (2 : Nat) ^ (15 - n) := Nat.pow_pos (by decide)
  apply Decidable.byContradiction
  intro hc
  have h4 : (2 ^ n + 1) * 2 ^ (15 - n) ≤ part ls n * 2 ^ (15 - n) := Nat.mul_le_mul_right _ (by omega)
  rw [Nat.add_mul, h2] at h4
  omega
/-- How many of one length stand ahead: fewer than all. -/
theorem rank_lt {ls : List Nat} {i n : Nat} (h : ls[i]? = some n) : (ls.take i).count n < ls.count n := by
  have hi := (List.getElem?_eq_some_iff.1 h).1
  have e : ls = ls.take i ++ n :: ls.drop (i + 1) := by
    have h1 : ls.drop i = n :: ls.drop (i + 1) := by
      rw [List.drop_eq_getElem_cons hi]
      have := (List.getElem?_eq_some_iff.1 h).2
      rw [this]
    rw [← h1, List.take_append_drop]
  have h2 : ls.count n = (ls.take i).count n + (n :: ls.drop (i + 1)).count n := by
    rw [← List.count_append, ← e]
  rw [h2, List.count_cons_self]
  omega
theorem rank_step {ls : List Nat} {i n : Nat} (h : ls[i]? = some n) (m : Nat) : (ls.take (i + 1)).count m = (ls.take i).count m + (if n = m then 1 else 0) := by
  rw [List.take_add_one, h]
  simp only [Option.toList_some, List.count_append, List.count_cons, List.count_nil, Nat.zero_add]
  by_cases e : n = m
  · subst e; simp
  · simp [e]
theorem rank_mono {ls : List Nat} {i j : Nat} (m : Nat) (h : i ≤ j) : (ls.take i).count m ≤ (ls.take j).count m := by
  have e : ls.take i = (ls.take j).take i := by rw [List.take_take, Nat.min_eq_left h]
  rw [e]
  exact List.Sublist.count_le _ (List.take_sublist _ _)
theorem rank_inj {ls : List Nat} {i j n : Nat} (hi : ls[i]? = some n) (hj : ls[j]? = some n) (h : (ls.take i).count n = (ls.take j).count n) : i = j := by
  rcases Nat.lt_trichotomy i j with hlt | e | hlt
  · have h1 := rank_step hi n
    have h2 := rank_mono (ls := ls) n (show i + 1 ≤ j by omega)
    rw [if_pos rfl] at h1
    omega
  · exact e
  · have h1 := rank_step hj n
    have h2 := rank_mono (ls := ls) n (show j + 1 ≤ i by omega)
    rw [if_pos rfl] at h1
    omega
theorem rank_find {n : Nat} : ∀ {ls : List Nat} {r : Nat}, r < ls.count n → ∃ i, ls[i]? = some n ∧ (ls.take i).count n = r
  | [], r, h => by simp at h
  | l :: ls, r, h => by
    rw [List.count_cons] at h
    by_cases e : l = n
    · subst e
      cases r with
      | zero => exact ⟨0, rfl, by simp⟩
      | succ r =>
        obtain ⟨i, h1, h2⟩ := rank_find (ls := ls) (r := r) (by simp at h; omega)
        exact ⟨i + 1, by simpa using h1, by rw [List.take_succ_cons, List.count_cons_self, h2]⟩
    · have hb : (l == n) = false := by rw [beq_eq_false_iff_ne]; exact e
      rw [hb] at h
      obtain ⟨i, h1, h2⟩ := rank_find (ls := ls) (r := r) (by simpa using h)
      exact ⟨i + 1, by simpa using h1, by rw [List.take_succ_cons, List.count_cons, h2, hb]; simp⟩
theorem code_lt {ls : List Nat} {i n : Nat} (h : ls[i]? = some n) (h0 : 0 < n) : first ls n ≤ code ls i n ∧ code ls i n < part ls n := by
  have h1 := rank_lt h
  have h2 := first_le ls n h0
  unfold code
  omega
theorem code_fits {ls : List Nat} {i n : Nat} (hk : part ls 15 ≤ 32768) (h : ls[i]? = some n) (h0 : 0 < n) (hn : n ≤ 15) : code ls i n < 2 ^ n := by
  have h1 := code_lt h h0
  have h2 := part_fits hk hn
  omega
/-- Codes of one length rise by one with the symbols. -/
theorem code_next {ls : List Nat} {i j n : Nat} (hi : ls[i]? = some n) (hj : ls[j]? = some n) (hij : i < j) (hno : ∀ k, i < k → k < j → ls[k]? ≠ some n) : code ls j n = code ls i n + 1 := by
  have key : ∀ d, i + 1 + d ≤ j → (ls.take (i + 1 + d)).count n = (ls.take i).count n + 1 := by
    intro d
    induction d with
    | zero => intro _; have := rank_step hi n; rw [if_pos rfl] at this; exact this
    | succ d ih =>
      intro hd
      have hjl := (List.getElem?_eq_some_iff.1 hj).1
      obtain ⟨m, hm⟩ : ∃ m, ls[i + 1 + d]? = some m := ⟨_, List.getElem?_eq_getElem (by omega)⟩
      have hne : m ≠ n := fun e => hno (i + 1 + d) (by omega) (by omega) (by rw [hm, e])
      have := rank_step hm n
      rw [if_neg hne] at this
      rw [show i + 1 + (d + 1) = i + 1 + d + 1 by omega, this, ih (by omega)]
  have := key (j - (i + 1)) (by omega)
  rw [show i + 1 + (j - (i + 1)) = j by omega] at this
  unfold code
  omega
theorem div_pow_le {a b d : Nat} (h : a * 2 ^ d ≤ b) : a ≤ b / 2 ^ d := (Nat.le_div_iff_mul_le (Nat.pow_pos (by decide))).2 h
/-- No code begins another one. -/
theorem code_apart {ls : List Nat} {i j n m : Nat} (hi : ls[i]? = some n) (hj : ls[j]? = some m) (hn : 0 < n) (hnm : n ≤ m) (h : code ls j m / 2 ^ (m - n) = code ls i n) : i = j := by
  rcases Nat.lt_or_ge n m with hlt | hge
  · exfalso
    have h1 := (code_lt hi hn).2
    have h2 := (code_lt hj (by omega)).1
    obtain ⟨d, rfl⟩ : ∃ d, m = n + d + 1 := ⟨m - n - 1, by omega⟩
    have h3 := part_up ls n d
    have h4 : part ls n * 2 ^ (d + 1) ≤ code ls j (n + d + 1) := by
      have : first ls (n + d + 1) = 2 * part ls (n + d) := rfl
      rw [Nat.pow_succ, ← Nat.mul_assoc]
      omega
    have h5 := div_pow_le h4
    rw [show n + d + 1 - n = d + 1 by omega] at h
    omega
  · have e : n = m := by omega
    subst e
    rw [Nat.sub_self, Nat.pow_zero, Nat.div_one] at h
    unfold code at h
    exact (rank_inj hj hi (by omega)).symm
/-- Below the codes there is no gap. -/
theorem code_covers (ls : List Nat) : ∀ (n v : Nat), v < part ls n → ∃ i m, 0 < m ∧ m ≤ n ∧ ls[i]? = some m ∧ code ls i m = v / 2 ^ (n - m)
  | 0, v, h => by simp [part] at h
  | n + 1, v, h => by
    rcases Nat.lt_or_ge v (2 * part ls n) with hlt | hge
    · obtain ⟨i, m, h1, h2, h3, h4⟩ := code_covers ls n (v / 2) (by omega)
      refine ⟨i, m, h1, by omega, h3, ?_⟩
      rw [h4, Nat.div_div_eq_div_mul, show n + 1 - m = (n - m) + 1 by omega, Nat.pow_succ, Nat.mul_comm]
    · have hr : v - 2 * part ls n < ls.count (n + 1) := by rw [part] at h; omega
      obtain ⟨i, h1, h2⟩ := rank_find hr
      refine ⟨i, n + 1, by omega, Nat.le_refl _, h1, ?_⟩
      rw [Nat.sub_self, Nat.pow_zero, Nat.div_one]
      unfold code
      rw [h2]
      show 2 * part ls n + _ = v
      omega
end Go.Proofs.YtogednaamndpgaaDoor

/-
  Codes as lists of bits, first bit first; what a run of bits begins with. No walk in this text.
-/
namespace Go.Proofs.YtogednaamndpgaaDoor
set_option linter.unusedVariables false
/-- The number of some bits, the first one highest. -/
def num : List Bool → Nat
  | [] => 0
  | b :: l => (if b then 2 ^ l.length else 0) + num l
/-- A number's lowest n bits, the highest of them first. -/
def bitsB : Nat → Nat → List Bool
  | 0, _ => []
  | n + 1, x => (x / 2 ^ n % 2 == 1) :: bitsB n x
theorem bitsB_len : ∀ n x, (bitsB n x).length = n
  | 0, _ => rfl
  | n + 1, x => by rw [bitsB, List.length_cons, bitsB_len n x]
theorem num_lt : ∀ l : List Bool, num l < 2 ^ l.length
  | [] => by simp [num]
  | b :: l => by
    have := num_lt l
    rw [num, List.length_cons, Nat.pow_succ]
    cases b <;> simp <;> omega
theorem num_bits : ∀ n x, num (bitsB n x) = x % 2 ^ n
  | 0, x => by simp [bitsB, num, Nat.mod_one]
  | n + 1, x => by
    rw [bitsB, num, bitsB_len, num_bits n x, Nat.pow_succ, Nat.mod_mul]
    have h2 : x / 2 ^ n % 2 = 0 ∨ x / 2 ^ n % 2 = 1 := by omega
    rcases h2 with h | h
    · rw [h]; simp
    · rw [h]; simp; omega
theorem num_app : ∀ (l m : List Bool), num (l ++ m) = num l * 2 ^ m.length + num m
  | [], m => by simp [num]
  | b :: l, m => by
    rw [List.cons_append, num, num, num_app l m, List.length_append, Nat.pow_add]
    cases b
    · simp
    · simp [Nat.add_mul]; omega
theorem num_inj : ∀ {l m : List Bool}, l.length = m.length → num l = num m → l = m
  | [], [], _, _ => rfl
  | [], _ :: _, h, _ => by simp at h
  | _ :: _, [], h, _ => by simp at h
  | b :: l, c :: m, h, e => by
    have hl : l.length = m.length := by simpa using h
    have h1 := num_lt l
    have h2 := num_lt m
    rw [num, num, hl] at e
    rw [hl] at h1
    have hbc : b = c := by cases b <;> cases c <;> simp at e ⊢ <;> omega
    subst hbc
    rw [num_inj hl (by omega)]
theorem bits_num {l : List Bool} {n : Nat} (h : l.length = n) : bitsB n (num l) = l := by
  apply num_inj
  · rw [bitsB_len, h]
  · rw [num_bits, ← h, Nat.mod_eq_of_lt (num_lt l)]
/-- A code begins a run of bits. -/
theorem bits_prefix {n x : Nat} {h : List Bool} (hx : x < 2 ^ n) : bitsB n x <+: h ↔ n ≤ h.length ∧ num (h.take n) = x := by
  constructor
  · rintro ⟨r, rfl⟩
    refine ⟨by rw [List.length_append, bitsB_len]; omega, ?_⟩
    rw [List.take_left' (bitsB_len n x), num_bits, Nat.mod_eq_of_lt hx]
  · rintro ⟨h1, h2⟩
    have : bitsB n x = h.take n := by rw [← h2]; exact bits_num (by rw [List.length_take]; omega)
    rw [this]; exact List.take_prefix _ _
/-- A run of bits begins a code. -/
theorem prefix_bits {m y : Nat} {h : List Bool} (hy : y < 2 ^ m) : h <+: bitsB m y ↔ h.length ≤ m ∧ y / 2 ^ (m - h.length) = num h := by
  constructor
  · rintro ⟨r, hr⟩
    have hlen : h.length + r.length = m := by have := congrArg List.length hr; rw [List.length_append, bitsB_len] at this; exact this
    refine ⟨by omega, ?_⟩
    have hn : num (h ++ r) = y := by rw [hr, num_bits, Nat.mod_eq_of_lt hy]
    rw [num_app] at hn
    rw [← hn, show m - h.length = r.length by omega, Nat.mul_comm, Nat.mul_add_div (Nat.pow_pos (by decide)), Nat.div_eq_of_lt (num_lt r)]
    omega
  · rintro ⟨h1, h2⟩
    refine ⟨bitsB (m - h.length) y, num_inj ?_ ?_⟩
    · rw [List.length_append, bitsB_len, bitsB_len]; omega
    · rw [num_app, bitsB_len, num_bits, num_bits, Nat.mod_eq_of_lt hy, ← h2, Nat.mul_comm]
      exact Nat.div_add_mod y (2 ^ (m - h.length))
/-- The bits of a symbol's code; of one without a code none. -/
def cbits (ls : List Nat) (i : Nat) : List Bool := match ls[i]? with
  | some n => bitsB n (code ls i n)
  | none => []
/-- Symbol i's code, of n bits, begins the run. -/
def Hit (ls : List Nat) (h : List Bool) (i n : Nat) : Prop := ls[i]? = some n ∧ 0 < n ∧ n ≤ h.length ∧ num (h.take n) = code ls i n
/-- The run, and more, is the beginning of a code. -/
def May (ls : List Nat) (h : List Bool) : Prop := ∃ i n, ls[i]? = some n ∧ 0 < n ∧ h.length ≤ n ∧ code ls i n / 2 ^ (n - h.length) = num h
theorem take_num {h : List Bool} {n m : Nat} (hnm : n ≤ m) (hm : m ≤ h.length) : num (h.take n) = num (h.take m) / 2 ^ (m - n) := by
  have e : h.take m = h.take n ++ (h.take m).drop n := by
    have h1 : (h.take m).take n = h.take n := by rw [List.take_take, Nat.min_eq_left hnm]
    rw [← h1, List.take_append_drop]
  have hl : ((h.take m).drop n).length = m - n := by rw [List.length_drop, List.length_take]; omega
  have h2 := num_app (h.take n) ((h.take m).drop n)
  rw [← e, hl] at h2
  have h3 := num_lt ((h.take m).drop n)
  rw [hl] at h3
  rw [h2, Nat.mul_comm, Nat.mul_add_div (Nat.pow_pos (by decide)), Nat.div_eq_of_lt h3]
  omega
theorem hit_one {ls : List Nat} {h : List Bool} {i j n m : Nat} (hi : Hit ls h i n) (hj : Hit ls h j m) : i = j ∧ n = m := by
  obtain ⟨a1, a2, a3, a4⟩ := hi
  obtain ⟨b1, b2, b3, b4⟩ := hj
  have key : i = j := by
    rcases Nat.le_total n m with hnm | hnm
    · exact code_apart a1 b1 a2 hnm (by rw [← b4, ← a4]; exact (take_num hnm b3).symm)
    · exact (code_apart b1 a1 b2 hnm (by rw [← a4, ← b4]; exact (take_num hnm a3).symm)).symm
  subst key
  rw [a1] at b1
  exact ⟨rfl, Option.some.inj b1⟩
theorem hit_prefix {ls : List Nat} {h : List Bool} {i n : Nat} (hk : part ls 15 ≤ 32768) (h15 : ∀ l ∈ ls, l ≤ 15) (hi : ls[i]? = some n) (h0 : 0 < n) : cbits ls i <+: h ↔ Hit ls h i n := by
  unfold cbits
  rw [hi]
  show bitsB n (code ls i n) <+: h ↔ _
  rw [bits_prefix (code_fits hk hi h0 (h15 n (List.mem_of_getElem? hi)))]
  exact ⟨fun ⟨a, b⟩ => ⟨hi, h0, a, b⟩, fun ⟨_, _, a, b⟩ => ⟨a, b⟩⟩
theorem may_prefix {ls : List Nat} {h : List Bool} {i n : Nat} (hk : part ls 15 ≤ 32768) (h15 : ∀ l ∈ ls, l ≤ 15) (hi : ls[i]? = some n) (h0 : 0 < n) : h <+: cbits ls i ↔ h.length ≤ n ∧ code ls i n / 2 ^ (n - h.length) = num h := by
  unfold cbits
  rw [hi]
  show h <+: bitsB n (code ls i n) ↔ _
  exact prefix_bits (code_fits hk hi h0 (h15 n (List.mem_of_getElem? hi)))
/-- Full lengths: every run of bits begins with a code, or begins one. -/
theorem full_any {ls : List Nat} (hk : part ls 15 = 32768) (h : List Bool) : (∃ i n, Hit ls h i n) ∨ (h.length < 15 ∧ May ls h) := by
  rcases Nat.lt_or_ge h.length 15 with hl | hl
  · have hv : num h * 2 ^ (15 - h.length) < part ls 15 := by
      rw [hk]
      have h1 := num_lt h
      have h2 : (2 : Nat) ^ h.length * 2 ^ (15 - h.length) = 32768 := by rw [← Nat.pow_add, show h.length + (15 - h.length) = 15 by omega]
      rw [← h2]
      exact Nat.mul_lt_mul_of_pos_right h1 (Nat.pow_pos (by decide))
    obtain ⟨i, m, h1, h2, h3, h4⟩ := code_covers ls 15 _ hv
    rcases Nat.le_total m h.length with hm | hm
    · left
      refine ⟨i, m, h3, h1, hm, ?_⟩
      have h5 := take_num (h := h) hm (Nat.le_refl _)
      rw [List.take_length] at h5
      rw [h5, h4, show 15 - m = (h.length - m) + (15 - h.length) by omega, Nat.pow_add, Nat.mul_comm (2 ^ (h.length - m)), ← Nat.div_div_eq_div_mul, Nat.mul_div_cancel _ (Nat.pow_pos (by decide))]
    · right
      refine ⟨hl, i, m, h3, h1, hm, ?_⟩
      rw [h4, Nat.div_div_eq_div_mul, ← Nat.pow_add, show 15 - m + (m - h.length) = 15 - h.length by omega, Nat.mul_div_cancel _ (Nat.pow_pos (by decide))]
  · left
    have hv : num (h.take 15) < part ls 15 := by
      rw [hk]
      have := num_lt (h.take 15)
      rw [List.length_take, Nat.min_eq_left hl] at this
      exact this
    obtain ⟨i, m, h1, h2, h3, h4⟩ := code_covers ls 15 _ hv
    exact ⟨i, m, h3, h1, by omega, by rw [take_num h2 hl, h4]⟩
end Go.Proofs.YtogednaamndpgaaDoor

/-
  Numbers and their bits: what a shift, a mask and an 'or' come to, as sums, quotients and remainders.
-/
namespace Go.Proofs.YtogednaamndpgaaDoor
open Go.RowKit
theorem pow_le64 {n m : Nat} (h : n ≤ m) : 2 ^ n ≤ 2 ^ m := Nat.pow_le_pow_right (by decide) h
theorem lt_word {v n : Nat} (h : v < 2 ^ n) (h64 : n ≤ 64) : v < 18446744073709551616 := Nat.lt_of_lt_of_le h (pow_le64 h64)
theorem wrap64_nat {a : Nat} (h : a < 18446744073709551616) : IntKind.u64.wrap (a : Int) = (a : Int) := by rw [IntKind.wrap_u64]; omega
/-- A byte laid upon the bits below it. -/
theorem or_put (v n x : Nat) (hv : v < 2 ^ n) (hn : n ≤ 56) (hx : x < 256) : bits .or .u64 (v : Int) (IntKind.u64.wrap ((x : Int) * 2 ^ n)) = ((v + x * 2 ^ n : Nat) : Int) := by
  have h1 : x * 2 ^ n < 18446744073709551616 := by
    have := pow_le64 hn
    calc x * 2 ^ n ≤ 255 * 2 ^ 56 := Nat.mul_le_mul (by omega) this
      _ < _ := by decide
  have e : (x : Int) * 2 ^ n = ((x * 2 ^ n : Nat) : Int) := by push_cast; rfl
  rw [e, wrap64_nat h1]
  have h2 := lt_word hv (by omega)
  rw [u64_or_nat v _ h2 h1]
  congr 1
  rw [Nat.or_comm, Nat.mul_comm x, ← Nat.two_pow_add_eq_or_of_lt hv]
  omega
theorem put_lt (v n x : Nat) (hv : v < 2 ^ n) (hx : x < 256) : v + x * 2 ^ n < 2 ^ (n + 8) := by
  have : (x + 1) * 2 ^ n ≤ 256 * 2 ^ n := Nat.mul_le_mul (by omega) (Nat.le_refl _)
  rw [Nat.add_mul] at this
  rw [Nat.pow_add]
  omega
/-- The lowest k bits. -/
theorem and_mask (v k : Nat) (hv : v < 18446744073709551616) (hk : k ≤ 32) : bits .and .u64 (v : Int) (IntKind.u64.wrap (IntKind.u64.wrap (2 ^ k) - 1)) % 4294967296 = ((v % 2 ^ k : Nat) : Int) := by
  have h1 : 2 ^ k ≤ 4294967296 := pow_le64 hk
  have h0 : 0 < 2 ^ k := Nat.two_pow_pos k
  have e : (2 : Int) ^ k = ((2 ^ k : Nat) : Int) := by push_cast; rfl
  rw [e, wrap64_nat (by omega)]
  have e2 : ((2 ^ k : Nat) : Int) - 1 = ((2 ^ k - 1 : Nat) : Int) := by omega
  rw [e2, wrap64_nat (by omega), u64_and_nat v _ hv (by omega), Nat.and_two_pow_sub_one_eq_mod]
  have : v % 2 ^ k < 2 ^ k := Nat.mod_lt _ h0
  omega
theorem div_nat (v k : Nat) : (v : Int) / 2 ^ k = ((v / 2 ^ k : Nat) : Int) := by push_cast; rfl
theorem div_lt (v n k : Nat) (hv : v < 2 ^ n) (hk : k ≤ n) : v / 2 ^ k < 2 ^ (n - k) := by
  rw [Nat.div_lt_iff_lt_mul (Nat.two_pow_pos k), ← Nat.pow_add]
  rw [show n - k + k = n by omega]; exact hv
end Go.Proofs.YtogednaamndpgaaDoor

/-
  Lists of bits and their numbers: what a list behind another one, its first bits and what is left behind them come to.
-/
namespace Go.Proofs.YtogednaamndpgaaDoor
/-- The number of some bits, the first one lowest. -/
def nm : List Bool → Nat
  | [] => 0
  | b :: r => b.toNat + 2 * nm r
theorem nm_lt : ∀ l : List Bool, nm l < 2 ^ l.length
  | [] => by simp [nm]
  | b :: r => by
    have := nm_lt r
    rw [nm, List.length_cons, Nat.pow_succ]
    have : b.toNat ≤ 1 := Bool.toNat_le b
    omega
theorem nm_append : ∀ l r : List Bool, nm (l ++ r) = nm l + nm r * 2 ^ l.length
  | [], r => by simp [nm]
  | b :: l, r => by
    rw [List.cons_append, nm, nm, nm_append l r, List.length_cons, Nat.pow_succ', Nat.mul_left_comm]
    omega
theorem nm_take : ∀ (k : Nat) (l : List Bool), nm (l.take k) = nm l % 2 ^ k
  | 0, l => by simp [nm, Nat.mod_one]
  | k + 1, [] => by simp [nm]
  | k + 1, b :: l => by
    rw [List.take_succ_cons, nm, nm, nm_take k l, Nat.pow_succ', Nat.mod_mul]
    have : b.toNat ≤ 1 := Bool.toNat_le b
    rw [show (b.toNat + 2 * nm l) % 2 = b.toNat by omega, show (b.toNat + 2 * nm l) / 2 = nm l by omega]
theorem nm_drop : ∀ (k : Nat) (l : List Bool), nm (l.drop k) = nm l / 2 ^ k
  | 0, l => by simp
  | k + 1, [] => by simp [nm]
  | k + 1, b :: l => by
    rw [List.drop_succ_cons, nm, nm_drop k l, Nat.pow_succ', ← Nat.div_div_eq_div_mul]
    have : b.toNat ≤ 1 := Bool.toNat_le b
    rw [show (b.toNat + 2 * nm l) / 2 = nm l by omega]
/-- The lowest k bits of a number, the lowest one first. -/
def bitsOf (k x : Nat) : List Bool := (List.range k).map fun i => x / 2 ^ i % 2 == 1
theorem bitsOf_length (k x : Nat) : (bitsOf k x).length = k := by simp [bitsOf]
theorem bitsOf_succ (k x : Nat) : bitsOf (k + 1) x = bitsOf k x ++ [x / 2 ^ k % 2 == 1] := by
  simp [bitsOf, List.range_succ]
theorem nm_bitsOf : ∀ (k x : Nat), nm (bitsOf k x) = x % 2 ^ k
  | 0, x => by simp [bitsOf, nm, Nat.mod_one]
  | k + 1, x => by
    rw [bitsOf_succ, nm_append, nm_bitsOf k x, bitsOf_length, nm, nm, Nat.pow_succ, Nat.mod_mul]
    have h2 : x / 2 ^ k % 2 = 0 ∨ x / 2 ^ k % 2 = 1 := by omega
    rcases h2 with h2 | h2 <;> rw [h2] <;> simp
theorem nm_byte (x : Nat) (h : x < 256) : nm (bitsOf 8 x) = x := by rw [nm_bitsOf]; exact Nat.mod_eq_of_lt h
/-- From the end: one bit more ahead of what stands behind it. -/
theorem nm_ahead (l : List Bool) (k : Nat) (h : k < l.length) : nm (l.drop k) = (l[k]).toNat + 2 * nm (l.drop (k + 1)) := by
  rw [List.drop_eq_getElem_cons h, nm]
end Go.Proofs.YtogednaamndpgaaDoor

/-
  A block of cells that is known whole, and a world in which one block alone has turned: small laws, over any program.
-/
namespace Go.Proofs.YtogednaamndpgaaDoor
open Go.RowKit

/-- Block b holds just these cells, none frozen. -/
def Cells (w : World) (b : Nat) (cs : Array Value) (t : TypeId) : Prop := w.heap[b]? = some (.cells cs t)

/-- Of all blocks b alone may have turned; none has come. -/
structure Only (b : Nat) (w w' : World) : Prop where
  os : w'.os = w.os
  tape : w'.tape = w.tape
  output : w'.output = w.output
  size : w'.heap.size = w.heap.size
  block : ∀ k, k ≠ b → w'.heap[k]? = w.heap[k]?

theorem Only.refl (b : Nat) (w : World) : Only b w w := ⟨rfl, rfl, rfl, rfl, fun _ _ => rfl⟩
theorem Only.trans {b : Nat} {w u v : World} (h : Only b w u) (k : Only b u v) : Only b w v :=
  ⟨k.os.trans h.os, k.tape.trans h.tape, k.output.trans h.output, k.size.trans h.size, fun i hi => (k.block i hi).trans (h.block i hi)⟩
theorem Only.drewN {b : Nat} {w u : World} (h : Only b w u) (n : Nat) : Only b w (u.drewN n) := ⟨h.os, h.tape, h.output, h.size, h.block⟩
theorem Only.drew {b : Nat} {w u : World} (h : Only b w u) : Only b w u.drew := ⟨h.os, h.tape, h.output, h.size, h.block⟩
theorem Only.setCell {b : Nat} {w u : World} (h : Only b w u) (i : Nat) (v : Value) : Only b w (u.setCell ⟨b, i, none⟩ v) :=
  h.trans ⟨rfl, rfl, rfl, by simp [World.setCell], fun k hk => Below.heap_setCell _ _ _ _ hk⟩
theorem Only.cell {b : Nat} {w u : World} (h : Only b w u) {p : Addr} (hp : p.block ≠ b) : u.cell? p = w.cell? p := World.cell?_of_block (w := w) (h.block p.block hp)
theorem Only.below {b B : Nat} {w u : World} (h : Only b w u) (hB : B ≤ b) : Below B w u :=
  ⟨h.os, h.tape, h.output, Nat.le_of_eq h.size.symm, fun k hk => h.block k (by omega)⟩

theorem Cells.cell {w : World} {b : Nat} {cs : Array Value} {t : TypeId} (h : Cells w b cs t) (i : Nat) : w.cell? ⟨b, i, none⟩ = cs[i]? := by
  unfold Cells at h
  simp [World.cell?, h]
theorem Cells.frozen {w : World} {b : Nat} {cs : Array Value} {t : TypeId} (h : Cells w b cs t) (i : Nat) : w.frozen? ⟨b, i, none⟩ = false := by
  unfold Cells at h
  simp [World.frozen?, h]
theorem Cells.set {w : World} {b : Nat} {cs : Array Value} {t : TypeId} (h : Cells w b cs t) (i : Nat) (v : Value) : Cells (w.setCell ⟨b, i, none⟩ v) b (cs.setIfInBounds i v) t := by
  unfold Cells at *
  simp [World.setCell, Array.getElem?_modify, h]
theorem Cells.drewN {w : World} {b : Nat} {cs : Array Value} {t : TypeId} (h : Cells w b cs t) (n : Nat) : Cells (w.drewN n) b cs t := h
theorem Cells.drew {w : World} {b : Nat} {cs : Array Value} {t : TypeId} (h : Cells w b cs t) : Cells w.drew b cs t := h
theorem Cells.only {w u : World} {b c : Nat} {cs : Array Value} {t : TypeId} (h : Cells w b cs t) (k : Only c w u) (hb : b ≠ c) : Cells u b cs t := by
  unfold Cells at *
  rw [k.block b hb]; exact h
theorem Cells.below {w u : World} {b B : Nat} {cs : Array Value} {t : TypeId} (h : Cells w b cs t) (k : Below B w u) (hb : b < B) : Cells u b cs t := by
  unfold Cells at *
  rw [k.block b hb]; exact h
theorem Cells.lt {w : World} {b : Nat} {cs : Array Value} {t : TypeId} (h : Cells w b cs t) : b < w.heap.size := by
  unfold Cells at h
  exact (Array.getElem?_eq_some_iff.1 h).1
theorem Cells.new (w : World) (cs : Array Value) (t : TypeId) : Cells (w.alloc (.cells cs t)) w.heap.size cs t := by
  show (w.heap.push _)[_]? = _
  simp
theorem Cells.alloc {w : World} {b : Nat} {cs : Array Value} {t : TypeId} (h : Cells w b cs t) (o : Obj) : Cells (w.alloc o) b cs t := by
  have := h.lt
  unfold Cells at *
  rw [Below.heap_alloc w o b this]; exact h
end Go.Proofs.YtogednaamndpgaaDoor

/-
  What the document's Kraft comes to: the sum of lengths, or none.
  Conditions: the lengths lie in memory.
-/
namespace Go.Proofs.YtogednaamndpgaaDoor
open Go.RowKit
set_option linter.unusedVariables false
/-- Numbers that lie side by side. -/
def Lens (w : World) (a : Option Addr) (zs : List Int) : Prop := zs = [] ∨ ∃ (b o : Nat), a = some ⟨b, o, none⟩ ∧ ∀ (i : Nat) (z : Int), zs[i]? = some z → w.cell? ⟨b, o + i, none⟩ = some (.int .i64 z)
theorem Lens.below {w u : World} {a : Option Addr} {zs : List Int} (h : Lens w a zs) (k : Below w.heap.size w u) : Lens u a zs := by
  rcases h with h | ⟨b, o, ha, hc⟩
  · exact Or.inl h
  · exact Or.inr ⟨b, o, ha, fun i z hz => (k.cell (p := ⟨b, o + i, none⟩) (World.block_lt_of_cell? w ⟨b, o + i, none⟩ (hc i z hz))).trans (hc i z hz)⟩
/-- Lengths that may be. -/
abbrev Okl (zs : List Int) : Prop := zs.length ≤ 320 ∧ ∀ z ∈ zs, 0 ≤ z ∧ z ≤ 15
def lens (zs : List Int) : List Nat := zs.map Int.toNat
theorem kr_snoc : ∀ (ls : List Nat) (l : Nat), kr (ls ++ [l]) = kr ls + (if l = 0 then 0 else 2 ^ (15 - l))
  | [], l => by simp [kr]
  | x :: ls, l => by rw [List.cons_append, kr, kr, kr_snoc ls l]; omega
theorem take_one {α : Type} {l : List α} {k : Nat} {x : α} (h : l[k]? = some x) : l.take (k + 1) = l.take k ++ [x] := by rw [List.take_add_one, h]; rfl
theorem kr_le : ∀ (ls : List Nat), kr ls ≤ ls.length * 32768
  | [] => by simp [kr]
  | x :: ls => by
    have := kr_le ls
    rw [kr, List.length_cons, Nat.add_mul]
    by_cases h : x = 0
    · rw [if_pos h]; omega
    · rw [if_neg h]
      have : 2 ^ (15 - x) ≤ 2 ^ 15 := Nat.pow_le_pow_right (by decide) (by omega)
      omega
end Go.Proofs.YtogednaamndpgaaDoor

/-
  What the document's own Bits and Number come to: a byte's bits as a list that is the call's own, and the number of a list of bits.
  Conditions: the byte is one; the list has at most 64 bits.
-/
namespace Go.Proofs.YtogednaamndpgaaDoor
open Go.RowKit
theorem info4 : (Tryd.prog.info? 4).map (fun i => (i.zero, i.size, i.bytes)) = some (some (.bool false), 1, 1) := by kernel_rfl
/-- The values of some bits. -/
def vb (l : List Bool) : List Value := l.map Value.bool
theorem vb_length (l : List Bool) : (vb l).length = l.length := by simp [vb]
theorem vb_one {l : List Bool} : ∀ u ∈ vb l, u.oneCell' = true := by
  intro u hu
  obtain ⟨b, _, rfl⟩ := List.mem_map.1 hu
  rfl

/-- Where the bits of a list lie: nowhere, if it has none; else cell by cell. -/
def Lie (w : World) (a : Option Addr) (l : List Bool) : Prop := l = [] ∨ ∃ g off, a = some ⟨g, off, none⟩ ∧ ∀ i (h : i < l.length), w.cell? ⟨g, off + i, none⟩ = some (.bool l[i])

end Go.Proofs.YtogednaamndpgaaDoor

/-
  The document's table in memory, and how a code is laid into it. No walk in this text.
-/
namespace Go.Proofs.YtogednaamndpgaaDoor
open Go.RowKit
set_option linter.unusedVariables false
/-- A list of bits in a block of its own. -/
def Bb (w : World) (b : Nat) (l : List Bool) : Prop := Cells w b (vb l).toArray 4
/-- The table while it is laid: those of fewer than n bits, and of n bits ahead of symbol i. -/
structure Tl (w0 w : World) (T g : Nat) (ls : List Nat) (n i : Nat) : Prop where
  t : Cells w T #[.slice (some ⟨g, 0, none⟩) ls.length ls.length] 91
  row : ∃ rows, Cells w g rows 92 ∧ rows.size = ls.length ∧ ∀ (j m : Nat), ls[j]? = some m → (0 < m ∧ (m < n ∨ (m = n ∧ j < i)) → ∃ b, rows[j]? = some (.slice (some ⟨b, 0, none⟩) m m) ∧ Bb w b (bitsB m (code ls j m)) ∧ w0.heap.size ≤ b) ∧ (¬ (0 < m ∧ (m < n ∨ (m = n ∧ j < i))) → rows[j]? = some (.slice none 0 0))
  bel : Below w0.heap.size w0 w
  tb : w0.heap.size ≤ T
  gb : w0.heap.size ≤ g
theorem Tl.below {w0 w u : World} {T g : Nat} {ls : List Nat} {n i : Nat} (h : Tl w0 w T g ls n i) (k : Below w.heap.size w u) : Tl w0 u T g ls n i := by
  obtain ⟨rows, h1, h2, h3⟩ := h.row
  refine ⟨h.t.below k h.t.lt, ⟨rows, h1.below k h1.lt, h2, fun j m hj => ⟨fun hc => ?_, (h3 j m hj).2⟩⟩, h.bel.trans (k.mono h.bel.size), h.tb, h.gb⟩
  obtain ⟨b, e1, e2, e3⟩ := (h3 j m hj).1 hc
  exact ⟨b, e1, Cells.below e2 k (Cells.lt e2), e3⟩
/-- A symbol of another length: nothing is laid. -/
theorem Tl.skip {w0 w : World} {T g : Nat} {ls : List Nat} {n i m : Nat} (h : Tl w0 w T g ls n i) (hi : ls[i]? = some m) (hm : m ≠ n) : Tl w0 w T g ls n (i + 1) := by
  obtain ⟨rows, h1, h2, h3⟩ := h.row
  refine ⟨h.t, ⟨rows, h1, h2, fun j k hj => ⟨fun hc => (h3 j k hj).1 ⟨hc.1, ?_⟩, fun hc => (h3 j k hj).2 fun hc2 => hc ⟨hc2.1, ?_⟩⟩⟩, h.bel, h.tb, h.gb⟩
  · rcases hc.2 with hlt | ⟨e, hlt⟩
    · exact Or.inl hlt
    · right
      refine ⟨e, ?_⟩
      rcases Nat.lt_or_ge j i with h4 | h4
      · exact h4
      · have e2 : j = i := by omega
        subst e2
        rw [hi] at hj; cases hj
        exact absurd e hm
  · rcases hc2.2 with hlt | ⟨e, hlt⟩
    · exact Or.inl hlt
    · exact Or.inr ⟨e, by omega⟩
/-- A symbol's code is laid. -/
theorem Tl.put {w0 w : World} {T g b : Nat} {ls : List Nat} {n i : Nat} (h : Tl w0 w T g ls n i) (hi : ls[i]? = some n) (hn : 0 < n) (hbw : w0.heap.size ≤ b) (hb : Bb w b (bitsB n (code ls i n))) : Tl w0 (w.setCell ⟨g, i, none⟩ (.slice (some ⟨b, 0, none⟩) n n)) T g ls n (i + 1) := by
  obtain ⟨rows, h1, h2, h3⟩ := h.row
  have hTg : T ≠ g := fun e => by
    have := h.t; unfold Cells at this h1; rw [e, h1] at this; cases this
  have hil := (List.getElem?_eq_some_iff.1 hi).1
  have far : ∀ {c : Nat} {l : List Bool}, Bb w c l → Bb (w.setCell ⟨g, i, none⟩ (.slice (some ⟨b, 0, none⟩) n n)) c l := by
    intro c l hc
    have hne : c ≠ g := fun e => by unfold Bb Cells at hc; unfold Cells at h1; rw [e, h1] at hc; cases hc
    unfold Bb Cells at *
    rw [Below.heap_setCell _ _ _ _ hne]; exact hc
  refine ⟨?_, ⟨_, h1.set i _, by rw [Array.size_setIfInBounds]; exact h2, fun j m hj => ⟨fun hc => ?_, fun hc => ?_⟩⟩, h.bel.setCell (p := ⟨g, i, none⟩) h.gb _, h.tb, h.gb⟩
  · have ht := h.t
    unfold Cells at *
    rw [Below.heap_setCell _ _ _ _ hTg]; exact ht
  · rw [Array.getElem?_setIfInBounds]
    by_cases e : i = j
    · subst e
      rw [hi] at hj; cases hj
      rw [if_pos rfl, if_pos (by omega)]
      exact ⟨b, rfl, far hb, hbw⟩
    · rw [if_neg e]
      obtain ⟨c, e1, e2, e5⟩ := (h3 j m hj).1 ⟨hc.1, by
        rcases hc.2 with hlt | ⟨e4, hlt⟩
        · exact Or.inl hlt
        · exact Or.inr ⟨e4, by omega⟩⟩
      exact ⟨c, e1, far e2, e5⟩
  · rw [Array.getElem?_setIfInBounds]
    by_cases e : i = j
    · subst e
      rw [hi] at hj; cases hj
      exact absurd ⟨hn, Or.inr ⟨rfl, by omega⟩⟩ hc
    · rw [if_neg e]
      refine (h3 j m hj).2 fun hc2 => hc ⟨hc2.1, ?_⟩
      rcases hc2.2 with hlt | ⟨e4, hlt⟩
      · exact Or.inl hlt
      · exact Or.inr ⟨e4, by omega⟩
/-- The next length. -/
theorem Tl.next {w0 w : World} {T g : Nat} {ls : List Nat} {n i : Nat} (h : Tl w0 w T g ls n i) (hi : i = ls.length) : Tl w0 w T g ls (n + 1) 0 := by
  obtain ⟨rows, h1, h2, h3⟩ := h.row
  refine ⟨h.t, ⟨rows, h1, h2, fun j m hj => ?_⟩, h.bel, h.tb, h.gb⟩
  have hjl := (List.getElem?_eq_some_iff.1 hj).1
  refine ⟨fun hc => (h3 j m hj).1 ⟨hc.1, by omega⟩, fun hc => (h3 j m hj).2 fun hc2 => hc ⟨hc2.1, by omega⟩⟩
/-- The document's table of some lengths. -/
structure Tb (w : World) (T : Nat) (ls : List Nat) : Prop where
  cells : ∃ g rows, w.cell? ⟨T, 0, none⟩ = some (.slice (some ⟨g, 0, none⟩) ls.length ls.length) ∧ Cells w g rows 92 ∧ ∀ (j m : Nat), ls[j]? = some m → (0 < m → ∃ b, rows[j]? = some (.slice (some ⟨b, 0, none⟩) m m) ∧ Bb w b (bitsB m (code ls j m))) ∧ (m = 0 → rows[j]? = some (.slice none 0 0))
  kind : ∃ cs, Cells w T cs 91
theorem Tl.tb_ {w0 w : World} {T g : Nat} {ls : List Nat} {i : Nat} (h : Tl w0 w T g ls 16 i) (h15 : ∀ l ∈ ls, l ≤ 15) : Tb w T ls ∧ ∀ u, (∀ k, w0.heap.size ≤ k → k < w.heap.size → u.heap[k]? = w.heap[k]?) → Tb u T ls := by
  obtain ⟨rows, h1, h2, h3⟩ := h.row
  have key : ∀ u, (∀ k, w0.heap.size ≤ k → k < w.heap.size → u.heap[k]? = w.heap[k]?) → Tb u T ls := by
    intro u hk
    have ht : Cells u T #[.slice (some ⟨g, 0, none⟩) ls.length ls.length] 91 := (hk T h.tb h.t.lt).trans h.t
    have hr : Cells u g rows 92 := (hk g h.gb h1.lt).trans h1
    refine ⟨⟨g, rows, Cells.cell ht 0, hr, fun j m hj => ⟨fun hm => ?_, fun hm => (h3 j m hj).2 fun hc => by omega⟩⟩, _, ht⟩
    have := h15 m (List.mem_of_getElem? hj)
    obtain ⟨b, e1, e2, e3⟩ := (h3 j m hj).1 ⟨hm, Or.inl (by omega)⟩
    exact ⟨b, e1, (hk b e3 (Cells.lt e2)).trans e2⟩
  exact ⟨key w fun _ _ _ => rfl, key⟩
theorem Tb.below {w u : World} {T : Nat} {ls : List Nat} (h : Tb w T ls) (k : Below w.heap.size w u) : Tb u T ls := by
  obtain ⟨g, rows, c0, h1, h3⟩ := h.cells
  obtain ⟨cs, hcs⟩ := h.kind
  refine ⟨⟨g, rows, (k.cell (p := ⟨T, 0, none⟩) (World.block_lt_of_cell? w ⟨T, 0, none⟩ c0)).trans c0, h1.below k h1.lt, fun j m hj => ⟨fun hm => ?_, (h3 j m hj).2⟩⟩, cs, hcs.below k hcs.lt⟩
  obtain ⟨b, e1, e2⟩ := (h3 j m hj).1 hm
  exact ⟨b, e1, Cells.below e2 k (Cells.lt e2)⟩
theorem bits_last : ∀ (n j x : Nat), j < n → (bitsB n x)[j]? = some (x / 2 ^ (n - 1 - j) % 2 == 1)
  | 0, j, x, h => by omega
  | n + 1, 0, x, _ => by simp [bitsB]
  | n + 1, j + 1, x, h => by
    rw [bitsB, List.getElem?_cons_succ, bits_last n j x (by omega), show n + 1 - 1 - (j + 1) = n - 1 - j by omega]
theorem bits_row {n j c : Nat} (hj : 0 < j) (hjn : j ≤ n) : (List.replicate j false ++ (bitsB n c).drop j).set (j - 1) (c / 2 ^ (n - j) % 2 == 1) = List.replicate (j - 1) false ++ (bitsB n c).drop (j - 1) := by
  have hb := bits_last n (j - 1) c (by omega)
  rw [show n - 1 - (j - 1) = n - j by omega] at hb
  have hl : j - 1 < (bitsB n c).length := by rw [bitsB_len]; omega
  have hd : (bitsB n c).drop (j - 1) = (c / 2 ^ (n - j) % 2 == 1) :: (bitsB n c).drop j := by
    rw [List.drop_eq_getElem_cons hl, show j - 1 + 1 = j by omega]
    congr 1
    rw [List.getElem?_eq_getElem hl] at hb
    exact Option.some.inj hb
  rw [hd]
  obtain ⟨q, rfl⟩ : ∃ q, j = q + 1 := ⟨j - 1, by omega⟩
  rw [List.replicate_succ', List.append_assoc, show q + 1 - 1 = q by omega, List.set_append_right _ _ (by simp), List.length_replicate, Nat.sub_self]
  rfl
theorem Bb.set {w : World} {b : Nat} {l : List Bool} (h : Bb w b l) (i : Nat) (x : Bool) : Bb (w.setCell ⟨b, i, none⟩ (.bool x)) b (l.set i x) := by
  have := Cells.set h i (.bool x)
  unfold Bb
  have e : (vb (l.set i x)).toArray = (vb l).toArray.setIfInBounds i (.bool x) := by
    apply Array.toList_inj.1
    simp [vb, List.map_set]
  rw [e]; exact this
end Go.Proofs.YtogednaamndpgaaDoor

/-
  What the document's New comes to: an error, or the table of the lengths' codes.
  Conditions: the lengths lie in memory.
-/
namespace Go.Proofs.YtogednaamndpgaaDoor
open Go.RowKit
set_option linter.unusedVariables false
def used (ls : List Nat) : Nat := ls.countP fun l => decide (0 < l)
/-- Codes that leave room, and more than one, or not of one bit. -/
abbrev Under (ls : List Nat) : Prop := kr ls < 32768 ∧ 0 < used ls ∧ (1 < used ls ∨ ls.count 1 ≠ 1)
/-- New's error. -/
def nerr (zs : List Int) : Nat := if ¬ Okl zs then 2 else if 32768 < kr (lens zs) then 80 else if Under (lens zs) then 81 else 0
theorem nerr_ok {zs : List Int} (h : nerr zs = 0) : Okl zs ∧ kr (lens zs) ≤ 32768 ∧ ¬ Under (lens zs) := by
  unfold nerr at h
  split at h
  · omega
  · rename_i h1
    split at h
    · omega
    · rename_i h2
      split at h
      · omega
      · rename_i h3
        exact ⟨Decidable.not_not.1 h1, by omega, h3⟩
theorem lens_15 {zs : List Int} (h : Okl zs) : ∀ l ∈ lens zs, l ≤ 15 := by
  intro l hl
  obtain ⟨z, hz, rfl⟩ := List.mem_map.1 hl
  have := h.2 z hz; omega
theorem lens_at {zs : List Int} (h : Okl zs) {i l : Nat} (hl : (lens zs)[i]? = some l) : zs[i]? = some (l : Int) := by
  unfold lens at hl
  rw [List.getElem?_map] at hl
  cases hz : zs[i]? with
  | none => rw [hz] at hl; simp at hl
  | some z =>
    rw [hz] at hl
    have e : z.toNat = l := by simpa using hl
    have := h.2 z (List.mem_of_getElem? hz)
    congr 1; omega
theorem lens_len (zs : List Int) : (lens zs).length = zs.length := by simp [lens]
theorem used_snoc (ls : List Nat) (l : Nat) : used (ls ++ [l]) = used ls + (if 0 < l then 1 else 0) := by
  unfold used
  rw [List.countP_append, List.countP_cons, List.countP_nil]
  by_cases h : 0 < l <;> simp [h]
theorem count_snoc (ls : List Nat) (l m : Nat) : (ls ++ [l]).count m = ls.count m + (if l = m then 1 else 0) := by
  rw [List.count_append, List.count_cons, List.count_nil]
  by_cases h : l = m <;> simp [h]
theorem used_le (ls : List Nat) : used ls ≤ ls.length := List.countP_le_length
end Go.Proofs.YtogednaamndpgaaDoor

/-
  What the document's Code, begins and Look come to.
  Conditions: the table and the bits lie in memory.
-/
namespace Go.Proofs.YtogednaamndpgaaDoor
open Go.RowKit
set_option linter.unusedVariables false
/-- The world, some draws further on. -/
def Drawn (w u : World) : Prop := ∃ n, u = w.drewN n
theorem Drawn.refl (w : World) : Drawn w w := ⟨0, rfl⟩
theorem Drawn.drewN {w u : World} (h : Drawn w u) (n : Nat) : Drawn w (u.drewN n) := by
  obtain ⟨k, rfl⟩ := h
  exact ⟨k + n, by simp [World.drewN, Nat.add_assoc]⟩
theorem Drawn.trans {w u v : World} (h : Drawn w u) (k : Drawn u v) : Drawn w v := by
  obtain ⟨n, rfl⟩ := k
  exact h.drewN n
theorem Drawn.below {w u : World} (h : Drawn w u) (B : Nat) : Below B w u := by
  obtain ⟨n, rfl⟩ := h
  exact ⟨rfl, rfl, rfl, Nat.le_refl _, fun _ _ => rfl⟩
/-- Bits that lie side by side. -/
def Lb (w : World) (a : Option Addr) (l : List Bool) : Prop := l = [] ∨ ∃ (b o : Nat), a = some ⟨b, o, none⟩ ∧ ∀ (i : Nat) (x : Bool), l[i]? = some x → w.cell? ⟨b, o + i, none⟩ = some (.bool x)
theorem Lb.below {w u : World} {a : Option Addr} {l : List Bool} (h : Lb w a l) (k : Below w.heap.size w u) : Lb u a l := by
  rcases h with h | ⟨b, o, ha, hc⟩
  · exact Or.inl h
  · exact Or.inr ⟨b, o, ha, fun i x hx => (k.cell (p := ⟨b, o + i, none⟩) (World.block_lt_of_cell? w ⟨b, o + i, none⟩ (hc i x hx))).trans (hc i x hx)⟩
theorem Bb.lb {w : World} {b : Nat} {l : List Bool} (h : Bb w b l) : Lb w (some ⟨b, 0, none⟩) l := Or.inr ⟨b, 0, rfl, fun i x hx => by
  rw [Nat.zero_add, Cells.cell h]; simp [vb, hx]⟩
theorem pre_step {α : Type} {p q : List α} {k : Nat} {x y : α} (h : p.take k = q.take k) (hx : p[k]? = some x) (hy : q[k]? = some y) : p.take (k + 1) = q.take (k + 1) ↔ x = y := by
  rw [take_one hx, take_one hy, h]
  simp
end Go.Proofs.YtogednaamndpgaaDoor

/-
  What the document's Look and Code come to.
  Conditions: the table and the bits lie in memory; the lengths make codes.
-/
namespace Go.Proofs.YtogednaamndpgaaDoor
open Go.RowKit
set_option linter.unusedVariables false
/-- What a look at some bits tells: the symbol, what came, how many bits. -/
def Told (ls : List Nat) (h : List Bool) (s how k : Nat) : Prop :=
  (Hit ls h s k ∧ how = 0) ∨ ((∀ i n, ¬ Hit ls h i n) ∧ (∃ j n, ls[j]? = some n ∧ 0 < n ∧ h <+: cbits ls j) ∧ s = 0 ∧ how = 1 ∧ k = 0) ∨ ((∀ i n, ¬ Hit ls h i n) ∧ (¬ ∃ j n, ls[j]? = some n ∧ 0 < n ∧ h <+: cbits ls j) ∧ s = 0 ∧ how = 2 ∧ k = 0)
theorem cbits_at {ls : List Nat} {i n : Nat} (h : ls[i]? = some n) : cbits ls i = bitsB n (code ls i n) := by unfold cbits; rw [h]
theorem num_take_snoc {l : List Bool} {k : Nat} {x : Bool} (h : l[k]? = some x) : num (l.take (k + 1)) = 2 * num (l.take k) + (if x then 1 else 0) := by
  rw [take_one h, num_app]
  cases x <;> simp [num] <;> omega
end Go.Proofs.YtogednaamndpgaaDoor
