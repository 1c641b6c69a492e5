/-
  Numbers in fields as the chapter says them: octal digits, bytes, what both read, and that a number that is written is read: no walk in it.
-/
namespace Go.Proofs.YtcmmjbkgoafbnaaGreatDoor
/-- A byte that may stand behind digits. -/
def pad (x : Nat) : Bool := x == 0 || x == 32
def pads (l : List Nat) : Bool := l.all pad
/-- The field behind its blanks. -/
def skip : List Nat → List Nat
  | [] => []
  | x :: r => if x = 32 then skip r else x :: r
/-- Digits behind a number, then the padding. -/
def digs : Nat → List Nat → Option Nat
  | v, [] => some v
  | v, x :: r => if pad x = true then (if pads r = true then some v else none) else if x < 48 ∨ 55 < x then none else if 1152921504606846976 ≤ v then none else digs (8 * v + (x - 48)) r
def oct (l : List Nat) : Option Nat := digs 0 (skip l)
/-- Bytes behind a number. -/
def bins : Nat → List Nat → Option Nat
  | v, [] => some v
  | v, x :: r => if 36028797018963968 ≤ v then none else bins (256 * v + x) r
def bin : List Nat → Option Nat
  | [] => none
  | x :: r => if 128 ≤ x ∧ x < 192 then bins (x - 128) r else none
def marked : List Nat → Bool
  | [] => false
  | x :: _ => decide (128 ≤ x)
def fld (l : List Nat) : Option Nat := if marked l = true then bin l else oct l
theorem digs_lt : ∀ (l : List Nat) (v u : Nat), v < 9223372036854775808 → digs v l = some u → u < 9223372036854775808
  | [], v, u, hv, h => by
    have : v = u := by simpa [digs] using h
    omega
  | x :: r, v, u, hv, h => by
    rw [digs] at h
    split at h
    · split at h
      · have : v = u := by simpa using h
        omega
      · cases h
    · split at h
      · cases h
      · split at h
        · cases h
        · exact digs_lt r _ u (by omega) h
theorem oct_lt {l : List Nat} {u : Nat} (h : oct l = some u) : u < 9223372036854775808 := digs_lt _ 0 u (by decide) h
theorem skip_len : ∀ l : List Nat, (skip l).length ≤ l.length
  | [] => by simp [skip]
  | x :: r => by
    rw [skip]; split
    · have := skip_len r; simp; omega
    · simp
theorem skip_mem : ∀ (l : List Nat) (x : Nat), x ∈ skip l → x ∈ l
  | [], x, h => by simp [skip] at h
  | y :: r, x, h => by
    rw [skip] at h; split at h
    · exact List.mem_cons_of_mem _ (skip_mem r x h)
    · exact h
/-- k digits of v to a base, the highest first. -/
def hi (b o v : Nat) : Nat → List Nat
  | 0 => []
  | k + 1 => (o + v / b ^ k % b) :: hi b o v k
theorem hi_length (b o v k : Nat) : (hi b o v k).length = k := by
  induction k with
  | zero => rfl
  | succ k ih => rw [hi, List.length_cons, ih]
theorem hi_mem {b o v k x : Nat} (hb : 0 < b) (h : x ∈ hi b o v k) : x < o + b := by
  induction k with
  | zero => cases h
  | succ k ih =>
    rw [hi] at h
    rcases List.mem_cons.1 h with rfl | h
    · have := Nat.mod_lt (v / b ^ k) hb; omega
    · exact ih h
theorem down (b v k : Nat) : v / b ^ (k + 1) = v / b ^ k / b := by rw [Nat.pow_succ, Nat.div_div_eq_div_mul]
/-- Digits that were written are read. -/
theorem digs_hi (v : Nat) (hv : v < 9223372036854775808) : ∀ k, digs (v / 8 ^ k) (hi 8 48 v k ++ [0]) = some v
  | 0 => by simp [hi, digs, pad, pads]
  | k + 1 => by
    have ih := digs_hi v hv k
    rw [hi, List.cons_append, digs]
    have hm := Nat.mod_lt (v / 8 ^ k) (show 0 < 8 by decide)
    have h8 : v / 8 ^ (k + 1) ≤ v / 8 := by
      rw [Nat.pow_succ, Nat.mul_comm, ← Nat.div_div_eq_div_mul]; exact Nat.div_le_self ..
    have hp : pad (48 + v / 8 ^ k % 8) = false := by simp [pad]; omega
    rw [if_neg (by rw [hp]; decide), if_neg (by omega), if_neg (by omega)]
    have e : 8 * (v / 8 ^ (k + 1)) + (48 + v / 8 ^ k % 8 - 48) = v / 8 ^ k := by rw [down]; omega
    rw [e]; exact ih
theorem bins_hi (v : Nat) (hv : v < 9223372036854775808) : ∀ k, bins (v / 256 ^ k) (hi 256 0 v k) = some v
  | 0 => by simp [hi, bins]
  | k + 1 => by
    have ih := bins_hi v hv k
    rw [hi, bins]
    have h8 : v / 256 ^ (k + 1) ≤ v / 256 := by
      rw [Nat.pow_succ, Nat.mul_comm, ← Nat.div_div_eq_div_mul]; exact Nat.div_le_self ..
    rw [if_neg (by omega)]
    have e : 256 * (v / 256 ^ (k + 1)) + (0 + v / 256 ^ k % 256) = v / 256 ^ k := by rw [down]; omega
    rw [e]; exact ih
/-- What Put writes. -/
def put (v : Nat) (n : Int) : Option (List Nat) :=
  if n < 2 ∨ 64 < n ∨ 9223372036854775808 ≤ v then none
  else if v / 8 ^ (n.toNat - 1) = 0 then some (hi 8 48 v (n.toNat - 1) ++ [0])
  else if v / 256 ^ (n.toNat - 1) = 0 then some (128 :: hi 256 0 v (n.toNat - 1))
  else none
theorem put_back {v : Nat} {n : Int} {l : List Nat} (h : put v n = some l) : fld l = some v ∧ l.length = n.toNat := by
  unfold put at h
  split at h
  · cases h
  · rename_i h1
    obtain ⟨k, hk⟩ : ∃ k, n.toNat - 1 = k + 1 := ⟨n.toNat - 2, by omega⟩
    split at h
    · rename_i h2
      have h : hi 8 48 v (n.toNat - 1) ++ [0] = l := by simpa using h
      have hd := digs_hi v (by omega) (n.toNat - 1)
      rw [h2] at hd
      rw [hk] at hd h
      have hm := Nat.mod_lt (v / 8 ^ k) (show 0 < 8 by decide)
      refine ⟨?_, by rw [← h, List.length_append, hi_length]; simp; omega⟩
      rw [← h]
      rw [hi, List.cons_append] at hd ⊢
      unfold fld
      have hmk : marked ((48 + v / 8 ^ k % 8) :: (hi 8 48 v k ++ [0])) = false := by simp [marked]; omega
      rw [if_neg (by rw [hmk]; decide)]
      unfold oct
      rw [skip, if_neg (by omega)]; exact hd
    · split at h
      · rename_i h2
        have h : 128 :: hi 256 0 v (n.toNat - 1) = l := by simpa using h
        have hd := bins_hi v (by omega) (n.toNat - 1)
        rw [h2] at hd
        refine ⟨?_, by rw [← h, List.length_cons, hi_length]; omega⟩
        rw [← h]
        simpa [fld, marked, bin] using hd
      · cases h
theorem pow_256 (k : Nat) : 256 ^ k = 2 ^ (8 * k) := by rw [Nat.pow_mul]
theorem pow_8 (k : Nat) : 8 ^ k = 2 ^ (3 * k) := by rw [Nat.pow_mul]
/-- A number has k digits at most just if it is less than the power. -/
theorem div_zero {v p : Nat} (hp : 0 < p) : v / p = 0 ↔ v < p := by
  constructor
  · intro h
    rcases Nat.div_eq_zero_iff.1 h with h | h
    · omega
    · exact h
  · exact Nat.div_eq_of_lt
/-- What fits a field fits a wider one. -/
theorem put_wider {v : Nat} {n : Int} (h : (put v n).isSome = true) (hn : n < 64) : (put v (n + 1)).isSome = true := by
  unfold put at h ⊢
  split at h
  · cases h
  · rename_i h1
    have e : (n + 1).toNat - 1 = n.toNat - 1 + 1 := by omega
    rw [if_neg (by omega), e]
    split at h
    · rename_i h2
      rw [if_pos (by rw [down, h2])]; rfl
    · split at h
      · rename_i h2
        split
        · rfl
        · rw [if_pos (by rw [down, h2])]; rfl
      · cases h
/-- What does not fit is too great, or the width is none. -/
theorem put_none {v : Nat} {n : Int} (h : put v n = none) (h1 : v < 9223372036854775808) (h2 : 2 ≤ n) (h3 : n ≤ 64) : n ≤ 8 ∧ 256 ^ (n.toNat - 1) ≤ v := by
  unfold put at h
  rw [if_neg (by omega)] at h
  split at h
  · cases h
  · split at h
    · cases h
    · rename_i h4
      rw [div_zero (Nat.pow_pos (by decide))] at h4
      refine ⟨?_, by omega⟩
      apply Decidable.byContradiction
      intro h5
      have : 256 ^ 8 ≤ 256 ^ (n.toNat - 1) := Nat.pow_le_pow_right (by decide) (by omega)
      omega
end Go.Proofs.YtcmmjbkgoafbnaaGreatDoor
