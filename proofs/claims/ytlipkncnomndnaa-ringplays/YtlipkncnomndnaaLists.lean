/-
  Lists of bytes: the last ones of a list, what a copy does to a row, a row that goes round, and the bytes at the end again and again.
-/
import Derived.Laws.CopyOwn
namespace Go.Proofs.Ytlipkncnomndnaa
set_option linter.unusedVariables false
/-- The cell n behind the next one. -/
def fwd (N x n : Nat) : Nat := if x + n < N then x + n else x + n - N
/-- The cell d ahead of the next one. -/
def bck (N x d : Nat) : Nat := if d ≤ x then x - d else x + N - d
theorem fwd_spec (N x n : Nat) : (x + n < N ∧ fwd N x n = x + n) ∨ (N ≤ x + n ∧ fwd N x n = x + n - N) := by unfold fwd; split <;> omega
theorem bck_spec (N x d : Nat) : (d ≤ x ∧ bck N x d = x - d) ∨ (x < d ∧ bck N x d = x + N - d) := by unfold bck; split <;> omega
theorem fwd_lt {N x n : Nat} (h : x < N) (h2 : n ≤ N) : fwd N x n < N := by unfold fwd; split <;> omega
theorem bck_lt {N x d : Nat} (h1 : x < N) (h2 : 1 ≤ d) (h3 : d ≤ N) : bck N x d < N := by unfold bck; split <;> omega
/-- The last ones, at most N. -/
def lastN (N : Nat) (l : List Int) : List Int := l.drop (l.length - N)
theorem lastN_length (N : Nat) (l : List Int) : (lastN N l).length = min l.length N := by simp [lastN]; omega
theorem lastN_all {N : Nat} {l : List Int} (h : l.length ≤ N) : lastN N l = l := by
  unfold lastN; rw [show l.length - N = 0 by omega, List.drop_zero]
theorem lastN_app (N : Nat) (l xs : List Int) : lastN N (l ++ lastN N xs) = lastN N (l ++ xs) := by
  apply List.ext_getElem?
  intro i
  simp only [lastN, List.getElem?_drop, List.getElem?_append, List.length_append, List.length_drop]
  by_cases h : xs.length ≤ N
  · simp only [show xs.length - N = 0 by omega, Nat.sub_zero, Nat.zero_add]
  · have e1 : l.length + (xs.length - (xs.length - N)) - N + i = l.length + i := by omega
    have e2 : ¬ l.length + (xs.length - (xs.length - N)) - N + i < l.length := by omega
    have e3 : ¬ l.length + xs.length - N + i < l.length := by omega
    rw [if_neg e2, if_neg e3]
    congr 1; omega
theorem lastN_two (N : Nat) (l xs ys : List Int) : lastN N (lastN N (l ++ xs) ++ ys) = lastN N (l ++ xs ++ ys) := by
  apply List.ext_getElem?
  intro i
  simp only [lastN, List.getElem?_drop, List.getElem?_append, List.length_append, List.length_drop]
  by_cases h : l.length + xs.length ≤ N
  · simp only [show l.length + xs.length - N = 0 by omega, Nat.sub_zero, Nat.zero_add]
  · have e0 : l.length + xs.length - (l.length + xs.length - N) = N := by omega
    simp only [e0]
    have e1 : N + ys.length - N + i = ys.length + i := by omega
    have e2 : l.length + xs.length + ys.length - N + i = l.length + xs.length - N + (ys.length + i) := by omega
    simp only [e1, e2]
    by_cases c : ys.length + i < N
    · have c2 : l.length + xs.length - N + (ys.length + i) < l.length + xs.length := by omega
      rw [if_pos c, if_pos c2]
    · have c2 : ¬ l.length + xs.length - N + (ys.length + i) < l.length + xs.length := by omega
      rw [if_neg c, if_neg c2]
      congr 1; omega
theorem splice_get {α : Type} (l cs : List α) (off i : Nat) (h : off + cs.length ≤ l.length) : (splice l off cs)[i]? = if off ≤ i ∧ i < off + cs.length then cs[i - off]? else l[i]? := by
  unfold splice
  rw [List.getElem?_append, List.length_take, Nat.min_eq_left (by omega), List.getElem?_append, List.getElem?_take, List.getElem?_drop]
  by_cases c1 : i < off
  · rw [if_pos c1, if_pos c1, if_neg (by omega)]
  · rw [if_neg c1]
    by_cases c2 : i < off + cs.length
    · rw [if_pos (by omega), if_pos (by omega)]
    · rw [if_neg (by omega), if_neg (by omega)]
      congr 1; omega
theorem splice_app (ys A B : List Int) (h : A.length + B.length ≤ ys.length) : splice (splice ys 0 A) A.length B = splice ys 0 (A ++ B) := by
  apply List.ext_getElem?
  intro i
  rw [splice_get _ _ _ _ (by rw [length_splice _ _ _ (by omega)]; omega), splice_get _ _ _ _ (by omega), splice_get _ _ _ _ (by rw [List.length_append]; omega), List.length_append, List.getElem?_append]
  by_cases c1 : i < A.length
  · rw [if_neg (by omega), if_pos (by omega), if_pos (by omega), if_pos (by omega)]
  · by_cases c2 : i < A.length + B.length
    · rw [if_pos (by omega), if_pos (by omega), if_neg (by omega)]; simp
    · rw [if_neg (by omega), if_neg (by omega), if_neg (by omega)]
theorem splice_all (ys A : List Int) (h : A.length = ys.length) : splice ys 0 A = A := by
  unfold splice
  simp [h]
/-- The row cs of N cells, whose next one is x, holds the list l. -/
def Holds (N x : Nat) (cs l : List Int) : Prop := ∀ d, 1 ≤ d → d ≤ l.length → cs[bck N x d]? = l[l.length - d]?
theorem holds_nil (N x : Nat) (cs : List Int) : Holds N x cs [] := fun d h1 h2 => by simp at h2; omega
/-- What is moved out, in one piece. -/
theorem out_a {N x : Nat} {cs l : List Int} (hh : Holds N x cs l) (d n : Nat) (hx : x < N) (hl : l.length ≤ N) (h1 : 1 ≤ d) (hd : d ≤ l.length) (hn : n ≤ d) (hA : bck N x d + n ≤ N) :
    (cs.drop (bck N x d)).take n = (l.drop (l.length - d)).take n := by
  apply List.ext_getElem?
  intro i
  rw [List.getElem?_take, List.getElem?_take, List.getElem?_drop, List.getElem?_drop]
  by_cases c : i < n
  · rw [if_pos c, if_pos c]
    have := hh (d - i) (by omega) (by omega)
    rw [show l.length - d + i = l.length - (d - i) by omega, ← this]
    congr 1
    have s1 := bck_spec N x d
    have s2 := bck_spec N x (d - i)
    omega
  · rw [if_neg c, if_neg c]
/-- What is moved out, in two pieces. -/
theorem out_b {N x : Nat} {cs l : List Int} (hh : Holds N x cs l) (d n m r : Nat) (hx : x < N) (hl : l.length ≤ N) (hc : cs.length = N) (h1 : 1 ≤ d) (hd : d ≤ l.length) (hn : n ≤ d) (hm : bck N x d + m = N) (hr : m + r = n) :
    cs.drop (bck N x d) ++ cs.take r = (l.drop (l.length - d)).take n := by
  apply List.ext_getElem?
  intro i
  rw [List.getElem?_append, List.length_drop, hc, List.getElem?_take, List.getElem?_take, List.getElem?_drop, List.getElem?_drop]
  have e : N - bck N x d = m := by omega
  rw [e]
  by_cases c : i < n
  · rw [if_pos c]
    have := hh (d - i) (by omega) (by omega)
    rw [show l.length - d + i = l.length - (d - i) by omega, ← this]
    by_cases c2 : i < m
    · rw [if_pos c2]
      congr 1
      have s1 := bck_spec N x d
      have s2 := bck_spec N x (d - i)
      omega
    · rw [if_neg c2, if_pos (by omega)]
      congr 1
      have s1 := bck_spec N x d
      have s2 := bck_spec N x (d - i)
      omega
  · rw [if_neg c, if_neg (by omega), if_neg (by omega)]
/-- What is laid in goes round the end. -/
theorem in_get {N x : Nat} {cs ys : List Int} (hc : cs.length = N) (hx : x < N) (hm : ys.length ≤ N) (q : Nat) (hq : q = min ys.length (N - x)) (p : Nat) (hp : p < N) :
    (splice (splice cs x (ys.take q)) 0 (ys.drop q))[p]? = if x ≤ p ∧ p < x + ys.length then ys[p - x]? else if p + N < x + ys.length then ys[p + N - x]? else cs[p]? := by
  have l1 : (ys.take q).length = q := by rw [List.length_take]; omega
  have l2 : (ys.drop q).length = ys.length - q := List.length_drop
  rw [splice_get _ _ _ _ (by rw [length_splice _ _ _ (by omega)]; omega), splice_get _ _ _ _ (by omega), l1, l2, List.getElem?_take, List.getElem?_drop]
  by_cases c1 : x ≤ p ∧ p < x + ys.length
  · rw [if_pos c1, if_neg (by omega), if_pos (by omega), if_pos (by omega)]
  · rw [if_neg c1]
    by_cases c2 : p + N < x + ys.length
    · rw [if_pos c2, if_pos (by omega)]
      congr 1; omega
    · rw [if_neg c2, if_neg (by omega), if_neg (by omega)]
theorem in_holds {N x : Nat} {cs l ys : List Int} (hh : Holds N x cs l) (hc : cs.length = N) (hx : x < N) (hl : l.length ≤ N) (hm : ys.length ≤ N) (q : Nat) (hq : q = min ys.length (N - x)) :
    Holds N (fwd N x ys.length) (splice (splice cs x (ys.take q)) 0 (ys.drop q)) (lastN N (l ++ ys)) := by
  intro d h1 h2
  have hlen := lastN_length N (l ++ ys)
  rw [List.length_append] at hlen
  have hp := bck_lt (fwd_lt hx hm) h1 (by omega : d ≤ N)
  rw [in_get hc hx hm q hq _ hp, hlen]
  have e : (lastN N (l ++ ys))[min (l.length + ys.length) N - d]? = (l ++ ys)[l.length + ys.length - d]? := by
    unfold lastN
    rw [List.getElem?_drop, List.length_append]
    congr 1; omega
  rw [e, List.getElem?_append]
  have s1 := fwd_spec N x ys.length
  have s2 := bck_spec N (fwd N x ys.length) d
  by_cases c : d ≤ ys.length
  · have c0 : ¬ l.length + ys.length - d < l.length := by omega
    rw [if_neg c0]
    by_cases c1 : x + (ys.length - d) < N
    · have c2 : x ≤ bck N (fwd N x ys.length) d ∧ bck N (fwd N x ys.length) d < x + ys.length := by omega
      rw [if_pos c2]
      congr 1; omega
    · have c2 : ¬ (x ≤ bck N (fwd N x ys.length) d ∧ bck N (fwd N x ys.length) d < x + ys.length) := by omega
      have c3 : bck N (fwd N x ys.length) d + N < x + ys.length := by omega
      rw [if_neg c2, if_pos c3]
      congr 1; omega
  · have s3 := bck_spec N x (d - ys.length)
    have := hh (d - ys.length) (by omega) (by omega)
    have c0 : l.length + ys.length - d < l.length := by omega
    have hb : bck N (fwd N x ys.length) d = bck N x (d - ys.length) := by omega
    have c2 : ¬ (x ≤ bck N x (d - ys.length) ∧ bck N x (d - ys.length) < x + ys.length) := by omega
    have c3 : ¬ bck N x (d - ys.length) + N < x + ys.length := by omega
    rw [if_pos c0, hb, if_neg c2, if_neg c3, this]
    congr 1; omega
theorem set_splice (cs : List Int) (x : Nat) (z : Int) (h : x < cs.length) : cs.set x z = splice cs x [z] := by
  apply List.ext_getElem?
  intro i
  rw [splice_get cs [z] x i (by simp; omega)]
  by_cases c : x = i
  · subst c
    rw [if_pos (by simp)]
    simp [h]
  · rw [if_neg (by simp; omega), List.getElem?_set_ne c]
theorem put_holds {N x : Nat} {cs l : List Int} (hh : Holds N x cs l) (hc : cs.length = N) (hx : x < N) (hl : l.length ≤ N) (z : Int) : Holds N (fwd N x 1) (cs.set x z) (lastN N (l ++ [z])) := by
  have := in_holds (ys := [z]) hh hc hx hl (by simp; omega) 1 (by simp; omega)
  rw [set_splice _ _ _ (by omega)]
  simpa [splice] using this
/-- The bytes at the end, d of them, again and again, n in all. -/
def cyc (l : List Int) (d n : Nat) : List Int := (List.range n).map fun i => l.getD (l.length - d + i % d) 0
theorem cyc_length (l : List Int) (d n : Nat) : (cyc l d n).length = n := by simp [cyc]
theorem cyc_get (l : List Int) (d n i : Nat) (h : i < n) : (cyc l d n)[i]? = some (l.getD (l.length - d + i % d) 0) := by simp [cyc, h]
theorem cyc_take (l : List Int) (d n k : Nat) (h : k ≤ n) : (cyc l d n).take k = cyc l d k := by
  apply List.ext_getElem?
  intro i
  rw [List.getElem?_take]
  by_cases c : i < k
  · rw [if_pos c, cyc_get _ _ _ _ (by omega), cyc_get _ _ _ _ c]
  · rw [if_neg c, List.getElem?_eq_none (by rw [cyc_length]; omega)]
theorem cyc_first (l : List Int) (d n : Nat) (h1 : 1 ≤ d) (hd : d ≤ l.length) (hn : n ≤ d) : (l.drop (l.length - d)).take n = cyc l d n := by
  apply List.ext_getElem?
  intro i
  rw [List.getElem?_take, List.getElem?_drop]
  by_cases c : i < n
  · rw [if_pos c, cyc_get _ _ _ _ c, Nat.mod_eq_of_lt (by omega), List.getElem?_eq_getElem (by omega)]
    simp [List.getElem?_eq_getElem (show l.length - d + i < l.length by omega)]
  · rw [if_neg c, List.getElem?_eq_none (by rw [cyc_length]; omega)]
theorem cyc_app (l : List Int) (d k m : Nat) (hk : d ∣ k) (hm : m ≤ k) : cyc l d k ++ (cyc l d k).take m = cyc l d (k + m) := by
  obtain ⟨j, rfl⟩ := hk
  apply List.ext_getElem?
  intro i
  rw [List.getElem?_append, cyc_length, List.getElem?_take]
  by_cases c : i < d * j
  · rw [if_pos c, cyc_get _ _ _ _ c, cyc_get _ _ _ _ (by omega)]
  · rw [if_neg c]
    by_cases c2 : i - d * j < m
    · rw [if_pos c2, cyc_get _ _ _ _ (by omega), cyc_get _ _ _ _ (by omega)]
      congr 3
      conv => rhs; rw [show i = (i - d * j) + d * j by omega, Nat.add_mul_mod_self_left]
    · rw [if_neg c2, List.getElem?_eq_none (by rw [cyc_length]; omega)]
end Go.Proofs.Ytlipkncnomndnaa
