/-
  Blanks, one behind the other: with which byte each is known. No walk in it.
-/
import Derived.Test.YtapljkenmgdkmaaEsc
namespace Go.Proofs.Ytapljkenmgdkmaa
theorem range_shift (n c : Nat) : (List.range (n + 1)).map (fun j => c + j) = c :: (List.range n).map (fun j => c + 1 + j) := by
  rw [List.range_succ_eq_map, List.map_cons, List.map_map]
  congr 1
  refine List.map_congr_left fun j _ => ?_
  simp
  omega
theorem rn_blanks : ∀ (bl : List Nat), (∀ x ∈ bl, isB x = true) → ∀ (i : Nat) (W r : List Nat), W.length ≤ 64 →
    rn i .no W (bl ++ r) = cat ((W ++ bl).take (W.length + bl.length - 64)) ((List.range (W.length + bl.length - 64)).map (fun j => i + (64 - W.length) + j)) (rn (i + bl.length) .no ((W ++ bl).drop (W.length + bl.length - 64)) r)
  | [], _, i, W, r, h => by
    have e : W.length + ([] : List Nat).length - 64 = 0 := by simp; omega
    rw [e]
    simp [cat]
  | b :: bl, hb, i, W, r, h => by
    have hb0 := hb b (by simp)
    have hbl : ∀ x ∈ bl, isB x = true := fun x hx => hb x (by simp [hx])
    rw [List.cons_append, rn_blank i W b _ hb0]
    by_cases h64 : 64 ≤ W.length
    · rw [if_pos h64]
      have hW : W.length = 64 := by omega
      cases W with
      | nil => simp at hW
      | cons x W =>
        simp at hW
        have hl : (List.drop 1 (x :: W) ++ [b]).length = 64 := by simp; omega
        rw [rn_blanks bl hbl (i + 1) (List.drop 1 (x :: W) ++ [b]) r (by omega), hl]
        have e1 : 64 + bl.length - 64 = bl.length := by omega
        have e2 : (x :: W).length + (b :: bl).length - 64 = bl.length + 1 := by simp; omega
        rw [e1, e2, cat_addk, cat_cat]
        have e3 : i + 1 + bl.length = i + (b :: bl).length := by simp; omega
        have e4 : List.drop 1 (x :: W) ++ [b] ++ bl = W ++ b :: bl := by simp
        have e5 : 64 - (x :: W).length = 0 := by simp; omega
        rw [e3, e4, e5, Nat.add_zero, range_shift]
        simp
    · rw [if_neg h64]
      rw [rn_blanks bl hbl (i + 1) (W ++ [b]) r (by simp; omega)]
      have e1 : (W ++ [b]).length + bl.length - 64 = W.length + (b :: bl).length - 64 := by simp; omega
      have e2 : W ++ [b] ++ bl = W ++ b :: bl := by simp
      have e3 : i + 1 + bl.length = i + (b :: bl).length := by simp; omega
      rw [e1, e2, e3]
      congr 2
      funext j
      simp
      omega
theorem brk_cond (r : List Nat) : (r = [] ∨ r[0]? = some 10 ∨ (r[0]? = some 13 ∧ r[1]? = some 10)) ↔ (r = [] ∨ 0 < brk r) := by
  match r with
  | [] => simp
  | [x] =>
    by_cases h : x = 10
    · subst h; simp [brk]
    · rw [brk_x h (Or.inr (fun q e => by cases e))]; simp; omega
  | x :: y :: q =>
    by_cases h : x = 10
    · subst h; simp [brk]
    · by_cases h13 : x = 13
      · subst h13
        by_cases hy : y = 10
        · subst hy; simp [brk]
        · rw [brk_x h (Or.inr (fun q e => by cases e; exact hy rfl))]; simp; omega
      · rw [brk_x h (Or.inl h13)]; simp; omega
/-- The bytes of a run of blanks that were said behind j rounds, and their times. -/
def bK (bl : List Nat) (d : Bool) (j : Nat) : List Nat := bl.take (min j (bl.length - 64)) ++ (if d = true then [] else (bl.take j).drop (bl.length - 64))
def bT (bl : List Nat) (d : Bool) (i kt j : Nat) : List Nat := (List.range (min j (bl.length - 64))).map (fun q => i + 64 + q) ++ (if d = true then [] else List.replicate (j - (bl.length - 64)) kt)
theorem bK_zero (bl : List Nat) (d : Bool) : bK bl d 0 = [] := by simp [bK]
theorem bT_zero (bl : List Nat) (d : Bool) (i kt : Nat) : bT bl d i kt 0 = [] := by simp [bT]
theorem b_early {bl : List Nat} {d : Bool} {i kt j x : Nat} (hx : bl[j]? = some x) (h : j + 64 < bl.length) : bK bl d (j + 1) = bK bl d j ++ [x] ∧ bT bl d i kt (j + 1) = bT bl d i kt j ++ [i + j + 64] := by
  have e1 : min (j + 1) (bl.length - 64) = j + 1 := by omega
  have e2 : min j (bl.length - 64) = j := by omega
  have e3 : (bl.take (j + 1)).drop (bl.length - 64) = [] := List.drop_eq_nil_of_le (by simp; omega)
  have e4 : (bl.take j).drop (bl.length - 64) = [] := List.drop_eq_nil_of_le (by simp; omega)
  have e5 : j + 1 - (bl.length - 64) = 0 := by omega
  have e6 : j - (bl.length - 64) = 0 := by omega
  unfold bK bT
  rw [e1, e2, e3, e4, e5, e6, List.take_add_one, hx]
  constructor
  · simp
  · simp [List.range_succ]
    omega
theorem b_drop {bl : List Nat} {i kt j : Nat} (h : ¬ j + 64 < bl.length) : bK bl true (j + 1) = bK bl true j ∧ bT bl true i kt (j + 1) = bT bl true i kt j := by
  have e1 : min (j + 1) (bl.length - 64) = min j (bl.length - 64) := by omega
  unfold bK bT
  rw [e1]
  simp
theorem b_late {bl : List Nat} {i kt j x : Nat} (hx : bl[j]? = some x) (h : ¬ j + 64 < bl.length) : bK bl false (j + 1) = bK bl false j ++ [x] ∧ bT bl false i kt (j + 1) = bT bl false i kt j ++ [kt] := by
  have hj : j < bl.length := (List.getElem?_eq_some_iff.1 hx).1
  have e1 : min (j + 1) (bl.length - 64) = min j (bl.length - 64) := by omega
  have e2 : j + 1 - (bl.length - 64) = j - (bl.length - 64) + 1 := by omega
  unfold bK bT
  rw [e1, e2, List.take_add_one, hx]
  constructor
  · simp only [Bool.false_eq_true, if_false]
    rw [List.drop_append_of_le_length (by simp; omega)]
    simp
  · simp [List.replicate_succ']
/-- The time of the last blanks. -/
def lastT (e : Nat) (r : List Nat) : Nat := if r[0]? = some 13 then e + 1 else e
theorem b_all {l bl r : List Nat} {i : Nat} (hm : l.drop i = bl ++ r) (hb : ∀ x ∈ bl, isB x = true) (hr : ∀ x, r[0]? = some x → isB x = false) : Tk l i bl.length (bK bl (decide (r = [] ∨ 0 < brk r)) bl.length) (bT bl (decide (r = [] ∨ 0 < brk r)) i (lastT (i + bl.length) r) bl.length) := by
  have hr2 : l.drop (i + bl.length) = r := by rw [← List.drop_drop, hm, List.drop_left]
  rw [Tk, hm, hr2, rn_blanks bl hb i [] r (by simp), rn_behind (i + bl.length) _ r hr]
  have e1 : ([] : List Nat).length + bl.length - 64 = bl.length - 64 := by simp
  have e2 : min bl.length (bl.length - 64) = bl.length - 64 := by omega
  have e3 : bl.length - (bl.length - 64) = (bl.drop (bl.length - 64)).length := by simp
  unfold bK bT
  rw [e1, e2, List.nil_append, List.take_length]
  by_cases hc : r = [] ∨ 0 < brk r
  · rw [if_pos ((brk_cond r).2 hc), decide_eq_true hc]
    simp
  · rw [if_neg (fun h => hc ((brk_cond r).1 h)), decide_eq_false hc, cat_addk, cat_cat, e3]
    simp [lastT]
end Go.Proofs.Ytapljkenmgdkmaa
