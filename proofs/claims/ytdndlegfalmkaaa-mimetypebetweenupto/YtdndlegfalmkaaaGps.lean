/-
  What may stand between, and words with capital letters: the mathematics.
-/
import Derived.Test.YtdndlegfalmkaaaBackCore
namespace Go.Proofs.Ytdndlegfalmkaaa
open Go.RowKit
set_option linter.unusedVariables false
def gp : Nat → List Nat
  | 0 => []
  | 1 => [32]
  | 2 => [9, 32]
  | 3 => [40, 97, 59, 98, 41]
  | 4 => [32, 40, 120, 40, 121, 41, 92, 41, 41, 32]
  | _ => [40, 41]
theorem bt_close (r : List Nat) : bt 1 (41 :: r) = bt 0 r := by
  cases r <;> simp [bt]
theorem gp_gap : ∀ j, Gap (gp j)
  | 0 => fun r => rfl
  | 1 => fun r => by show bt 0 (32 :: r) = _; exact bt_blank (by decide)
  | 2 => fun r => by show bt 0 (9 :: 32 :: r) = _; rw [bt_blank (by decide), bt_blank (by decide)]
  | 3 => fun r => by show bt 0 (40 :: 97 :: 59 :: 98 :: 41 :: r) = _; rw [← bt_close r]; simp [bt, isB]
  | 4 => fun r => by
    show bt 0 (32 :: 40 :: 120 :: 40 :: 121 :: 41 :: 92 :: 41 :: 41 :: 32 :: r) = _
    have e : bt 0 r = bt 1 (41 :: 32 :: r) := by rw [bt_close, bt_blank (by decide)]
    rw [e]
    simp [bt, isB]
  | _ + 5 => fun r => by show bt 0 (40 :: 41 :: r) = _; rw [← bt_close r]; simp [bt, isB]
theorem gp_nt : ∀ j, nt (gp j) = true
  | 0 => rfl
  | 1 => rfl
  | 2 => rfl
  | 3 => rfl
  | 4 => rfl
  | _ + 5 => rfl
theorem gp_oct : ∀ j, Oct (gp j)
  | 0 => by simp [gp, Oct]
  | 1 => by simp [gp, Oct]
  | 2 => by simp [gp, Oct]
  | 3 => by simp [gp, Oct]
  | 4 => by simp [gp, Oct]
  | _ + 5 => by simp [gp, Oct]
theorem gp_len : ∀ j, (gp j).length ≤ 10
  | 0 => by simp [gp]
  | 1 => by simp [gp]
  | 2 => by simp [gp]
  | 3 => by simp [gp]
  | 4 => by simp [gp]
  | _ + 5 => by simp [gp]
def pu (A : List Nat) (i : Nat) : List Nat := if A = [] then [] else gp (A.getD (i % A.length) 0 % 6)
theorem pu_gap (A : List Nat) (i : Nat) : Gap (pu A i) := by
  unfold pu
  split
  · exact Gap.nil
  · exact gp_gap _
theorem pu_nt (A : List Nat) (i : Nat) : nt (pu A i) = true := by
  unfold pu
  split
  · rfl
  · exact gp_nt _
theorem pu_oct (A : List Nat) (i : Nat) : Oct (pu A i) := by
  unfold pu
  split
  · simp [Oct]
  · exact gp_oct _
theorem pu_len (A : List Nat) (i : Nat) : (pu A i).length ≤ 10 := by
  unfold pu
  split
  · simp
  · exact gp_len _
def up (A : List Nat) (k x : Nat) : Nat := if (A ≠ [] ∧ A.getD (k % A.length) 0 % 2 = 1) ∧ 97 ≤ x ∧ x ≤ 122 then x - 32 else x
def mxf (A : List Nat) : Nat → List Nat → List Nat
  | _, [] => []
  | k, x :: r => up A k x :: mxf A (k + 1) r
theorem lo_up (A : List Nat) (k x : Nat) : lo (up A k x) = lo x := by
  unfold up
  split
  · unfold lo
    rw [if_pos (by omega), if_neg (by omega)]
    omega
  · rfl
theorem tk_az : ∀ y : Fin 26, tk (y.val + 65) = true ∧ tk (y.val + 97) = true := by decide
theorem tk_up (A : List Nat) (k x : Nat) : tk (up A k x) = tk x := by
  unfold up
  split
  · rename_i h
    have h1 := tk_az ⟨x - 97, by omega⟩
    simp only at h1
    have e1 : x - 97 + 65 = x - 32 := by omega
    have e2 : x - 97 + 97 = x := by omega
    rw [e1, e2] at h1
    rw [h1.1, h1.2]
  · rfl
theorem up_le (A : List Nat) (k x : Nat) : up A k x ≤ x := by
  unfold up
  split <;> omega
theorem mxf_len (A : List Nat) : ∀ (l : List Nat) (k : Nat), (mxf A k l).length = l.length
  | [], _ => rfl
  | x :: r, k => by simp [mxf, mxf_len A r (k + 1)]
theorem low_mxf (A : List Nat) : ∀ (l : List Nat) (k : Nat), low (mxf A k l) = low l
  | [], _ => rfl
  | x :: r, k => by
    have h := low_mxf A r (k + 1)
    unfold low at *
    simp only [mxf, List.map_cons, lo_up, h]
theorem all_mxf (A : List Nat) : ∀ (l : List Nat) (k : Nat), (mxf A k l).all tk = l.all tk
  | [], _ => rfl
  | x :: r, k => by simp only [mxf, List.all_cons, tk_up, all_mxf A r (k + 1)]
theorem tok_mxf (A : List Nat) (l : List Nat) (k : Nat) : tok (mxf A k l) = tok l := by
  unfold tok
  rw [all_mxf]
  cases l <;> rfl
theorem oct_mxf (A : List Nat) : ∀ (l : List Nat) (k : Nat), Oct l → Oct (mxf A k l)
  | [], _, _ => by simp [mxf, Oct]
  | x :: r, k, h => by
    have hx := h x (by simp)
    have := up_le A k x
    exact Oct.cons (by omega) (oct_mxf A r (k + 1) fun y hy => h y (by simp [hy]))
theorem mxf_app (A : List Nat) : ∀ (l m : List Nat) (k : Nat), mxf A k (l ++ m) = mxf A k l ++ mxf A (k + l.length) m
  | [], m, k => rfl
  | x :: r, m, k => by
    have h := mxf_app A r m (k + 1)
    have e : k + 1 + r.length = k + (x :: r).length := by simp; omega
    rw [e] at h
    simp only [List.cons_append, mxf, h]
/-- A word turned up to a place. -/
def mk (A l : List Nat) (k : Nat) : List Nat := mxf A 0 (l.take k) ++ l.drop k
theorem mk_get {A l : List Nat} {k x : Nat} (hx : l[k]? = some x) : (mk A l k)[k]? = some x := by
  have hk := (List.getElem?_eq_some_iff.1 hx).1
  unfold mk
  rw [drop_more hx, List.getElem?_append_right (by rw [mxf_len]; simp; omega)]
  have : k - (mxf A 0 (l.take k)).length = 0 := by rw [mxf_len]; simp; omega
  rw [this]
  rfl
theorem mk_set {A l : List Nat} {k x : Nat} (hx : l[k]? = some x) : (mk A l k).set k (up A k x) = mk A l (k + 1) := by
  have hk := (List.getElem?_eq_some_iff.1 hx).1
  unfold mk
  have h0 : (l.take k).length = k := by simp; omega
  rw [drop_more hx, take_more hx, mxf_app, h0, Nat.zero_add]
  have hl : (mxf A 0 (l.take k)).length = k := by rw [mxf_len]; simp; omega
  rw [List.set_append_right _ _ (by omega), hl, Nat.sub_self, List.set_cons_zero]
  simp [mxf]
theorem mk_same {A l : List Nat} {k x : Nat} (hx : l[k]? = some x) (h : up A k x = x) : mk A l k = mk A l (k + 1) := by
  rw [← mk_set hx, h]
  refine (List.ext_getElem? fun i => ?_)
  rw [List.getElem?_set]
  split
  · rename_i e
    subst e
    rw [mk_get hx]
    have := (List.getElem?_eq_some_iff.1 (mk_get (A := A) hx)).1
    simp [this]
  · rfl
theorem mk_len (A l : List Nat) (k : Nat) : (mk A l k).length = l.length := by
  unfold mk
  rw [List.length_append, mxf_len, ← List.length_append, List.take_append_drop]
end Go.Proofs.Ytdndlegfalmkaaa
