/-
  Records that are written are read. No walk.
-/
import Derived.Test.YtcmmjbkgoafbnaaGreatDoorMhd
namespace Go.Proofs.YtcmmjbkgoafbnaaGreatDoor
set_option linter.unusedVariables false
set_option linter.unusedSimpArgs false
theorem dgs_isd : ∀ (f n : Nat), n ≤ f → ∀ x ∈ dgs n, isd x = true
  | f, n, h, x, hx => by
    by_cases h9 : n ≤ 9
    · rw [dgs_small h9] at hx
      simp at hx
      rw [isd_true]; omega
    · cases f with
      | zero => omega
      | succ f =>
        rw [dgs_more (by omega)] at hx
        rcases List.mem_append.1 hx with e | e
        · exact dgs_isd f (n / 10) (by omega) x e
        · simp at e; rw [isd_true]; omega
theorem dgs_pos (n : Nat) : 0 < (dgs n).length := by
  by_cases h9 : n ≤ 9
  · rw [dgs_small h9]; simp
  · rw [dgs_more (by omega)]; simp
theorem dgs_num : ∀ (f n : Nat), n ≤ f → num 0 (dgs n) = n
  | f, n, h => by
    by_cases h9 : n ≤ 9
    · rw [dgs_small h9]
      show 10 * 0 + (48 + n - 48) = n
      omega
    · cases f with
      | zero => omega
      | succ f =>
        rw [dgs_more (by omega), num_append, dgs_num f (n / 10) (by omega)]
        show 10 * (n / 10) + (48 + n % 10 - 48) = n
        omega
theorem tdc_append : ∀ (l m : List Nat) (v : Nat), tdc v (l ++ m) = (tdc v l).bind fun u => tdc u m
  | [], m, v => rfl
  | x :: r, m, v => by
    show (if isd x = false then none else if 9223372036854775807 < 10 * v + (x - 48) then none else tdc (10 * v + (x - 48)) (r ++ m)) = (if isd x = false then none else if 9223372036854775807 < 10 * v + (x - 48) then none else tdc (10 * v + (x - 48)) r).bind fun u => tdc u m
    split
    · rfl
    · split
      · rfl
      · exact tdc_append r m _
theorem tdc_one {v y : Nat} (h : y ≤ 9) (hb : 10 * v + y ≤ 9223372036854775807) : tdc v [48 + y] = some (10 * v + y) := by
  show (if isd (48 + y) = false then none else if 9223372036854775807 < 10 * v + (48 + y - 48) then none else some (10 * v + (48 + y - 48))) = _
  rw [if_neg (by rw [isd_false]; omega), show 48 + y - 48 = y by omega, if_neg (by omega)]
theorem dgs_tdc : ∀ (f n : Nat), n ≤ f → n ≤ 9223372036854775807 → tdc 0 (dgs n) = some n
  | f, n, h, hb => by
    by_cases h9 : n ≤ 9
    · rw [dgs_small h9, tdc_one h9 (by omega)]
      congr 1; omega
    · cases f with
      | zero => omega
      | succ f =>
        rw [dgs_more (by omega), tdc_append, dgs_tdc f (n / 10) (by omega) (by omega)]
        show tdc (n / 10) [48 + n % 10] = some n
        rw [tdc_one (by omega) (by omega)]
        congr 1; omega
theorem dgs_tdec {n : Nat} (hb : n ≤ 9223372036854775807) : tdec (dgs n) = some n := by
  unfold tdec
  rw [if_neg (fun h => by have := dgs_pos n; rw [h] at this; simp at this), dgs_tdc n n (Nat.le_refl _) hb]
theorem dgs_len4 {n : Nat} (h : n < 1000) : (dgs n).length ≤ 3 := by
  by_cases h9 : n ≤ 9
  · rw [dgs_small h9]; simp
  · rw [dgs_more (by omega)]
    by_cases h8 : n / 10 ≤ 9
    · rw [dgs_small h8]; simp
    · rw [dgs_more (by omega), dgs_small (by omega)]; simp
theorem tcut_form {D x r : List Nat} (hd : ∀ y ∈ D, isd y = true) (h4 : D.length ≤ 4) (hN : num 0 D = D.length + x.length + 2) : tcut (D ++ 32 :: (x ++ 10 :: r)) = some (x, D.length + x.length + 2) := by
  have g32 : (D ++ 32 :: (x ++ 10 :: r))[D.length]? = some 32 := by
    rw [List.getElem?_append_right (Nat.le_refl _), Nat.sub_self]; rfl
  have hl : (D ++ 32 :: (x ++ 10 :: r)).length = D.length + x.length + 2 + r.length := by simp; omega
  have hdg : Dg (D ++ 32 :: (x ++ 10 :: r)) D.length := ⟨by omega, fun i y hi hy => by
    rw [List.getElem?_append_left hi] at hy
    exact hd y (List.mem_of_getElem? hy)⟩
  rw [tcut_eq hdg h4 (Or.inr (Or.inr ⟨32, g32, rfl⟩)), List.take_left, hN]
  have g10 : (D ++ 32 :: (x ++ 10 :: r))[D.length + x.length + 2 - 1]? = some 10 := by
    rw [List.getElem?_append_right (by omega), show D.length + x.length + 2 - 1 - D.length = x.length + 1 by omega, List.getElem?_cons_succ, List.getElem?_append_right (Nat.le_refl _), Nat.sub_self]; rfl
  rw [if_neg (by rw [hl, g32, g10]; intro h; rcases h with h | h | h | h <;> first | omega | exact h rfl)]
  have e : ((D ++ 32 :: (x ++ 10 :: r)).take (D.length + x.length + 2 - 1)).drop (D.length + 1) = x := by
    have e1 : D ++ 32 :: (x ++ 10 :: r) = (D ++ [32]) ++ (x ++ 10 :: r) := by simp
    have q : D.length + x.length + 2 - 1 - (D ++ [32]).length = x.length := by rw [List.length_append, List.length_singleton]; omega
    rw [e1, List.drop_take, show D.length + 1 = (D ++ [32]).length by simp, List.drop_left, q, List.take_left]
  rw [e]
theorem teq_form {k v : List Nat} (hk : 61 ∉ k) : teq (k ++ 61 :: v) = some (k, v) := by
  have := teq_at (x := k ++ 61 :: v) (i := k.length) (by rw [List.getElem?_append_right (Nat.le_refl _), Nat.sub_self]; rfl) (fun j y hj hy => by
    rw [List.getElem?_append_left hj] at hy
    intro e; subst e; exact hk (List.mem_of_getElem? hy))
  rw [this, List.take_left, show k ++ 61 :: v = (k ++ [61]) ++ v by simp, show k.length + 1 = (k ++ [61]).length by simp, List.drop_left]
theorem sad_trc {k v r : List Nat} (hk : 61 ∉ k) (h : k.length + v.length + 3 < 900) : trc (sad k v ++ r) = some (k, v, (sad k v).length) := by
  obtain ⟨h1, h2⟩ := sdl_ok (s := k.length + v.length + 3) (by omega)
  have hl := sad_len (k := k) (v := v) (by omega)
  obtain ⟨n, hn⟩ : ∃ n, sdl (k.length + v.length + 3) = n := ⟨_, rfl⟩
  have e : sad k v ++ r = dgs n ++ 32 :: ((k ++ 61 :: v) ++ 10 :: r) := by unfold sad; rw [hn]; simp
  rw [hn] at h1 h2 hl
  have hx : (k ++ 61 :: v).length = k.length + v.length + 1 := by simp; omega
  have hc := tcut_form (D := dgs n) (x := k ++ 61 :: v) (r := r) (dgs_isd n n (Nat.le_refl _)) (by have := dgs_len4 (n := n) (by omega); omega) (by rw [dgs_num n n (Nat.le_refl _), hx]; omega)
  rw [e, trc_of hc, teq_form hk, hl, hx]
  show some (k, v, _) = some (k, v, n)
  rw [show (dgs n).length + (k.length + v.length + 1) + 2 = n by omega]
theorem trr_path {nm r : List Nat} (c : Cm) (h : nm.length ≤ 256) : trr (sad kpath nm ++ r) c = trr r (some nm, c.2) := by
  have hp : kpath.length = 4 := rfl
  rw [trr_some (sad_trc (by decide) (by omega))]
  have : tset kpath nm c = ((some nm, c.2), 0) := by unfold tset tnam; rw [if_pos rfl, if_neg (by omega)]
  rw [this, if_neg (by simp), List.drop_left]
theorem trr_size {L : Nat} {r : List Nat} (c : Cm) (h : L ≤ 100000) : trr (sad ksize (dgs L) ++ r) c = trr r (c.1, some L) := by
  have hp : ksize.length = 4 := rfl
  have hd := dgs_len (n := L) (by omega)
  rw [trr_some (sad_trc (by decide) (by omega))]
  have : tset ksize (dgs L) c = ((c.1, some L), 0) := by unfold tset tsiz; rw [if_neg (by decide), if_pos rfl, dgs_tdec (by omega)]
  rw [this, if_neg (by simp), List.drop_left]
theorem trr_one {nm : List Nat} (h : nm.length ≤ 256) : trr (sad kpath nm) (none, none) = ((some nm, none), 0) := by
  have := trr_path (r := []) (none, none) h
  rw [List.append_nil] at this
  rw [this]; rfl
theorem trr_two {nm : List Nat} {L : Nat} (h : nm.length ≤ 256) (hL : L ≤ 100000) : trr (sad kpath nm ++ sad ksize (dgs L)) (none, none) = ((some nm, some L), 0) := by
  have := trr_size (r := []) (some nm, none) hL
  rw [List.append_nil] at this
  rw [trr_path _ h, this]; rfl
end Go.Proofs.YtcmmjbkgoafbnaaGreatDoor
