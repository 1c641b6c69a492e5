/-
  What stands in a header that is written. No walk.
-/
import Derived.Test.YtcmmjbkgoafbnaaGreatDoorWwe
import Derived.Test.YtcmmjbkgoafbnaaGreatDoorTmb
import Derived.Test.YtcmmjbkgoafbnaaGreatDoorTrm
namespace Go.Proofs.YtcmmjbkgoafbnaaGreatDoor
set_option linter.unusedVariables false
set_option linter.unusedSimpArgs false
theorem ovl_get {b f : List Nat} {k : Nat} (h : k + f.length ≤ b.length) (i : Nat) : (ovl b k f)[i]? = if k ≤ i ∧ i < k + f.length then f[i - k]? else b[i]? := by
  unfold ovl
  have hk : (b.take k).length = k := by rw [List.length_take]; omega
  rcases Nat.lt_or_ge i k with h1 | h1
  · rw [if_neg (by omega), List.append_assoc, List.getElem?_append_left (by omega), List.getElem?_take_of_lt h1]
  · rw [List.append_assoc, List.getElem?_append_right (by omega), hk]
    rcases Nat.lt_or_ge i (k + f.length) with h2 | h2
    · rw [if_pos ⟨h1, h2⟩, List.getElem?_append_left (by omega)]
    · rw [if_neg (by omega), List.getElem?_append_right (by omega), List.getElem?_drop]
      congr 1; omega
theorem hd0_get (n : List Nat) (z k i : Nat) : (hd0 n z k)[i]? = if i = 156 then some k else if 257 ≤ i ∧ i < 262 then ustar[i - 257]? else if 124 ≤ i ∧ i < 136 then (oct12 z)[i - 124]? else if i < (n.take 100).length then n[i]? else if i < 512 then some 0 else none := by
  unfold hd0
  have l0 : (List.replicate 512 0).length = 512 := List.length_replicate
  have lt : (n.take 100).length ≤ 100 := by rw [List.length_take]; omega
  have l1 : (ovl (List.replicate 512 0) 0 (n.take 100)).length = 512 := by rw [ovl_len (by omega)]; exact l0
  have l2 : (ovl (ovl (List.replicate 512 0) 0 (n.take 100)) 124 (oct12 z)).length = 512 := by rw [ovl_len (by rw [oct12_len]; omega)]; exact l1
  have lu : ustar.length = 5 := rfl
  have l3 : (ovl (ovl (ovl (List.replicate 512 0) 0 (n.take 100)) 124 (oct12 z)) 257 ustar).length = 512 := by rw [ovl_len (by omega)]; exact l2
  rw [List.getElem?_set]
  by_cases h1 : i = 156
  · subst h1; rw [if_pos rfl, if_pos (by omega), if_pos rfl]
  · rw [if_neg (by omega), if_neg h1, ovl_get (by omega), lu]
    by_cases h2 : 257 ≤ i ∧ i < 262
    · rw [if_pos h2, if_pos h2]
    · rw [if_neg h2, if_neg h2, ovl_get (by rw [oct12_len]; omega), oct12_len]
      by_cases h3 : 124 ≤ i ∧ i < 136
      · rw [if_pos h3, if_pos h3]
      · rw [if_neg h3, if_neg h3, ovl_get (by omega), Nat.zero_add, Nat.sub_zero]
        by_cases h4 : i < (n.take 100).length
        · rw [if_pos ⟨Nat.zero_le _, h4⟩, if_pos h4, List.getElem?_take_of_lt (by omega)]
        · rw [if_neg (by omega), if_neg h4, List.getElem?_replicate]
/-- The sum that is written. -/
def hsm (n : List Nat) (z k : Nat) : Nat := (pl (hd0 n z k) 512).toNat
theorem hdr_get (n : List Nat) (z k i : Nat) : (hdr n z k)[i]? = if 148 ≤ i ∧ i < 156 then (oct8 (hsm n z k))[i - 148]? else (hd0 n z k)[i]? := by
  unfold hdr
  rw [ovl_get (by rw [hd0_len, oct8_len]; omega), oct8_len]
  rfl
theorem hdr_size (n : List Nat) (z k : Nat) : ((hdr n z k).drop 124).take 12 = oct12 z := by
  apply List.ext_getElem?
  intro i
  rcases Nat.lt_or_ge i 12 with h | h
  · rw [List.getElem?_take_of_lt h, List.getElem?_drop, hdr_get, if_neg (by omega), hd0_get, if_neg (by omega), if_neg (by omega), if_pos (by omega)]
    rw [show 124 + i - 124 = i by omega]
  · rw [List.getElem?_eq_none (by rw [List.length_take]; omega), List.getElem?_eq_none (by rw [oct12_len]; omega)]
theorem hdr_kind (n : List Nat) (z k : Nat) : tkd (hdr n z k) = k := by
  unfold tkd
  rw [List.getD_eq_getElem?_getD, hdr_get, if_neg (by omega), hd0_get, if_pos rfl]
  rfl
theorem hdr_ustar (n : List Nat) (z k : Nat) : ((hdr n z k).drop 257).take 5 = ustar := by
  apply List.ext_getElem?
  intro i
  rcases Nat.lt_or_ge i 5 with h | h
  · rw [List.getElem?_take_of_lt h, List.getElem?_drop, hdr_get, if_neg (by omega), hd0_get, if_neg (by omega), if_pos (by omega)]
    rw [show 257 + i - 257 = i by omega]
  · rw [List.getElem?_eq_none (by rw [List.length_take]; omega), List.getElem?_eq_none (by show 5 ≤ i; exact h)]
theorem hdr_prefix (n : List Nat) (z k : Nat) : ((hdr n z k).drop 345).take 155 = List.replicate 155 0 := by
  apply List.ext_getElem?
  intro i
  rcases Nat.lt_or_ge i 155 with h | h
  · have lt : (n.take 100).length ≤ 100 := by rw [List.length_take]; omega
    rw [List.getElem?_take_of_lt h, List.getElem?_drop, hdr_get, if_neg (by omega), hd0_get, if_neg (by omega), if_neg (by omega), if_neg (by omega), if_neg (by omega), if_pos (by omega), List.getElem?_replicate, if_pos h]
  · rw [List.getElem?_eq_none (by rw [List.length_take]; omega), List.getElem?_eq_none (by rw [List.length_replicate]; omega)]
theorem hdr_name (n : List Nat) (z k : Nat) : (hdr n z k).take 100 = n.take 100 ++ List.replicate (100 - n.length) 0 := by
  have lt : (n.take 100).length = min 100 n.length := List.length_take
  apply List.ext_getElem?
  intro i
  rcases Nat.lt_or_ge i 100 with h | h
  · rw [List.getElem?_take_of_lt h, hdr_get, if_neg (by omega), hd0_get, if_neg (by omega), if_neg (by omega), if_neg (by omega)]
    by_cases h4 : i < (n.take 100).length
    · rw [if_pos h4, List.getElem?_append_left h4, List.getElem?_take_of_lt h]
    · rw [if_neg h4, if_pos (by omega), List.getElem?_append_right (by omega), List.getElem?_replicate, if_pos (by omega)]
  · rw [List.getElem?_eq_none (by rw [List.length_take]; omega), List.getElem?_eq_none (by rw [List.length_append, List.length_replicate]; omega)]
theorem ttx_nz : ∀ {l m : List Nat}, (∀ c ∈ l, c ≠ 0) → ttx (l ++ 0 :: m) = l
  | [], m, _ => rfl
  | x :: r, m, h => by
    have := ttx_nz (l := r) (m := m) fun c hc => h c (List.mem_cons_of_mem _ hc)
    have hx : (x != 0) = true := by simpa using h x (by simp)
    unfold ttx at this ⊢
    rw [List.cons_append, List.takeWhile_cons, hx, if_pos rfl, this]
theorem ttx_all : ∀ {l : List Nat}, (∀ c ∈ l, c ≠ 0) → ttx l = l
  | [], _ => rfl
  | x :: r, h => by
    have := ttx_all (l := r) fun c hc => h c (List.mem_cons_of_mem _ hc)
    have hx : (x != 0) = true := by simpa using h x (by simp)
    unfold ttx at this ⊢
    rw [List.takeWhile_cons, hx, if_pos rfl, this]
theorem ttx_pad {l : List Nat} (m : Nat) (h : ∀ c ∈ l, c ≠ 0) : ttx (l ++ List.replicate m 0) = l := by
  cases m with
  | zero => rw [List.replicate_zero, List.append_nil, ttx_all h]
  | succ m => rw [List.replicate_succ, ttx_nz h]
theorem hdr_tnm {n : List Nat} (z k : Nat) (h : ∀ c ∈ n, c ≠ 0) : tnm (hdr n z k) = n.take 100 := by
  unfold tnm
  rw [hdr_prefix, show ttx (List.replicate 155 0) = [] by rw [List.replicate_succ]; rfl, if_neg (fun q => q.2 rfl), hdr_name]
  exact ttx_pad _ fun c hc => h c (List.mem_of_mem_take hc)
theorem pl_congr {l m : List Nat} : ∀ k : Nat, (∀ i, i < k → val l i = val m i) → pl l k = pl m k
  | 0, _ => rfl
  | k + 1, h => by rw [pl, pl, pl_congr k fun i hi => h i (by omega), h k (by omega)]
theorem hdr_pl (n : List Nat) (z k : Nat) : pl (hdr n z k) 512 = pl (hd0 n z k) 512 := pl_congr 512 fun i hi => by
  unfold val
  split
  · rfl
  · rename_i h
    rw [List.getD_eq_getElem?_getD, List.getD_eq_getElem?_getD, hdr_get, if_neg h]
theorem hdr_sum (n : List Nat) (z k : Nat) : sumfield (hdr n z k) = oct8 (hsm n z k) := by
  unfold sumfield
  apply List.ext_getElem?
  intro i
  rcases Nat.lt_or_ge i 8 with h | h
  · rw [List.getElem?_take_of_lt h, List.getElem?_drop, hdr_get, if_pos (by omega)]
    rw [show 148 + i - 148 = i by omega]
  · rw [List.getElem?_eq_none (by rw [List.length_take]; omega), List.getElem?_eq_none (by rw [oct8_len]; omega)]
theorem oct8_oct_eq {u : Nat} (h : u < 2097152) : oct (oct8 u) = some u := by
  have h1 := (put_back (put8 h)).1
  have h2 : marked (oct8 u) = false := by
    unfold oct8
    rw [hi, List.cons_append, marked]
    simp; omega
  unfold fld at h1
  rw [h2, if_neg (by decide)] at h1
  exact h1
theorem hsm_lt {n : List Nat} {z k : Nat} (hn : Oct n) (hk : k < 256) : hsm n z k < 2097152 ∧ (hsm n z k : Int) = pl (hd0 n z k) 512 := by
  have h := pl_bd (hd0_oct (size := z) hn hk) 512
  unfold hsm
  omega
theorem hdr_rgt {n : List Nat} {z k : Nat} (hn : Oct n) (hk : k < 256) : rgt (hdr n z k) = true := by
  have h := hsm_lt (z := z) hn hk
  unfold rgt
  rw [hdr_sum, oct8_oct_eq h.1]
  simp only [Bool.or_eq_true, decide_eq_true_eq]
  left
  rw [hdr_pl]
  exact h.2
theorem hdr_fld {n : List Nat} {z k : Nat} (hz : z < 8589934592) : fld (((hdr n z k).drop 124).take 12) = some z := by
  rw [hdr_size]
  exact (put_back (put12 hz)).1
theorem hdr_some (n : List Nat) (z k : Nat) : noughts (hdr n z k) = false := by
  unfold noughts
  rw [List.all_eq_false]
  have h : (hdr n z k)[257]? = some 117 := by rw [hdr_get, if_neg (by omega), hd0_get, if_neg (by omega), if_pos (by omega)]; rfl
  exact ⟨117, List.mem_of_getElem? h, by decide⟩
end Go.Proofs.YtcmmjbkgoafbnaaGreatDoor
