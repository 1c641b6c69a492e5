/-
  A header in which one byte of its name is another one. No walk.
-/
import Derived.Test.YtcmmjbkgoafbnaaDoorMm
namespace Go.Proofs.YtcmmjbkgoafbnaaDoor
set_option linter.unusedVariables false
set_option linter.unusedSimpArgs false
theorem val_set_ne {c : List Nat} {k y i : Nat} (h : k ≠ i) : val (c.set k y) i = val c i := by
  unfold val
  rw [List.getD_eq_getElem?_getD, List.getD_eq_getElem?_getD, List.getElem?_set, if_neg h]
theorem val_at {c : List Nat} {k x : Nat} (h : k < 148) (hx : c[k]? = some x) : val c k = x := by
  unfold val
  rw [if_neg (by omega), List.getD_eq_getElem?_getD, hx]
  rfl
theorem pl_set {c : List Nat} {k x y : Nat} (h : k < 148) (hx : c[k]? = some x) : ∀ m, pl (c.set k y) m = pl c m + (if k < m then (y : Int) - x else 0)
  | 0 => by rw [if_neg (by omega)]; rfl
  | m + 1 => by
    have ih := pl_set (y := y) h hx m
    rw [pl, pl, ih]
    by_cases hk : k = m
    · subst hk
      have hlt : k < c.length := (List.getElem?_eq_some_iff.1 hx).1
      rw [val_at (x := y) h (by rw [List.getElem?_set, if_pos rfl, if_pos hlt]), val_at h hx, if_neg (Nat.lt_irrefl k), if_pos (Nat.lt_succ_self k)]
      omega
    · rw [val_set_ne hk]
      by_cases h2 : k < m
      · rw [if_pos h2, if_pos (by omega)]; omega
      · rw [if_neg h2, if_neg (by omega)]; omega
/-- The sum that takes bytes as below 0 is the plain one but for 256. -/
theorem sn_mod (l : List Nat) : ∀ m, ∃ q : Int, sn l m = pl l m - 256 * q
  | 0 => ⟨0, rfl⟩
  | m + 1 => by
    obtain ⟨q, hq⟩ := sn_mod l m
    have hs : ∃ p : Int, sg (val l m) = (val l m : Int) - 256 * p := by
      unfold sg; split
      · exact ⟨1, by omega⟩
      · exact ⟨0, by omega⟩
    obtain ⟨p, hp⟩ := hs
    exact ⟨q + p, by rw [sn, pl, hq, hp]; omega⟩
theorem sumfield_set {l : List Nat} {p y : Nat} (hp : p < 148) : sumfield (l.set p y) = sumfield l := by
  unfold sumfield
  apply List.ext_getElem?
  intro i
  rw [List.getElem?_take, List.getElem?_take, List.getElem?_drop, List.getElem?_drop, List.getElem?_set, if_neg (show ¬ p = 148 + i by omega)]
theorem hdr_turned {n : List Nat} {z k p x y : Nat} (hn : Oct n) (hk : k < 256) (hp : p < 100) (hx : (hdr n z k)[p]? = some x) (hy : y % 256 ≠ x % 256) : rgt ((hdr n z k).set p y) = false := by
  have h := hsm_lt (z := z) hn hk
  have hq := pl_set (y := y) (by omega : p < 148) hx 512
  rw [hdr_pl, ← h.2, if_pos (by omega)] at hq
  obtain ⟨q, hs⟩ := sn_mod ((hdr n z k).set p y) 512
  unfold rgt
  rw [sumfield_set (by omega), hdr_sum, oct8_oct_eq h.1]
  simp only [Bool.or_eq_false_iff, decide_eq_false_iff_not]
  constructor
  · omega
  · omega
theorem turned_some {n : List Nat} {z k p y : Nat} (hp : p < 100) : noughts ((hdr n z k).set p y) = false := by
  unfold noughts
  rw [List.all_eq_false]
  have h : ((hdr n z k).set p y)[257]? = some 117 := by rw [List.getElem?_set, if_neg (by omega), hdr_get, if_neg (by omega), hd0_get, if_neg (by omega), if_pos (by omega)]; rfl
  exact ⟨117, List.mem_of_getElem? h, by decide⟩
theorem rgt_run {t : Nat} {s : Ts} {c : Cm} {b : List Nat} (h : Sd c s) (hl : b.length = 512) (h1 : noughts b = false) (h2 : rgt b = false) : ∃ s', Mr t s b s' [] ∧ s'.why = 44 := by
  have hb := run_block (h := b) (t := t) h.why h.wh h.ps h.bl hl
  have ht : ∀ S : Ts, noughts S.B = false → rgt S.B = false → thead S = ({ S with why := 44 }, []) := fun S a1 a2 => by unfold thead; rw [if_neg (by rw [a1]; decide), if_pos a2]
  rw [ht _ h1 h2] at hb
  refine ⟨_, hb, ?_⟩
  unfold tnx
  split
  · rfl
  · rfl
/-- Entries, and a header whose sum is wrong. -/
theorem turned_run {l : List Ent} (h : ∀ e ∈ l, Eok e) {b : List Nat} (hl : b.length = 512) (h1 : noughts b = false) (h2 : rgt b = false) (x : List Nat) : ∃ s T, Rch (wal l ++ (b ++ x)) ((wal l).length + 512) s T ∧ s.why = 44 ∧ po2 [] [] (evx T) = (tdn l, tdd l) := by
  obtain ⟨s1, T1, q1, q2, q3⟩ := wal_run l 0 t0 h sd0
  obtain ⟨s2, r1, r2⟩ := rgt_run (t := 0 + (wal l).length) q2 hl h1 h2
  refine ⟨s2, T1 ++ [], ⟨by rw [List.length_append, List.length_append]; omega, ?_⟩, r2, by rw [List.append_nil, q3]; exact po2_told h⟩
  have e : (wal l ++ (b ++ x)).take ((wal l).length + 512) = wal l ++ b := by
    rw [← List.append_assoc, List.take_append_of_le_length (by rw [List.length_append]; omega), List.take_of_length_le (by rw [List.length_append]; omega)]
  rw [e]
  exact (mr_append _ _ _ _ _ _).2 ⟨_, _, _, q1, r1, rfl⟩
/-- A file without data, its name as it is. -/
theorem wen_bare {n : List Nat} (h : (nmd n).length ≤ 100) : wen (n, [], 0, 0) = hdr (nmd n) 0 48 := by
  have hw : whw 0 (nmd n) = 0 := by unfold whw; rw [if_neg (by omega)]
  show (if (0 : Nat) ≠ 0 then _ else wpr (whw 0 (nmd n)) (nmd n) [] ++ (hdr (nmd n) (if whw 0 (nmd n) = 3 then 7 else ([] : List Nat).length) 48 ++ wh512 [])) = _
  rw [if_neg (by decide), hw, if_neg (by decide)]
  unfold wpr
  rw [if_neg (by decide), if_neg (by decide), if_neg (by decide), List.nil_append]
  show hdr (nmd n) 0 48 ++ ([] ++ List.replicate 0 0) = _
  simp
theorem wal_last (l : List Ent) (e : Ent) : wal (l ++ [e]) = wal l ++ wen e := by
  rw [wal_append]
  show wal l ++ (wen e ++ []) = _
  rw [List.append_nil]
theorem wri_last {l : List Ent} {n : List Nat} (h : (nmd n).length ≤ 100) : wri (l ++ [(n, [], 0, 0)]) = wal l ++ (hdr (nmd n) 0 48 ++ List.replicate 1024 0) := by
  unfold wri
  rw [wal_last, wen_bare h, List.append_assoc]
end Go.Proofs.YtcmmjbkgoafbnaaDoor
