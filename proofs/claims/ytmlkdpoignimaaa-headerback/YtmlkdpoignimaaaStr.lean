/-
  Strings as lists of bytes; a string's runes. No walk.
-/
import Derived.Test.YtmlkdpoignimaaaMth
import Derived.Laws.RangeAny
namespace Go.Proofs.Ytmlkdpoignimaaa
set_option linter.unusedVariables false
def Oct (l : List Nat) : Prop := ∀ x ∈ l, x < 256
theorem Oct.nil : Oct [] := by simp [Oct]
theorem Oct.append {l m : List Nat} (h : Oct l) (k : Oct m) : Oct (l ++ m) := by
  intro x hx
  rcases List.mem_append.1 hx with e | e
  · exact h x e
  · exact k x e
theorem Oct.left {l m : List Nat} (h : Oct (l ++ m)) : Oct l := fun x hx => h x (List.mem_append.2 (Or.inl hx))
theorem Oct.right {l m : List Nat} (h : Oct (l ++ m)) : Oct m := fun x hx => h x (List.mem_append.2 (Or.inr hx))
theorem Oct.take {l : List Nat} (h : Oct l) (k : Nat) : Oct (l.take k) := fun x hx => h x (List.mem_of_mem_take hx)
theorem Oct.drop {l : List Nat} (h : Oct l) (k : Nat) : Oct (l.drop k) := fun x hx => h x (List.mem_of_mem_drop hx)
theorem Oct.trm {l : List Nat} (h : Oct l) : Oct (trm l) := (h.drop _).take _
/-- A string's bytes; bytes as a string. -/
def bl (s : ByteArray) : List Nat := s.data.toList.map UInt8.toNat
def st (l : List Nat) : ByteArray := ⟨(l.map UInt8.ofNat).toArray⟩
theorem bl_length (s : ByteArray) : (bl s).length = s.size := by simp [bl]
theorem st_size (l : List Nat) : (st l).size = l.length := by show (List.toArray _).size = _; simp
theorem st_bl (s : ByteArray) : st (bl s) = s := by
  cases s with
  | mk d => simp [st, bl, Function.comp_def]
theorem bl_st {l : List Nat} (h : Oct l) : bl (st l) = l := by
  simp only [bl, st]
  rw [List.map_map]
  conv => rhs; rw [← List.map_id l]
  refine List.map_congr_left fun x hx => ?_
  have := h x hx
  simp; omega
theorem bl_oct (s : ByteArray) : Oct (bl s) := by
  intro x hx
  obtain ⟨y, _, rfl⟩ := List.mem_map.1 hx
  exact y.toNat_lt
theorem bl_get {s : ByteArray} {k : Nat} (h : k < s.size) : (bl s)[k]? = some (s[k]'h).toNat := by
  have h' : k < s.data.size := h
  unfold bl
  rw [List.getElem?_map, Array.getElem?_toList, Array.getElem?_eq_getElem h']
  rfl
theorem st_get {l : List Nat} {k x : Nat} (ho : Oct l) (hx : l[k]? = some x) (h : k < (st l).size) : ((st l)[k]'h).toNat = x := by
  have e := bl_get h
  rw [bl_st ho, hx] at e
  injection e with e
  exact e.symm
theorem bl_extract (s : ByteArray) (a b : Nat) : bl (s.extract a b) = ((bl s).take b).drop a := by
  simp [bl, ByteArray.data_extract, List.map_drop, List.map_take, List.drop_take]
theorem st_extract (l : List Nat) (a b : Nat) : (st l).extract a b = st ((l.take b).drop a) := by
  rw [ByteArray.ext_iff]
  simp [st, ByteArray.data_extract, List.drop_take]
theorem st_append (l m : List Nat) : st l ++ st m = st (l ++ m) := by
  rw [ByteArray.ext_iff]
  simp [st, ByteArray.data_append]
theorem st_inj {l m : List Nat} (hl : Oct l) (hm : Oct m) (h : st l = st m) : l = m := by rw [← bl_st hl, h, bl_st hm]
/-- A byte that goes on with a rune. -/
def Cont (s : ByteArray) (k : Nat) : Prop := k < s.size ∧ (s.get! k).toNat / 64 = 2
theorem decode_cases (s : ByteArray) (k : Nat) (hk : k < s.size) (ha : 128 ≤ (s[k]'hk).toNat) : (Utf8.decode s k).2 = 1 ∨ ((Utf8.decode s k).2 = 2 ∧ Cont s (k + 1)) ∨ ((Utf8.decode s k).2 = 3 ∧ Cont s (k + 1) ∧ Cont s (k + 2)) ∨ ((Utf8.decode s k).2 = 4 ∧ Cont s (k + 1) ∧ Cont s (k + 2) ∧ Cont s (k + 3)) := by
  have hn : ¬ (s[k]'hk).toNat < 128 := by omega
  simp only [Utf8.decode, get_at s k hk, hn, if_false]
  repeat' split
  all_goals simp_all [Cont]
theorem Cont.high {s : ByteArray} {k y : Nat} (h : Cont s k) (hy : (bl s)[k]? = some y) : 128 ≤ y := by
  obtain ⟨h1, h2⟩ := h
  have e := bl_get h1
  rw [hy] at e
  have e1 : y = (s[k]'h1).toNat := by injection e
  have g := get_at s k h1
  rw [Nat.add_zero] at g
  rw [g] at h2
  omega
/-- A rune at a place. -/
theorem rune_at {s : ByteArray} {k x : Nat} (hx : (bl s)[k]? = some x) : ∃ r n : Nat, Utf8.decode s k = (r, n) ∧ 1 ≤ n ∧ k + n ≤ s.size ∧ r ≤ 2147483647 ∧ ((x < 128 ∧ r = x ∧ n = 1) ∨ (128 ≤ x ∧ 128 ≤ r ∧ ∀ j y, k ≤ j → j < k + n → (bl s)[j]? = some y → 128 ≤ y)) := by
  have hk : k < s.size := by rw [← bl_length]; exact (List.getElem?_eq_some_iff.1 hx).1
  have e := bl_get hk
  rw [hx] at e
  have e1 : x = (s[k]'hk).toNat := by injection e
  by_cases h : x < 128
  · refine ⟨x, 1, ?_, by omega, by omega, by omega, Or.inl ⟨h, rfl, rfl⟩⟩
    rw [decode_ascii s k hk (by omega), e1]
  · have hh := decode_high s k hk (by omega)
    have hl := decode_le s k
    have hc := decode_cases s k hk (by omega)
    obtain ⟨r, n, hd⟩ : ∃ r n, Utf8.decode s k = (r, n) := ⟨_, _, rfl⟩
    rw [hd] at hh hl hc
    simp only at hh hl hc
    refine ⟨r, n, hd, hh.2, ?_, hl, Or.inr ⟨by omega, hh.1, ?_⟩⟩
    · rcases hc with hc | ⟨hc, h1⟩ | ⟨hc, h1, h2⟩ | ⟨hc, h1, h2, h3⟩
      · omega
      · have := h1.1; omega
      · have := h2.1; omega
      · have := h3.1; omega
    · intro j y hj1 hj2 hy
      by_cases h0 : j = k
      · subst h0
        rw [hx] at hy
        cases hy
        omega
      · rcases hc with hc | ⟨hc, h1⟩ | ⟨hc, h1, h2⟩ | ⟨hc, h1, h2, h3⟩
        · omega
        · obtain rfl : j = k + 1 := by omega
          exact h1.high hy
        · rcases (show j = k + 1 ∨ j = k + 2 by omega) with rfl | rfl
          · exact h1.high hy
          · exact h2.high hy
        · rcases (show j = k + 1 ∨ j = k + 2 ∨ j = k + 3 by omega) with rfl | rfl | rfl
          · exact h1.high hy
          · exact h2.high hy
          · exact h3.high hy
/-- The next rune is no blank: nor is any of its bytes. -/
theorem isB_high {y : Nat} (h : 128 ≤ y) : isB y = false := by rw [isB_not]; omega
theorem tail_take_high {l : List Nat} {k n : Nat} (hn : 1 ≤ n) (hk : k + n ≤ l.length) (h : ∀ j y, k ≤ j → j < k + n → l[j]? = some y → isB y = false) : tail (l.take (k + n)) = k + n := by
  obtain ⟨m, rfl⟩ : ∃ m, n = m + 1 := ⟨n - 1, by omega⟩
  have hlt : k + m < l.length := by omega
  rw [← Nat.add_assoc, List.take_add_one, List.getElem?_eq_getElem hlt]
  simp only [Option.toList]
  rw [tail_snoc_n _ _ (h (k + m) _ (by omega) (by omega) (List.getElem?_eq_getElem hlt))]
  simp; omega
theorem tail_take_b {l : List Nat} {k x : Nat} (hx : l[k]? = some x) (h : isB x = true) : tail (l.take (k + 1)) = tail (l.take k) := by
  rw [List.take_add_one, hx]
  exact tail_snoc_b _ _ h
end Go.Proofs.Ytmlkdpoignimaaa
