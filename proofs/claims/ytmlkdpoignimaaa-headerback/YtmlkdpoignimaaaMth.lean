/-
  The chapter's mathematics: lines, names, fields, the run over bytes; blanks at both ends. No walk.
-/
import Derived.WalkKit
namespace Go.Proofs.Ytmlkdpoignimaaa
set_option linter.unusedVariables false
/-- A field: its name, its value as it stands. -/
abbrev Fd := List Nat × List Nat
def isB (x : Nat) : Bool := x == 9 || x == 32
theorem isB_iff {x : Nat} : isB x = true ↔ x = 9 ∨ x = 32 := by simp [isB]
theorem isB_not {x : Nat} : isB x = false ↔ x ≠ 9 ∧ x ≠ 32 := by simp [isB]
/-- A byte of a name. -/
def isN (x : Nat) : Bool := decide (33 ≤ x) && decide (x ≤ 126) && decide (x ≠ 58)
/-- How many bytes a line's name has; 0: it begins no field. -/
def nm (l : List Nat) : Nat := if l[(l.takeWhile isN).length]? = some 58 then (l.takeWhile isN).length else 0
/-- One more line: why it stops, the fields. -/
def lin (F : List Fd) (s : List Nat) : Nat × List Fd :=
  if isB (s.headD 0) then (match F.getLast? with | none => (30, []) | some f => (0, F.dropLast ++ [(f.1, f.2 ++ s)]))
  else if nm s = 0 then (30, []) else if F.length = 64 then (31, []) else (0, F ++ [(s.take (nm s), s.drop (nm s + 1))])
/-- A line without the byte 13 at its end. -/
def d13 (c : List Nat) : List Nat := if c.getLast? = some 13 then c.dropLast else c
structure Out where
  fs : List Fd
  why : Nat
  at_ : Nat
/-- The bytes have ended. -/
def fin (F : List Fd) (c : List Nat) : Nat × List Fd := if c = [] then (0, F) else lin F c
def rn (most : Nat) : Nat → List Fd → List Nat → List Nat → Out
  | k, F, c, [] => ⟨(fin F c).2, (fin F c).1, k⟩
  | k, F, c, b :: l =>
    if most ≤ k then ⟨[], 31, k⟩
    else if b = 10 then
      if d13 c = [] then ⟨F, 0, k⟩
      else if (lin F (d13 c)).1 = 0 then rn most (k + 1) (lin F (d13 c)).2 [] l else ⟨[], (lin F (d13 c)).1, k⟩
    else rn most (k + 1) F (c ++ [b]) l
/-- Blanks at the head, at the end. -/
def lead (l : List Nat) : Nat := (l.takeWhile isB).length
def tail (l : List Nat) : Nat := l.length - (l.reverse.takeWhile isB).length
def trm (l : List Nat) : List Nat := (l.drop (lead l)).take (tail (l.drop (lead l)))
theorem lead_le (l : List Nat) : lead l ≤ l.length := (List.takeWhile_sublist _).length_le
theorem tail_le (l : List Nat) : tail l ≤ l.length := Nat.sub_le _ _
theorem tail_snoc_b (l : List Nat) (x : Nat) (h : isB x = true) : tail (l ++ [x]) = tail l := by
  have := (List.takeWhile_sublist isB (l := l.reverse)).length_le
  simp [tail, List.reverse_append, h]
theorem tail_snoc_n (l : List Nat) (x : Nat) (h : isB x = false) : tail (l ++ [x]) = l.length + 1 := by
  simp [tail, List.reverse_append, h]
theorem tail_nil : tail [] = 0 := rfl
theorem lead_first {l : List Nat} {k x : Nat} (h : ∀ y ∈ l.take k, isB y = true) (hx : l[k]? = some x) (hn : isB x = false) : lead l = k := by
  obtain ⟨h1, h2⟩ := List.getElem?_eq_some_iff.1 hx
  have e : l = l.take k ++ x :: l.drop (k + 1) := by
    rw [← h2, ← List.drop_eq_getElem_cons h1, List.take_append_drop]
  unfold lead
  rw [e, List.takeWhile_append_of_pos h, List.takeWhile_cons, hn]
  simp; omega
theorem lead_all {l : List Nat} (h : ∀ y ∈ l, isB y = true) : lead l = l.length := by
  unfold lead
  have := List.takeWhile_append_of_pos (l₁ := l) (l₂ := []) h
  simp at this
  rw [this]
/-- The fields as they are told. -/
def told (F : List Fd) : List Fd := F.map fun f => (f.1, trm f.2)
theorem nm_at {l : List Nat} {k : Nat} (h : ∀ y ∈ l.take k, isN y = true) (hx : l[k]? = some 58) : nm l = k := by
  obtain ⟨h1, h2⟩ := List.getElem?_eq_some_iff.1 hx
  have e : l = l.take k ++ 58 :: l.drop (k + 1) := by
    rw [← h2, ← List.drop_eq_getElem_cons h1, List.take_append_drop]
  have e2 : (l.takeWhile isN).length = k := by
    rw [e, List.takeWhile_append_of_pos h, List.takeWhile_cons]
    simp [isN]; omega
  unfold nm
  rw [e2, hx]; simp
theorem nm_bad {l : List Nat} {k x : Nat} (h : ∀ y ∈ l.take k, isN y = true) (hx : l[k]? = some x) (hn : isN x = false) (h58 : x ≠ 58) : nm l = 0 := by
  obtain ⟨h1, h2⟩ := List.getElem?_eq_some_iff.1 hx
  have e : l = l.take k ++ x :: l.drop (k + 1) := by
    rw [← h2, ← List.drop_eq_getElem_cons h1, List.take_append_drop]
  have e2 : (l.takeWhile isN).length = k := by
    rw [e, List.takeWhile_append_of_pos h, List.takeWhile_cons, hn]
    simp; omega
  unfold nm
  rw [e2, hx]; simp [h58]
theorem nm_none {l : List Nat} (h : ∀ y ∈ l, isN y = true) : nm l = 0 := by
  have := List.takeWhile_append_of_pos (l₁ := l) (l₂ := []) h
  simp at this
  unfold nm
  rw [this]; simp
theorem nm_lt (l : List Nat) (h : nm l ≠ 0) : nm l < l.length := by
  unfold nm at *
  split at h
  · rename_i e
    rw [if_pos e]
    exact (List.getElem?_eq_some_iff.1 e).1
  · simp at h
theorem nm_58 {l : List Nat} (h : nm l ≠ 0) : l[nm l]? = some 58 := by
  unfold nm at *
  split at h
  · rename_i e
    rw [if_pos e]; exact e
  · simp at h
theorem nm_split {l : List Nat} (h : nm l ≠ 0) : l = l.take (nm l) ++ 58 :: l.drop (nm l + 1) := by
  have e := nm_58 h
  obtain ⟨h1, h2⟩ := List.getElem?_eq_some_iff.1 e
  rw [← h2, ← List.drop_eq_getElem_cons h1, List.take_append_drop]
theorem nm_blank {l : List Nat} (h : isB (l.headD 0) = true) : nm l = 0 := by
  cases l with
  | nil => rfl
  | cons x l =>
    have hx : x = 9 ∨ x = 32 := by simpa [isB] using h
    refine nm_bad (k := 0) (x := x) (by simp) rfl ?_ (by omega)
    rcases hx with rfl | rfl <;> rfl
/-- What the fields are in the lines: one behind the other. -/
def flat (F : List Fd) : List Nat := F.flatMap fun f => f.1 ++ 58 :: f.2
theorem flat_snoc (F : List Fd) (f : Fd) : flat (F ++ [f]) = flat F ++ (f.1 ++ 58 :: f.2) := by simp [flat]
theorem flat_nil : flat [] = [] := rfl
theorem flat_lin {F : List Fd} {s : List Nat} (h : (lin F s).1 = 0) : flat (lin F s).2 = flat F ++ s := by
  unfold lin at *
  split
  · rename_i hb
    rw [if_pos hb] at h
    cases e : F.getLast? with
    | none => rw [e] at h; simp at h
    | some f =>
      obtain ⟨ne, hl⟩ : ∃ ne : F ≠ [], F.getLast ne = f := by
        have := List.getLast?_eq_some_iff.1 e
        obtain ⟨ys, rfl⟩ := this
        exact ⟨by simp, by simp⟩
      have e2 : F = F.dropLast ++ [f] := by rw [← hl, List.dropLast_concat_getLast]
      simp only
      rw [flat_snoc]
      conv => rhs; rw [e2, flat_snoc]
      simp
  · rename_i hb
    rw [if_neg hb] at h
    split
    · rename_i hn
      rw [if_pos hn] at h; simp at h
    · rename_i hn
      rw [if_neg hn] at h
      split
      · rename_i h64
        rw [if_pos h64] at h; simp at h
      · simp only
        rw [flat_snoc]
        congr 1
        exact (nm_split hn).symm
theorem lin_len {F : List Fd} {s : List Nat} (hF : F.length ≤ 64) : (lin F s).2.length ≤ 64 := by
  unfold lin
  split
  · cases e : F.getLast? with
    | none => simp
    | some f =>
      have : F ≠ [] := by intro h; rw [h] at e; simp at e
      have := List.length_pos_iff.2 this
      simp; omega
  · split
    · simp
    · split
      · simp
      · simp; omega
theorem lin_stop {F : List Fd} {s : List Nat} (h : (lin F s).1 ≠ 0) : (lin F s).2 = [] := by
  unfold lin at *
  split
  · rename_i hb
    rw [if_pos hb] at h
    cases e : F.getLast? with
    | none => rfl
    | some f => rw [e] at h; simp at h
  · rename_i hb
    rw [if_neg hb] at h
    split
    · rfl
    · rename_i hn
      rw [if_neg hn] at h
      split
      · rfl
      · rename_i h64
        rw [if_neg h64] at h; simp at h
theorem lin_why (F : List Fd) (s : List Nat) : (lin F s).1 = 0 ∨ (lin F s).1 = 30 ∨ (lin F s).1 = 31 := by
  unfold lin
  split
  · cases F.getLast? <;> simp
  · split
    · simp
    · split <;> simp
theorem fin_why (F : List Fd) (c : List Nat) : (fin F c).1 = 0 ∨ (fin F c).1 = 30 ∨ (fin F c).1 = 31 := by
  unfold fin
  split
  · simp
  · exact lin_why _ _
theorem fin_stop {F : List Fd} {c : List Nat} (h : (fin F c).1 ≠ 0) : (fin F c).2 = [] := by
  unfold fin at *
  split
  · rename_i hc
    rw [if_pos hc] at h; simp at h
  · rename_i hc
    rw [if_neg hc] at h
    exact lin_stop h
end Go.Proofs.Ytmlkdpoignimaaa
