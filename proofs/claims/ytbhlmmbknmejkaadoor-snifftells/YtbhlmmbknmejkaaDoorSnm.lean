/-
  What first bytes say of a file: the marks, gone through byte by byte; what the document says; that both are one. No walk.
-/
import Derived.Test.YtbhlmmbknmejkaaDoorStr
namespace Go.Proofs.YtbhlmmbknmejkaaDoor
set_option linter.unusedVariables false
def gz : List Nat := [31, 139, 8]
def pk : List Nat := [80, 75, 3, 4]
def us : List Nat := [117, 115, 116, 97, 114]
/-- A mark against the bytes from its place on. -/
def scan : List Nat → List Nat → Bool → Option Bool
  | [], _, _ => some true
  | _ :: _, [], e => if e = true then some false else none
  | c :: t, x :: r, e => if x = c then scan t r e else some false
def mks : List (Nat × Nat × List Nat) := [(7, 0, gz), (9, 0, pk), (8, 257, us)]
def kn : List (Nat × Nat × List Nat) → List Nat → Bool → Nat × Bool
  | [], _, _ => (1, true)
  | m :: r, l, e => match scan m.2.2 (l.drop m.2.1) e with
    | none => (0, false)
    | some true => (m.1, true)
    | some false => kn r l e
/-- What the program says. -/
def sn (l : List Nat) (e : Bool) : Nat × Bool := kn mks l e
/-- What a whole file is. -/
def kd (l : List Nat) : Nat := if gz.isPrefixOf l then 7 else if pk.isPrefixOf l then 9 else if us.isPrefixOf (l.drop 257) then 8 else 1
theorem scan_end (t l : List Nat) : scan t l true = some (t.isPrefixOf l) := by
  induction t generalizing l with
  | nil => simp [scan]
  | cons c t ih =>
    cases l with
    | nil => simp [scan]
    | cons x r =>
      simp only [scan, List.isPrefixOf]
      by_cases h : x = c
      · rw [if_pos h, ih, h]; simp
      · rw [if_neg h]; simp [Ne.symm h]
theorem scan_mono {t l : List Nat} {b : Bool} (h : scan t l false = some b) (m : List Nat) (e : Bool) : scan t (l ++ m) e = some b := by
  induction t generalizing l with
  | nil => simpa [scan] using h
  | cons c t ih =>
    cases l with
    | nil => simp [scan] at h
    | cons x r =>
      simp only [scan, List.cons_append] at h ⊢
      by_cases hx : x = c
      · rw [if_pos hx] at h ⊢; exact ih h
      · rw [if_neg hx] at h ⊢; exact h
theorem scan_none {t l : List Nat} {e : Bool} (h : scan t l e = none) : e = false ∧ l.length < t.length ∧ l = t.take l.length := by
  induction t generalizing l with
  | nil => simp [scan] at h
  | cons c t ih =>
    cases l with
    | nil =>
      cases e with
      | false => exact ⟨rfl, by simp, by simp⟩
      | true => simp [scan] at h
    | cons x r =>
      simp only [scan] at h
      by_cases hx : x = c
      · rw [if_pos hx] at h
        obtain ⟨h1, h2, h3⟩ := ih h
        exact ⟨h1, by simp; omega, by subst hx; simpa using h3⟩
      · rw [if_neg hx] at h; cases h
theorem sn_end (l : List Nat) : sn l true = (kd l, true) := by
  unfold sn mks kn kd
  simp only [scan_end, List.drop_zero]
  cases gz.isPrefixOf l with
  | true => rfl
  | false =>
    simp only [kn, scan_end, List.drop_zero]
    cases pk.isPrefixOf l with
    | true => rfl
    | false =>
      simp only
      cases us.isPrefixOf (l.drop 257) <;> rfl
theorem drop_app (l m : List Nat) (p : Nat) (h : p ≤ l.length) : (l ++ m).drop p = l.drop p ++ m := by rw [List.drop_append_of_le_length h]
/-- What is known stays so. -/
theorem sn_mono {l : List Nat} (h : (sn l false).2 = true) (m : List Nat) (e : Bool) : sn (l ++ m) e = sn l false := by
  unfold sn mks at *
  simp only [kn, List.drop_zero] at h ⊢
  rcases h1 : scan gz l false with _ | _ | _
  · rw [h1] at h; cases h
  · rw [h1] at h
    rw [scan_mono h1 m e]
    simp only at h ⊢
    rcases h2 : scan pk l false with _ | _ | _
    · rw [h2] at h; cases h
    · rw [h2] at h
      rw [scan_mono h2 m e]
      simp only at h ⊢
      rcases h3 : scan us (l.drop 257) false with _ | _ | _
      · rw [h3] at h; cases h
      · have hl : 257 ≤ l.length := by
          by_cases hl : 257 ≤ l.length
          · exact hl
          · rw [List.drop_eq_nil_of_le (by omega)] at h3; simp [us, scan] at h3
        rw [drop_app l m 257 hl, scan_mono h3 m e]
      · have hl : 257 ≤ l.length := by
          by_cases hl : 257 ≤ l.length
          · exact hl
          · rw [List.drop_eq_nil_of_le (by omega)] at h3; simp [us, scan] at h3
        rw [drop_app l m 257 hl, scan_mono h3 m e]
    · rw [scan_mono h2 m e]
  · rw [scan_mono h1 m e]
/-- Where it is not known. -/
theorem sn_open {l : List Nat} (h : (sn l false).2 = false) : sn l false = (0, false) ∧ ((l.length < 3 ∧ l = gz.take l.length) ∨ (0 < l.length ∧ l.length < 4 ∧ l = pk.take l.length) ∨ (gz.isPrefixOf l = false ∧ pk.isPrefixOf l = false ∧ (∀ m, gz.isPrefixOf (l ++ m) = false ∧ pk.isPrefixOf (l ++ m) = false) ∧ l.length < 262 ∧ l.drop 257 = us.take (l.drop 257).length)) := by
  unfold sn mks at *
  simp only [kn, List.drop_zero] at h ⊢
  rcases h1 : scan gz l false with _ | _ | _
  · obtain ⟨_, h2, h3⟩ := scan_none h1
    exact ⟨rfl, Or.inl ⟨h2, h3⟩⟩
  · rw [h1] at h
    simp only at h ⊢
    rcases h2 : scan pk l false with _ | _ | _
    · obtain ⟨_, h3, h4⟩ := scan_none h2
      refine ⟨rfl, Or.inr (Or.inl ⟨?_, h3, h4⟩)⟩
      cases l with
      | nil => simp [gz, scan] at h1
      | cons x r => simp
    · rw [h2] at h
      simp only at h ⊢
      rcases h3 : scan us (l.drop 257) false with _ | _ | _
      · obtain ⟨_, h4, h5⟩ := scan_none h3
        have ha : ∀ m, gz.isPrefixOf (l ++ m) = false ∧ pk.isPrefixOf (l ++ m) = false := fun m => by
          have q1 := scan_mono h1 m true
          have q2 := scan_mono h2 m true
          rw [scan_end] at q1 q2
          exact ⟨Option.some.inj q1, Option.some.inj q2⟩
        refine ⟨rfl, Or.inr (Or.inr ⟨by simpa using (ha []).1, by simpa using (ha []).2, ha, ?_, h5⟩)⟩
        rw [List.length_drop] at h4
        have : us.length = 5 := rfl
        omega
      · rw [h3] at h; cases h
      · rw [h3] at h; cases h
    · rw [h2] at h; cases h
  · rw [h1] at h; cases h
/-- One more file that begins so: the mark m, if nothing more has come than its beginning may have. -/
def ext (l m : List Nat) : List Nat := if l.length < m.length then l ++ m.drop l.length else l
def pad (l : List Nat) (x n : Nat) : List Nat := l ++ List.replicate (n - l.length) x
def tarf (l : List Nat) (x : Nat) : List Nat := pad l x 257 ++ us.drop ((pad l x 257).length - 257)
theorem pad_length (l : List Nat) (x n : Nat) : (pad l x n).length = if l.length < n then n else l.length := by
  unfold pad
  rw [List.length_append, List.length_replicate]
  split <;> omega
theorem kd_ne (l : List Nat) : kd l ≠ 0 := by
  unfold kd
  split
  · decide
  · split
    · decide
    · split <;> decide
theorem ext_of {l m : List Nat} : ∃ k, ext l m = l ++ k := by
  unfold ext
  split
  · exact ⟨_, rfl⟩
  · exact ⟨[], by simp⟩
theorem tarf_of (l : List Nat) (x : Nat) : ∃ k, tarf l x = l ++ k := ⟨_, by unfold tarf pad; rw [List.append_assoc]⟩
theorem ext_take {l m : List Nat} (h : l.length < m.length) (e : l = m.take l.length) : ext l m = m := by
  unfold ext
  rw [if_pos h]
  conv => lhs; arg 1; rw [e]
  exact List.take_append_drop _ _
theorem tarf_kd {l : List Nat} (x : Nat) (h1 : ∀ m, gz.isPrefixOf (l ++ m) = false ∧ pk.isPrefixOf (l ++ m) = false) (h2 : l.length < 262) (h3 : l.drop 257 = us.take (l.drop 257).length) : kd (tarf l x) = 8 := by
  obtain ⟨k, hk⟩ := tarf_of l x
  have e : (tarf l x).drop 257 = us := by
    unfold tarf
    have hp := pad_length l x 257
    by_cases hl : l.length < 257
    · rw [if_pos hl] at hp
      rw [drop_app _ _ _ (by omega), List.drop_eq_nil_of_le (by omega), hp]
      rfl
    · rw [if_neg hl] at hp
      have e1 : pad l x 257 = l := by unfold pad; rw [show 257 - l.length = 0 by omega]; simp
      rw [e1, drop_app _ _ _ (by omega)]
      conv => lhs; arg 1; rw [h3]
      rw [show l.length - 257 = (l.drop 257).length by rw [List.length_drop]]
      exact List.take_append_drop _ _
  unfold kd
  rw [e, hk, (h1 k).1, (h1 k).2]
  rfl
/-- What the document says of first bytes. -/
def rs (l : List Nat) (e : Bool) : Nat × Bool :=
  if e = true then (kd l, true) else if [l, ext l gz, ext l pk, tarf l 255].all (fun f => decide (kd f = kd l)) then (kd l, true) else (0, false)
theorem known_kd {l : List Nat} (h : (sn l false).2 = true) (m : List Nat) : sn l false = (kd (l ++ m), true) := by rw [← sn_end, sn_mono h m true]
theorem rs_eq (l : List Nat) (e : Bool) : rs l e = sn l e := by
  cases e with
  | true => rw [sn_end]; rfl
  | false =>
    unfold rs
    rw [if_neg (by decide)]
    rcases hk : (sn l false).2 with _ | _
    · obtain ⟨h1, h2⟩ := sn_open hk
      rw [h1, if_neg]
      intro hall
      simp only [List.all_cons, List.all_nil, Bool.and_true, Bool.and_eq_true, decide_eq_true_eq] at hall
      obtain ⟨_, hg, hp, ht⟩ := hall
      rcases h2 with ⟨q1, q2⟩ | ⟨q0, q1, q2⟩ | ⟨q1, q2, q3, q4, q5⟩
      · rw [ext_take q1 q2] at hg
        obtain h | h | h : l.length = 0 ∨ l.length = 1 ∨ l.length = 2 := by omega
        all_goals (rw [h] at q2; rw [q2] at hg; revert hg; decide)
      · rw [ext_take q1 q2] at hp
        obtain h | h | h : l.length = 1 ∨ l.length = 2 ∨ l.length = 3 := by omega
        all_goals (rw [h] at q2; rw [q2] at hp; revert hp; decide)
      · rw [tarf_kd 255 q3 q4 q5] at ht
        unfold kd at ht
        rw [q1, q2] at ht
        rcases hu : us.isPrefixOf (l.drop 257) with _ | _
        · rw [hu] at ht; cases ht
        · have := List.isPrefixOf_iff_prefix.1 hu
          have := this.length_le
          rw [List.length_drop] at this
          have : us.length = 5 := rfl
          omega
    · have e0 := known_kd hk []
      rw [List.append_nil] at e0
      have hg : ∀ m, kd (l ++ m) = kd l := fun m => by
        have e1 := known_kd hk m
        rw [e0] at e1
        exact (Prod.mk.inj e1).1.symm
      obtain ⟨a, ha⟩ := ext_of (l := l) (m := gz)
      obtain ⟨b, hb⟩ := ext_of (l := l) (m := pk)
      obtain ⟨c, hc⟩ := tarf_of l 255
      rw [if_pos, e0]
      simp [ha, hb, hc, hg]
/-- Noughts and ones behind first bytes that decide nothing. -/
theorem raw_kd {l : List Nat} (h : (sn l false).2 = false) : kd (pad l 170 300) = 1 := by
  obtain ⟨_, h2⟩ := sn_open h
  rcases h2 with ⟨q1, q2⟩ | ⟨q0, q1, q2⟩ | ⟨q1, q2, q3, q4, q5⟩
  · obtain h | h | h : l.length = 0 ∨ l.length = 1 ∨ l.length = 2 := by omega
    all_goals (rw [h] at q2; rw [q2]; decide +kernel)
  · obtain h | h | h : l.length = 1 ∨ l.length = 2 ∨ l.length = 3 := by omega
    all_goals (rw [h] at q2; rw [q2]; decide +kernel)
  · unfold kd
    have hu : us.isPrefixOf ((pad l 170 300).drop 257) = false := by
      rw [Bool.eq_false_iff]
      intro hu
      have hp := List.isPrefixOf_iff_prefix.1 hu
      have key : ∀ j, j < 5 → (pad l 170 300)[257 + j]? = us[j]? := fun j hj => by
        obtain ⟨t, ht⟩ := hp
        rw [← List.getElem?_drop, ← ht, List.getElem?_append_left (by simpa [us] using hj)]
      have k2 := key (l.length - 257) (by omega)
      by_cases hl : l.length < 257
      · rw [show l.length - 257 = 0 by omega] at k2
        unfold pad at k2
        rw [List.getElem?_append_right (by omega), List.getElem?_replicate] at k2
        rw [if_pos (by omega)] at k2
        simp [us] at k2
      · rw [show 257 + (l.length - 257) = l.length by omega] at k2
        unfold pad at k2
        rw [List.getElem?_append_right (by omega), List.getElem?_replicate] at k2
        rw [if_pos (by omega)] at k2
        have hj : l.length - 257 < 5 := by omega
        obtain h | h | h | h | h : l.length - 257 = 0 ∨ l.length - 257 = 1 ∨ l.length - 257 = 2 ∨ l.length - 257 = 3 ∨ l.length - 257 = 4 := by omega
        all_goals (rw [h] at k2; simp [us] at k2)
    rw [hu]
    have := q3 (List.replicate (300 - l.length) 170)
    unfold pad
    rw [this.1, this.2]
    rfl
/-- One of three is of a kind that is not raw. -/
theorem other_kd {l : List Nat} (h : (sn l false).2 = false) : ((kd (ext l gz) ≠ 1 ∨ kd (ext l pk) ≠ 1) ∨ kd (tarf l 170) = 8) := by
  obtain ⟨_, h2⟩ := sn_open h
  rcases h2 with ⟨q1, q2⟩ | ⟨q0, q1, q2⟩ | ⟨q1, q2, q3, q4, q5⟩
  · rw [ext_take q1 q2]; left; left; decide
  · rw [ext_take q1 q2]; left; right; decide
  · right; exact tarf_kd 170 q3 q4 q5
theorem sn_long {l : List Nat} (h : (sn l false).2 = false) : l.length < 262 := by
  obtain ⟨_, h2⟩ := sn_open h
  rcases h2 with ⟨q1, _⟩ | ⟨_, q1, _⟩ | ⟨_, _, _, q, _⟩ <;> omega
end Go.Proofs.YtbhlmmbknmejkaaDoor
