/-
  What a splitter tells of a line, and of lines of which none is a delimiter. No walk.
-/
import Derived.Test.YtbndohpcaahenabLnm
namespace Go.Proofs.Ytbndohpcaahenab
set_option linter.unusedVariables false
set_option linter.unusedSimpArgs false
theorem fd_snoc' (D : List Nat) (s : Sp) (x : List Nat) (g : Nat) : fd D s (x ++ [g]) = ((fd D s x).1 ++ out (stp D g (fd D s x).2), tk (stp D g (fd D s x).2)) := by
  rw [fd_append]
  simp [fd]
theorem lkP_le' : ∀ (x : List Nat) (n : Nat) (l : Bool), (lkP x n l).1 ≤ 3 := by
  intro x
  induction x with
  | nil => intro n l; simp [lkP]
  | cons y r ih =>
    intro n l
    simp only [lkP]
    repeat' split
    all_goals first | exact ih _ _ | simp
theorem lkB_le' : ∀ (D x : List Nat), (lkB D x).1 ≤ 3
  | [], x => by
    show (lkD x).1 ≤ 3
    unfold lkD
    repeat' split
    all_goals first | exact lkP_le' _ _ _ | simp
  | d :: ds, [] => by simp [lkB]
  | d :: ds, y :: x => by
    simp only [lkB]
    split
    · exact lkB_le' ds x
    · simp
/-- A splitter between calls that holds this, in or out of a part. -/
structure At (q : Sp) (m : Nat) (h : List Nat) (i c : Bool) : Prop where
  md : q.md = m
  hl : q.hl = iff' i h
  kn : q.kn = 0
  ins : q.ins = i
  cl : q.cl = c
theorem At.out {q : Sp} {m : Nat} {h : List Nat} {i c : Bool} (k : At q m h i c) : q.ins = false → q.hl = [] := fun e => by
  have := k.ins
  rw [e] at this
  rw [k.hl, ← this]; rfl
/-- A byte behind what was held is no delimiter's. -/
theorem miss_at (q : Sp) (g : Nat) (h : List Nat) (i c : Bool) (hl : q.hl = iff' i h) (hi : q.ins = i) (hc : q.cl = c) (h10 : g ≠ 10) (hg : g < 256) : (g = 13 ∧ out (miss g q) = iff' i h ∧ At (tk (miss g q)) 6 [13] i c) ∨ (g ≠ 13 ∧ out (miss g q) = iff' i (h ++ [g]) ∧ At (tk (miss g q)) 5 [] i c) := by
  obtain ⟨md, seen, pads, last, hl', kn, ins, cl⟩ := q
  simp only at hl hi hc
  subst hl hi hc
  by_cases h13 : g = 13
  · subst h13
    refine Or.inl ⟨rfl, ?_, ?_⟩
    · cases ins <;> simp [miss, within, hold, know, add, out, tk, iff']
    · cases ins <;> refine ⟨?_, ?_, ?_, ?_, ?_⟩ <;> simp [miss, within, hold, know, add, out, tk, iff']
  · refine Or.inr ⟨h13, ?_, ?_⟩
    · cases ins <;> simp [miss, within, h13, h10, show ¬ g = 258 by omega, know, add, out, tk, iff']
      exact List.take_of_length_le (by simp)
    · cases ins <;> refine ⟨?_, ?_, ?_, ?_, ?_⟩ <;> simp [miss, within, h13, h10, show ¬ g = 258 by omega, know, add, out, tk, iff']
variable {D : List Nat}
/-- A line's beginning, with what is held ahead of it. -/
structure Lb (s : Sp) (E : List Nat) (i c : Bool) : Prop where
  ls : Ls s
  hl : s.hl = iff' i E
  ins : s.ins = i
  cl : s.cl = c
theorem Lb.qt (hD : Bd D) {s : Sp} {E : List Nat} {i cl : Bool} (h : Lb s E i cl) {c : List Nat} (hc : (lkB D c).1 = 1 ∨ (lkB D c).1 = 2) : ∃ q, Qt D s (lkB D) c q ∧ q.hl = iff' i (E ++ c) := by
  obtain ⟨q, hq⟩ := qt_fresh hD h.ls c hc
  refine ⟨q, hq, ?_⟩
  rw [hq.hl, h.ins, h.hl]
  cases i <;> simp [iff']
theorem line_run (hD : Bd D) {s : Sp} {E : List Nat} {i cl : Bool} (h : Lb s E i cl) : ∀ (n : Nat) (c : List Nat), c.length = n → 10 ∉ c → (∀ x ∈ c, x < 256) → (lkB D c).1 = 0 → ∃ o q, fd D s c = (o, q) ∧ ((c.getLast? ≠ some 13 ∧ o = iff' i (E ++ c) ∧ At q 5 [] i cl) ∨ ∃ c', c = c' ++ [13] ∧ o = iff' i (E ++ c') ∧ At q 6 [13] i cl) := by
  have lin := lin_b D hD.no10 hD.no13
  intro n
  induction n with
  | zero =>
    intro c hn _ _ hk
    obtain rfl : c = [] := List.eq_nil_of_length_eq_zero hn
    obtain ⟨d, ds, rfl⟩ : ∃ d ds, D = d :: ds := by
      cases D with
      | nil => exact absurd rfl hD.ne
      | cons a b => exact ⟨a, b, rfl⟩
    simp [lkB] at hk
  | succ n ih =>
    intro c hn h10 h256 hk
    obtain ⟨c', g, rfl⟩ : ∃ c' g, c = c' ++ [g] := by
      rcases List.eq_nil_or_concat c with e | ⟨a, b, e⟩
      · rw [e] at hn; simp at hn
      · exact ⟨a, b, by simpa using e⟩
    have hg10 : g ≠ 10 := fun e => h10 (by simp [e])
    have hg : g < 256 := h256 g (by simp)
    have hc10 : 10 ∉ c' := fun e => h10 (by simp [e])
    have hc256 : ∀ x ∈ c', x < 256 := fun x hx => h256 x (by simp [hx])
    have fin : ∀ (o : List Nat) (q : Sp) (hh : List Nat), fd D s c' = (o, q) → q.hl = iff' i hh → q.ins = i → q.cl = cl → o ++ iff' i hh = iff' i (E ++ c') → stp D g q = miss g q → ∃ o q, fd D s (c' ++ [g]) = (o, q) ∧ (((c' ++ [g]).getLast? ≠ some 13 ∧ o = iff' i (E ++ (c' ++ [g])) ∧ At q 5 [] i cl) ∨ ∃ c'', c' ++ [g] = c'' ++ [13] ∧ o = iff' i (E ++ c'') ∧ At q 6 [13] i cl) := by
      intro o q hh hf h1 h2 h3 h4 h5
      rw [fd_snoc', hf]
      refine ⟨_, _, rfl, ?_⟩
      simp only [h5]
      rcases miss_at q g hh i cl h1 h2 h3 hg10 hg with ⟨e, e1, e2⟩ | ⟨e, e1, e2⟩
      · refine Or.inr ⟨c', by rw [e], by rw [e1, h4], e2⟩
      · refine Or.inl ⟨by simpa using e, ?_, e2⟩
        rw [e1]
        have : iff' i (hh ++ [g]) = iff' i hh ++ iff' i [g] := by cases i <;> simp [iff']
        rw [this, ← List.append_assoc, h4]
        cases i <;> simp [iff']
    by_cases hk' : (lkB D c').1 = 0
    · obtain ⟨o, q, hf, h1 | ⟨c'', h1, h2, h3⟩⟩ := ih c' (by simpa using hn) hc10 hc256 hk'
      · refine fin o q [] hf h1.2.2.hl h1.2.2.ins h1.2.2.cl (by rw [h1.2.1]; cases i <;> simp [iff']) ?_
        have hm := h1.2.2.md
        have hh : q.hl = [] := by rw [h1.2.2.hl]; cases i <;> rfl
        have : stp D g q = within g q := by simp [stp, hm]
        rw [this]
        unfold miss
        rw [know_id hh h1.2.2.kn hm]
      · refine fin o q [13] hf h3.hl h3.ins h3.cl (by rw [h2, h1]; cases i <;> simp [iff']) ?_
        simp [stp, h3.md, bRet, hg10]
    · have h12 : (lkB D c').1 = 1 ∨ (lkB D c').1 = 2 := by
        have h3 := lin.a5 c' hc10
        have h4 := lkB_le' D c'
        omega
      obtain ⟨q, hq, hql⟩ := h.qt hD h12
      exact fin [] q (E ++ c') hq.run hql (hq.ins.trans h.ins) (hq.cl.trans h.cl) (by simp) (hq.n0 g hg hk)
end Go.Proofs.Ytbndohpcaahenab
