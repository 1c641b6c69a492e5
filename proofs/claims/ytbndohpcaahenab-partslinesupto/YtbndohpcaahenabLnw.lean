/-
  What a splitter tells of a body that was written, and of a part that holds a delimiter. No walk.
-/
import Derived.Test.YtbndohpcaahenabLnb
import Derived.Test.YtbndohpcaahenabLls
namespace Go.Proofs.Ytbndohpcaahenab
set_option linter.unusedVariables false
set_option linter.unusedSimpArgs false
theorem lkB_self : ∀ (D x : List Nat), lkB D (D ++ x) = lkD x
  | [], x => rfl
  | d :: ds, x => by simp [lkB, lkB_self ds x]
variable {D : List Nat}
theorem Rs.lb {q : Sp} {i : Bool} (h : Rs q true i false) : Lb q [] i false :=
  ⟨h.m0 rfl rfl, by rw [h.hl]; cases i <;> rfl, h.ins, h.cl⟩
theorem Rs.tot {q : Sp} {f o : Bool} (h : Rs q f o true) (x : List Nat) : tot D q x = [] ∧ cv D q x = true := by
  have := tv_over (D := D) h 0 x
  refine ⟨?_, this.2⟩
  rw [← tv_snd D 0 q x, this.1]; rfl
/-- A delimiter's line. -/
theorem line_open (hD : Bd D) {s : Sp} {E : List Nat} {i cl : Bool} (h : Lb s E i cl) : ∃ q, fd D s (D ++ [13, 10]) = (iff' i [257] ++ [256], q) ∧ Lb q [] true false := by
  have hk : lkB D (d13 (D ++ [13])) = (2, false) := by
    rw [d13_snoc]
    have := lkB_self D []
    rw [List.append_nil] at this
    rw [this]; rfl
  obtain ⟨q, h1, h2⟩ := line_yes hD h hk
  refine ⟨q, ?_, h2.lb⟩
  have e : D ++ [13, 10] = (D ++ [13]) ++ [10] := by simp
  rw [e, h1]; rfl
/-- The last delimiter's line. -/
theorem line_close (hD : Bd D) {s : Sp} {E : List Nat} {i cl : Bool} (h : Lb s E i cl) : ∃ q, fd D s (D ++ [45, 45, 13, 10]) = (iff' i [257], q) ∧ Rs q true false true := by
  have hk : lkB D (d13 (D ++ [45, 45] ++ [13])) = (2, true) := by
    rw [d13_snoc, lkB_self]; rfl
  obtain ⟨q, h1, h2⟩ := line_yes hD h hk
  refine ⟨q, ?_, h2⟩
  have e : D ++ [45, 45, 13, 10] = (D ++ [45, 45] ++ [13]) ++ [10] := by simp
  rw [e, h1]
  cases i <;> rfl
/-- A body as it is written: parts, and the last delimiter. -/
def wri (D : List Nat) : List (List Nat) → List Nat
  | [] => D ++ [45, 45, 13, 10]
  | p :: r => (D ++ [13, 10]) ++ ((p ++ [13, 10]) ++ wri D r)
/-- The signs of parts. -/
def sgs : List (List Nat) → List Nat
  | [] => []
  | p :: r => [256] ++ (p ++ ([257] ++ sgs r))
theorem wri_tot (hD : Bd D) (z : List Nat) : ∀ (ps : List (List Nat)) (s : Sp) (E : List Nat) (i : Bool), Lb s E i false → (∀ p ∈ ps, hs D [] p = false ∧ ∀ x ∈ p, x < 256) → tot D s (wri D ps ++ z) = iff' i [257] ++ sgs ps ∧ cv D s (wri D ps ++ z) = true := by
  intro ps
  induction ps with
  | nil =>
    intro s E i h _
    obtain ⟨q, h1, h2⟩ := line_close hD h
    have ht := tot_append D s (wri D []) z
    rw [show wri D [] = D ++ [45, 45, 13, 10] from rfl] at ht ⊢
    rw [ht.1, ht.2, h1]
    have := h2.tot (D := D) z
    exact ⟨by rw [this.1]; simp [sgs], this.2⟩
  | cons p r ih =>
    intro s E i h hp
    obtain ⟨q, h1, h2⟩ := line_open hD h
    obtain ⟨q2, h3, h4⟩ := body_end hD p [] q [] h2 (by simp) (by simp) (hp p (by simp)).2 (hp p (by simp)).1
    have h5 := ih q2 [13, 10] true h4 (fun p hm => hp p (by simp [hm]))
    have e : wri D (p :: r) ++ z = (D ++ [13, 10]) ++ (([] ++ p ++ [13, 10]) ++ (wri D r ++ z)) := by simp [wri]
    have t1 := tot_append D s (D ++ [13, 10]) (([] ++ p ++ [13, 10]) ++ (wri D r ++ z))
    have t2 := tot_append D q ([] ++ p ++ [13, 10]) (wri D r ++ z)
    rw [e, t1.1, t1.2, h1]
    show _ ++ Ytbndohpcaahenab.tot D q _ = _ ∧ cv D q _ = true
    rw [t2.1, t2.2, h3]
    refine ⟨?_, h5.2⟩
    show _ ++ (_ ++ Ytbndohpcaahenab.tot D q2 _) = _
    rw [h5.1]
    simp [iff', sgs]
/-- A part that holds a delimiter has parts of its own, or is closed. -/
theorem body_yes (hD : Bd D) {cl : Bool} : ∀ (b c : List Nat) (s : Sp) (E : List Nat), Lb s E false cl → 10 ∉ c → (∀ x ∈ c, x < 256) → (∀ x ∈ b, x < 256) → hs D c b = true → 256 ∈ tot D s (c ++ b) ∨ cv D s (c ++ b) = true := by
  intro b
  induction b with
  | nil =>
    intro c s E h h10 h256 _ hh
    simp only [hs, decide_eq_true_eq] at hh
    rw [List.append_nil]
    obtain ⟨h1, h2⟩ := line_fin_yes hD h (c := c) (l := (lkB D c).2) (by rw [← hh])
    rw [h1, h2]
    cases (lkB D c).2 <;> simp [iff']
  | cons y b ih =>
    intro c s E h h10 h256 hb hh
    simp only [hs] at hh
    by_cases hy : y = 10
    · rw [if_pos hy] at hh
      have e : c ++ y :: b = (c ++ [10]) ++ b := by simp [hy]
      have ht := tot_append D s (c ++ [10]) b
      by_cases hd : (lkB D (d13 c)).1 = 2
      · obtain ⟨q, h1, h2⟩ := line_yes hD h (c := c) (l := (lkB D (d13 c)).2) (by rw [← hd])
        rw [e, ht.1, ht.2, h1]
        cases hl : (lkB D (d13 c)).2 with
        | false => left; simp [iff']
        | true =>
          right
          rw [hl] at h2
          exact (h2.tot b).2
      · simp only [hd, decide_false, Bool.false_or] at hh
        obtain ⟨q, c0, t, h1, h2, h3, h4⟩ := line_no hD h h10 h256 hd
        have i2 := ih [] q (t ++ [10]) h4 (by simp) (by simp) (fun x hx => hb x (by simp [hx])) hh
        rw [List.nil_append] at i2
        rw [e, ht.1, ht.2, h3]
        rcases i2 with i2 | i2
        · left; exact List.mem_append_right _ i2
        · right; exact i2
    · rw [if_neg hy] at hh
      have := ih (c ++ [y]) s E h (by simp [h10]; omega) (lt_snoc h256 (hb y (by simp))) (fun x hx => hb x (by simp [hx])) hh
      simpa using this
theorem po_oct' : ∀ (p : List Nat) (ls : List (List Nat)) (a : List Nat), (∀ x ∈ p, x < 256) → po (ls ++ [a]) p = ls ++ [a ++ p]
  | [], ls, a, _ => by simp [po]
  | y :: p, ls, a, h => by
    have hy : y < 256 := h y (by simp)
    simp only [po, show ¬ y = 256 by omega, show ¬ y = 257 by omega, if_false, List.dropLast_concat]
    have e : (ls ++ [a]).getLastD [] = a := by simp [List.getLastD_eq_getLast?]
    rw [e, po_oct' p ls (a ++ [y]) (fun x hx => h x (by simp [hx]))]
    simp
theorem po_sgs : ∀ (ps ls : List (List Nat)), (∀ p ∈ ps, ∀ x ∈ p, x < 256) → po ls (sgs ps) = ls ++ ps
  | [], ls, _ => by simp [sgs, po]
  | p :: r, ls, h => by
    have e : po ls (sgs (p :: r)) = po (po (ls ++ [[]]) p) ([257] ++ sgs r) := by
      rw [← po_append]
      simp [sgs, po]
    rw [e, po_oct' p ls [] (h p (by simp))]
    have := po_sgs r (ls ++ [[] ++ p]) (fun p hm => h p (by simp [hm]))
    simp only [List.cons_append, List.nil_append, po] at this ⊢
    simp [this]
/-- A body that was written, from the beginning. -/
theorem wri_back (hD : Bd D) (z : List Nat) (ps : List (List Nat)) (hp : ∀ p ∈ ps, hs D [] p = false ∧ ∀ x ∈ p, x < 256) : tot D s0 (wri D ps ++ z) = sgs ps ∧ cv D s0 (wri D ps ++ z) = true ∧ po [] (tot D s0 (wri D ps ++ z)) = ps := by
  have h := wri_tot hD z ps s0 [] false Rs.s0.lb hp
  have e : tot D s0 (wri D ps ++ z) = sgs ps := by rw [h.1]; rfl
  refine ⟨e, h.2, ?_⟩
  rw [e, po_sgs ps [] (fun p hm => (hp p hm).2)]
  rfl
/-- What holdsDelimiter asks. -/
theorem holds_iff (hD : Bd D) (p : List Nat) (hp : ∀ x ∈ p, x < 256) : (hs D [] p = false → tot D s0 p = [] ∧ cv D s0 p = false) ∧ (hs D [] p = true → 256 ∈ tot D s0 p ∨ cv D s0 p = true) := by
  refine ⟨fun h => ?_, fun h => ?_⟩
  · have := body_no hD p [] s0 [] Rs.s0.lb (by simp) (by simp) hp h
    simpa [iff'] using this
  · simpa using body_yes hD p [] s0 [] Rs.s0.lb (by simp) (by simp) hp h
end Go.Proofs.Ytbndohpcaahenab
