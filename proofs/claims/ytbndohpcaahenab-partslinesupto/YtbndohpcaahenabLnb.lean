/-
  What a splitter tells of lines, delimiters or none. No walk.
-/
import Derived.Test.YtbndohpcaahenabLnr
namespace Go.Proofs.Ytbndohpcaahenab
set_option linter.unusedVariables false
set_option linter.unusedSimpArgs false
/-- A line without the byte 13 at its end. -/
def d13 (c : List Nat) : List Nat := if c.getLast? = some 13 then c.dropLast else c
theorem d13_snoc (c : List Nat) : d13 (c ++ [13]) = c := by simp [d13]
theorem d13_same {c : List Nat} (h : c.getLast? ≠ some 13) : d13 c = c := by simp [d13, h]
theorem last13 {c : List Nat} (h : c.getLast? = some 13) : ∃ c', c = c' ++ [13] := by
  have hne : c ≠ [] := by intro e; rw [e] at h; simp at h
  refine ⟨c.dropLast, ?_⟩
  have h1 := List.dropLast_concat_getLast hne
  rw [List.getLast?_eq_some_getLast hne] at h
  injection h with h
  rw [h] at h1
  exact h1.symm
theorem tot_append (D : List Nat) (s : Sp) (x y : List Nat) : tot D s (x ++ y) = (fd D s x).1 ++ tot D (fd D s x).2 y ∧ cv D s (x ++ y) = cv D (fd D s x).2 y := by
  simp [tot, cv, fd_append]
theorem iff_app (i : Bool) (a b : List Nat) : iff' i (a ++ b) = iff' i a ++ iff' i b := by cases i <;> simp [iff']
variable {D : List Nat}
theorem line_yes (hD : Bd D) {s : Sp} {E : List Nat} {i cl : Bool} (h : Lb s E i cl) {c : List Nat} {l : Bool} (hk : lkB D (d13 c) = (2, l)) : ∃ q, fd D s (c ++ [10]) = (iff' i [257] ++ iff' (!l) [256], q) ∧ Rs q true (!l) l := by
  have lin := lin_b D hD.no10 hD.no13
  have key : ((lkB D c).1 = 1 ∨ (lkB D c).1 = 2) ∧ lkB D (c ++ [10]) = (3, l) := by
    by_cases h13 : c.getLast? = some 13
    · obtain ⟨c', rfl⟩ := last13 h13
      rw [d13_snoc] at hk
      have := lin.a3 c' l hk
      refine ⟨Or.inl (by rw [this.2.1]), ?_⟩
      rw [List.append_assoc]
      exact this.2.2
    · rw [d13_same h13] at hk
      exact ⟨Or.inr (by rw [hk]), (lin.a3 c l hk).1⟩
  obtain ⟨q, hq, hql⟩ := h.qt hD key.1
  obtain ⟨h1, h2⟩ := hq.n3 10 (by decide) (by rw [key.2])
  have h3 : q.last = l := by rw [h2, key.2]
  rw [fd_snoc', hq.run]
  refine ⟨tk (delim q), ?_, ?_⟩
  · simp only [h1, out_delim, h3, hq.ins, h.ins, List.nil_append]
  · have := rs_delim q true (fun _ => rfl)
    rwa [h3] at this
theorem line_add_lb (q : Sp) (h : List Nat) (i c : Bool) (hl : q.hl = iff' i h) (hk : q.kn = 0) (hi : q.ins = i) (hc : q.cl = c) : Lb (line (add 10 q)) (h ++ [10]) i c := by
  refine ⟨add_ls hk, ?_, by rw [line_add_ins]; exact hi, by rw [line_add_cl]; exact hc⟩
  rw [line_add_hl, hi, hl]
  cases i <;> simp [iff']
theorem lt_snoc {c : List Nat} {y : Nat} (h : ∀ x ∈ c, x < 256) (hy : y < 256) : ∀ x ∈ c ++ [y], x < 256 := by
  intro x hx
  rcases List.mem_append.1 hx with e | e
  · exact h x e
  · rw [List.mem_singleton.1 e]; exact hy
/-- A line's end where a delimiter was looked for and is not. -/
theorem miss10 (q : Sp) (h : List Nat) (i c : Bool) (hl : q.hl = iff' i h) (hi : q.ins = i) (hc : q.cl = c) : out (miss 10 q) = iff' i h ∧ Lb (tk (miss 10 q)) [10] i c := by
  have hsp := within_split 10 { know q with md := 5 } rfl
  have e : miss 10 q = within 10 { know q with md := 5 } := rfl
  have lb := line_add_lb { { know q with md := 5 } with hl := [], kn := 0 } [] i c (by cases i <;> rfl) rfl hi hc
  have e1 : within 10 { { know q with md := 5 } with hl := [], kn := 0 } = line (add 10 { { know q with md := 5 } with hl := [], kn := 0 }) := rfl
  rw [e, hsp.1, hsp.2, e1, out_nil lb.ls.kn, tk_id lb.ls.kn]
  exact ⟨(List.append_nil _).trans hl, lb⟩
theorem line_no (hD : Bd D) {s : Sp} {E : List Nat} {i cl : Bool} (h : Lb s E i cl) {c : List Nat} (h10 : 10 ∉ c) (h256 : ∀ x ∈ c, x < 256) (hk : (lkB D (d13 c)).1 ≠ 2) : ∃ q c0 t, c = c0 ++ t ∧ ((t = [] ∧ c.getLast? ≠ some 13) ∨ t = [13]) ∧ fd D s (c ++ [10]) = (iff' i (E ++ c0), q) ∧ Lb q (t ++ [10]) i cl := by
  have lin := lin_b D hD.no10 hD.no13
  have h3 := lin.a5 c h10
  have h4 := lkB_le' D c
  by_cases h0 : (lkB D c).1 = 0
  · obtain ⟨o, q, hf, h1 | ⟨c', h1, h2, h5⟩⟩ := line_run hD h c.length c rfl h10 h256 h0
    · have e : stp D 10 q = line (add 10 q) := by simp [stp, h1.2.2.md, within]
      have lb := line_add_lb q [] i cl h1.2.2.hl h1.2.2.kn h1.2.2.ins h1.2.2.cl
      refine ⟨line (add 10 q), c, [], by simp, Or.inl ⟨rfl, h1.1⟩, ?_, lb⟩
      rw [fd_snoc', hf]
      simp only [e, out_nil lb.ls.kn, tk_id lb.ls.kn, List.append_nil, h1.2.1]
    · have e : stp D 10 q = line (add 10 q) := by simp [stp, h5.md, bRet, within]
      have lb := line_add_lb q [13] i cl h5.hl h5.kn h5.ins h5.cl
      refine ⟨line (add 10 q), c', [13], h1, Or.inr rfl, ?_, lb⟩
      rw [fd_snoc', hf]
      simp only [e, out_nil lb.ls.kn, tk_id lb.ls.kn, List.append_nil, h2]
  · have no13 : c.getLast? ≠ some 13 ∧ (lkB D c).1 = 1 ∧ (lkB D (c ++ [10])).1 = 0 := by
      by_cases h13 : c.getLast? = some 13
      · exfalso
        obtain ⟨c', rfl⟩ := last13 h13
        rw [d13_snoc] at hk
        have h5 := lin.a4 c'
        exact hk (lin.a1 c' (by omega))
      · rw [d13_same h13] at hk
        have h1 : (lkB D c).1 = 1 := by omega
        refine ⟨h13, h1, ?_⟩
        rcases lin.a6 c h1 with h5 | ⟨c', h5, _⟩
        · exact h5
        · exfalso; apply h13; rw [h5]; simp
    obtain ⟨q, hq, hql⟩ := h.qt hD (Or.inl no13.2.1)
    have h1 := hq.n0 10 (by decide) no13.2.2
    obtain ⟨e1, lb⟩ := miss10 q (E ++ c) i cl hql (hq.ins.trans h.ins) (hq.cl.trans h.cl)
    refine ⟨tk (miss 10 q), c, [], by simp, Or.inl ⟨rfl, no13.1⟩, ?_, lb⟩
    rw [fd_snoc', hq.run]
    simp only [h1, e1, List.nil_append]
theorem line_fin (hD : Bd D) {s : Sp} {E : List Nat} {i cl : Bool} (h : Lb s E i cl) {c : List Nat} (h10 : 10 ∉ c) (h256 : ∀ x ∈ c, x < 256) (hk : (lkB D c).1 ≠ 2) : tot D s c = iff' i (E ++ c ++ [257]) ∧ cv D s c = cl := by
  have lin := lin_b D hD.no10 hD.no13
  have h3 := lin.a5 c h10
  have h4 := lkB_le' D c
  have fin : ∀ (q : Sp) (hh : List Nat) (o : List Nat), fd D s c = (o, q) → q.hl = iff' i hh → q.ins = i → q.cl = cl → (stp D 258 q = miss 258 q ∨ stp D 258 q = q) → o ++ iff' i hh = iff' i (E ++ c) → tot D s c = iff' i (E ++ c ++ [257]) ∧ cv D s c = cl := by
    intro q hh o hf h1 h2 h5 h6 h7
    have hs : (stp D 258 q).hl = iff' i hh ∧ (stp D 258 q).ins = i ∧ (stp D 258 q).cl = cl := by
      rcases h6 with e | e
      · rw [e]; simp [miss, within, know, h1, h2, h5]
      · rw [e]; exact ⟨h1, h2, h5⟩
    unfold tot cv
    rw [hf]
    show o ++ Ytbndohpcaahenab.out (en D q) = _ ∧ (en D q).cl = cl
    unfold en
    rw [out_know]
    unfold add
    rw [hs.2.1]
    cases i with
    | true =>
      simp only [if_true]
      refine ⟨?_, hs.2.2⟩
      show o ++ ((stp D 258 q).hl ++ [257]) = _
      rw [hs.1, ← List.append_assoc, h7]
      rfl
    | false =>
      simp only [Bool.false_eq_true, if_false]
      refine ⟨?_, hs.2.2⟩
      rw [hs.1, h7]
      rfl
  by_cases h0 : (lkB D c).1 = 0
  · obtain ⟨o, q, hf, h1 | ⟨c', h1, h2, h5⟩⟩ := line_run hD h c.length c rfl h10 h256 h0
    · exact fin q [] o hf h1.2.2.hl h1.2.2.ins h1.2.2.cl (Or.inr (by simp [stp, h1.2.2.md, within])) (by rw [h1.2.1]; cases i <;> simp [iff'])
    · exact fin q [13] o hf h5.hl h5.ins h5.cl (Or.inl (by simp [stp, h5.md, bRet])) (by rw [h2, h1]; cases i <;> simp [iff'])
  · have h1 : (lkB D c).1 = 1 := by omega
    obtain ⟨q, hq, hql⟩ := h.qt hD (Or.inl h1)
    exact fin q (E ++ c) [] hq.run hql (hq.ins.trans h.ins) (hq.cl.trans h.cl) (Or.inl (hq.e1 h1)) (by simp)
theorem line_fin_yes (hD : Bd D) {s : Sp} {E : List Nat} {i cl : Bool} (h : Lb s E i cl) {c : List Nat} {l : Bool} (hk : lkB D c = (2, l)) : tot D s c = iff' i [257] ++ iff' (!l) [256] ++ iff' (!l) [257] ∧ cv D s c = l := by
  obtain ⟨q, hq, hql⟩ := h.qt hD (Or.inr (by rw [hk]))
  obtain ⟨h1, h2⟩ := hq.e2 (by rw [hk])
  have h3 : q.last = l := by rw [h2, hk]
  have hi : q.ins = i := hq.ins.trans h.ins
  unfold tot cv
  rw [hq.run]
  show [] ++ Ytbndohpcaahenab.out (en D q) = _ ∧ (en D q).cl = l
  unfold en
  rw [h1, out_know]
  obtain ⟨md, seen, pads, last, hl, kn, ins, c2⟩ := q
  simp only at h3 hi
  subst h3 hi
  cases ins <;> cases last <;> simp [delim, delim0, swap, line, know, add, iff']
/-- One of the lines is a delimiter; c: the line so far. -/
def hs (D : List Nat) : List Nat → List Nat → Bool
  | c, [] => decide ((lkB D c).1 = 2)
  | c, y :: b => if y = 10 then (decide ((lkB D (d13 c)).1 = 2) || hs D [] b) else hs D (c ++ [y]) b
theorem body_no (hD : Bd D) {i cl : Bool} : ∀ (b c : List Nat) (s : Sp) (E : List Nat), Lb s E i cl → 10 ∉ c → (∀ x ∈ c, x < 256) → (∀ x ∈ b, x < 256) → hs D c b = false → tot D s (c ++ b) = iff' i (E ++ (c ++ b) ++ [257]) ∧ cv D s (c ++ b) = cl := by
  intro b
  induction b with
  | nil =>
    intro c s E h h10 h256 _ hh
    simp only [hs, decide_eq_false_iff_not] at hh
    rw [List.append_nil]
    exact line_fin hD h h10 h256 hh
  | cons y b ih =>
    intro c s E h h10 h256 hb hh
    simp only [hs] at hh
    by_cases hy : y = 10
    · rw [if_pos hy] at hh
      simp only [Bool.or_eq_false_iff, decide_eq_false_iff_not] at hh
      obtain ⟨q, c0, t, h1, h2, h3, h4⟩ := line_no hD h h10 h256 hh.1
      have i2 := ih [] q (t ++ [10]) h4 (by simp) (by simp) (fun x hx => hb x (by simp [hx])) hh.2
      rw [List.nil_append] at i2
      have e : c ++ y :: b = (c ++ [10]) ++ b := by simp [hy]
      have ht := tot_append D s (c ++ [10]) b
      rw [e, ht.1, ht.2, h3]
      refine ⟨?_, i2.2⟩
      show iff' i (E ++ c0) ++ tot D q b = _
      rw [i2.1, ← iff_app, h1]
      simp
    · rw [if_neg hy] at hh
      have := ih (c ++ [y]) s E h (by simp [h10]; omega) (lt_snoc h256 (hb y (by simp))) (fun x hx => hb x (by simp [hx])) hh
      simpa using this
/-- A part's lines, none of them a delimiter, and a line's end. -/
theorem body_end (hD : Bd D) {i cl : Bool} : ∀ (b c : List Nat) (s : Sp) (E : List Nat), Lb s E i cl → 10 ∉ c → (∀ x ∈ c, x < 256) → (∀ x ∈ b, x < 256) → hs D c b = false → ∃ q, fd D s (c ++ b ++ [13, 10]) = (iff' i (E ++ (c ++ b)), q) ∧ Lb q [13, 10] i cl := by
  intro b
  induction b with
  | nil =>
    intro c s E h h10 h256 _ hh
    simp only [hs, decide_eq_false_iff_not] at hh
    obtain ⟨q, c0, t, h1, h2, h3, h4⟩ := line_no hD h (c := c ++ [13]) (by simp [h10]) (lt_snoc h256 (by decide)) (by rw [d13_snoc]; exact hh)
    rcases h2 with ⟨_, h2⟩ | h2
    · simp at h2
    · rw [h2] at h1 h4
      have e0 : c0 = c := (List.append_cancel_right h1).symm
      refine ⟨q, ?_, h4⟩
      have e : c ++ [] ++ [13, 10] = (c ++ [13]) ++ [10] := by simp
      rw [e, h3, e0]
      simp
  | cons y b ih =>
    intro c s E h h10 h256 hb hh
    simp only [hs] at hh
    by_cases hy : y = 10
    · rw [if_pos hy] at hh
      simp only [Bool.or_eq_false_iff, decide_eq_false_iff_not] at hh
      obtain ⟨q, c0, t, h1, h2, h3, h4⟩ := line_no hD h h10 h256 hh.1
      obtain ⟨q2, i1, i2⟩ := ih [] q (t ++ [10]) h4 (by simp) (by simp) (fun x hx => hb x (by simp [hx])) hh.2
      have e : c ++ y :: b ++ [13, 10] = (c ++ [10]) ++ ([] ++ b ++ [13, 10]) := by simp [hy]
      refine ⟨q2, ?_, i2⟩
      rw [e, fd_append, h3, i1]
      simp only [← iff_app, h1]
      simp [hy]
    · rw [if_neg hy] at hh
      have := ih (c ++ [y]) s E h (by simp [h10]; omega) (lt_snoc h256 (hb y (by simp))) (fun x hx => hb x (by simp [hx])) hh
      simpa using this
end Go.Proofs.Ytbndohpcaahenab
