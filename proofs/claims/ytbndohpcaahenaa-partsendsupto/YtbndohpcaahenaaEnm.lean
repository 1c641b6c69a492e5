/-
  What a splitter tells of a beginning of a body that was written. No walk.
-/
import Derived.Test.YtbndohpcaahenaaHld
namespace Go.Proofs.Ytbndohpcaahenaa
set_option linter.unusedVariables false
theorem lkB_pre : ∀ (D : List Nat) (k : Nat), k < D.length → lkB D (D.take k) = (1, false)
  | [], k, h => by simp at h
  | d :: ds, 0, _ => by simp [lkB]
  | d :: ds, k + 1, h => by
    simp only [List.take_succ_cons, lkB, if_true]
    exact lkB_pre ds k (by simpa using h)
theorem lkB_two : ∀ (D c : List Nat), (lkB D c).1 = 2 → D <+: c
  | [], c, _ => List.nil_prefix
  | d :: ds, [], h => by simp [lkB] at h
  | d :: ds, y :: c, h => by
    simp only [lkB] at h
    split at h
    · rename_i e
      rw [e]
      exact List.cons_prefix_cons.2 ⟨rfl, lkB_two ds c h⟩
    · simp at h
theorem d13_pre (c : List Nat) : d13 c <+: c := by
  unfold d13
  split
  · exact List.dropLast_prefix c
  · exact List.prefix_rfl
/-- A line that is a delimiter holds the border. -/
theorem hs_infix {D : List Nat} : ∀ (b c : List Nat), hs D c b = true → D <:+: c ++ b
  | [], c, h => by
    simp only [hs, decide_eq_true_eq] at h
    rw [List.append_nil]
    exact (lkB_two D c h).isInfix
  | y :: b, c, h => by
    simp only [hs] at h
    split at h
    · rw [Bool.or_eq_true] at h
      rcases h with h | h
      · rw [decide_eq_true_eq] at h
        exact ((lkB_two D _ h).trans ((d13_pre c).trans (List.prefix_append c (y :: b)))).isInfix
      · have := hs_infix b [] h
        rw [List.nil_append] at this
        exact this.trans ⟨c ++ [y], [], by simp⟩
    · have := hs_infix b (c ++ [y]) h
      simpa using this
theorem infix_13 {D p : List Nat} (hne : D ≠ []) (h13 : 13 ∉ D) (h : D <:+: p ++ [13]) : D <:+: p := by
  obtain ⟨u, v, e⟩ := h
  rcases List.eq_nil_or_concat v with hv | ⟨v', x, hv⟩
  · rw [hv, List.append_nil] at e
    exfalso
    rcases List.eq_nil_or_concat D with hD | ⟨D', x, hD⟩
    · exact hne hD
    · rw [hD, List.concat_eq_append, ← List.append_assoc] at e
      have := (List.append_inj' e rfl).2
      simp at this
      apply h13
      rw [hD, List.concat_eq_append, this]
      simp
  · rw [hv, List.concat_eq_append, ← List.append_assoc] at e
    have := (List.append_inj' e rfl).1
    exact ⟨u, v', this⟩
/-- The border does not stand in a part. -/
def Cl (D p : List Nat) : Prop := ¬ D <:+: p
theorem Cl.of {D p : List Nat} (h : ∀ n, n + D.length ≤ p.length → (p.take (n + D.length)).drop n ≠ D) : Cl D p := by
  rintro ⟨u, v, e⟩
  refine h u.length (by rw [← e]; simp) ?_
  rw [← e, List.append_assoc, List.take_length_add_append, List.drop_left, List.take_left]
theorem cl_hs {D p : List Nat} (h : Cl D p) {z : List Nat} (hz : z <:+: p) : hs D [] z = false := by
  cases e : hs D [] z with
  | false => rfl
  | true =>
    have := hs_infix z [] e
    rw [List.nil_append] at this
    exact absurd (this.trans hz) h
theorem cl_hs13 {D p : List Nat} (hD : Bd D) (h : Cl D p) : hs D [] (p ++ [13]) = false := by
  cases e : hs D [] (p ++ [13]) with
  | false => rfl
  | true =>
    have := hs_infix (p ++ [13]) [] e
    rw [List.nil_append] at this
    exact absurd (infix_13 hD.ne hD.no13 this) h
/-- Where part j begins. -/
def fr (D : List Nat) (ps : List (List Nat)) (j : Nat) : Nat := (wpre D (ps.take j)).length + (D.length + 2)
def Shp (D : List Nat) (ps : List (List Nat)) (y : List Nat) (j : Nat) (t : List (List Nat)) : Prop := t = [] ∨ t = [[]] ∨ (j < ps.length ∧ t = [y.drop (fr D ps j)] ∧ fr D ps j ≤ y.length)
variable {D : List Nat}
theorem sgs_app : ∀ (a b : List (List Nat)), sgs (a ++ b) = sgs a ++ sgs b
  | [], b => rfl
  | p :: r, b => by simp [sgs, sgs_app r b]
theorem no10_take {l : List Nat} (k : Nat) (h : 10 ∉ l) : 10 ∉ l.take k := fun e => h (List.mem_of_mem_take e)
theorem lt_take' {l : List Nat} (k : Nat) (h : ∀ x ∈ l, x < 256) : ∀ x ∈ l.take k, x < 256 := fun x e => h x (List.mem_of_mem_take e)
theorem wri_lt (hD : ∀ d ∈ D, d < 256) : ∀ (ps : List (List Nat)), (∀ p ∈ ps, ∀ x ∈ p, x < 256) → ∀ x ∈ wri D ps, x < 256
  | [], _ => by
    intro x hx
    rcases List.mem_append.1 hx with e | e
    · exact hD x e
    · simp at e; omega
  | p :: r, h => by
    intro x hx
    simp only [wri, List.mem_append] at hx
    rcases hx with (e | e) | (e | e) | e
    · exact hD x e
    · simp at e; omega
    · exact h p (by simp) x e
    · simp at e; omega
    · exact wri_lt hD r (fun q hq => h q (by simp [hq])) x e
theorem ends_gen (hD : Bd D) : ∀ (ps : List (List Nat)) (s : Sp) (E : List Nat) (i : Bool) (k : Nat), Lb s E i false → k < (wri D ps).length → (∀ p ∈ ps, Cl D p ∧ ∀ x ∈ p, x < 256) →
    (tot D s ((wri D ps).take k) = iff' i (E ++ (wri D ps).take k ++ [257]) ∨ ∃ j t, j ≤ ps.length ∧ (wpre D (ps.take j)).length ≤ k ∧ Shp D ps ((wri D ps).take k) j t ∧ tot D s ((wri D ps).take k) = iff' i [257] ++ sgs (ps.take j ++ t)) ∧ cv D s ((wri D ps).take k) = decide (k + 2 = (wri D ps).length) := by
  intro ps
  induction ps with
  | nil =>
    intro s E i k h hk _
    have hl : (wri D []).length = D.length + 4 := by simp [wri]
    rw [hl] at hk ⊢
    have hw : wri D [] = D ++ [45, 45, 13, 10] := rfl
    rw [hw]
    have h256 : ∀ x ∈ (D ++ [45, 45, 13, 10]).take k, x < 256 := lt_take' k (fun x hx => by
      rcases List.mem_append.1 hx with e | e
      · exact hD.oct x e
      · simp at e; omega)
    have h10 : 10 ∉ (D ++ [45, 45, 13, 10]).take k := by
      have e : (D ++ [45, 45, 13, 10]).take k = (D ++ [45, 45, 13]).take k := by
        rw [show D ++ [45, 45, 13, 10] = (D ++ [45, 45, 13]) ++ [10] by simp, List.take_append_of_le_length (by simp; omega)]
      rw [e]
      refine no10_take k (fun e => ?_)
      rcases List.mem_append.1 e with e | e
      · exact hD.no10 e
      · simp at e
    have fin : (lkB D ((D ++ [45, 45, 13, 10]).take k)).1 ≠ 2 → k ≠ D.length + 2 → (tot D s ((D ++ [45, 45, 13, 10]).take k) = iff' i (E ++ (D ++ [45, 45, 13, 10]).take k ++ [257]) ∨ ∃ j t, j ≤ ([] : List (List Nat)).length ∧ (wpre D (([] : List (List Nat)).take j)).length ≤ k ∧ Shp D [] ((D ++ [45, 45, 13, 10]).take k) j t ∧ tot D s ((D ++ [45, 45, 13, 10]).take k) = iff' i [257] ++ sgs (([] : List (List Nat)).take j ++ t)) ∧ cv D s ((D ++ [45, 45, 13, 10]).take k) = decide (k + 2 = D.length + 4) := by
      intro h2 hne
      obtain ⟨e1, e2⟩ := line_fin hD h h10 h256 h2
      exact ⟨Or.inl e1, by rw [e2]; symm; rw [decide_eq_false_iff_not]; omega⟩
    rcases (show k < D.length ∨ k = D.length ∨ k = D.length + 1 ∨ k = D.length + 2 ∨ k = D.length + 3 by omega) with e | e | e | e | e
    · refine fin ?_ (by omega)
      rw [List.take_append_of_le_length (by omega), lkB_pre D k e]
      decide
    · have ec : (D ++ [45, 45, 13, 10]).take k = D := by rw [e, List.take_left]
      rw [ec]
      have hk2 : lkB D D = (2, false) := by
        have := lkB_self D []
        rw [List.append_nil] at this
        rw [this]; rfl
      obtain ⟨e1, e2⟩ := line_fin_yes hD h hk2
      refine ⟨Or.inr ⟨0, [[]], Nat.le_refl _, by simp [wpre], Or.inr (Or.inl rfl), ?_⟩, ?_⟩
      · rw [e1]; simp [iff', sgs]
      · rw [e2]; symm; rw [decide_eq_false_iff_not]; omega
    · refine fin ?_ (by omega)
      rw [e, List.take_length_add_append, lkB_self]
      decide
    · have ec : (D ++ [45, 45, 13, 10]).take k = D ++ [45, 45] := by rw [e, List.take_length_add_append]; rfl
      rw [ec]
      have hk2 : lkB D (D ++ [45, 45]) = (2, true) := by rw [lkB_self]; rfl
      obtain ⟨e1, e2⟩ := line_fin_yes hD h hk2
      refine ⟨Or.inr ⟨0, [], Nat.le_refl _, by simp [wpre], Or.inl rfl, ?_⟩, ?_⟩
      · rw [e1]; simp [iff', sgs]
      · rw [e2]; symm; rw [decide_eq_true_eq]; omega
    · refine fin ?_ (by omega)
      rw [e, List.take_length_add_append, lkB_self]
      decide
  | cons p r ih =>
    intro s E i k h hk hp
    have hw : wri D (p :: r) = (D ++ [13, 10]) ++ ((p ++ [13, 10]) ++ wri D r) := rfl
    have hr4 : 4 ≤ (wri D r).length := by
      rw [wri_pre]
      simp
      omega
    have hl : (wri D (p :: r)).length = D.length + 2 + (p.length + 2 + (wri D r).length) := by rw [hw]; simp; omega
    rw [hl] at hk ⊢
    rw [hw]
    by_cases h1 : k < D.length + 2
    · have ec : ((D ++ [13, 10]) ++ ((p ++ [13, 10]) ++ wri D r)).take k = (D ++ [13]).take k := by
        rw [List.take_append_of_le_length (by simp; omega), show D ++ [13, 10] = (D ++ [13]) ++ [10] by simp, List.take_append_of_le_length (by simp; omega)]
      rw [ec]
      have h256 : ∀ x ∈ (D ++ [13]).take k, x < 256 := lt_take' k (fun x hx => by
        rcases List.mem_append.1 hx with e | e
        · exact hD.oct x e
        · simp at e; omega)
      have h10 : 10 ∉ (D ++ [13]).take k := no10_take k (fun e => by
        rcases List.mem_append.1 e with e | e
        · exact hD.no10 e
        · simp at e)
      have hcv : false = decide (k + 2 = D.length + 2 + (p.length + 2 + (wri D r).length)) := by symm; rw [decide_eq_false_iff_not]; omega
      rcases (show k < D.length ∨ k = D.length ∨ k = D.length + 1 by omega) with e | e | e
      · obtain ⟨e1, e2⟩ := line_fin hD h h10 h256 (by rw [List.take_append_of_le_length (by omega), lkB_pre D k e]; decide)
        exact ⟨Or.inl e1, by rw [e2]; exact hcv⟩
      · have ed : (D ++ [13]).take k = D := by rw [e, List.take_left]
        rw [ed]
        have hk2 : lkB D D = (2, false) := by
          have := lkB_self D []
          rw [List.append_nil] at this
          rw [this]; rfl
        obtain ⟨e1, e2⟩ := line_fin_yes hD h hk2
        refine ⟨Or.inr ⟨0, [[]], Nat.zero_le _, by simp [wpre], Or.inr (Or.inl rfl), ?_⟩, ?_⟩
        · rw [e1]; simp [iff', sgs]
        · rw [e2]; exact hcv
      · obtain ⟨e1, e2⟩ := line_fin hD h h10 h256 (by rw [e, List.take_length_add_append, lkB_self]; decide)
        exact ⟨Or.inl e1, by rw [e2]; exact hcv⟩
    · obtain ⟨k1, hk1⟩ : ∃ k1, k = (D.length + 2) + k1 := ⟨k - (D.length + 2), by omega⟩
      have hDl : (D ++ [13, 10]).length = D.length + 2 := by simp
      obtain ⟨q, g1, g2⟩ := line_open hD h
      have ey : ((D ++ [13, 10]) ++ ((p ++ [13, 10]) ++ wri D r)).take k = (D ++ [13, 10]) ++ ((p ++ [13, 10]) ++ wri D r).take k1 := by rw [hk1, ← hDl, List.take_length_add_append]
      rw [ey]
      have t1 := tot_append D s (D ++ [13, 10]) (((p ++ [13, 10]) ++ wri D r).take k1)
      rw [g1] at t1
      rw [t1.1, t1.2]
      have hpc := hp p (by simp)
      by_cases h2 : k1 < p.length + 2
      · have ec : ((p ++ [13, 10]) ++ wri D r).take k1 = (p ++ [13]).take k1 := by
          rw [List.take_append_of_le_length (by simp; omega), show p ++ [13, 10] = (p ++ [13]) ++ [10] by simp, List.take_append_of_le_length (by simp; omega)]
        rw [ec]
        have hh : hs D [] ((p ++ [13]).take k1) = false := by
          by_cases h3 : k1 ≤ p.length
          · rw [List.take_append_of_le_length h3]
            exact cl_hs hpc.1 (List.take_prefix k1 p).isInfix
          · rw [List.take_of_length_le (by simp; omega)]
            exact cl_hs13 hD hpc.1
        have hb := body_no hD ((p ++ [13]).take k1) [] q [] g2 (by simp) (by simp) (lt_take' k1 (fun x hx => by
          rcases List.mem_append.1 hx with e | e
          · exact hpc.2 x e
          · simp at e; omega)) hh
        rw [List.nil_append, List.nil_append] at hb
        refine ⟨Or.inr ⟨0, [(p ++ [13]).take k1], Nat.zero_le _, by simp [wpre], Or.inr (Or.inr ⟨by simp, ?_, ?_⟩), ?_⟩, ?_⟩
        · have : fr D (p :: r) 0 = (D ++ [13, 10]).length := by simp [fr, wpre]
          rw [this, List.drop_left]
        · simp [fr, wpre]
        · show _ ++ tot D q _ = _
          rw [hb.1]
          simp [iff', sgs]
        · show cv D q _ = _
          rw [hb.2]; symm; rw [decide_eq_false_iff_not]; omega
      · obtain ⟨k2, hk2⟩ : ∃ k2, k1 = (p.length + 2) + k2 := ⟨k1 - (p.length + 2), by omega⟩
        have hpl : (p ++ [13, 10]).length = p.length + 2 := by simp
        obtain ⟨q2, g3, g4⟩ := body_end hD p [] q [] g2 (by simp) (by simp) hpc.2 (cl_hs hpc.1 List.infix_rfl)
        rw [List.nil_append] at g3
        have ez : ((p ++ [13, 10]) ++ wri D r).take k1 = (p ++ [13, 10]) ++ (wri D r).take k2 := by rw [hk2, ← hpl, List.take_length_add_append]
        rw [ez]
        have t2 := tot_append D q (p ++ [13, 10]) ((wri D r).take k2)
        rw [g3] at t2
        have hi := ih q2 [13, 10] true k2 g4 (by omega) (fun p' hm => hp p' (by simp [hm]))
        have hkk : (wri D r).length = (wri D r).length := rfl
        refine ⟨?_, ?_⟩
        · right
          have e0 : tot D q (p ++ [13, 10] ++ (wri D r).take k2) = p ++ tot D q2 ((wri D r).take k2) := by
            rw [t2.1]; rfl
          show ∃ j t, _ ∧ _ ∧ _ ∧ _ ++ tot D q (p ++ [13, 10] ++ (wri D r).take k2) = _
          rw [e0]
          rcases hi.1 with e | ⟨j, t, j1, j2, j3, j4⟩
          · refine ⟨0, [p ++ [13, 10] ++ (wri D r).take k2], Nat.zero_le _, by simp [wpre], Or.inr (Or.inr ⟨by simp, ?_, ?_⟩), ?_⟩
            · have : fr D (p :: r) 0 = (D ++ [13, 10]).length := by simp [fr, wpre]
              rw [this, List.drop_left]
            · simp [fr, wpre]
            · rw [e]; simp [iff', sgs]
          · have hfr : ∀ j, fr D (p :: r) (j + 1) = (D.length + 2) + ((p.length + 2) + fr D r j) := fun j => by
              simp [fr, wpre]
              omega
            have hwj : (wpre D ((p :: r).take (j + 1))).length = (D.length + 2) + ((p.length + 2) + (wpre D (r.take j)).length) := by
              simp [wpre]
              omega
            refine ⟨j + 1, t, by simpa using j1, by rw [hwj]; omega, ?_, ?_⟩
            · rcases j3 with e | e | ⟨e1, e2, e3⟩
              · exact Or.inl e
              · exact Or.inr (Or.inl e)
              · refine Or.inr (Or.inr ⟨by simpa using e1, ?_, ?_⟩)
                · rw [e2, hfr, ← List.drop_drop, ← hDl, List.drop_left, ← List.drop_drop, ← hpl, List.drop_left]
                · rw [hfr]
                  simp only [List.length_append, List.length_cons, List.length_nil] at e3 ⊢
                  omega
            · rw [j4]; simp [iff', sgs]
        · show cv D q _ = _
          rw [t2.2]
          show cv D q2 _ = _
          rw [hi.2]
          congr 1
          simp only [eq_iff_iff]
          omega
/-- What Whole tells of a beginning. -/
theorem ends_back (hD : Bd D) (ps : List (List Nat)) (k : Nat) (hk : k < (wri D ps).length) (hp : ∀ p ∈ ps, Cl D p ∧ ∀ x ∈ p, x < 256) : ∃ j t, j ≤ ps.length ∧ (wpre D (ps.take j)).length ≤ k ∧ Shp D ps ((wri D ps).take k) j t ∧ po [] (tot D s0 ((wri D ps).take k)) = ps.take j ++ t ∧ cv D s0 ((wri D ps).take k) = decide (k + 2 = (wri D ps).length) := by
  obtain ⟨h1, h2⟩ := ends_gen hD ps s0 [] false k Rs.s0.lb hk hp
  rcases h1 with e | ⟨j, t, j1, j2, j3, j4⟩
  · refine ⟨0, [], Nat.zero_le _, by simp [wpre], Or.inl rfl, ?_, h2⟩
    rw [e]
    rfl
  · refine ⟨j, t, j1, j2, j3, ?_, h2⟩
    rw [j4]
    have h256 : ∀ p ∈ ps.take j ++ t, ∀ x ∈ p, x < 256 := by
      intro p hm
      rcases List.mem_append.1 hm with e | e
      · exact (hp p (List.mem_of_mem_take e)).2
      · rcases j3 with h | h | ⟨_, h, _⟩
        · rw [h] at e; simp at e
        · rw [h] at e; simp at e; rw [e]; simp
        · rw [h] at e
          simp at e
          rw [e]
          intro x hx
          exact wri_lt hD.oct ps (fun p hp' => (hp p hp').2) x (List.mem_of_mem_take (List.mem_of_mem_drop hx))
    have := po_sgs (ps.take j ++ t) [] h256
    simpa [iff'] using this
end Go.Proofs.Ytbndohpcaahenaa
