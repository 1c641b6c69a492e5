/-
  Bodies whose lines end with a byte 10 alone. No walk.
-/
import Derived.Test.YtbndohpcaahenabHld
namespace Go.Proofs.Ytbndohpcaahenab
set_option linter.unusedVariables false
/-- Bytes without those of lines' ends; without the bytes 13. -/
def pl (l : List Nat) : List Nat := l.filter fun x => decide (x ≠ 10) && decide (x ≠ 13)
def nr (l : List Nat) : List Nat := l.filter fun x => decide (x ≠ 13)
def wrj (D : List Nat) : List (List Nat) → List Nat
  | [] => D ++ [45, 45, 10]
  | p :: r => (D ++ [10]) ++ ((p ++ [10]) ++ wrj D r)
theorem pl_no (l : List Nat) : 10 ∉ pl l ∧ 13 ∉ pl l := by simp [pl]
theorem pl_len (l : List Nat) : (pl l).length ≤ l.length := List.length_filter_le _ _
theorem pl_oct {l : List Nat} (h : Oct l) : Oct (pl l) := fun x hx => h x ((List.mem_filter.1 hx).1)
theorem nr_oct {l : List Nat} (h : Oct l) : Oct (nr l) := fun x hx => h x ((List.mem_filter.1 hx).1)
theorem nr_len (l : List Nat) : (nr l).length ≤ l.length := List.length_filter_le _ _
theorem pl_yes {l : List Nat} {k y : Nat} (h : l[k]? = some y) (h10 : y ≠ 10) (h13 : y ≠ 13) : pl (l.take (k + 1)) = pl (l.take k) ++ [y] := by
  rw [List.take_add_one, h]
  simp [pl, h10, h13]
theorem pl_not {l : List Nat} {k y : Nat} (h : l[k]? = some y) (hy : y = 10 ∨ y = 13) : pl (l.take (k + 1)) = pl (l.take k) := by
  rw [List.take_add_one, h]
  rcases hy with e | e <;> simp [pl, e]
theorem nr_yes {l : List Nat} {k y : Nat} (h : l[k]? = some y) (h13 : y ≠ 13) : nr (l.take (k + 1)) = nr (l.take k) ++ [y] := by
  rw [List.take_add_one, h]
  simp [nr, h13]
theorem nr_not {l : List Nat} {k : Nat} (h : l[k]? = some 13) : nr (l.take (k + 1)) = nr (l.take k) := by
  rw [List.take_add_one, h]
  simp [nr]
theorem nr_app (a b : List Nat) : nr (a ++ b) = nr a ++ nr b := by simp [nr]
theorem nr_same {l : List Nat} (h : 13 ∉ l) : nr l = l := by
  unfold nr
  rw [List.filter_eq_self]
  intro x hx
  have : x ≠ 13 := fun e => h (e ▸ hx)
  simp [this]
theorem nr_wri {D : List Nat} (hD : 13 ∉ D) : ∀ (ps : List (List Nat)), (∀ p ∈ ps, 13 ∉ p) → nr (wri D ps) = wrj D ps
  | [], _ => by
    simp only [wri, wrj, nr_app, nr_same hD]
    rfl
  | p :: r, h => by
    simp only [wri, wrj, nr_app, nr_same hD, nr_same (h p (by simp)), nr_wri hD r (fun q hq => h q (by simp [hq]))]
    rfl
variable {D : List Nat}
theorem last_no {c : List Nat} (h : 13 ∉ c) : c.getLast? ≠ some 13 := fun e => h (List.mem_of_getLast? e)
theorem line_open10 (hD : Bd D) {s : Sp} {E : List Nat} {i cl : Bool} (h : Lb s E i cl) : ∃ q, fd D s (D ++ [10]) = (iff' i [257] ++ [256], q) ∧ Lb q [] true false := by
  have hk : lkB D (d13 D) = (2, false) := by
    rw [d13_same (last_no hD.no13)]
    have := lkB_self D []
    rw [List.append_nil] at this
    rw [this]; rfl
  obtain ⟨q, h1, h2⟩ := line_yes hD h hk
  exact ⟨q, by rw [h1]; rfl, h2.lb⟩
theorem line_close10 (hD : Bd D) {s : Sp} {E : List Nat} {i cl : Bool} (h : Lb s E i cl) : ∃ q, fd D s (D ++ [45, 45, 10]) = (iff' i [257], q) ∧ Rs q true false true := by
  have hk : lkB D (d13 (D ++ [45, 45])) = (2, true) := by
    rw [d13_same (by simp), lkB_self]; rfl
  obtain ⟨q, h1, h2⟩ := line_yes hD h hk
  refine ⟨q, ?_, h2⟩
  have e : D ++ [45, 45, 10] = (D ++ [45, 45]) ++ [10] := by simp
  rw [e, h1]
  cases i <;> rfl
theorem hs_one : ∀ (p c : List Nat), 10 ∉ p → hs D c p = decide ((lkB D (c ++ p)).1 = 2)
  | [], c, _ => by simp [hs]
  | y :: p, c, h => by
    have hy : ¬ y = 10 := fun e => h (by simp [e])
    simp only [hs, if_neg hy]
    rw [hs_one p (c ++ [y]) (fun e => h (by simp [e]))]
    simp
theorem body_end10 (hD : Bd D) {s : Sp} {E : List Nat} {i cl : Bool} (h : Lb s E i cl) {p : List Nat} (h10 : 10 ∉ p) (h13 : 13 ∉ p) (h256 : ∀ x ∈ p, x < 256) (hh : hs D [] p = false) : ∃ q, fd D s (p ++ [10]) = (iff' i (E ++ p), q) ∧ Lb q [10] i cl := by
  rw [hs_one p [] h10, List.nil_append, decide_eq_false_iff_not] at hh
  obtain ⟨q, c0, t, h1, h2, h3, h4⟩ := line_no hD h (c := p) h10 h256 (by rw [d13_same (last_no h13)]; exact hh)
  rcases h2 with ⟨h2, _⟩ | h2
  · rw [h2, List.append_nil] at h1
    rw [h2] at h4
    exact ⟨q, by rw [h3, h1], h4⟩
  · exfalso
    apply h13
    rw [h1, h2]
    simp
theorem wrj_tot (hD : Bd D) : ∀ (ps : List (List Nat)) (s : Sp) (E : List Nat) (i : Bool), Lb s E i false → (∀ p ∈ ps, hs D [] p = false ∧ (∀ x ∈ p, x < 256) ∧ 10 ∉ p ∧ 13 ∉ p) → tot D s (wrj D ps) = iff' i [257] ++ sgs ps ∧ cv D s (wrj D ps) = true := by
  intro ps
  induction ps with
  | nil =>
    intro s E i h _
    obtain ⟨q, h1, h2⟩ := line_close10 hD h
    have ht := tot_append D s (wrj D []) []
    rw [List.append_nil] at ht
    rw [show wrj D [] = D ++ [45, 45, 10] from rfl] at ht ⊢
    rw [ht.1, ht.2, h1]
    have := h2.tot (D := D) []
    exact ⟨by rw [this.1]; simp [sgs], this.2⟩
  | cons p r ih =>
    intro s E i h hp
    have hpp := hp p (by simp)
    obtain ⟨q, h1, h2⟩ := line_open10 hD h
    obtain ⟨q2, h3, h4⟩ := body_end10 hD h2 hpp.2.2.1 hpp.2.2.2 hpp.2.1 hpp.1
    have h5 := ih q2 [10] true h4 (fun p hm => hp p (by simp [hm]))
    have t1 := tot_append D s (D ++ [10]) ((p ++ [10]) ++ wrj D r)
    have t2 := tot_append D q (p ++ [10]) (wrj D r)
    rw [show wrj D (p :: r) = (D ++ [10]) ++ ((p ++ [10]) ++ wrj D r) from rfl, t1.1, t1.2, h1]
    show _ ++ Ytbndohpcaahenab.tot D q _ = _ ∧ cv D q _ = true
    rw [t2.1, t2.2, h3]
    refine ⟨?_, h5.2⟩
    show _ ++ (_ ++ Ytbndohpcaahenab.tot D q2 _) = _
    rw [h5.1]
    simp [iff', sgs]
theorem wrj_back (hD : Bd D) (ps : List (List Nat)) (hp : ∀ p ∈ ps, hs D [] p = false ∧ (∀ x ∈ p, x < 256) ∧ 10 ∉ p ∧ 13 ∉ p) : po [] (tot D s0 (wrj D ps)) = ps ∧ cv D s0 (wrj D ps) = true := by
  have h := wrj_tot hD ps s0 [] false Rs.s0.lb hp
  have e : tot D s0 (wrj D ps) = sgs ps := by rw [h.1]; rfl
  refine ⟨?_, h.2⟩
  rw [e, po_sgs ps [] (fun p hm => (hp p hm).2.1)]
  rfl
theorem wri_lt (hD : ∀ d ∈ D, d < 256) : ∀ (ps : List (List Nat)), (∀ p ∈ ps, ∀ x ∈ p, x < 256) → ∀ x ∈ wri D ps, x < 256
  | [], _ => by
    intro x hx
    rcases List.mem_append.1 hx with e | e
    · exact hD x e
    · simp at e; omega
  | p :: r, h => by
    intro x hx
    simp only [wri, List.mem_append] at hx
    rcases hx with (e | e) | (e | e) | e
    · exact hD x e
    · simp at e; omega
    · exact h p (by simp) x e
    · simp at e; omega
    · exact wri_lt hD r (fun q hq => h q (by simp [hq])) x e
theorem sum_pl : ∀ (ls : List (List Nat)) (n : Nat), (((ls.take n).map pl).map List.length).sum ≤ (ls.map List.length).sum
  | [], n => by simp
  | l :: r, 0 => by simp
  | l :: r, n + 1 => by
    have := sum_pl r n
    have := pl_len l
    simp only [List.take_succ_cons, List.map_cons, List.sum_cons]
    omega
end Go.Proofs.Ytbndohpcaahenab
