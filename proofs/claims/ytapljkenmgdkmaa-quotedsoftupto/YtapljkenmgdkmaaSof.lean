/-
  Soft breaks put in between: no walk in it.
-/
import Derived.Test.YtapljkenmgdkmaaWmt
namespace Go.Proofs.Ytapljkenmgdkmaa
theorem run_split {s : St} {W : List Nat} {l m : List Nat} {q : St × List Nat × List Nat} (h : run s W (l ++ m) = some q) : ∃ s' W' K, run s W l = some (s', W', K) ∧ ∃ q2, run s' W' m = some q2 := by
  cases h1 : run s W l with
  | none =>
    exfalso
    induction l generalizing s W q with
    | nil => simp [run] at h1
    | cons b l ih =>
      cases e : ev s W b using Ev.el with
      | stop => rw [List.cons_append, run, e] at h; cases h
      | go s1 W1 K1 =>
        rw [List.cons_append, run_go e] at h
        rw [run_go e] at h1
        cases h2 : run s1 W1 (l ++ m) with
        | none => rw [h2] at h; cases h
        | some q2 =>
          cases h3 : run s1 W1 l with
          | none => exact ih h2 h3
          | some q3 => rw [h3] at h1; cases h1
  | some q1 =>
    obtain ⟨s', W', K⟩ := q1
    refine ⟨s', W', K, rfl, ?_⟩
    rw [run_append h1] at h
    cases h2 : run s' W' m with
    | none => rw [h2] at h; cases h
    | some q2 => exact ⟨q2, rfl⟩
theorem run_one {s : St} {W : List Nat} {b : Nat} {q : St × List Nat × List Nat} (h : run s W [b] = some q) : ev s W b = .go q.1 q.2.1 q.2.2 := by
  cases e : ev s W b using Ev.el with
  | stop => rw [run, e] at h; cases h
  | go s1 W1 K1 => rw [run_go e] at h; simp [run] at h; subst h; rfl
theorem pl_eq {K W : List Nat} {b : Nat} {W' K' : List Nat} (e : pl K W b = .go .eq W' K') : b = 61 := by
  unfold pl at e
  split at e
  · split at e <;> cases e
  split at e
  · assumption
  split at e
  · cases e
  split at e <;> cases e
theorem pl_nd {K W : List Nat} {b h : Nat} {W' K' : List Nat} (e : pl K W b = .go (.dg h) W' K') : False := by
  unfold pl at e
  split at e
  · split at e <;> cases e
  split at e
  · cases e
  split at e
  · cases e
  split at e <;> cases e
theorem pl_ns {K W : List Nat} {b : Nat} {W' K' : List Nat} (e : pl K W b = .go .sf W' K') : False := by
  unfold pl at e
  split at e
  · split at e <;> cases e
  split at e
  · cases e
  split at e
  · cases e
  split at e <;> cases e
theorem ev_eq {s : St} {W : List Nat} {b : Nat} {W' K' : List Nat} (e : ev s W b = .go .eq W' K') : b = 61 := by
  cases s using St.el with
  | no => exact pl_eq e
  | eq => unfold ev at e; simp only at e; (repeat' split at e) <;> cases e
  | dg h => unfold ev at e; simp only at e; (repeat' split at e) <;> cases e
  | sf => unfold ev at e; simp only at e; (repeat' split at e) <;> cases e
  | bk =>
    unfold ev at e
    simp only at e
    split at e
    · cases e
    · exact pl_eq e
theorem ev_dg {s : St} {W : List Nat} {b h : Nat} {W' K' : List Nat} (e : ev s W b = .go (.dg h) W' K') : s = .eq ∧ vl b < 16 := by
  cases s using St.el with
  | no => exact (pl_nd e).elim
  | eq =>
    refine ⟨rfl, ?_⟩
    unfold ev at e
    simp only at e
    split at e
    · assumption
    · (repeat' split at e) <;> cases e
  | dg h => unfold ev at e; simp only at e; (repeat' split at e) <;> cases e
  | sf => unfold ev at e; simp only at e; (repeat' split at e) <;> cases e
  | bk =>
    unfold ev at e
    simp only at e
    split at e
    · cases e
    · exact (pl_nd e).elim
/-- Where an escape was begun, its = stands right ahead, or one byte further. -/
theorem run_last {p : List Nat} {s : St} {W K : List Nat} (h : run .no [] p = some (s, W, K)) : (s = .eq → ∃ p', p = p' ++ [61]) ∧ (∀ g, s = .dg g → ∃ p' d, p = p' ++ [61, d] ∧ d ≠ 13) := by
  rcases List.eq_nil_or_concat p with rfl | ⟨p0, b, rfl⟩
  · simp [run] at h
    obtain ⟨rfl, _⟩ := h
    exact ⟨(fun h => by cases h), (fun g h => by cases h)⟩
  · rw [List.concat_eq_append] at h ⊢
    obtain ⟨s0, W0, K0, h0, q2, h2⟩ := run_split h
    have h3 := run_then h0 h2
    rw [h] at h3
    have h4 := run_one h2
    have es : s = q2.1 := by injection h3 with h3; exact congrArg (fun q => q.1) h3
    rw [← es] at h4
    constructor
    · intro e
      rw [e] at h4
      rw [ev_eq h4]
      exact ⟨p0, rfl⟩
    · intro g e
      rw [e] at h4
      obtain ⟨e0, hv⟩ := ev_dg h4
      subst e0
      rcases List.eq_nil_or_concat p0 with rfl | ⟨p1, c, rfl⟩
      · simp [run] at h0
      · rw [List.concat_eq_append] at h0 ⊢
        obtain ⟨s1, W1, K1, h5, q3, h6⟩ := run_split h0
        have h7 := run_then h5 h6
        rw [h0] at h7
        have h8 := run_one h6
        have es2 : St.eq = q3.1 := by injection h7 with h7; exact congrArg (fun q => q.1) h7
        rw [← es2] at h8
        rw [ev_eq h8]
        refine ⟨p1, b, by simp, ?_⟩
        intro e13
        subst e13
        simp [vl] at hv
/-- The bytes that are put in. -/
def inz (q1 q2 : Bool) : List Nat := if q1 = true then [61, 13, 10] else if q2 = true then [61, 10] else []
theorem inz_len (q1 q2 : Bool) : (inz q1 q2).length ≤ 3 := by unfold inz; (repeat' split) <;> simp
theorem inz_oct (q1 q2 : Bool) : ∀ x ∈ inz q1 q2, x < 256 := by
  unfold inz
  split
  · simp
  split
  · simp
  · simp
theorem pl_ahead {K : List Nat} {x : Nat} (hx : 32 < x) : ∃ s, ∀ W : List Nat, pl K W x = .go s [] (K ++ W ++ (if s.num = 1 then [] else [x])) := by
  have hb : ¬ isB x = true := by rw [isB_iff]; omega
  by_cases h61 : x = 61
  · refine ⟨.eq, fun W => ?_⟩
    unfold pl
    rw [if_neg hb, if_pos h61]
    simp [St.num]
  · refine ⟨.no, fun W => ?_⟩
    unfold pl
    rw [if_neg hb, if_neg h61, if_neg (by omega), if_neg (by omega)]
    simp [St.num]
/-- Soft breaks ahead of a byte that is no blank and no line's end. -/
theorem run_ins {s : St} (hs : s = .no ∨ s = .bk) (W : List Nat) {x : Nat} (hx : 32 < x) {m : List Nat} (hm : m = [61, 13, 10] ∨ m = [61, 10]) : run s W (m ++ [x]) = run s W [x] := by
  have h1 : ∃ K, run s W m = some (.no, [], K) ∧ ∀ s' : St, ∀ D : List Nat, pl [] [] x = .go s' [] D → ev s W x = .go s' [] (K ++ D) := by
    rcases hs with rfl | rfl
    · refine ⟨W, ?_, ?_⟩
      · rcases hm with rfl | rfl
        · exact run_soft W
        · exact run_soft2 W
      · intro s' D e
        obtain ⟨s2, h2⟩ := pl_ahead (K := []) hx
        rw [h2 []] at e
        injection e with e
        injection e with e1 e
        injection e with e2 e3
        subst e1
        subst e3
        show pl [] W x = _
        rw [h2 W]
        simp
    · refine ⟨W ++ [13], ?_, ?_⟩
      · rcases hm with rfl | rfl
        · rw [run_go (s' := .eq) (W' := []) (K := W ++ [13]) (by simp [ev, pl, isB]), run_go (s' := .sf) (W' := []) (K := []) (by rfl), run_go (s' := .no) (W' := []) (K := []) (by rfl)]
          simp [run]
        · rw [run_go (s' := .eq) (W' := []) (K := W ++ [13]) (by simp [ev, pl, isB]), run_go (s' := .no) (W' := []) (K := []) (by rfl)]
          simp [run]
      · intro s' D e
        have := pl_pre (W ++ [13]) [] x e
        simp only [ev]
        rw [if_neg (by omega)]
        exact this
  obtain ⟨K, h2, h3⟩ := h1
  rw [run_append h2]
  obtain ⟨s', h4⟩ := pl_ahead (K := []) hx
  have h5 := h3 s' _ (h4 [])
  rw [run_go h5, run_go (s := .no) (W := []) (show ev .no [] x = _ from h4 [])]
  simp [run]
/-- Is the byte at i within an escape? -/
def inb (W : List Nat) (i : Nat) : Bool := decide (1 ≤ i ∧ W[i - 1]? = some 61) || decide (2 ≤ i ∧ W[i - 2]? = some 61 ∧ W[i - 1]? ≠ some 13)
theorem run_soft_step {W : List Nat} {q : St × List Nat × List Nat} (h : run .no [] W = some q) {i x : Nat} (hx : W[i]? = some x) {c : List Nat} (hc : run .no [] c = run .no [] (W.take i)) (q1 q2 : Bool) (h1 : q1 = true ∨ q2 = true → inb W i = false ∧ 32 < x) : run .no [] (c ++ inz q1 q2 ++ [x]) = run .no [] (W.take (i + 1)) := by
  have hi : i < W.length := (List.getElem?_eq_some_iff.1 hx).1
  have e1 : W.take (i + 1) = W.take i ++ [x] := by rw [List.take_add_one, hx]; rfl
  have e2 : W = W.take i ++ ([x] ++ W.drop (i + 1)) := by
    rw [← List.append_assoc, ← e1, List.take_append_drop]
  have h2 := h
  rw [e2] at h2
  obtain ⟨s, V, K, h3, q3, h4⟩ := run_split h2
  rw [h3] at hc
  rw [e1, run_append h3, List.append_assoc, run_append hc]
  by_cases hq : q1 = true ∨ q2 = true
  · obtain ⟨hin, hx32⟩ := h1 hq
    have hm : inz q1 q2 = [61, 13, 10] ∨ inz q1 q2 = [61, 10] := by
      unfold inz
      rcases hq with rfl | rfl
      · exact Or.inl rfl
      · cases q1
        · exact Or.inr rfl
        · exact Or.inl rfl
    have hlen : (W.take i).length = i := by rw [List.length_take]; omega
    obtain ⟨l1, l2⟩ := run_last h3
    have hs : s = .no ∨ s = .bk := by
      unfold inb at hin
      rw [Bool.or_eq_false_iff] at hin
      have n1 := of_decide_eq_false hin.1
      have n2 := of_decide_eq_false hin.2
      cases s using St.el with
      | no => exact Or.inl rfl
      | bk => exact Or.inr rfl
      | eq =>
        exfalso
        obtain ⟨p', e⟩ := l1 rfl
        have hl := congrArg List.length e
        rw [hlen] at hl
        simp at hl
        apply n1
        refine ⟨by omega, ?_⟩
        have : (W.take i)[i - 1]? = some 61 := by rw [e, hl]; simp
        rwa [List.getElem?_take, if_pos (by omega)] at this
      | dg g =>
        exfalso
        obtain ⟨p', d, e, hd⟩ := l2 g rfl
        have hl := congrArg List.length e
        rw [hlen] at hl
        simp at hl
        apply n2
        have g1 : (W.take i)[i - 2]? = some 61 := by rw [e, hl]; simp
        have g2 : (W.take i)[i - 1]? = some d := by rw [e, hl]; simp
        rw [List.getElem?_take, if_pos (by omega)] at g1 g2
        exact ⟨by omega, g1, by rw [g2]; simpa using hd⟩
      | sf =>
        exfalso
        obtain ⟨s5, W5, K5, h5, _⟩ := run_split h4
        have h6 := run_one h5
        unfold ev at h6
        simp only at h6
        split at h6
        · omega
        · cases h6
    rw [run_ins hs V hx32 hm]
  · have : inz q1 q2 = [] := by
      unfold inz
      cases q1
      · cases q2
        · rfl
        · exact absurd (Or.inr rfl) hq
      · exact absurd (Or.inl rfl) hq
    rw [this, List.nil_append]
end Go.Proofs.Ytapljkenmgdkmaa
