/-
  What is told with a byte: its form; names and parts out of what is told. No walk.
-/
import Derived.Test.YtcmmjbkgoafbnaaGreatDoorTmb
namespace Go.Proofs.YtcmmjbkgoafbnaaGreatDoor
set_option linter.unusedVariables false
/-- At most two events, the second one a file's end. -/
def Tfo (E : List Evn) : Prop := E = [] ∨ (∃ e, E = [e] ∧ e.1 < 258 ∧ (e.1 ≠ 256 → e.2 = [])) ∨ ∃ e, E = [e, (257, [])] ∧ e.1 < 258 ∧ (e.1 ≠ 256 → e.2 = [])
theorem tfo_nil : Tfo [] := Or.inl rfl
theorem tfo_next {e : Evn} {E : List Evn} (h : Tfo (e :: E)) : Tfo E ∧ e.1 < 258 ∧ (e.1 ≠ 256 → e.2 = []) ∧ (E = [] ∨ E = [(257, [])]) := by
  rcases h with h | ⟨x, h, h1, h2⟩ | ⟨x, h, h1, h2⟩
  · cases h
  · cases h; exact ⟨tfo_nil, h1, h2, Or.inl rfl⟩
  · cases h; exact ⟨Or.inr (Or.inl ⟨_, rfl, by decide, fun _ => rfl⟩), h1, h2, Or.inr rfl⟩
theorem topn_tbeg (B : List Nat) (nm : Option (List Nat)) (us z : Nat) (s : Ts) (hu : us = tus (tkd B)) : Tfo (topn B nm ++ (tbeg us z s).2) := by
  unfold topn tbeg tcl
  by_cases hf : tisf (tkd B) = true
  · have h1 : tus (tkd B) = 1 := by
      unfold tisf at hf
      simp only [Bool.or_eq_true, beq_iff_eq] at hf
      rcases hf with (e | e) | e <;> rw [e] <;> rfl
    rw [if_pos hf, hu, h1]
    split
    · exact Or.inr (Or.inr ⟨_, rfl, by show 256 < 258; decide, fun h => absurd rfl h⟩)
    · exact Or.inr (Or.inl ⟨_, rfl, by show 256 < 258; decide, fun h => absurd rfl h⟩)
  · have h1 : tus (tkd B) ≠ 1 := by
      unfold tus
      split
      · decide
      · split
        · decide
        · decide
    rw [if_neg hf, hu, if_neg h1]
    split <;> exact Or.inl rfl
theorem thead_form (s : Ts) : Tfo (thead s).2 := by
  unfold thead
  split
  · exact tfo_nil
  · split
    · exact tfo_nil
    · split
      · exact tfo_nil
      · split
        · exact tfo_nil
        · exact topn_tbeg _ _ _ _ _ rfl
theorem tput_form (s : Ts) (x : Nat) (hx : x < 256) : Tfo (tput s x).2 := by
  unfold tput
  split
  · split
    · exact thead_form _
    · exact tfo_nil
  · split
    · unfold tdat tbt tcl
      simp only
      split
      · split
        · exact Or.inr (Or.inr ⟨_, rfl, by show x < 258; omega, fun _ => rfl⟩)
        · exact tfo_nil
      · split
        · exact Or.inr (Or.inl ⟨_, rfl, by show x < 258; omega, fun _ => rfl⟩)
        · exact tfo_nil
    · exact tfo_nil
/-- Names and parts out of events. -/
def po2 : List (List Nat) → List (List Nat) → List Evn → List (List Nat) × List (List Nat)
  | ns, ls, [] => (ns, ls)
  | ns, ls, e :: r => if e.1 = 256 then po2 (ns ++ [e.2]) (ls ++ [[]]) r else if e.1 = 257 then po2 ns ls r else po2 ns (ls.dropLast ++ [ls.getLastD [] ++ [e.1]]) r
def Gd2 : Bool → List Evn → Prop
  | _, [] => True
  | i, e :: r => if e.1 = 256 then Gd2 true r else if e.1 = 257 then Gd2 i r else i = true ∧ Gd2 i r
def nop : List Evn → Nat
  | [] => 0
  | e :: r => (if e.1 = 256 then 1 else 0) + nop r
def nbe : List Evn → Nat
  | [] => 0
  | e :: r => (if e.1 < 256 then 1 else 0) + nbe r
def evx (T : List Gev) : List Evn := T.map fun p => p.2
theorem evx_append (T U : List Gev) : evx (T ++ U) = evx T ++ evx U := by simp [evx]
theorem evx_evs (t : Nat) (E : List Evn) : evx (evs t E) = E := by simp only [evx, evs, List.map_map]; exact List.map_id E
theorem nop_append (a b : List Evn) : nop (a ++ b) = nop a + nop b := by
  induction a with
  | nil => simp [nop]
  | cons g r ih => simp only [List.cons_append, nop, ih]; omega
theorem nbe_append (a b : List Evn) : nbe (a ++ b) = nbe a + nbe b := by
  induction a with
  | nil => simp [nbe]
  | cons g r ih => simp only [List.cons_append, nbe, ih]; omega
theorem gd2_true : ∀ r : List Evn, Gd2 true r
  | [] => trivial
  | e :: r => by
    unfold Gd2
    split
    · exact gd2_true r
    · split
      · exact gd2_true r
      · exact ⟨rfl, gd2_true r⟩
theorem gd2_append : ∀ (i : Bool) (a b : List Evn), Gd2 i a → (Gd2 (i || decide (0 < nop a)) b) → Gd2 i (a ++ b)
  | i, [], b, _, h => by simpa [nop] using h
  | i, g :: a, b, h1, h2 => by
    unfold Gd2 at h1
    rw [List.cons_append]
    unfold Gd2
    split at h1
    · rename_i e; rw [if_pos e]; exact gd2_append true a b h1 (by simpa using gd2_true b)
    · rename_i e
      rw [if_neg e]
      have h2' : Gd2 (i || decide (0 < nop a)) b := by simpa [nop, e] using h2
      split at h1
      · rename_i e7; rw [if_pos e7]; exact gd2_append i a b h1 h2'
      · rename_i e7; rw [if_neg e7]; exact ⟨h1.1, gd2_append i a b h1.2 h2'⟩
/-- What holds of all that was told. -/
structure Rf (k : Nat) (s : Ts) (E : List Evn) : Prop where
  gd : Gd2 false E
  op : s.wh = 1 → s.us = 1 → 0 < nop E
  no : nop E ≤ k
  nb : nbe E ≤ k
  lt : ∀ e ∈ E, e.1 < 258
theorem tend_wh (s : Ts) : (tend s).wh = s.wh ∧ (tend s).us = s.us := ⟨rfl, rfl⟩
theorem tnx_wh1 {s : Ts} (h : (tnx s).wh = 1) : s.wh = 1 ∧ (tnx s).us = s.us := by
  unfold tnx at h ⊢
  split at h
  · exact absurd (show (0 : Nat) = 1 from h) (by decide)
  · rename_i q; rw [if_neg q]; exact ⟨h, rfl⟩
theorem tfo_counts {E : List Evn} (h : Tfo E) : nop E ≤ 1 ∧ nbe E ≤ 1 ∧ (∀ e ∈ E, e.1 < 258) ∧ nop E + nbe E ≤ 1 := by
  rcases h with rfl | ⟨e, rfl, h1, _⟩ | ⟨e, rfl, h1, _⟩
  · simp [nop, nbe]
  · refine ⟨?_, ?_, fun x hx => ?_, ?_⟩
    · simp only [nop]; split <;> omega
    · simp only [nbe]; split <;> omega
    · simp at hx; rw [hx]; exact h1
    · simp only [nop, nbe]; split <;> split <;> omega
  · refine ⟨?_, ?_, fun x hx => ?_, ?_⟩
    · simp only [nop]; simp; split <;> omega
    · simp only [nbe]; simp; split <;> omega
    · simp at hx; rcases hx with rfl | rfl
      · exact h1
      · decide
    · simp only [nop, nbe]; simp; split <;> split <;> omega
theorem tbeg_ev {us z : Nat} {s : Ts} (h : us ≠ 1) : (tbeg us z s).2 = [] := by
  unfold tbeg
  split
  · show tcl us = []; unfold tcl; rw [if_neg h]
  · rfl
theorem tbeg_us (us z : Nat) (s : Ts) : (tbeg us z s).1.us = us := by
  unfold tbeg
  split
  · rfl
  · rfl
theorem Rf.put {k x : Nat} {s : Ts} {E : List Evn} (h : Rf k s E) (hx : x < 256) : Rf (k + 1) (tput s x).1 (E ++ (tput s x).2) := by
  have hf := tput_form s x hx
  obtain ⟨c1, c2, c3, c4⟩ := tfo_counts hf
  have key : Gd2 (decide (0 < nop E)) (tput s x).2 ∧ ((tput s x).1.wh = 1 → (tput s x).1.us = 1 → 0 < nop E + nop (tput s x).2) := by
    unfold tput
    split
    · rename_i h0
      split
      · have hh : ∀ q : Ts, q.wh = 0 → Gd2 (decide (0 < nop E)) (thead q).2 ∧ ((thead q).1.wh = 1 → (thead q).1.us = 1 → 0 < nop (thead q).2) := by
          intro q hq
          unfold thead
          split
          · exact ⟨trivial, fun e => absurd (show (3 : Nat) = 1 from e) (by decide)⟩
          · split
            · exact ⟨trivial, fun e => absurd (hq.symm.trans e) (by decide)⟩
            · split
              · exact ⟨trivial, fun e => absurd (hq.symm.trans e) (by decide)⟩
              · split
                · exact ⟨trivial, fun e => absurd (hq.symm.trans e) (by decide)⟩
                · rename_i z _ _
                  unfold topn
                  by_cases hf : tisf (tkd q.B) = true
                  · rw [if_pos hf]
                    refine ⟨?_, fun _ _ => by simp [nop]; omega⟩
                    show Gd2 _ ((256, _) :: _)
                    unfold Gd2
                    rw [if_pos rfl]
                    exact gd2_true _
                  · have h1 : tus (tkd q.B) ≠ 1 := by
                      unfold tus
                      split
                      · decide
                      · split
                        · decide
                        · decide
                    rw [if_neg hf]
                    refine ⟨?_, fun _ e => absurd ((tbeg_us _ _ _).symm.trans e) h1⟩
                    show Gd2 _ ([] ++ (tbeg (tus (tkd q.B)) _ _).2)
                    rw [tbeg_ev h1]
                    trivial
        have := hh { s with B := s.B.set s.ps x, ps := 0 } h0
        refine ⟨this.1, fun e1 e2 => ?_⟩
        obtain ⟨q1, q2⟩ := tnx_wh1 e1
        have e2' : (thead { s with B := s.B.set s.ps x, ps := 0 }).1.us = 1 := by rw [← q2]; exact e2
        have := this.2 q1 e2'
        show 0 < nop E + nop (thead { s with B := s.B.set s.ps x, ps := 0 }).2
        omega
      · exact ⟨trivial, fun e => absurd (h0.symm.trans e) (by decide)⟩
    · split
      · rename_i h0 h1
        have hus : s.us = 1 → 0 < nop E := h.op h1
        refine ⟨?_, fun e1 e2 => ?_⟩
        · unfold tdat tbt tcl
          simp only
          by_cases hu : s.us = 1
          · rw [decide_eq_true (hus hu)]; exact gd2_true _
          · simp only [if_neg hu]
            split <;> trivial
        · obtain ⟨q1, q2⟩ := tnx_wh1 e1
          have e3 : (tdat x { s with ps := (s.ps + 1) % 512 }).1.us = 1 := by rw [← q2]; exact e2
          have : s.us = 1 := by
            unfold tdat at e3
            split at e3
            · rw [(tend_wh _).2] at e3
              have := (tkp_us x { s with ps := (s.ps + 1) % 512 }).1
              rw [← this]; exact e3
            · have := (tkp_us x { s with ps := (s.ps + 1) % 512 }).1
              rw [← this]; exact e3
          have := hus this
          omega
      · rename_i h0 h1
        refine ⟨trivial, fun e1 _ => ?_⟩
        exact absurd (tnx_wh1 e1).1 h1
  exact ⟨gd2_append false E _ h.gd (by simpa using key.1), fun a b => by rw [nop_append]; exact key.2 a b, by rw [nop_append]; have := h.no; omega, by rw [nbe_append]; have := h.nb; omega, fun e he => by
    rcases List.mem_append.1 he with q | q
    · exact h.lt e q
    · exact c3 e q⟩
theorem Mr.rf : ∀ {l : List Nat} {t k : Nat} {s s' : Ts} {T : List Gev} {E : List Evn}, Mr t s l s' T → Rf k s E → Oct l → Rf (k + l.length) s' (E ++ evx T)
  | [], t, k, s, s', T, E, h, r, _ => by obtain ⟨rfl, rfl⟩ := h; simpa [evx] using r
  | x :: l, t, k, s, s', T, E, ⟨_, s1, F, T1, h1, h2, h3⟩, r, ho => by
    have r1 := r.put (x := x) (ho x (by simp))
    rw [← h1.1, ← h1.2] at r1
    have := Mr.rf h2 r1 (fun y hy => ho y (List.mem_cons_of_mem _ hy))
    rw [h3, evx_append, evx_evs, ← List.append_assoc, List.length_cons, show k + (l.length + 1) = k + 1 + l.length by omega]
    exact this
theorem Rch.rf {b : List Nat} {k : Nat} {s : Ts} {T : List Gev} (h : Rch b k s T) (ho : Oct b) : Rf k s (evx T) := by
  have := h.2.rf (k := 0) (E := []) ⟨trivial, fun e => absurd (show (0 : Nat) = 1 from e) (by decide), Nat.le_refl _, Nat.le_refl _, fun e he => by cases he⟩ (ho.take k)
  rw [List.length_take, Nat.min_eq_left h.1, Nat.zero_add, List.nil_append] at this
  exact this
end Go.Proofs.YtcmmjbkgoafbnaaGreatDoor
