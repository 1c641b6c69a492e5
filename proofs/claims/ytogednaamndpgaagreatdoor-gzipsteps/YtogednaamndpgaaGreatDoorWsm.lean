/-
  Events and their times: what is told with a byte. No walk.
-/
import Derived.Test.YtogednaamndpgaaGreatDoorMzb
namespace Go.Proofs.YtogednaamndpgaaGreatDoor
open Go.RowKit
set_option linter.unusedVariables false
theorem mr_ge : ∀ (l : List Nat) (t : Nat) (s s' : Gs) (T : List Gev), Mr t s l s' T → ∀ p ∈ T, t ≤ p.1
  | [], t, s, s', T, h, p, hp => by
    obtain ⟨_, rfl⟩ := h
    cases hp
  | x :: l, t, s, s', T, h, p, hp => by
    obtain ⟨_, s1, E, T1, _, h2, rfl⟩ := h
    rcases List.mem_append.1 hp with q | q
    · obtain ⟨e, _, rfl⟩ := List.mem_map.1 q
      exact Nat.le_refl _
    · exact Nat.le_of_succ_le (mr_ge l (t + 1) s1 s' T1 h2 p q)
/-- What is told with the byte t: E, from the place i on. -/
structure Tn (T : List Gev) (t i : Nat) (E : List Evn) : Prop where
  here : ∀ (j : Nat) (e : Evn), E[j]? = some e → T[i + j]? = some (t, e)
  there : ∀ p, T[i + E.length]? = some p → p.1 ≠ t
theorem Tn.next {T : List Gev} {t i : Nat} {e : Evn} {E : List Evn} (h : Tn T t i (e :: E)) : Tn T t (i + 1) E := by
  refine ⟨fun j x hj => ?_, fun p hp => h.there p ?_⟩
  · have := h.here (j + 1) x (by simpa using hj)
    rw [← this]; congr 1; omega
  · rw [← hp]; congr 1; simp; omega
theorem tn_of {T Ti T2 : List Gev} {t : Nat} {E : List Evn} (h : T = Ti ++ evs t E ++ T2) (h2 : ∀ p ∈ T2, t < p.1) : Tn T t Ti.length E := by
  have hl : (evs t E).length = E.length := by simp [evs]
  refine ⟨fun j e hj => ?_, fun p hp => ?_⟩
  · have hlt : j < E.length := (List.getElem?_eq_some_iff.1 hj).1
    rw [h, List.append_assoc, List.getElem?_append_right (by omega), Nat.add_sub_cancel_left, List.getElem?_append_left (by omega)]
    simp [evs, hj]
  · rw [h, List.getElem?_append_right (by rw [List.length_append]; omega)] at hp
    rw [List.length_append, hl, Nat.sub_self] at hp
    have := h2 p (List.mem_of_getElem? hp)
    omega
theorem tn_end (T : List Gev) (t : Nat) : Tn T t T.length [] := ⟨fun j e hj => by simp at hj, fun p hp => by simp at hp⟩
/-- The document's run as a machine's. -/
structure Fr2 (b : List Nat) (r : Gr) (k : Nat) (s : Gs) : Prop where
  rch : Rch b k s r.ev
  fin : zfin s = r.why
  st : (s.why = 0 ∧ k = b.length ∧ (r.why = 0 ∨ r.sat = b.length)) ∨ (s.why ≠ 0 ∧ r.why ≠ 0 ∧ k = r.sat + 1)
theorem Fo.run {b : List Nat} {M : Nat} {r : Gr} (h : Fo b M r) (h62 : r.why ≠ 62) : ∃ k s, Fr2 b r k s := by
  obtain ⟨_, _, h3⟩ := h
  rcases h3 with ⟨h0, s, q, q0, q1⟩ | ⟨h0, k, s, q, q1⟩ | ⟨h0, _⟩
  · exact ⟨_, s, q, by unfold zfin; rw [if_neg (fun e => e q0), if_pos q1, h0], Or.inl ⟨q0, rfl, Or.inl h0⟩⟩
  · rcases q1 with ⟨q1, q2, rfl, q3, q4⟩ | ⟨q1, q2⟩
    · exact ⟨_, s, q, by unfold zfin; rw [if_neg (fun e => e q1), if_neg (by rw [q2]; decide), q3], Or.inl ⟨q1, rfl, Or.inr q4⟩⟩
    · exact ⟨k, s, q, by unfold zfin; rw [if_pos (by rw [q1]; exact h0), q1], Or.inr ⟨by rw [q1]; exact h0, h0, q2⟩⟩
  · exact absurd h0 h62
/-- i bytes were put in, n events told. -/
structure Si (b : List Nat) (r : Gr) (k : Nat) (i n : Nat) (si : Gs) : Prop where
  ex : ∃ Ti, Rch b (min i k) si Ti ∧ n = Ti.length
theorem Si.start (b : List Nat) (r : Gr) (k : Nat) : Si b r k 0 0 s0 := ⟨[], by rw [Nat.zero_min]; exact rch_zero b, rfl⟩
theorem nbe_len : ∀ l : List Nat, nbe l ≤ l.length
  | [] => Nat.le_refl _
  | g :: r => by have := nbe_len r; simp only [nbe, List.length_cons]; split <;> omega
theorem Si.len {b : List Nat} {r : Gr} {k : Nat} {s : Gs} (ho : Oct b) (f : Fr2 b r k s) {i n : Nat} {si : Gs} (h : Si b r k i n si) : si.y.out.length ≤ r.ev.length ∧ n ≤ r.ev.length ∧ Gok si := by
  obtain ⟨Ti, h1, rfl⟩ := h.ex
  obtain ⟨s1, T1, T2, q1, _, q3⟩ := f.rch.back (Nat.min_le_right i k)
  obtain ⟨rfl, rfl⟩ := h1.det q1
  have g := rch_facts ho _ _ _ h1
  have g1 := g.len
  have g2 := nbe_len (cds Ti)
  have g3 : (cds Ti).length = Ti.length := by simp [cds]
  have g4 : r.ev.length = Ti.length + T2.length := by rw [q3, List.length_append]
  exact ⟨by omega, by omega, g.ok⟩
/-- One that is taken. -/
theorem Si.step {b : List Nat} {r : Gr} {k : Nat} {s : Gs} (f : Fr2 b r k s) {i n : Nat} {si : Gs} (h : Si b r k i n si) (hi : i < k) : si.why = 0 ∧ (∃ Ti, Rch b i si Ti) ∧ ∃ x s1 E, b[i]? = some x ∧ Sp si x s1 E ∧ Si b r k (i + 1) (n + E.length) s1 ∧ Tn r.ev i n E ∧ (∃ T1, Rch b (i + 1) s1 T1) ∧ (s1.why ≠ 0 ↔ (r.why ≠ 0 ∧ r.sat ≤ i)) := by
  obtain ⟨Ti, h1, rfl⟩ := h.ex
  rw [Nat.min_eq_left (Nat.le_of_lt hi)] at h1
  obtain ⟨h0, x, s1, E, T2, q1, q2, q3, q4, q5⟩ := f.rch.at h1 hi
  refine ⟨h0, ⟨Ti, h1⟩, x, s1, E, q1, q2, ⟨_, by rw [Nat.min_eq_left hi]; exact q3, by simp [evs]⟩, tn_of q4 (fun p hp => mr_ge _ _ _ _ _ q5 p hp), ⟨_, q3⟩, ?_⟩
  have hk := f.rch.1
  by_cases hk2 : i + 1 < k
  · have e := (f.rch.at q3 hk2).1
    rcases f.st with ⟨_, g2, g3 | g3⟩ | ⟨_, g2, g3⟩
    · exact ⟨fun z => absurd e z, fun z => absurd g3 z.1⟩
    · exact ⟨fun z => absurd e z, fun z => by omega⟩
    · exact ⟨fun z => absurd e z, fun z => by omega⟩
  · have ek : i + 1 = k := by omega
    rw [ek] at q3
    obtain ⟨rfl, _⟩ := q3.det f.rch
    rcases f.st with ⟨g1, g2, g3 | g3⟩ | ⟨g1, g2, g3⟩
    · exact ⟨fun z => absurd g1 z, fun z => absurd g3 z.1⟩
    · exact ⟨fun z => absurd g1 z, fun z => by omega⟩
    · exact ⟨fun _ => ⟨g2, by omega⟩, fun _ => g1⟩
/-- It is stopped. -/
theorem Si.over {b : List Nat} {r : Gr} {k : Nat} {s : Gs} (f : Fr2 b r k s) {i n : Nat} {si : Gs} (h : Si b r k i n si) (hi : ¬ i < k) : si = s ∧ n = r.ev.length ∧ Si b r k (i + 1) n s ∧ Tn r.ev i n [] := by
  obtain ⟨Ti, h1, rfl⟩ := h.ex
  rw [Nat.min_eq_right (by omega)] at h1
  obtain ⟨rfl, rfl⟩ := h1.det f.rch
  exact ⟨rfl, rfl, ⟨_, by rw [Nat.min_eq_right (by omega)]; exact h1, rfl⟩, tn_end _ _⟩
theorem Fr2.open_ {b : List Nat} {r : Gr} {k : Nat} {s : Gs} (f : Fr2 b r k s) {i : Nat} (hl : i < b.length) : (i < k ↔ (r.why = 0 ∨ i ≤ r.sat)) := by
  rcases f.st with ⟨g1, g2, g3 | g3⟩ | ⟨g1, g2, g3⟩
  · exact ⟨fun _ => Or.inl g3, fun _ => by omega⟩
  · exact ⟨fun _ => Or.inr (by omega), fun _ => by omega⟩
  · exact ⟨fun _ => Or.inr (by omega), fun q => by rcases q with q | q; exact absurd q g2; omega⟩
end Go.Proofs.YtogednaamndpgaaGreatDoor
