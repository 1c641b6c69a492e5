/-
  Events and their times: what is told with a byte. No walk.
-/
import Derived.Test.YtbndohpcaahenaaTel
import Derived.Test.YtbndohpcaahenaaTlm
namespace Go.Proofs.Ytbndohpcaahenaa
open Go.RowKit
set_option linter.unusedVariables false
theorem tv_ge (D : List Nat) : ∀ (x : List Nat) (t : Nat) (s : Sp) (p : Nat × Nat), p ∈ tv D t s x → t ≤ p.1
  | [], t, s, p, h => by
    rw [tv_nil] at h
    obtain ⟨g, _, rfl⟩ := List.mem_map.1 h
    exact Nat.le_refl _
  | g :: r, t, s, p, h => by
    rw [tv_cons] at h
    rcases List.mem_append.1 h with h | h
    · obtain ⟨g, _, rfl⟩ := List.mem_map.1 h
      exact Nat.le_refl _
    · exact Nat.le_of_succ_le (tv_ge D r (t + 1) _ p h)
theorem tq_of {T rest : List (Nat × Nat)} {k i : Nat} {rem : List Nat} (h : T.drop k = tm i rem ++ rest) (hr : ∀ p ∈ rest, i < p.1) : (∀ (j g : Nat), rem[j]? = some g → T[k + j]? = some (i, g)) ∧ (∀ p, T[k + rem.length]? = some p → p.1 ≠ i) ∧ T.drop (k + rem.length) = rest := by
  have hl : (tm i rem).length = rem.length := by simp [tm]
  have hd : T.drop (k + rem.length) = rest := by
    rw [← List.drop_drop, h, ← hl, List.drop_left]
  refine ⟨fun j g hj => ?_, fun p hp => ?_, hd⟩
  · rw [← List.getElem?_drop, h]
    have hlt : j < rem.length := (List.getElem?_eq_some_iff.1 hj).1
    rw [List.getElem?_append_left (by omega)]
    simp [tm, hj]
  · have h2 : rest[0]? = some p := by rw [← hd, List.getElem?_drop]; simpa using hp
    have := hr p (List.mem_of_getElem? h2)
    omega
/-- Where the bytes stand: i of them are put in, k events are told; cl: whether it is closed in the end. -/
structure Si (D : List Nat) (T : List (Nat × Nat)) (cl : Bool) (x : List Nat) (i k : Nat) (s : Sp) : Prop where
  ok : Okm D s
  dr : T.drop k = tv D i s (x.drop i)
  cv' : cv D s (x.drop i) = cl
  le : k ≤ T.length
theorem Si.start {D : List Nat} (hD : D ≠ []) (x : List Nat) : Si D (tv D 0 s0 x) (cv D s0 x) x 0 0 s0 := ⟨Okm.s0 hD, by simp, by simp, by simp⟩
theorem Si.step {D : List Nat} (hD : D ≠ []) {T : List (Nat × Nat)} {cl : Bool} {x : List Nat} {i k g : Nat} {s : Sp} (h : Si D T cl x i k s) (hg : x[i]? = some g) : Si D T cl x (i + 1) (k + (out (stp D g s)).length) (tk (stp D g s)) ∧ (∀ (j y : Nat), (out (stp D g s))[j]? = some y → T[k + j]? = some (i, y)) ∧ (∀ p, T[k + (out (stp D g s)).length]? = some p → p.1 ≠ i) := by
  have h1 := h.dr
  have hc := h.cv'
  rw [drop_more hg] at hc
  rw [drop_more hg, tv_cons] at h1
  have h3 := tq_of h1 (fun p hp => tv_ge D _ _ _ p hp)
  have h2 := congrArg List.length h1
  simp [tm] at h2
  have hk := h.le
  exact ⟨⟨ok_step hD h.ok g, h3.2.2, hc, by omega⟩, h3.1, h3.2.1⟩
theorem Si.last {D : List Nat} {T : List (Nat × Nat)} {cl : Bool} {x : List Nat} {k : Nat} {s : Sp} (h : Si D T cl x x.length k s) : (∀ (j y : Nat), (out (en D s))[j]? = some y → T[k + j]? = some (x.length, y)) ∧ (∀ p, T[k + (out (en D s)).length]? = some p → p.1 ≠ x.length) ∧ k + (out (en D s)).length = T.length ∧ (en D s).cl = cl := by
  have h1 := h.dr
  have hc := h.cv'
  rw [List.drop_length] at hc
  rw [List.drop_length, tv_nil] at h1
  have h3 := tq_of (rest := []) (by rw [List.append_nil]; exact h1) (fun p hp => by simp at hp)
  have hk := h.le
  refine ⟨h3.1, h3.2.1, ?_, hc⟩
  have h2 := congrArg List.length h1
  simp [tm] at h2
  omega
theorem en_kn (D : List Nat) (s : Sp) : (en D s).kn = (en D s).hl.length := rfl
/-- Timed events stay where a splitter works. -/
theorem Te.but {w : World} {lo B : Nat} {v : Value} {T : List (Nat × Nat)} (h : Ow w lo 69 6 v T.length (tc T)) (hB : B < lo) : ∃ a c, v = .slice a T.length c ∧ ∀ u, But B w u → Te u a T := by
  obtain ⟨a, c, hv, ht, _⟩ := h.te
  obtain ⟨a2, c2, hv2, _, h0 | ⟨g, hg, hlo, _, hx, _⟩, _⟩ := h.shape
  · exact ⟨a, c, hv, fun u _ => Or.inl (List.eq_nil_of_length_eq_zero h0)⟩
  · refine ⟨a, c, hv, fun u hu => ?_⟩
    rw [hv] at hv2
    injection hv2 with e1 e2 e3
    rcases ht with e | ⟨g', o, ha, hc⟩
    · exact Or.inl e
    · refine Or.inr ⟨g', o, ha, fun i p hp => ?_⟩
      have hgg : g' = g := by
        rw [ha, hg] at e1
        injection e1 with e1
        injection e1
      have hne : g' ≠ B := by omega
      have f : ∀ {n : Nat} {v : Value}, w.cell? ⟨g', n, none⟩ = some v → u.cell? ⟨g', n, none⟩ = some v := fun {n v} hq => by
        have hl := World.block_lt_of_cell? w _ hq
        rw [← hq]
        unfold World.cell?
        rw [hu.block g' hl hne]
      obtain ⟨h0, h1, h2, h3, h4, h5⟩ := hc i p hp
      exact ⟨f h0, f h1, f h2, f h3, f h4, f h5⟩
end Go.Proofs.Ytbndohpcaahenaa
