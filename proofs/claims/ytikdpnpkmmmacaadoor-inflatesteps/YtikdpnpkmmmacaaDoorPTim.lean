/-
  With which byte what is known, told of prefixes of some bytes. No walk in this text.
-/
import Derived.Test.YtikdpnpkmmmacaaDoorMr
namespace Go.Proofs.YtikdpnpkmmmacaaDoor
open Go.RowKit
set_option linter.unusedVariables false
section
variable {bs : List Bool} {N M : Nat}
theorem Runs.total {c x y : Cfg} (h : Runs bs N c x) (k : Runs bs N c y) : Runs bs N x y ∨ Runs bs N y x := by
  induction h using Runs.el with
  | refl => exact Or.inl k
  | cons h1 r ih =>
    cases k using Runs.cs with
    | refl => exact Or.inr (Runs.cons h1 r)
    | cons h2 k2 => rw [h1] at h2; cases h2; exact ih k2
theorem runs_to {I J : List Nat} {c : Cfg} (h : Runs (allb I) N c0 c) : Runs (allb (I ++ J)) N c0 c := runs_agree h (by rw [allb_append]; exact Agree.append _ _ (runs_ends h (Nat.zero_le _)))
theorem take_split (B : List Nat) (i : Nat) : B = B.take i ++ B.drop i := (List.take_append_drop i B).symm
/-- What the inflater gave over a beginning is given of it all. -/
theorem runs_pre {B : List Nat} {i : Nat} {c z : Cfg} (h : Runs (allb (B.take i)) M c0 c) (hN : N ≤ M) (hc : c.out.length ≤ N) (hz : Stands B N z) : Runs (allb B) N c z := by
  have h1 := runs_to (J := B.drop i) (runs_le h hN hc)
  rw [← take_split] at h1
  exact h1.linear hz.1 hz.2
/-- All that a byte more gives is known with it. -/
theorem runs_one {I : List Nat} {x : Nat} {y c : Cfg} (hy : Stands I N y) (h : Runs (allb (I ++ [x])) N c0 c) (hl : y.out.length < c.out.length) : ∃ o, c.out = y.out ++ o ∧ c.times = y.times ++ List.replicate o.length I.length := by
  rcases Runs.total (runs_to (J := [x]) hy.1) h with k | k
  · obtain ⟨o, h1, h2, _⟩ := runs_next (cs := allb I) ⟨allb [x], (allb_append I [x]).symm⟩ (allb_len I) (by rw [allb_len]; simp) hy.2 (by rw [allb_len]; exact hy.pos) k
    exact ⟨o, h1, h2⟩
  · have := (runs_out k (by rw [allb_append, List.length_append]; have := runs_ends h (Nat.zero_le _); rw [allb_append, List.length_append] at this; exact this)).length_le
    omega
theorem runs_late {c d : Cfg} {j : Nat} (h : Runs bs N c d) (h1 : 8 * j < c.pos) (h2 : c.pos ≤ bs.length) : ∃ o ts, d.out = c.out ++ o ∧ d.times = c.times ++ ts ∧ ts.length = o.length ∧ ∀ t ∈ ts, j ≤ t := by
  induction h using Runs.el with
  | refl => exact ⟨[], [], by simp, by simp, rfl, by simp⟩
  | @cons c x e s1 r ih =>
    obtain ⟨q1, q2⟩ := step_ends s1 h2
    have hp := step_pos s1
    obtain ⟨o, ts, q3, q4, q5, q6⟩ := ih (by omega) q1
    rcases q2 with ⟨q7, q8⟩ | ⟨b, q7, q8⟩
    · exact ⟨o, ts, by rw [q3, q7], by rw [q4, q8], q5, q6⟩
    · refine ⟨b :: o, (x.pos - 1) / 8 :: ts, by rw [q3, q7]; simp, by rw [q4, q8]; simp, by simp [q5], ?_⟩
      intro t ht
      rcases List.mem_cons.1 ht with rfl | ht
      · omega
      · exact q6 t ht
/-- What comes behind a beginning is known later. -/
theorem stands_late {B : List Nat} {i : Nat} {y z : Cfg} (hy : Stands (B.take i) N y) (hi : i ≤ B.length) (hz : Stands B N z) : ∃ o ts, z.out = y.out ++ o ∧ z.times = y.times ++ ts ∧ ts.length = o.length ∧ (∀ t ∈ ts, i ≤ t) ∧ (z = y ∨ 8 * i < z.pos) := by
  have hr : Runs (allb B) N y z := runs_pre hy.1 (Nat.le_refl N) (stands_most hy) hz
  have hlen : (allb (B.take i)).length = 8 * i := by rw [allb_len, List.length_take]; congr 1; omega
  cases hr using Runs.cs with
  | refl => exact ⟨[], [], by simp, by simp, rfl, by simp, Or.inl rfl⟩
  | @cons _ x _ s1 r =>
    have hlt : 8 * i < x.pos := by
      apply Decidable.byContradiction
      intro hh
      have e : allb B = allb (B.take i) ++ allb (B.drop i) := by rw [← allb_append, List.take_append_drop]
      rw [e] at s1
      have := step_agree s1 (Agree.append (allb (B.take i)) (allb (B.drop i)) (by omega : x.pos ≤ (allb (B.take i)).length)).symm
      rw [hy.2] at this
      cases this
    have hyp : y.pos ≤ (allb B).length := by
      have := hy.pos
      rw [allb_len]
      rw [List.length_take] at this
      omega
    obtain ⟨q1, q2⟩ := step_ends s1 hyp
    obtain ⟨o, ts, q3, q4, q5, q6⟩ := runs_late r hlt q1
    have hzp : 8 * i < z.pos := Nat.lt_of_lt_of_le hlt r.pos
    rcases q2 with ⟨q7, q8⟩ | ⟨b, q7, q8⟩
    · exact ⟨o, ts, by rw [q3, q7], by rw [q4, q8], q5, q6, Or.inr hzp⟩
    · refine ⟨b :: o, (x.pos - 1) / 8 :: ts, by rw [q3, q7]; simp, by rw [q4, q8]; simp, by simp [q5], ?_, Or.inr hzp⟩
      intro t ht
      rcases List.mem_cons.1 ht with rfl | ht
      · omega
      · exact q6 t ht
/-- Where nothing is over behind a beginning, it is known later. -/
theorem at_late {B : List Nat} {i L : Nat} {y z : Cfg} (hy : Stands (B.take i) N y) (hn : ¬ Over y) (hi : i ≤ L) (hL : B.length = L) (hz : Stands B N z) : i ≤ atC L z := by
  obtain ⟨_, _, _, _, _, _, h⟩ := stands_late hy (by omega) hz
  by_cases hz2 : Over z
  · rcases h with rfl | h
    · exact absurd hz2 hn
    · unfold atC
      rcases hz2 with e | ⟨q, e⟩ <;> rw [e] <;> simp only [] <;> omega
  · rw [(open_at hz2).1]; exact hi
theorem times_len {c d : Cfg} (h : Runs bs N c d) (hc : c.pos ≤ bs.length) (hl : c.times.length = c.out.length) : d.times.length = d.out.length := by
  induction h using Runs.el with
  | refl => exact hl
  | cons h1 _ ih =>
    obtain ⟨q1, q2⟩ := step_ends h1 hc
    refine ih q1 ?_
    rcases q2 with ⟨q3, q4⟩ | ⟨b, q3, q4⟩
    · rw [q3, q4]; exact hl
    · rw [q3, q4]; simp [hl]
end
end Go.Proofs.YtikdpnpkmmmacaaDoor
