/-
  Symbols written by their codes, one behind the other, and read: what is held, and what a look tells. No walk in this text.
-/
import Derived.Test.YtlmajiejapaegaaRAsk
namespace Go.Proofs.Ytlmajiejapaegaa
set_option linter.unusedVariables false
/-- Symbols that have codes. -/
def Coded (ls want : List Nat) : Prop := ∀ s ∈ want, ∃ n, ls[s]? = some n ∧ 0 < n
/-- Their codes, one behind the other. -/
def lineOf (ls want : List Nat) : List Bool := want.flatMap (cbits ls)
theorem lineOf_snoc (ls want : List Nat) (s : Nat) : lineOf ls (want ++ [s]) = lineOf ls want ++ cbits ls s := by simp [lineOf]
theorem Coded.snoc {ls want : List Nat} {s n : Nat} (h : Coded ls want) (hs : ls[s]? = some n) (hn : 0 < n) : Coded ls (want ++ [s]) := by
  intro t ht
  rcases List.mem_append.1 ht with h1 | h1
  · exact h t h1
  · rw [List.mem_singleton.1 h1]; exact ⟨n, hs, hn⟩
theorem cbits_len {ls : List Nat} {s n : Nat} (h : ls[s]? = some n) : (cbits ls s).length = n := by rw [cbits_at h, bitsB_len]
theorem lineOf_le {ls : List Nat} (h15 : ∀ x ∈ ls, x ≤ 15) : ∀ {want : List Nat}, Coded ls want → (lineOf ls want).length ≤ 15 * want.length
  | [], _ => by simp [lineOf]
  | s :: want, h => by
    obtain ⟨n, h1, h2⟩ := h s (by simp)
    have ih := lineOf_le h15 (want := want) (fun t ht => h t (by simp [ht]))
    have := h15 n (List.mem_of_getElem? h1)
    show (cbits ls s ++ lineOf ls want).length ≤ _
    rw [List.length_append, cbits_len h1, List.length_cons]
    omega
theorem lineOf_at {ls want : List Nat} {got s : Nat} (h : want[got]? = some s) : lineOf ls want = lineOf ls (want.take got) ++ (cbits ls s ++ lineOf ls (want.drop (got + 1))) := by
  have e : want = want.take got ++ s :: want.drop (got + 1) := by
    obtain ⟨h1, h2⟩ := List.getElem?_eq_some_iff.1 h
    rw [← h2, ← List.drop_eq_getElem_cons h1, List.take_append_drop]
  conv => lhs; rw [e]
  simp [lineOf]
theorem take_next {want : List Nat} {got s : Nat} (h : want[got]? = some s) : want.take (got + 1) = want.take got ++ [s] := by rw [List.take_add_one, h]; rfl
/-- What is taken and what is held are together what was put in. -/
structure Held (ls want : List Nat) (P got : Nat) (l : List Bool) : Prop where
  eq : lineOf ls (want.take got) ++ l = (lineOf ls want ++ List.replicate 8 false).take P
  le : P ≤ (lineOf ls want).length + 8
  got : got ≤ want.length
theorem Held.zero (ls want : List Nat) : Held ls want 0 0 [] := ⟨by simp [lineOf], by omega, by omega⟩
theorem Held.len {ls want : List Nat} {P got : Nat} {l : List Bool} (h : Held ls want P got l) : (lineOf ls (want.take got)).length + l.length = P := by
  have := congrArg List.length h.eq
  rw [List.length_append, List.length_take, List.length_append, List.length_replicate] at this
  have := h.le
  omega
/-- Eight bits more. -/
theorem Held.put {ls want : List Nat} {P got : Nat} {l : List Bool} (h : Held ls want P got l) (hP : P < (lineOf ls want).length) :
    Held ls want (P + 8) got (l ++ ((lineOf ls want ++ List.replicate 8 false).drop P).take 8) := by
  refine ⟨?_, by omega, h.got⟩
  rw [← List.append_assoc, h.eq, List.take_add]
theorem eight {L : List Bool} {P : Nat} (hP : P < L.length) : (((L ++ List.replicate 8 false).drop P).take 8).length = 8 := by
  rw [List.length_take, List.length_drop, List.length_append, List.length_replicate]; omega
/-- All is taken: nothing is left to be put in. -/
theorem Held.all {ls want : List Nat} {P got : Nat} {l : List Bool} (h : Held ls want P got l) (hg : got = want.length) : (lineOf ls want).length ≤ P := by
  have := h.len
  rw [hg, List.take_length] at this
  omega
theorem Held.ahead {ls want : List Nat} {P got s : Nat} {l : List Bool} (h : Held ls want P got l) (hs : want[got]? = some s) : l <+: cbits ls s ++ (lineOf ls (want.drop (got + 1)) ++ List.replicate 8 false) := by
  obtain ⟨X, hX⟩ : ∃ X, lineOf ls (want.take got) = X := ⟨_, rfl⟩
  have e := h.eq
  have hl := h.len
  rw [hX] at e hl
  rw [lineOf_at hs, hX, List.append_assoc, List.append_assoc] at e
  generalize cbits ls s ++ (lineOf ls (want.drop (got + 1)) ++ List.replicate 8 false) = Y at e ⊢
  rw [← hl, List.take_append, show X.length + l.length - X.length = l.length by omega, List.take_of_length_le (by omega)] at e
  have e2 := List.append_cancel_left e
  rw [e2]
  exact List.take_prefix _ _
/-- The next symbol's code is there. -/
theorem Held.hit {ls want : List Nat} {P got s n : Nat} {l : List Bool} (h : Held ls want P got l) (hk : part ls 15 ≤ 32768) (h15 : ∀ x ∈ ls, x ≤ 15) (hs : want[got]? = some s) (hn : ls[s]? = some n) (h0 : 0 < n) (hle : n ≤ l.length) :
    Told ls l s 0 n ∧ Held ls want P (got + 1) (l.drop n) := by
  have hp : cbits ls s <+: l := List.prefix_of_prefix_length_le (List.prefix_append _ _) (h.ahead hs) (by rw [cbits_len hn]; exact hle)
  refine ⟨Or.inl ⟨(hit_prefix hk h15 hn h0).1 hp, rfl⟩, ⟨?_, h.le, ?_⟩⟩
  · rw [take_next hs, lineOf_snoc, List.append_assoc, ← h.eq]
    congr 1
    obtain ⟨r, hr⟩ := hp
    rw [← hr, List.drop_left' (cbits_len hn)]
  · have := (List.getElem?_eq_some_iff.1 hs).1
    omega
/-- It is not there yet. -/
theorem Held.more {ls want : List Nat} {P got s n : Nat} {l : List Bool} (h : Held ls want P got l) (hk : part ls 15 ≤ 32768) (h15 : ∀ x ∈ ls, x ≤ 15) (hs : want[got]? = some s) (hn : ls[s]? = some n) (h0 : 0 < n) (hlt : l.length < n) :
    Told ls l 0 1 0 ∧ P < (lineOf ls want).length := by
  have hp : l <+: cbits ls s := List.prefix_of_prefix_length_le (h.ahead hs) (List.prefix_append _ _) (by rw [cbits_len hn]; omega)
  refine ⟨Or.inr (Or.inl ⟨fun j m hh => ?_, ⟨s, n, hn, h0, hp⟩, rfl, rfl, rfl⟩), ?_⟩
  · have h1 := (hit_prefix hk h15 hh.1 hh.2.1).2 hh
    have h2 := h1.trans hp
    have hm := hh.2.2.1
    have h3 := (hit_prefix hk h15 hh.1 hh.2.1).1 h2
    have h4 := h3.2.2.2
    have hcl := cbits_len hn
    have h5 := take_num (h := cbits ls s) (n := m) (m := n) (by omega) (by omega)
    rw [List.take_of_length_le (by omega : (cbits ls s).length ≤ n), cbits_at hn, num_bits, Nat.mod_eq_of_lt (code_fits hk hn h0 (h15 n (List.mem_of_getElem? hn))), ← cbits_at hn, h4] at h5
    have := code_apart hh.1 hn hh.2.1 (by omega) h5.symm
    subst this
    have := hh.1
    rw [hn] at this; cases this
    omega
  · have hl := h.len
    have e := congrArg List.length (lineOf_at (ls := ls) hs)
    rw [List.length_append, List.length_append, cbits_len hn] at e
    omega
/-- The bits of a code, as they are written. -/
theorem cbits_step {ls : List Nat} {s n c j : Nat} (hn : ls[s]? = some n) (hc : code ls s n = c) (hj : j < n) : (cbits ls s).take (j + 1) = (cbits ls s).take j ++ [c / 2 ^ (n - 1 - j) % 2 == 1] := by
  rw [List.take_add_one, cbits_at hn, hc, bits_last n j c hj]; rfl
end Go.Proofs.Ytlmajiejapaegaa
