/-
  What the program's map holds when the codes of the first symbols have been laid: each code's symbol, and -1 at all beginnings of codes. No walk in this text.
-/
import Derived.Test.YtlmajiejapaegaaHuffB
namespace Go.Proofs.Ytlmajiejapaegaa
set_option linter.unusedVariables false
/-- The codes of the first i symbols have been laid. -/
structure Laidm (ls : List Nat) (i : Nat) (G : Nat → Nat → Option Int) : Prop where
  sym : ∀ (s n : Nat), s < i → ls[s]? = some n → 0 < n → G n (code ls s n) = some (s : Int)
  beg : ∀ (j m n : Nat), j < i → ls[j]? = some m → n < m → G n (code ls j m / 2 ^ (m - n)) = some (-1)
  all : ∀ (n x : Nat) (v : Int), G n x = some v → (∃ s : Nat, s < i ∧ ls[s]? = some n ∧ 0 < n ∧ code ls s n = x ∧ v = (s : Int)) ∨ (∃ j m : Nat, j < i ∧ ls[j]? = some m ∧ n < m ∧ code ls j m / 2 ^ (m - n) = x ∧ v = -1)
theorem Laidm.none (ls : List Nat) : Laidm ls 0 (fun _ _ => Option.none) :=
  ⟨fun s n h => by omega, fun j m n h => by omega, fun n x v h => by cases h⟩
/-- A symbol without a code. -/
theorem Laidm.skip {ls : List Nat} {i : Nat} {G : Nat → Nat → Option Int} (h : Laidm ls i G) (hi : ls[i]? = some 0) : Laidm ls (i + 1) G := by
  refine ⟨fun s n hs hn h0 => ?_, fun j m n hj hm hnm => ?_, fun n x v hv => ?_⟩
  · rcases (show s < i ∨ s = i by omega) with h1 | rfl
    · exact h.sym s n h1 hn h0
    · rw [hi] at hn; cases hn; omega
  · rcases (show j < i ∨ j = i by omega) with h1 | rfl
    · exact h.beg j m n h1 hm hnm
    · rw [hi] at hm; cases hm; omega
  · rcases h.all n x v hv with ⟨s, h1, h2⟩ | ⟨j, m, h1, h2⟩
    · exact Or.inl ⟨s, by omega, h2⟩
    · exact Or.inr ⟨j, m, by omega, h2⟩
/-- While a symbol's code of m bits is laid: its beginnings down to p bits. -/
def lp (i m c p : Nat) (G : Nat → Nat → Option Int) (n x : Nat) : Option Int :=
  if n = m ∧ x = c then some (i : Int) else if p ≤ n ∧ n < m ∧ x = c / 2 ^ (m - n) then some (-1) else G n x
theorem lp_first (i m c : Nat) (G : Nat → Nat → Option Int) (n x : Nat) : (if n = m ∧ x = c then some (i : Int) else G n x) = lp i m c m G n x := by
  unfold lp
  by_cases h : n = m ∧ x = c
  · rw [if_pos h, if_pos h]
  · rw [if_neg h, if_neg h, if_neg (by omega)]
theorem lp_next {i m c p : Nat} (G : Nat → Nat → Option Int) (hp : p < m) (n x : Nat) : (if n = p ∧ x = c / 2 ^ (m - p) then some (-1) else lp i m c (p + 1) G n x) = lp i m c p G n x := by
  unfold lp
  by_cases h1 : n = p ∧ x = c / 2 ^ (m - p)
  · obtain ⟨rfl, rfl⟩ := h1
    rw [if_pos ⟨rfl, rfl⟩, if_neg (by omega), if_pos ⟨Nat.le_refl _, hp, rfl⟩]
  · rw [if_neg h1]
    by_cases h2 : n = m ∧ x = c
    · rw [if_pos h2, if_pos h2]
    · rw [if_neg h2, if_neg h2]
      by_cases h3 : p + 1 ≤ n ∧ n < m ∧ x = c / 2 ^ (m - n)
      · rw [if_pos h3, if_pos ⟨by omega, h3.2⟩]
      · rw [if_neg h3, if_neg]
        rintro ⟨a, b, d⟩
        rcases (show p + 1 ≤ n ∨ n = p by omega) with e | rfl
        · exact h3 ⟨e, b, d⟩
        · exact h1 ⟨rfl, d⟩
theorem lp_below {i m c p n x : Nat} (G : Nat → Nat → Option Int) (hn : n < p) (hp : p ≤ m) : lp i m c p G n x = G n x := by
  unfold lp; rw [if_neg (by omega), if_neg (by omega)]
/-- A symbol's code is laid, and all its beginnings: those that were not there ahead of it. -/
theorem Laidm.put {ls : List Nat} {i m c p : Nat} {G : Nat → Nat → Option Int} (h : Laidm ls i G) (hi : ls[i]? = some m) (hm : 0 < m) (hc : code ls i m = c) (hp : p ≤ m)
    (hend : 0 < p → (G (p - 1) (c / 2 ^ (m - (p - 1)))).isSome = true) : Laidm ls (i + 1) (lp i m c p G) := by
  subst hc
  refine ⟨fun s n hs hn h0 => ?_, fun j m' n hj hm' hnm => ?_, fun n x v hv => ?_⟩
  · rcases (show s < i ∨ s = i by omega) with h1 | rfl
    · unfold lp
      rw [if_neg, if_neg, h.sym s n h1 hn h0]
      · rintro ⟨a, b, d⟩
        have := code_apart hn hi h0 (by omega) d.symm
        omega
      · rintro ⟨rfl, d⟩
        have := code_apart hn hi h0 (Nat.le_refl _) (by rw [Nat.sub_self, Nat.pow_zero, Nat.div_one]; exact d.symm)
        omega
    · rw [hi] at hn; cases hn
      unfold lp
      rw [if_pos ⟨rfl, rfl⟩]
  · rcases (show j < i ∨ j = i by omega) with h1 | rfl
    · unfold lp
      rw [if_neg]
      · split
        · rfl
        · exact h.beg j m' n h1 hm' hnm
      · rintro ⟨rfl, d⟩
        have := code_apart hi hm' hm (by omega) d
        omega
    · rw [hi] at hm'; cases hm'
      unfold lp
      rw [if_neg (by omega)]
      by_cases hpn : p ≤ n
      · rw [if_pos ⟨hpn, hnm, rfl⟩]
      · rw [if_neg (by omega)]
        have hs := hend (by omega)
        obtain ⟨v, hv⟩ := Option.isSome_iff_exists.1 hs
        rcases h.all _ _ v hv with ⟨s, h1, h2, h3, h4, h5⟩ | ⟨j', m', h1, h2, h3, h4, h5⟩
        · have := code_apart h2 hi h3 (by omega) h4.symm
          omega
        · have hb := h.beg j' m' n h1 h2 (by omega)
          have e1 : code ls j' m' / 2 ^ (m' - n) = code ls j' m' / 2 ^ (m' - (p - 1)) / 2 ^ (p - 1 - n) := by
            rw [Nat.div_div_eq_div_mul, ← Nat.pow_add, show m' - (p - 1) + (p - 1 - n) = m' - n by omega]
          have e2 : code ls j m / 2 ^ (m - n) = code ls j m / 2 ^ (m - (p - 1)) / 2 ^ (p - 1 - n) := by
            rw [Nat.div_div_eq_div_mul, ← Nat.pow_add, show m - (p - 1) + (p - 1 - n) = m - n by omega]
          rw [e2, ← h4, ← e1]
          exact hb
  · unfold lp at hv
    split at hv
    · rename_i e
      obtain ⟨rfl, rfl⟩ := e
      cases hv
      exact Or.inl ⟨i, by omega, hi, hm, rfl, rfl⟩
    · split at hv
      · rename_i e
        cases hv
        exact Or.inr ⟨i, m, by omega, hi, e.2.1, e.2.2.symm, rfl⟩
      · rcases h.all n x v hv with ⟨s, h1, h2⟩ | ⟨j, m', h1, h2⟩
        · exact Or.inl ⟨s, by omega, h2⟩
        · exact Or.inr ⟨j, m', by omega, h2⟩
/-- What a look at the first n bits tells. -/
theorem Laidm.hit {ls : List Nat} {G : Nat → Nat → Option Int} (h : Laidm ls ls.length G) {l : List Bool} {n : Nat} {v : Int} (hn : n ≤ l.length) (hv : G n (num (l.take n)) = some v) (h1 : v ≠ -1) : ∃ s : Nat, v = (s : Int) ∧ Hit ls l s n := by
  rcases h.all _ _ v hv with ⟨s, a1, a2, a3, a4, a5⟩ | ⟨j, m, a1, a2, a3, a4, a5⟩
  · exact ⟨s, a5, a2, a3, hn, a4.symm⟩
  · exact absurd a5 h1
theorem lt_of_at {ls : List Nat} {s n : Nat} (h : ls[s]? = some n) : s < ls.length := (List.getElem?_eq_some_iff.1 h).1
theorem Laidm.of_hit {ls : List Nat} {G : Nat → Nat → Option Int} (h : Laidm ls ls.length G) {l : List Bool} {s k : Nat} (hh : Hit ls l s k) : G k (num (l.take k)) = some (s : Int) := by
  obtain ⟨a1, a2, a3, a4⟩ := hh
  rw [a4]
  exact h.sym s k (lt_of_at a1) a1 a2
/-- All of the first n beginnings are begun: no code of fewer bits stands there. -/
theorem Laidm.bad {ls : List Nat} {G : Nat → Nat → Option Int} (h : Laidm ls ls.length G) {l : List Bool} {n : Nat} (hn : n ≤ l.length) (hb : ∀ k, k < n → G k (num (l.take k)) = some (-1)) (hno : G n (num (l.take n)) = Option.none) :
    (∀ i k, ¬ Hit ls l i k) ∧ ¬ May ls l := by
  refine ⟨fun s k hh => ?_, ?_⟩
  · have hs := h.of_hit hh
    rcases Nat.lt_trichotomy k n with hlt | rfl | hgt
    · rw [hb k hlt] at hs; injection hs with hs; omega
    · rw [hno] at hs; cases hs
    · have := h.beg s k n (lt_of_at hh.1) hh.1 hgt
      rw [← hh.2.2.2, ← take_num (by omega) hh.2.2.1, hno] at this
      cases this
  · rintro ⟨j, m, h1, h2, h3, h4⟩
    rcases (show n < m ∨ n = m by omega) with hlt | rfl
    · have := h.beg j m n (lt_of_at h1) h1 hlt
      have e : code ls j m / 2 ^ (m - n) = num (l.take n) := by
        have e1 := take_num (h := l) hn (Nat.le_refl _)
        rw [List.take_length, ← h4, Nat.div_div_eq_div_mul, ← Nat.pow_add, show m - l.length + (l.length - n) = m - n by omega] at e1
        exact e1.symm
      rw [e, hno] at this
      cases this
    · have e : n = l.length := by omega
      have := h.sym j n (lt_of_at h1) h1 h2
      rw [e, Nat.sub_self, Nat.pow_zero, Nat.div_one] at h4
      rw [e] at this hno
      rw [List.take_length] at hno
      rw [h4, hno] at this
      cases this
theorem Laidm.more {ls : List Nat} {G : Nat → Nat → Option Int} (h : Laidm ls ls.length G) (h15 : ∀ x ∈ ls, x ≤ 15) {l : List Bool} {n : Nat} (hn : n = min l.length 15) (hb : ∀ k, k ≤ n → G k (num (l.take k)) = some (-1)) :
    n = l.length ∧ (∀ i k, ¬ Hit ls l i k) ∧ May ls l := by
  rcases h.all _ _ _ (hb n (Nat.le_refl _)) with ⟨s, a1, a2, a3, a4, a5⟩ | ⟨j, m, a1, a2, a3, a4, a5⟩
  · omega
  · have := h15 m (List.mem_of_getElem? a2)
    have e : n = l.length := by omega
    refine ⟨e, fun s k hh => ?_, j, m, a2, by omega, by omega, ?_⟩
    · have hs := h.of_hit hh
      rw [hb k (by have := hh.2.2.1; omega)] at hs
      injection hs with hs; omega
    · rw [← e, a4, e, List.take_length]
end Go.Proofs.Ytlmajiejapaegaa
