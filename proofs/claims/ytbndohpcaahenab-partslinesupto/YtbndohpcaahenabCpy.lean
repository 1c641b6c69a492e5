/-
  What the document's Copy comes to.
-/
import Derived.Test.YtbndohpcaahenabWrt
namespace Go.Proofs.Ytbndohpcaahenab
open Go.RowKit
set_option linter.unusedVariables false
/-- A list of lists of bytes, of the call's own, none of which is turned any more. -/
structure Lq (w : World) (lo : Nat) (v : Value) (ls : List (List Nat)) : Prop where
  ex : ∃ vs : List Value, vs.length = ls.length ∧ Ow w lo 23 1 v ls.length vs ∧ ∀ (i : Nat) (a : Value) (l : List Nat), vs[i]? = some a → ls[i]? = some l → Ow w lo 5 1 a l.length (ob l)
theorem Lq.nil {w : World} {lo : Nat} (h : lo ≤ w.heap.size) : Lq w lo (.slice none 0 0) [] := ⟨[], rfl, Ow.nil h, fun i a l h => by simp at h⟩
theorem Lq.at {w : World} {lo : Nat} {a : Option Addr} {n c : Nat} {ls : List (List Nat)} (h : Lq w lo (.slice a n c) ls) (hn : n = ls.length) {i : Nat} {l : List Nat} (hl : ls[i]? = some l) : ∃ g a1 c1, a = some ⟨g, 0, none⟩ ∧ w.cell? ⟨g, i, none⟩ = some (.slice a1 l.length c1) ∧ Lies w a1 l ∧ l.length ≤ c1 ∧ (a1 = none → l.length = 0 ∧ c1 = 0) := by
  obtain ⟨vs, h1, h2, h3⟩ := h.ex
  have hi := (List.getElem?_eq_some_iff.1 hl).1
  obtain ⟨v, hv⟩ : ∃ v, vs[i]? = some v := ⟨_, List.getElem?_eq_getElem (by omega)⟩
  obtain ⟨a9, c9, h9, _, h10 | ⟨g, h10, _, _, h11, _⟩, _⟩ := h2.shape
  · omega
  cases h9
  obtain ⟨a1, c1, e1, e2, e3, e4, e5⟩ := (h3 i v l hv hl).lies
  subst e1
  exact ⟨g, a1, c1, h10, h11 i _ hv, e4, e3, e5⟩
theorem Lq.rl {w : World} {lo : Nat} {a : Option Addr} {n c : Nat} {ls : List (List Nat)} (h : Lq w lo (.slice a n c) ls) (hn : n = ls.length) : Rl w a ls := by
  rcases Nat.eq_zero_or_pos ls.length with h0 | h0
  · exact Or.inl (List.eq_nil_of_length_eq_zero h0)
  · obtain ⟨l0, hl0⟩ : ∃ l0, ls[0]? = some l0 := ⟨_, List.getElem?_eq_getElem h0⟩
    obtain ⟨g, _, _, hg, _⟩ := h.at hn hl0
    refine Or.inr ⟨g, 0, hg, fun i l hl => ?_⟩
    obtain ⟨g', a1, c1, hg', h1, h2, h3, h4⟩ := h.at hn hl
    rw [hg] at hg'
    cases hg'
    exact ⟨a1, c1, by rw [Nat.zero_add]; exact h1, h2, h3, h4⟩
theorem Lq.push {w u u' : World} {lo : Nat} {v v' x : Value} {ls : List (List Nat)} {p : List Nat} {vs : List Value} (h1 : vs.length = ls.length) (h3 : ∀ (i : Nat) (a : Value) (l : List Nat), vs[i]? = some a → ls[i]? = some l → Ow w lo 5 1 a l.length (ob l)) (hb : Below w.heap.size w u) (hx : Ow u lo 5 1 x p.length (ob p)) (k : Got lo 23 1 u u' v v' (ls.length + 1) (vs ++ [x])) : Lq u' lo v' (ls ++ [p]) := by
  refine ⟨vs ++ [x], by simp [h1], by simpa using k.ow, fun i a l ha hl => ?_⟩
  by_cases hlt : i < vs.length
  · rw [List.getElem?_append_left hlt] at ha
    rw [List.getElem?_append_left (by omega)] at hl
    exact ((h3 i a l ha hl).below hb (Nat.le_refl _)).got k (by decide)
  · have hi : i = vs.length := by
      have := (List.getElem?_eq_some_iff.1 ha).1
      simp at this
      omega
    subst hi
    rw [List.getElem?_append_right (by omega)] at ha
    rw [List.getElem?_append_right (by omega)] at hl
    simp [h1] at ha hl
    subst hl
    rw [← ha]
    exact hx.got k (by decide)
theorem Ow.made {w : World} {lo : Nat} (h : lo ≤ w.heap.size) : Ow (w.alloc (.cells #[] 5)) lo 5 1 (.slice (some ⟨w.heap.size, 0, none⟩) 0 0) 0 (ob []) :=
  ⟨World.ownsRow_made (base := lo) (e := 5) (size := 1) w #[] 0 h (by decide) rfl, by show _ ≤ (w.heap.push _).size; simp; omega⟩
theorem Ow.lower {w : World} {lo lo2 sz n : Nat} {e : TypeId} {v : Value} {l : List Value} (h : Ow w lo e sz v n l) (hl : lo2 ≤ lo) : Ow w lo2 e sz v n l := by
  refine ⟨⟨h.own.1, ?_⟩, Nat.le_trans hl h.le⟩
  rcases h.own.2 with q | ⟨g, c, cur, hv, hg, q⟩
  · exact Or.inl q
  · exact Or.inr ⟨g, c, cur, hv, Nat.le_trans hl hg, q⟩
/-- What Copy answers. -/
structure Cx (lo : Nat) (w : World) (ls : List (List Nat)) (N : Nat) (e : Ending) (w' : World) : Prop where
  ex : ∃ a c, e = .returned (.slice a N c) ∧ Rl w' a ls ∧ Below lo w w'
end Go.Proofs.Ytbndohpcaahenab
