/-
  What append of a list of bytes makes of a list of the call's own, as a law for the walk.
  Conditions: both together are at most 2^47 bytes.
-/
import Derived.Test.YtmaojldkadpheaaOpen
import Derived.Test.YtmaojldkadpheaaPut
import Derived.OwnWalk
import Derived.ArgAppend
import Derived.Laws.AppendOwn
import Derived.Laws.AppendOwnNone
namespace Go.Proofs.Ytmaojldkadpheaa
open Go.RowKit
set_option linter.unusedVariables false
theorem vn_append (l m : List Nat) : vn l ++ vn m = vn (l ++ m) := by simp [vn]
theorem vn_one {l : List Nat} : ∀ u ∈ vn l, u.oneCell' = true := by
  intro u hu
  obtain ⟨x, _, rfl⟩ := List.mem_map.1 hu
  rfl
/-- What an append leaves: a list of the call's own. -/
structure Apd (w w' : World) (base : Nat) (v' : Value) (l : List Nat) : Prop where
  own : w'.ownsRow base 5 1 v' l.length (vn l)
  bel : Below base w w'
  le : base ≤ w'.heap.size
theorem Apd.made (w : World) (base : Nat) (h : base ≤ w.heap.size) : Apd w (w.alloc (.cells #[] 5)) base (.slice (some ⟨w.heap.size, 0, none⟩) 0 0) [] :=
  ⟨World.ownsRow_made (base := base) (e := 5) (size := 1) w #[] 0 h (by decide) rfl, (Below.refl base w).alloc h _, by show _ ≤ (w.heap.push _).size; simp; omega⟩
theorem Apd.shape {w w' : World} {base : Nat} {v' : Value} {l : List Nat} (h : Apd w w' base v' l) : ∃ a c, v' = .slice a l.length c ∧ Lies w' a l ∧ (a = none → l.length = 0 ∧ c = 0) := by
  rcases h.own.2 with ⟨hv, h0⟩ | ⟨g, c, cur, hv, hg, hh, hc, hm, hs, ht⟩
  · refine ⟨none, 0, by rw [hv, h0], Or.inl (List.eq_nil_of_length_eq_zero h0), fun _ => ⟨h0, rfl⟩⟩
  · refine ⟨_, c, hv, Or.inr ⟨g, 0, rfl, fun i x hx => ?_⟩, fun h => by cases h⟩
    rw [Nat.zero_add, Cells.cell (cs := cur) (t := 5) hh]
    have hi : i < l.length := by
      obtain ⟨hi, _⟩ := List.getElem?_eq_some_iff.1 hx
      exact hi
    have e : (cur.toList.take (l.length * 1))[i]? = some (.int .u8 (x : Int)) := by rw [ht, vn_get, hx]; rfl
    rw [List.getElem?_take, if_pos (by omega)] at e
    simpa using e
theorem Apd.own_shape {w w' : World} {base : Nat} {v' : Value} {l : List Nat} (h : Apd w w' base v' l) : v'.ownBlock = none ∨ ∃ g, v'.ownBlock = some g ∧ base ≤ g := by
  rcases h.own.2 with ⟨rfl, h0⟩ | ⟨g, c, cur, rfl, hg, _⟩
  · left; rfl
  · right; exact ⟨g, rfl, hg⟩
theorem wpList_app (w0 w : World) {ops : Array Oper} {rest : List Oper} {o : Oper} {a : Act} {Q : Exit → Act → World → Prop} (hgd : o.guard = none) (s x : Operand)
    (ho : o.op = .call { callee := .builtin .append, args := #[s, x], argTypes := #[22, 22] }) (base : Nat) (v : Value) (l : List Nat) (hs : a.eval s = v) (hown : Apd w0 w base v l)
    (ax : Option Addr) (m : List Nat) (n c : Nat) (hnm : m.length = n) (hx : a.eval x = .slice ax n c) (hz : ax = none → n = 0 ∧ c = 0) (hl : Lies w ax m) (hlen : l.length + m.length ≤ 140737488355328)
    (h : ∀ v' w', Apd w0 w' base v' (l ++ m) → Below base w w' → wpList Try.prog ops Q rest (a.put o.dst v') w') : wpList Try.prog ops Q (o :: rest) a w := by
  subst hnm
  obtain ⟨i0, hi, hz0, hz1, hz2⟩ := info_parts info5
  cases ax with
  | none =>
    obtain ⟨h1, h2⟩ := hz rfl
    have hm : m = [] := List.eq_nil_of_length_eq_zero h1
    subst hm
    subst h2
    refine wpList_append_own_none hgd s x 22 ho base 5 i0 1 Try.underlying22 hi v _ _ hs hown.own hx (h v w ?_ (Below.refl _ _))
    rw [List.append_nil]; exact hown
  | some ad =>
    refine wpList_append_own w hgd s x 22 ho base 5 i0 (.int .u8 0) 1 1 Try.underlying22 hi hz0 hz1 hz2 rfl (by decide) v _ _ hs hown.own ad m.length c (vn m) hx (by rw [vn_length]; omega) ?_ vn_one (by unfold maxLen; omega) (by omega) hown.le ?_
    · intro j u hj
      rw [vn_get] at hj
      rcases hl with rfl | ⟨b, off, ha, hc⟩
      · simp at hj
      · cases ha
        cases hq : m[j]? with
        | none => simp [hq] at hj
        | some y =>
          simp [hq] at hj
          rw [← hj]
          have := hc j y hq
          have hadd : (⟨b, off, none⟩ : Addr).add j = ⟨b, off + j, none⟩ := by unfold Addr.add; split <;> simp_all
          rw [hadd]; exact this
    · intro v' w' h2 h3 h4
      have hb : Below base w w' := (Below.refl base w).grown h3 hown.le (fun k hk => by
        rcases hown.own_shape with h5 | ⟨g, h5, hg⟩
        · rw [h5] at hk; cases hk
        · rw [h5] at hk; cases hk; exact hg)
      refine h v' w' ⟨?_, hown.bel.trans hb, Nat.le_trans hown.le h3.size⟩ hb
      rw [vn_append] at h2
      rw [List.length_append]; exact h2
end Go.Proofs.Ytmaojldkadpheaa
