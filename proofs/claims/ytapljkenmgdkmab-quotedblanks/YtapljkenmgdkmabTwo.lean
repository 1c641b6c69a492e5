/-
  Two lists of bytes of the call's own, side by side; what a line of letters with blanks says.
-/
import Derived.Test.YtapljkenmgdkmabAwake
import Derived.Test.YtapljkenmgdkmabSame
import Derived.Deep.AppendLies
namespace Go.Proofs.Ytapljkenmgdkmab
open Go.RowKit
set_option linter.unusedVariables false
/-- Two lists of the call's own in blocks of their own. -/
structure Tw2 (w : World) (lo : Nat) (u v : Value) (l m : List Nat) : Prop where
  a : Ob w lo u l
  b : Ob w lo v m
  ne : ∀ g, u.ownBlock = some g → v.ownBlock ≠ some g
theorem Tw2.swap {w : World} {lo : Nat} {u v : Value} {l m : List Nat} (h : Tw2 w lo u v l m) : Tw2 w lo v u m l := ⟨h.b, h.a, fun g h1 h2 => h.ne g h2 h1⟩
theorem Tw2.below {w x : World} {lo : Nat} {u v : Value} {l m : List Nat} (h : Tw2 w lo u v l m) (k : Below w.heap.size w x) : Tw2 x lo u v l m := ⟨Ow.below h.a k (Nat.le_refl _), Ow.below h.b k (Nat.le_refl _), h.ne⟩
/-- What an append to the first comes to. -/
structure Tg (lo : Nat) (w w' : World) (u' v : Value) (l m : List Nat) : Prop where
  t : Tw2 w' lo u' v l m
  bel : Below lo w w'
theorem wpList_tw (w : World) {ops : Array Oper} {rest : List Oper} {o : Oper} {a : Act} {Q : Exit → Act → World → Prop} (hgd : o.guard = none) (s x : Operand)
    (ho : o.op = .call { callee := .builtin .append, args := #[s, x], argTypes := #[23, 23] }) (lo : Nat) (u v : Value) (l m : List Nat) (hs : a.eval s = u) (h2 : Tw2 w lo u v l m)
    (H : Nat) (p : List Nat) (n c : Nat) (hn : p.length = n) (h0 : 0 < n) (hx : a.eval x = .slice (some ⟨H, 0, none⟩) n c) (hl : Lies w (some ⟨H, 0, none⟩) p) (hlen : l.length + p.length ≤ 140737488355328)
    (h : ∀ u' w', Tg lo w w' u' v (l ++ p) m → wpList Try.prog ops Q rest (a.put o.dst u') w') : wpList Try.prog ops Q (o :: rest) a w := by
  obtain ⟨i0, hi, hz0, hz1, hz2⟩ := ginfo_parts ginfo5
  subst hn
  refine wpList_plain hgd fun K hK => ?_
  refine wp_append_lies w s x 23 ho lo 5 i0 _ 1 1 Try.underlying23 hi hz0 hz1 hz2 rfl (by decide) u _ _ hs h2.a.own ⟨H, 0, none⟩ p.length c (ob p) hx (by rw [ob_length, Nat.mul_one]) ?_ ob_one h0 (by rw [ob_length]; unfold maxLen; omega) (by rw [ob_length]; omega) h2.a.le _ rfl ?_
  · intro j y hj
    rcases hl with rfl | ⟨b, off, ha, hc⟩
    · simp [ob] at hj
    · cases ha
      rw [addr_add]
      rw [ob_get] at hj
      cases hq : p[j]? with
      | none => simp [hq] at hj
      | some z =>
        simp [hq] at hj
        rw [← hj]
        exact hc j z hq
  · intro g cap w' k1 k2 k3 k4
    have hos : ∀ k, u.ownBlock = some k → lo ≤ k ∧ k < w.heap.size := by
      intro k hk
      rcases h2.a.own.2 with ⟨rfl, _⟩ | ⟨g', c', cur, rfl, hg', hh, _⟩
      · cases hk
      · cases hk; exact ⟨hg', (Array.getElem?_eq_some_iff.1 hh).1⟩
    have hb : Below lo w w' := (Below.refl lo w).grown k2 h2.a.le (fun k hk => (hos k hk).1)
    refine hK _ _ (h _ w' ⟨⟨⟨?_, Nat.le_trans h2.a.le k2.size⟩, ?_, ?_⟩, hb⟩)
    · rw [← ob_append, List.length_append, ob_length p]; exact k1
    · rcases h2.b.own.2 with q | ⟨g', c', cur, hv, hg', hh, q⟩
      · exact ⟨⟨h2.b.own.1, Or.inl q⟩, Nat.le_trans h2.b.le k2.size⟩
      · have hlt : g' < w.heap.size := (Array.getElem?_eq_some_iff.1 hh).1
        refine ⟨⟨h2.b.own.1, Or.inr ⟨g', c', cur, hv, hg', (k2.block g' hlt (fun e => ?_)).trans hh, q⟩⟩, Nat.le_trans h2.b.le k2.size⟩
        exact h2.ne g' e.symm (by rw [hv]; rfl)
    · intro g2 hg2 hv2
      have eg : g = g2 := by injection hg2
      subst eg
      rcases k3 with e | e
      · exact h2.ne g e hv2
      · rcases h2.b.own.2 with ⟨rfl, _⟩ | ⟨g', c', cur, rfl, hg', hh, _⟩
        · cases hv2
        · have e2 : g' = g := Option.some.inj hv2
          have h9 := (Array.getElem?_eq_some_iff.1 hh).1
          have e3 : g = w.heap.size := e
          omega
theorem isB_low {c : Nat} (h : 97 ≤ c) : isB c = false := by
  cases e : isB c with
  | false => rfl
  | true => have := (isB_iff c).1 e; omega
/-- Lines: what is behind a letter, a pair of blanks and a letter, blanks, a line's end. -/
theorem run_letter {X Y : List Nat} (h : run .no [] X = some (.no, [], Y)) {c : Nat} (h1 : 97 ≤ c) (h2 : c ≤ 116) : run .no [] (X ++ [c]) = some (.no, [], Y ++ [c]) := by
  refine run_then h ?_
  rw [run_go (ev_plain (b := c) (isB_low h1) (by omega) (by omega) (by omega) [])]
  simp [run]
theorem run_pair {X Y : List Nat} (h : run .no [] X = some (.no, [], Y)) {c : Nat} (h1 : 97 ≤ c) (h2 : c ≤ 116) : run .no [] (X ++ [32, 9, c]) = some (.no, [], Y ++ [32, 9, c]) := by
  refine run_then h ?_
  rw [run_go (s' := .no) (W' := [32]) (K := []) (by rfl), run_go (s' := .no) (W' := [32, 9]) (K := []) (by rfl), run_go (ev_plain (b := c) (isB_low h1) (by omega) (by omega) (by omega) [32, 9])]
  simp [run]
theorem run_wait {X V Y : List Nat} (h : run .no [] X = some (.no, V, Y)) (hV : V.length < 64) {b : Nat} (hb : b = 32 ∨ b = 9) : run .no [] (X ++ [b]) = some (.no, V ++ [b], Y) := by
  have hB : isB b = true := (isB_iff b).2 (by omega)
  have := run_then (m := [b]) h (s2 := .no) (W2 := V ++ [b]) (K2 := []) (by
    rw [run_go (s' := .no) (W' := V ++ [b]) (K := [])]
    · simp [run]
    · simp only [ev, pl]
      rw [if_pos hB, if_neg (by omega)])
  simpa using this
theorem run_lf {X V Y : List Nat} (h : run .no [] X = some (.no, V, Y)) : run .no [] (X ++ [10]) = some (.no, [], Y ++ [10]) := by
  refine run_then h ?_
  rw [run_go (s' := .no) (W' := []) (K := [10]) (by rfl)]
  simp [run]
theorem run_crlf {X V Y : List Nat} (h : run .no [] X = some (.no, V, Y)) : run .no [] (X ++ [13] ++ [10]) = some (.no, [], Y ++ [13] ++ [10]) := by
  have h1 : run .no V [13, 10] = some (.no, [], [13, 10]) := by
    rw [run_go (s' := .bk) (W' := V) (K := []) (by rfl), run_go (s' := .no) (W' := []) (K := [13, 10]) (by rfl)]
    simp [run]
  have := run_then h h1
  simpa using this
end Go.Proofs.Ytapljkenmgdkmab
