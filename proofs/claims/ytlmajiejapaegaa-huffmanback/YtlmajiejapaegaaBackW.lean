/-
  Two lists of the call's own, of bits and of numbers, that are appended to by turns.
-/
import Derived.Test.YtlmajiejapaegaaApp
import Derived.Test.YtlmajiejapaegaaBackM
namespace Go.Proofs.Ytlmajiejapaegaa
open Go.RowKit
set_option linter.unusedVariables false
def iz (l : List Nat) : List Int := l.map fun x : Nat => (x : Int)
theorem iz_len (l : List Nat) : (iz l).length = l.length := by simp [iz]
structure Wr (w0 w : World) (base : Nat) (vl vw : Value) (line : List Bool) (want : List Nat) : Prop where
  ol : w.ownsRow base 4 1 vl line.length (vb line)
  ow : w.ownsRow base 3 1 vw want.length (vz (iz want))
  bel : Below base w0 w
  le : base ≤ w.heap.size
theorem Wr.apart {w0 w : World} {base : Nat} {vl vw : Value} {line : List Bool} {want : List Nat} (h : Wr w0 w base vl vw line want) : vl.ownBlock = none ∨ vl.ownBlock ≠ vw.ownBlock := by
  rcases h.ol.2 with ⟨rfl, _⟩ | ⟨g, c, cur, rfl, _, hg, _⟩
  · exact Or.inl rfl
  · right
    rcases h.ow.2 with ⟨rfl, _⟩ | ⟨g', c', cur', rfl, _, hg', _⟩
    · intro e; cases e
    · intro e
      have : g = g' := by simpa [Value.ownBlock] using e
      subst this
      rw [hg] at hg'
      cases hg'
theorem Wr.apart' {w0 w : World} {base : Nat} {vl vw : Value} {line : List Bool} {want : List Nat} (h : Wr w0 w base vl vw line want) : vw.ownBlock = none ∨ vw.ownBlock ≠ vl.ownBlock := by
  rcases h.apart with h1 | h1
  · cases e : vw.ownBlock with
    | none => exact Or.inl rfl
    | some g => right; rw [h1]; intro e2; cases e2
  · exact Or.inr fun e => h1 e.symm
theorem own_kept {w u : World} {base e size n : Nat} {v : Value} {xs : List Value} (h : w.ownsRow base e size v n xs) (k : Below w.heap.size w u) : u.ownsRow base e size v n xs :=
  h.kept (row := none) ⟨k.os, k.tape, k.output, k.size, fun i hi _ => k.block i hi⟩ (by cases v.ownBlock <;> simp)
theorem Wr.below {w0 w u : World} {base : Nat} {vl vw : Value} {line : List Bool} {want : List Nat} (h : Wr w0 w base vl vw line want) (k : Below w.heap.size w u) : Wr w0 u base vl vw line want :=
  ⟨own_kept h.ol k, own_kept h.ow k, h.bel.trans (k.mono h.le), Nat.le_trans h.le k.size⟩
theorem Wr.alloc {w0 w : World} {base : Nat} {vl vw : Value} {line : List Bool} {want : List Nat} (h : Wr w0 w base vl vw line want) (o : Obj) : Wr w0 (w.alloc o) base vl vw line want :=
  h.below ((Below.refl _ w).alloc (Nat.le_refl _) o)
theorem grown_kept {w u w0 : World} {base : Nat} {v : Value} (h : Below base w0 w) (hle : base ≤ w.heap.size) (hv : ∀ k, v.ownBlock = some k → base ≤ k) (k : w.grownBy u v.ownBlock) : Below base w0 u :=
  h.trans ((Below.refl _ _).grown k hle (fun g hg => hv g hg))
theorem wpList_appb (w : World) {ops : Array Oper} {rest : List Oper} {o : Oper} {a : Act} {Q : Exit → Act → World → Prop} (hgd : o.guard = none) (s x : Operand)
    (ho : o.op = .call { callee := .builtin .append, args := #[s, x], argTypes := #[42, 42] }) (wq : World) (y : Bool) (hw : w = wq.alloc (.cells #[.bool y] 4)) (X : Nat) (hX : X = wq.heap.size)
    (w0 : World) (base : Nat) (vl vw : Value) (line : List Bool) (want : List Nat) (hW : Wr w0 wq base vl vw line want) (hs : a.eval s = vl) (hx : a.eval x = .slice (some ⟨X, 0, none⟩) 1 1) (hlen : line.length ≤ 1048576)
    (h : ∀ v' w', Wr w0 w' base v' vw (line ++ [y]) want → wpList Try.prog ops Q rest (a.put o.dst v') w') : wpList Try.prog ops Q (o :: rest) a w := by
  subst hX hw
  obtain ⟨i0, hi, hz0, hz1, hz2⟩ := info_parts info4
  have hA := hW.alloc (.cells #[.bool y] 4)
  refine wpList_append_own _ hgd s x 42 ho base 4 i0 (.bool false) 1 1 Try.underlying42 hi hz0 hz1 hz2 rfl (by decide) vl line.length (vb line) hs hA.ol ⟨wq.heap.size, 0, none⟩ 1 1 [.bool y] hx rfl ?_ (by simp [Value.oneCell']) (by unfold maxLen; omega) (by omega) hA.le ?_
  · intro j u hj
    have hc := Cells.new wq #[.bool y] 4
    rw [add_off, Nat.zero_add, hc.cell]
    simpa using hj
  · intro v' w' h2 h3 h4
    refine h v' w' ⟨?_, hA.ow.kept h3 hA.apart', grown_kept hA.bel hA.le (fun k hk => (hA.ol.lt k hk).1) h3, Nat.le_trans hA.le h3.size⟩
    have e1 : (line ++ [y]).length = line.length + 1 := by simp
    have e2 : vb (line ++ [y]) = vb line ++ [.bool y] := by simp [vb]
    rw [e1, e2]
    exact h2
theorem wpList_appi (w : World) {ops : Array Oper} {rest : List Oper} {o : Oper} {a : Act} {Q : Exit → Act → World → Prop} (hgd : o.guard = none) (s x : Operand)
    (ho : o.op = .call { callee := .builtin .append, args := #[s, x], argTypes := #[22, 22] }) (wq : World) (y : Nat) (hw : w = wq.alloc (.cells #[.int .i64 (y : Int)] 3)) (X : Nat) (hX : X = wq.heap.size)
    (w0 : World) (base : Nat) (vl vw : Value) (line : List Bool) (want : List Nat) (hW : Wr w0 wq base vl vw line want) (hs : a.eval s = vw) (hx : a.eval x = .slice (some ⟨X, 0, none⟩) 1 1) (hlen : want.length ≤ 1048576)
    (h : ∀ v' w', Wr w0 w' base vl v' line (want ++ [y]) → wpList Try.prog ops Q rest (a.put o.dst v') w') : wpList Try.prog ops Q (o :: rest) a w := by
  subst hX hw
  obtain ⟨i0, hi, hz0, hz1, hz2⟩ := info_parts info3
  have hA := hW.alloc (.cells #[.int .i64 (y : Int)] 3)
  refine wpList_append_own _ hgd s x 22 ho base 3 i0 (.int .i64 0) 1 8 Try.underlying22 hi hz0 hz1 hz2 rfl (by decide) vw want.length (vz (iz want)) hs hA.ow ⟨wq.heap.size, 0, none⟩ 1 1 [.int .i64 (y : Int)] hx rfl ?_ (by simp [Value.oneCell']) (by unfold maxLen; omega) (by omega) hA.le ?_
  · intro j u hj
    have hc := Cells.new wq #[.int .i64 (y : Int)] 3
    rw [add_off, Nat.zero_add, hc.cell]
    simpa using hj
  · intro v' w' h2 h3 h4
    refine h v' w' ⟨hA.ol.kept h3 hA.apart, ?_, grown_kept hA.bel hA.le (fun k hk => (hA.ow.lt k hk).1) h3, Nat.le_trans hA.le h3.size⟩
    have e1 : (want ++ [y]).length = want.length + 1 := by simp
    have e2 : vz (iz (want ++ [y])) = vz (iz want) ++ [.int .i64 (y : Int)] := by simp [vz, iz]
    rw [e1, e2]
    exact h2
/-- What the two lists are, as they lie. -/
theorem Wr.shape {w0 w : World} {base : Nat} {vl vw : Value} {line : List Bool} {want : List Nat} (h : Wr w0 w base vl vw line want) :
    ∃ la lc wa wc, vl = .slice la line.length lc ∧ vw = .slice wa want.length wc ∧ (line = [] ∨ ∃ b, la = some ⟨b, 0, none⟩ ∧ ∀ (i : Nat) (x : Bool), line[i]? = some x → w.cell? ⟨b, i, none⟩ = some (.bool x)) ∧ (want = [] ∨ ∃ b, wa = some ⟨b, 0, none⟩ ∧ ∀ (i x : Nat), want[i]? = some x → w.cell? ⟨b, i, none⟩ = some (.int .i64 (x : Int))) := by
  obtain ⟨la, lc, e1, f1⟩ : ∃ la lc, vl = .slice la line.length lc ∧ (line = [] ∨ ∃ b, la = some ⟨b, 0, none⟩ ∧ ∀ (i : Nat) (x : Bool), line[i]? = some x → w.cell? ⟨b, i, none⟩ = some (.bool x)) := by
    rcases h.ol.2 with ⟨hv, h0⟩ | ⟨g, c, cur, hv, hg, hh, hc, hm, hs, ht⟩
    · exact ⟨none, 0, by rw [hv, h0], Or.inl (List.eq_nil_of_length_eq_zero h0)⟩
    · refine ⟨_, c, hv, Or.inr ⟨g, rfl, fun i x hx => ?_⟩⟩
      rw [Cells.cell (cs := cur) (t := 4) hh]
      have hi : i < line.length := (List.getElem?_eq_some_iff.1 hx).1
      have e : (cur.toList.take (line.length * 1))[i]? = some (.bool x) := by rw [ht]; simp [vb, hx]
      rw [List.getElem?_take, if_pos (by omega)] at e
      simpa using e
  obtain ⟨wa, wc, e2, f2⟩ : ∃ wa wc, vw = .slice wa want.length wc ∧ (want = [] ∨ ∃ b, wa = some ⟨b, 0, none⟩ ∧ ∀ (i x : Nat), want[i]? = some x → w.cell? ⟨b, i, none⟩ = some (.int .i64 (x : Int))) := by
    rcases h.ow.2 with ⟨hv, h0⟩ | ⟨g, c, cur, hv, hg, hh, hc, hm, hs, ht⟩
    · exact ⟨none, 0, by rw [hv, h0], Or.inl (List.eq_nil_of_length_eq_zero h0)⟩
    · refine ⟨_, c, hv, Or.inr ⟨g, rfl, fun i x hx => ?_⟩⟩
      rw [Cells.cell (cs := cur) (t := 3) hh]
      have hi : i < want.length := (List.getElem?_eq_some_iff.1 hx).1
      have e : (cur.toList.take (want.length * 1))[i]? = some (.int .i64 (x : Int)) := by rw [ht, vz_get]; simp [iz, hx]
      rw [List.getElem?_take, if_pos (by omega)] at e
      simpa using e
  exact ⟨la, lc, wa, wc, e1, e2, f1, f2⟩
end Go.Proofs.Ytlmajiejapaegaa
