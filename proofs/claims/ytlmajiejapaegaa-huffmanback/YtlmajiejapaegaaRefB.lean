/-
  What Peek, Take, Align and Put of the document's own reader come to, at a reader in memory whose list of bits is the call's own.
  Conditions: the list has at most 64 bits; each method keeps that.
-/
import Derived.Test.YtlmajiejapaegaaRefA
import Derived.Test.YtlmajiejapaegaaReader
import Derived.Deep.RegionHeld3
import Derived.Deep.AppendLies
import Derived.Laws.AppendOwnNone
namespace Go.Proofs.Ytlmajiejapaegaa
open Go.RowKit

/-- Block C holds a reader whose list is l; the list lies in a row of the call's own, from block 'base' on. -/
structure Rf (w : World) (C base : Nat) (v : Value) (l : List Bool) : Prop where
  cell : w.cell? ⟨C, 0, none⟩ = some v
  fz : w.frozen? ⟨C, 0, none⟩ = false
  own : w.ownsRow base 4 1 v l.length (vb l)
  lt : C < base
  le : base ≤ w.heap.size

/-- Blocks have come; of the elder ones block C and that row alone may have turned. -/
structure Grew (C : Nat) (row : Option Nat) (w w' : World) : Prop where
  os : w'.os = w.os
  tape : w'.tape = w.tape
  output : w'.output = w.output
  size : w.heap.size ≤ w'.heap.size
  block : ∀ k, k < w.heap.size → k ≠ C → some k ≠ row → w'.heap[k]? = w.heap[k]?

theorem Grew.below {C B : Nat} {row : Option Nat} {w w' : World} (h : Grew C row w w') (hC : B ≤ C) (hB : B ≤ w.heap.size) (hr : ∀ k, row = some k → B ≤ k) : Below B w w' :=
  ⟨h.os, h.tape, h.output, h.size, fun k hk => h.block k (by omega) (by omega) (fun e => by have := hr k e.symm; omega)⟩
theorem Grew.cell {C : Nat} {row : Option Nat} {w w' : World} (h : Grew C row w w') {p : Addr} (h1 : p.block < w.heap.size) (h2 : p.block ≠ C) (h3 : some p.block ≠ row) : w'.cell? p = w.cell? p :=
  World.cell?_of_block (h.block p.block h1 h2 h3)
theorem grown_of_below {w w' : World} (h : Below w.heap.size w w') (row : Option Nat) : w.grownBy w' row := ⟨h.os, h.tape, h.output, h.size, fun k hk _ => h.block k hk⟩
theorem own_below {w w' : World} {base : Nat} {v : Value} {n : Nat} {xs : List Value} (h : w.ownsRow base 4 1 v n xs) (hb : Below w.heap.size w w') : w'.ownsRow base 4 1 v n xs :=
  h.kept (grown_of_below hb none) (by cases hv : v.ownBlock <;> simp)

/-- What the list's value is. -/
theorem Rf.form {w : World} {C base : Nat} {v : Value} {l : List Bool} (h : Rf w C base v l) : (v = .slice none 0 0 ∧ l = []) ∨ ∃ g cap, v = .slice (some ⟨g, 0, none⟩) l.length cap ∧ base ≤ g ∧ g < w.heap.size ∧ l.length ≤ cap ∧ cap ≤ maxLen ∧ ∀ i (hi : i < l.length), w.cell? ⟨g, i, none⟩ = some (.bool l[i]) := by
  have ho := h.own
  rcases ho.2 with ⟨hv, hn⟩ | ⟨g, cap, cur, hv, hg, hh, hc, hm, _, _⟩
  · exact Or.inl ⟨hv, List.eq_nil_of_length_eq_zero hn⟩
  · refine Or.inr ⟨g, cap, hv, hg, (Array.getElem?_eq_some_iff.1 hh).1, hc, hm, ?_⟩
    intro i hi
    have := ho.cells (g := g) (by rw [hv]; rfl) i (.bool l[i]) (by simp [vb, hi])
    have hadd : (⟨g, 0, none⟩ : Addr).add i = ⟨g, i, none⟩ := by unfold Addr.add; split <;> simp_all
    rw [hadd] at this
    exact this
theorem Rf.nil {w : World} {C base : Nat} (hc : w.cell? ⟨C, 0, none⟩ = some (.slice none 0 0)) (hf : w.frozen? ⟨C, 0, none⟩ = false) (hlt : C < base) (hle : base ≤ w.heap.size) : Rf w C base (.slice none 0 0) [] :=
  ⟨hc, hf, World.ownsRow_nil _ _ _ _, hlt, hle⟩

theorem grown_trans {a b c : World} {r : Option Nat} (h : a.grownBy b r) (k : b.grownBy c r) : a.grownBy c r :=
  ⟨k.os.trans h.os, k.tape.trans h.tape, k.output.trans h.output, Nat.le_trans h.size k.size, fun i hi hr => (k.block i (Nat.lt_of_lt_of_le hi h.size) hr).trans (h.block i hi hr)⟩
/-- A new row that grew behind a new block: of the elder blocks none has turned. -/
theorem grown_new {w w1 : World} {o : Obj} (hg : (w.alloc o).grownBy w1 (some w.heap.size)) : w.grownBy w1 none :=
  ⟨hg.os, hg.tape, hg.output, Nat.le_trans (by simp) hg.size, fun k hk _ => (hg.block k (by simp; omega) (by intro e; cases e; omega)).trans (Below.heap_alloc w o k hk)⟩
/-- The list's new value is laid into the reader. -/
theorem rf_store {w w1 : World} {C base : Nat} {row : Option Nat} {v v' : Value} {l' : List Bool} (hc : w.cell? ⟨C, 0, none⟩ = some v) (hf : w.frozen? ⟨C, 0, none⟩ = false) (hlt : C < base) (hle : base ≤ w.heap.size)
    (hg : w.grownBy w1 row) (hrow : ∀ k, row = some k → base ≤ k) (hown : w1.ownsRow base 4 1 v' l'.length (vb l')) :
    Rf (w1.setCell ⟨C, 0, none⟩ v') C base v' l' ∧ Grew C row w (w1.setCell ⟨C, 0, none⟩ v') := by
  have hne : some C ≠ row := fun e => by have := hrow C e.symm; omega
  have hc1 : w1.cell? ⟨C, 0, none⟩ = some v := (World.cell?_of_block (a := ⟨C, 0, none⟩) (hg.block C (by omega) hne)).trans hc
  have hf1 : w1.frozen? ⟨C, 0, none⟩ = false := (World.frozen?_of_block (a := ⟨C, 0, none⟩) (hg.block C (by omega) hne)).trans hf
  refine ⟨⟨?_, ?_, ownsRow_setCell_below hown hlt v', hlt, ?_⟩, ⟨hg.os, hg.tape, hg.output, ?_, ?_⟩⟩
  · exact World.cell?_setCell_same' _ _ _ (by rw [hc1]; rfl)
  · rw [World.frozen?_setCell]; exact hf1
  · have := hg.size; simp [World.setCell]; omega
  · have := hg.size; simp [World.setCell]; omega
  · intro k hk h1 h2
    rw [Below.heap_setCell _ _ _ _ h1]
    exact hg.block k hk h2

end Go.Proofs.Ytlmajiejapaegaa
