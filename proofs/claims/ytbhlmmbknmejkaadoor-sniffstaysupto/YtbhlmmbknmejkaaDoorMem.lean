/-
  A block of cells that is known whole, and a world in which one block alone has turned: small laws, over any program.
-/
import Derived.WalkKit
import Derived.WalkSmall
import Derived.Below
import Derived.Deep.Draws
namespace Go.Proofs.YtbhlmmbknmejkaaDoor
open Go.RowKit

/-- Block b holds just these cells, none frozen. -/
def Cells (w : World) (b : Nat) (cs : Array Value) (t : TypeId) : Prop := w.heap[b]? = some (.cells cs t)

/-- Of all blocks b alone may have turned; none has come. -/
structure Only (b : Nat) (w w' : World) : Prop where
  os : w'.os = w.os
  tape : w'.tape = w.tape
  output : w'.output = w.output
  size : w'.heap.size = w.heap.size
  block : ∀ k, k ≠ b → w'.heap[k]? = w.heap[k]?

theorem Only.refl (b : Nat) (w : World) : Only b w w := ⟨rfl, rfl, rfl, rfl, fun _ _ => rfl⟩
theorem Only.trans {b : Nat} {w u v : World} (h : Only b w u) (k : Only b u v) : Only b w v :=
  ⟨k.os.trans h.os, k.tape.trans h.tape, k.output.trans h.output, k.size.trans h.size, fun i hi => (k.block i hi).trans (h.block i hi)⟩
theorem Only.drewN {b : Nat} {w u : World} (h : Only b w u) (n : Nat) : Only b w (u.drewN n) := ⟨h.os, h.tape, h.output, h.size, h.block⟩
theorem Only.drew {b : Nat} {w u : World} (h : Only b w u) : Only b w u.drew := ⟨h.os, h.tape, h.output, h.size, h.block⟩
theorem Only.setCell {b : Nat} {w u : World} (h : Only b w u) (i : Nat) (v : Value) : Only b w (u.setCell ⟨b, i, none⟩ v) :=
  h.trans ⟨rfl, rfl, rfl, by simp [World.setCell], fun k hk => Below.heap_setCell _ _ _ _ hk⟩
theorem Only.cell {b : Nat} {w u : World} (h : Only b w u) {p : Addr} (hp : p.block ≠ b) : u.cell? p = w.cell? p := World.cell?_of_block (w := w) (h.block p.block hp)
theorem Only.below {b B : Nat} {w u : World} (h : Only b w u) (hB : B ≤ b) : Below B w u :=
  ⟨h.os, h.tape, h.output, Nat.le_of_eq h.size.symm, fun k hk => h.block k (by omega)⟩

theorem Cells.cell {w : World} {b : Nat} {cs : Array Value} {t : TypeId} (h : Cells w b cs t) (i : Nat) : w.cell? ⟨b, i, none⟩ = cs[i]? := by
  unfold Cells at h
  simp [World.cell?, h]
theorem Cells.frozen {w : World} {b : Nat} {cs : Array Value} {t : TypeId} (h : Cells w b cs t) (i : Nat) : w.frozen? ⟨b, i, none⟩ = false := by
  unfold Cells at h
  simp [World.frozen?, h]
theorem Cells.set {w : World} {b : Nat} {cs : Array Value} {t : TypeId} (h : Cells w b cs t) (i : Nat) (v : Value) : Cells (w.setCell ⟨b, i, none⟩ v) b (cs.setIfInBounds i v) t := by
  unfold Cells at *
  simp [World.setCell, Array.getElem?_modify, h]
theorem Cells.drewN {w : World} {b : Nat} {cs : Array Value} {t : TypeId} (h : Cells w b cs t) (n : Nat) : Cells (w.drewN n) b cs t := h
theorem Cells.drew {w : World} {b : Nat} {cs : Array Value} {t : TypeId} (h : Cells w b cs t) : Cells w.drew b cs t := h
theorem Cells.only {w u : World} {b c : Nat} {cs : Array Value} {t : TypeId} (h : Cells w b cs t) (k : Only c w u) (hb : b ≠ c) : Cells u b cs t := by
  unfold Cells at *
  rw [k.block b hb]; exact h
theorem Cells.below {w u : World} {b B : Nat} {cs : Array Value} {t : TypeId} (h : Cells w b cs t) (k : Below B w u) (hb : b < B) : Cells u b cs t := by
  unfold Cells at *
  rw [k.block b hb]; exact h
theorem Cells.lt {w : World} {b : Nat} {cs : Array Value} {t : TypeId} (h : Cells w b cs t) : b < w.heap.size := by
  unfold Cells at h
  exact (Array.getElem?_eq_some_iff.1 h).1
theorem Cells.new (w : World) (cs : Array Value) (t : TypeId) : Cells (w.alloc (.cells cs t)) w.heap.size cs t := by
  show (w.heap.push _)[_]? = _
  simp
theorem Cells.alloc {w : World} {b : Nat} {cs : Array Value} {t : TypeId} (h : Cells w b cs t) (o : Obj) : Cells (w.alloc o) b cs t := by
  have := h.lt
  unfold Cells at *
  rw [Below.heap_alloc w o b this]; exact h
/-- Of the blocks that were there M alone may have turned; others may have come. -/
structure But (M : Nat) (w w' : World) : Prop where
  os : w'.os = w.os
  tape : w'.tape = w.tape
  output : w'.output = w.output
  size : w.heap.size ≤ w'.heap.size
  block : ∀ k, k < w.heap.size → k ≠ M → w'.heap[k]? = w.heap[k]?
theorem But.refl (M : Nat) (w : World) : But M w w := ⟨rfl, rfl, rfl, Nat.le_refl _, fun _ _ _ => rfl⟩
theorem But.trans {M : Nat} {w u v : World} (h : But M w u) (k : But M u v) : But M w v :=
  ⟨k.os.trans h.os, k.tape.trans h.tape, k.output.trans h.output, Nat.le_trans h.size k.size, fun i hi hm => (k.block i (Nat.lt_of_lt_of_le hi h.size) hm).trans (h.block i hi hm)⟩
theorem But.of_below {M : Nat} {w u : World} (h : Below w.heap.size w u) : But M w u := ⟨h.1, h.2, h.3, h.size, fun k hk _ => h.block k hk⟩
theorem But.of_only {M : Nat} {w u : World} (h : Only M w u) : But M w u := ⟨h.os, h.tape, h.output, Nat.le_of_eq h.size.symm, fun k _ hm => h.block k hm⟩
theorem But.below {M B : Nat} {w u : World} (h : But M w u) (hM : B ≤ M) (hB : B ≤ w.heap.size) : Below B w u :=
  ⟨h.os, h.tape, h.output, h.size, fun k hk => h.block k (by omega) (by omega)⟩
theorem But.cells {M b : Nat} {w u : World} {cs : Array Value} {t : TypeId} (h : But M w u) (k : Cells w b cs t) (hb : b ≠ M) : Cells u b cs t := by
  have := k.lt
  unfold Cells at *
  rw [h.block b this hb]; exact k
end Go.Proofs.YtbhlmmbknmejkaaDoor
