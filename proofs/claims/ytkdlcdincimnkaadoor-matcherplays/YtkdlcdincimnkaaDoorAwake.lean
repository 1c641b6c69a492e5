/-
  The one machine that each statement makes at its end answers as the document says.
  Conditions: the library's table holds what its text lays there.
-/
import Derived.Test.YtkdlcdincimnkaaDoorEqs
import Derived.Lib.SlBytesConst
namespace Go.Proofs.YtkdlcdincimnkaaDoor
open Go.RowKit
set_option linter.unusedVariables false
/-- he, she, his, hers. -/
def hers : List (List Nat) := [[104, 101], [115, 104, 101], [104, 105, 115], [104, 101, 114, 115]]
theorem hers_good : chk hers = 0 := by decide +kernel
theorem hers_words : words hers = [[], [104], [104, 101], [115], [115, 104], [115, 104, 101], [104, 105], [104, 105, 115], [104, 101, 114], [104, 101, 114, 115]] := by decide +kernel
theorem hers_next : lsf (words hers) ([115, 104, 101] ++ [114]) = [104, 101, 114] := by decide +kernel
theorem hers_fail : lsf (words hers) ([115, 104, 101] : List Nat).tail = [104, 101] := by decide +kernel
theorem hers_outs : endsOf hers [115, 104, 101] = [0, 1] := by decide +kernel
theorem hers_oct : Octs hers := by show ∀ l ∈ hers, ∀ x ∈ l, x < 256; decide
theorem cell_old (w : World) (o : Obj) (b i : Nat) (h : b < w.heap.size) : (w.alloc o).cell? ⟨b, i, none⟩ = w.cell? ⟨b, i, none⟩ := World.cell?_of_block (Below.heap_alloc w o b h)
theorem cell_new (w : World) (cs : Array Value) (t : TypeId) (fr : Nat × Nat) (i : Nat) : (w.alloc (.cells cs t fr)).cell? ⟨w.heap.size, i, none⟩ = cs[i]? := by
  have : (w.alloc (.cells cs t fr)).heap[w.heap.size]? = some (.cells cs t fr) := by
    show (w.heap.push _)[_]? = _
    simp
  unfold World.cell?
  rw [this]
  rfl
/-- The four patterns as they are laid in memory. -/
def laidHers (w : World) : World := ((((w.alloc (.cells #[.int .u8 104, .int .u8 101] 5 (2, 3))).alloc (.cells #[.int .u8 115, .int .u8 104, .int .u8 101] 5 (3, 4))).alloc (.cells #[.int .u8 104, .int .u8 105, .int .u8 115] 5 (3, 4))).alloc (.cells #[.int .u8 104, .int .u8 101, .int .u8 114, .int .u8 115] 5 (4, 5))).alloc
  (.cells #[.slice (some ⟨w.heap.size, 0, none⟩) 2 2, .slice (some ⟨w.heap.size + 1, 0, none⟩) 3 3, .slice (some ⟨w.heap.size + 2, 0, none⟩) 3 3, .slice (some ⟨w.heap.size + 3, 0, none⟩) 4 4] 47)
theorem laidHers_rows (w : World) : Rows2 (laidHers w) (some ⟨w.heap.size + 4, 0, none⟩) hers ∧ Below w.heap.size w (laidHers w) := by
  obtain ⟨w1, h1⟩ : ∃ w1, w1 = w.alloc (.cells #[.int .u8 104, .int .u8 101] 5 (2, 3)) := ⟨_, rfl⟩
  obtain ⟨w2, h2⟩ : ∃ w2, w2 = w1.alloc (.cells #[.int .u8 115, .int .u8 104, .int .u8 101] 5 (3, 4)) := ⟨_, rfl⟩
  obtain ⟨w3, h3⟩ : ∃ w3, w3 = w2.alloc (.cells #[.int .u8 104, .int .u8 105, .int .u8 115] 5 (3, 4)) := ⟨_, rfl⟩
  obtain ⟨w4, h4⟩ : ∃ w4, w4 = w3.alloc (.cells #[.int .u8 104, .int .u8 101, .int .u8 114, .int .u8 115] 5 (4, 5)) := ⟨_, rfl⟩
  unfold laidHers
  rw [← h1, ← h2, ← h3, ← h4]
  have s1 : w1.heap.size = w.heap.size + 1 := by rw [h1]; simp
  have s2 : w2.heap.size = w.heap.size + 2 := by rw [h2]; show (w1.heap.push _).size = _; simp; omega
  have s3 : w3.heap.size = w.heap.size + 3 := by rw [h3]; show (w2.heap.push _).size = _; simp; omega
  have s4 : w4.heap.size = w.heap.size + 4 := by rw [h4]; show (w3.heap.push _).size = _; simp; omega
  obtain ⟨o, ho⟩ : ∃ o, o = Obj.cells #[.slice (some ⟨w.heap.size, 0, none⟩) 2 2, .slice (some ⟨w.heap.size + 1, 0, none⟩) 3 3, .slice (some ⟨w.heap.size + 2, 0, none⟩) 3 3, .slice (some ⟨w.heap.size + 3, 0, none⟩) 4 4] 47 := ⟨_, rfl⟩
  rw [← ho]
  have c1 : ∀ i, (w4.alloc o).cell? ⟨w.heap.size, i, none⟩ = (#[.int .u8 104, .int .u8 101] : Array Value)[i]? := fun i => by
    rw [cell_old _ _ _ _ (by omega), h4, cell_old _ _ _ _ (by omega), h3, cell_old _ _ _ _ (by omega), h2, cell_old _ _ _ _ (by omega), h1, cell_new]
  have c2 : ∀ i, (w4.alloc o).cell? ⟨w.heap.size + 1, i, none⟩ = (#[.int .u8 115, .int .u8 104, .int .u8 101] : Array Value)[i]? := fun i => by
    rw [cell_old _ _ _ _ (by omega), h4, cell_old _ _ _ _ (by omega), h3, cell_old _ _ _ _ (by omega), h2, ← s1, cell_new]
  have c3 : ∀ i, (w4.alloc o).cell? ⟨w.heap.size + 2, i, none⟩ = (#[.int .u8 104, .int .u8 105, .int .u8 115] : Array Value)[i]? := fun i => by
    rw [cell_old _ _ _ _ (by omega), h4, cell_old _ _ _ _ (by omega), h3, ← s2, cell_new]
  have c4 : ∀ i, (w4.alloc o).cell? ⟨w.heap.size + 3, i, none⟩ = (#[.int .u8 104, .int .u8 101, .int .u8 114, .int .u8 115] : Array Value)[i]? := fun i => by
    rw [cell_old _ _ _ _ (by omega), h4, ← s3, cell_new]
  have c5 : ∀ i, (w4.alloc o).cell? ⟨w.heap.size + 4, i, none⟩ = (#[.slice (some ⟨w.heap.size, 0, none⟩) 2 2, .slice (some ⟨w.heap.size + 1, 0, none⟩) 3 3, .slice (some ⟨w.heap.size + 2, 0, none⟩) 3 3, .slice (some ⟨w.heap.size + 3, 0, none⟩) 4 4] : Array Value)[i]? := fun i => by
    rw [← s4, ho, cell_new]
  have lies : ∀ (b : Nat) (cs : Array Value) (l : List Nat), (∀ i, (w4.alloc o).cell? ⟨b, i, none⟩ = cs[i]?) → (cs.toList = l.map fun x : Nat => Value.int .u8 (x : Int)) → Lies (w4.alloc o) (some ⟨b, 0, none⟩) l := by
    intro b cs l hc hl
    refine Or.inr ⟨b, 0, rfl, fun i x hx => ?_⟩
    rw [Nat.zero_add, hc, ← Array.getElem?_toList, hl, List.getElem?_map, hx]; rfl
  refine ⟨Or.inr ⟨w.heap.size + 4, 0, rfl, fun i l hl => ?_⟩, ?_⟩
  · rw [Nat.zero_add, c5]
    match i, hl with
    | 0, hl => cases hl; exact ⟨_, 2, rfl, lies _ _ _ c1 rfl, by decide, by decide, fun h => by cases h⟩
    | 1, hl => cases hl; exact ⟨_, 3, rfl, lies _ _ _ c2 rfl, by decide, by decide, fun h => by cases h⟩
    | 2, hl => cases hl; exact ⟨_, 3, rfl, lies _ _ _ c3 rfl, by decide, by decide, fun h => by cases h⟩
    | 3, hl => cases hl; exact ⟨_, 4, rfl, lies _ _ _ c4 rfl, by decide, by decide, fun h => by cases h⟩
    | i + 4, hl => simp [hers] at hl
  · have b1 : Below w.heap.size w w1 := by rw [h1]; exact (Below.refl _ w).alloc (Nat.le_refl _) _
    have b2 : Below w.heap.size w w2 := by rw [h2]; exact b1.alloc (by omega) _
    have b3 : Below w.heap.size w w3 := by rw [h3]; exact b2.alloc (by omega) _
    have b4 : Below w.heap.size w w4 := by rw [h4]; exact b3.alloc (by omega) _
    exact b4.alloc (by omega) _
end Go.Proofs.YtkdlcdincimnkaaDoor
