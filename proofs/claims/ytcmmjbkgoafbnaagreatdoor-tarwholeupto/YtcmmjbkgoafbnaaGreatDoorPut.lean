/-
  What putOctal and putBinary come to: a new row of bytes, the digits or the bytes of a number.
  Conditions: a width from 2 to 64.
-/
import Derived.Test.YtcmmjbkgoafbnaaGreatDoorOwn
import Derived.Test.YtcmmjbkgoafbnaaGreatDoorReadB
import Derived.Laws.MakeOwn
import Derived.Laws.OwnMore
namespace Go.Proofs.YtcmmjbkgoafbnaaGreatDoor
open Go.RowKit
set_option linter.unusedVariables false
/-- Bytes as cells. -/
def vn (l : List Nat) : List Value := l.map fun x : Nat => Value.int .u8 (x : Int)
theorem vn_length (l : List Nat) : (vn l).length = l.length := by simp [vn]
theorem vn_get (l : List Nat) (j : Nat) : (vn l)[j]? = (l[j]?).map fun x : Nat => Value.int .u8 (x : Int) := by simp [vn]
theorem info5 : (Tryz.prog.info? 5).map (fun i => (i.zero, i.size, i.bytes)) = some (some (.int .u8 0), 1, 1) := by kernel_rfl
/-- make of a list of n bytes. -/
theorem made (n : Nat) (hn : n ≤ 1048576) (w : World) : (Instr.makeSlice 22 (.int .i64 (n : Int)) (.int .i64 (n : Int))).run Tryz.prog w = .ok (.slice (some ⟨w.heap.size, 0, none⟩) n n) (w.alloc (.cells (vn (List.replicate n 0)).toArray 5)) := by
  obtain ⟨i, hi, hz, hs, hb⟩ := info_parts info5
  have := run_make (P := Tryz.prog) w 22 5 i _ Tryz.underlying22 hi hz .i64 .i64 n n (by omega) (by omega) (by rw [hb]; omega) (by omega)
  rw [this, hs]
  have e : madeCells (Value.int .u8 0).cells ((n : Int).toNat * 1) = (vn (List.replicate n 0)).toArray := by
    apply Array.toList_inj.1
    show (madeCells #[Value.int .u8 0] _).toList = _
    rw [toList_madeCells_one]
    simp [vn]
  rw [e]
  simp
/-- A row that the call made: block G holds just these bytes. -/
structure Bk (w u : World) (G n : Nat) (cs : List Nat) : Prop where
  bel : Below w.heap.size w u
  ge : w.heap.size ≤ G
  cells : Cells u G (vn cs).toArray 5
  len : cs.length = n
theorem Bk.new (w : World) (n : Nat) : Bk w (w.alloc (.cells (vn (List.replicate n 0)).toArray 5)) w.heap.size n (List.replicate n 0) :=
  ⟨(Below.refl _ _).alloc (Nat.le_refl _) _, Nat.le_refl _, Cells.new _ _ _, List.length_replicate⟩
theorem Bk.cell {w u : World} {G n : Nat} {cs : List Nat} (h : Bk w u G n cs) {i x : Nat} (hx : cs[i]? = some x) : u.cell? ⟨G, i, none⟩ = some (.int .u8 (x : Int)) := by
  rw [h.cells.cell]
  rw [List.getElem?_toArray, vn_get, hx]; rfl
theorem Bk.there {w u : World} {G n : Nat} {cs : List Nat} (h : Bk w u G n cs) {i : Nat} (hi : i < n) : (∃ x, u.cell? ⟨G, i, none⟩ = some x) ∧ u.frozen? ⟨G, i, none⟩ = false :=
  ⟨⟨_, h.cell (List.getElem?_eq_getElem (by rw [h.len]; exact hi))⟩, h.cells.frozen i⟩
theorem Bk.set {w u : World} {G n : Nat} {cs : List Nat} (h : Bk w u G n cs) (j y : Nat) : Bk w (u.setCell ⟨G, j, none⟩ (.int .u8 (y : Int))) G n (cs.set j y) := by
  refine ⟨h.bel.setCell (p := ⟨G, j, none⟩) h.ge _, h.ge, ?_, by rw [List.length_set]; exact h.len⟩
  have := h.cells.set j (.int .u8 (y : Int))
  have e : (vn cs).toArray.setIfInBounds j (.int .u8 (y : Int)) = (vn (cs.set j y)).toArray := by
    rw [List.setIfInBounds_toArray]; congr 1; unfold vn; rw [List.map_set]
  rw [e] at this; exact this
theorem Bk.lies {w u : World} {G n : Nat} {cs : List Nat} (h : Bk w u G n cs) : Lies u (some ⟨G, 0, none⟩) cs := Or.inr ⟨G, 0, rfl, fun i x hx => by rw [Nat.zero_add]; exact h.cell hx⟩
theorem set_mid (q X : List Nat) (z y : Nat) : (q ++ [z] ++ X).set q.length y = q ++ (y :: X) := by
  rw [List.append_assoc, List.set_append_right _ _ (Nat.le_refl _), Nat.sub_self]; rfl
theorem or48 : ∀ x : Fin 8, 48 ||| x.val = 48 + x.val := by decide +kernel
theorem dig_of (v : Nat) : bits .or .u8 48 ((v : Int) % 8) = ((48 + v % 8 : Nat) : Int) := by
  have h : v % 8 < 8 := Nat.mod_lt _ (by decide)
  have e : (v : Int) % 8 = ((v % 8 : Nat) : Int) := by omega
  have h3 := or48 ⟨v % 8, h⟩
  dsimp only at h3
  rw [e, show (48 : Int) = ((48 : Nat) : Int) from rfl, u8_or_nat 48 _ (by decide) (by omega), h3]
end Go.Proofs.YtcmmjbkgoafbnaaGreatDoor
