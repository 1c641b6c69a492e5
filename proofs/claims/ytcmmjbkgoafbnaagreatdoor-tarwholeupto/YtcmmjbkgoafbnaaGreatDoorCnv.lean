/-
  A string as bytes of the call's own: the row that a conversion lays. No walk.
-/
import Derived.Test.YtcmmjbkgoafbnaaGreatDoorOwn
namespace Go.Proofs.YtcmmjbkgoafbnaaGreatDoor
open Go.RowKit
set_option linter.unusedVariables false
/-- A row that a conversion laid begins with these bytes. -/
def Cv (w : World) (H : Nat) (l : List Nat) : Prop := ∃ (cs : Array Value) (n : Nat), w.heap[H]? = some (.cells cs 5 (n, n + 1)) ∧ l.length ≤ n ∧ cs.size = n ∧ cs.toList.take l.length = ob l
theorem Cv.cell {w : World} {H i x : Nat} {l : List Nat} (h : Cv w H l) (hx : l[i]? = some x) : w.cell? ⟨H, i, none⟩ = some (.int .u8 (x : Int)) := by
  obtain ⟨cs, n, hh, h1, h2, h3⟩ := h
  have hi := (List.getElem?_eq_some_iff.1 hx).1
  have e : (cs.toList.take l.length)[i]? = some (.int .u8 (x : Int)) := by rw [h3, ob_get, hx]; rfl
  rw [List.getElem?_take, if_pos hi] at e
  simp [World.cell?, hh]
  simpa using e
theorem Cv.frozen {w : World} {H i : Nat} {l : List Nat} (h : Cv w H l) (hi : i < l.length) : w.frozen? ⟨H, i, none⟩ = false := by
  obtain ⟨cs, n, hh, h1, h2, h3⟩ := h
  simp [World.frozen?, hh]
  omega
theorem Cv.set {w : World} {H : Nat} {l : List Nat} (h : Cv w H l) (i x : Nat) : Cv (w.setCell ⟨H, i, none⟩ (.int .u8 (x : Int))) H (l.set i x) := by
  obtain ⟨cs, n, hh, h1, h2, h3⟩ := h
  refine ⟨cs.setIfInBounds i (.int .u8 (x : Int)), n, ?_, by simpa using h1, by simpa using h2, ?_⟩
  · simp [World.setCell, Array.getElem?_modify, hh]
  · rw [List.length_set, Array.toList_setIfInBounds, List.take_set, h3]
    simp [ob, List.map_set]
theorem Cv.below {w u : World} {H C : Nat} {l : List Nat} (h : Cv w H l) (k : Below C w u) (hC : H < C) : Cv u H l := by
  obtain ⟨cs, n, hh, h1⟩ := h
  exact ⟨cs, n, by rw [k.block H hC]; exact hh, h1⟩
theorem Cv.lt {w : World} {H : Nat} {l : List Nat} (h : Cv w H l) : H < w.heap.size := by
  obtain ⟨cs, n, hh, h1⟩ := h
  exact (Array.getElem?_eq_some_iff.1 hh).1
theorem Cv.drewN {w : World} {H : Nat} {l : List Nat} (h : Cv w H l) (n : Nat) : Cv (w.drewN n) H l := h
theorem Cv.lies {w : World} {H : Nat} {l : List Nat} (h : Cv w H l) : Lies w (some ⟨H, 0, none⟩) l := Or.inr ⟨H, 0, rfl, fun i x hx => by rw [Nat.zero_add]; exact h.cell hx⟩
theorem bytes_of {l : List Nat} (ho : Oct l) (w : World) : ∃ w1 c, (convert 9 22 (.string (st l))).run Tryz.prog w = .ok (.slice (some ⟨w.heap.size, 0, none⟩) l.length c) w1 ∧ Cv w1 w.heap.size l ∧ Below w.heap.size w w1 ∧ w1.heap.size = w.heap.size + 1 ∧ l.length ≤ c := by
  have h := run_bytes_of_string (P := Tryz.prog) w 9 22 5 (st l) Tryz.underlying9 Tryz.underlying22 Tryz.underlying5
  have hge := grownCap_ge w (st l).size 0 5
  rw [st_size] at h hge
  generalize grownCap w l.length 0 5 = c at h hge
  have hsz : (bytesRow (st l) c).size = c := by
    have h1 : (st l).data.size = l.length := st_size l
    simp only [bytesRow, Array.size_append, Array.size_map, Array.size_replicate, st_size, h1]
    omega
  refine ⟨_, c, h, ⟨bytesRow (st l) c, c, ?_, hge, hsz, ?_⟩, ?_, ?_, hge⟩
  · rw [hsz]
    show (w.heap.push _)[_]? = _
    simp
  · have e : (st l).data.toList = l.map UInt8.ofNat := rfl
    simp only [bytesRow, Array.toList_append, Array.toList_map, Array.toList_replicate, e, List.map_map]
    have hl : l.length = (l.map ((fun b : UInt8 => Value.int .u8 (b.toNat : Int)) ∘ UInt8.ofNat)).length := by simp
    rw [hl, List.take_left]
    refine List.map_congr_left fun x hx => ?_
    have := ho x hx
    simp
    omega
  · exact (Below.drewN2 (Below.refl _ w) 1).alloc (Nat.le_refl _) _
  · simp
end Go.Proofs.YtcmmjbkgoafbnaaGreatDoor
