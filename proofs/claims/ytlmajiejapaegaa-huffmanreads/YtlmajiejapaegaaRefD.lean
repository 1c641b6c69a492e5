/-
  The document's reader and the program's beside each other: what each keeps of the other.
-/
import Derived.Test.YtlmajiejapaegaaRefC
namespace Go.Proofs.Ytlmajiejapaegaa
open Go.RowKit
theorem Rf.only {w u : World} {C base H : Nat} {v : Value} {l : List Bool} (h : Rf w C base v l) (k : Only H w u) (hH : H < C) : Rf u C base v l := by
  have hlt := h.lt
  refine ⟨(k.cell (p := ⟨C, 0, none⟩) (show C ≠ H by omega)).trans h.cell, (World.frozen?_of_block (a := ⟨C, 0, none⟩) (k.block C (by omega))).trans h.fz, ?_, h.lt, by rw [k.size]; exact h.le⟩
  refine h.own.kept (row := some H) ⟨k.os, k.tape, k.output, Nat.le_of_eq k.size.symm, fun i _ hi => k.block i (fun e => hi (by rw [e]))⟩ (Or.inr ?_)
  intro e
  have := (h.own.lt H e).1
  omega
theorem Rf.alloc {w : World} {C base : Nat} {v : Value} {l : List Bool} (h : Rf w C base v l) (o : Obj) : Rf (w.alloc o) C base v l := by
  have hlt := h.lt
  have hle := h.le
  exact ⟨(World.cell?_of_block (a := ⟨C, 0, none⟩) (Below.heap_alloc w o C (by omega))).trans h.cell, (World.frozen?_of_block (a := ⟨C, 0, none⟩) (Below.heap_alloc w o C (by omega))).trans h.fz, h.own.alloc o, h.lt, by simp; omega⟩
theorem Rf.drew {w : World} {C base : Nat} {v : Value} {l : List Bool} (h : Rf w C base v l) : Rf w.drew C base v l := ⟨h.cell, h.fz, h.own, h.lt, h.le⟩
theorem Rf.drewN {w : World} {C base : Nat} {v : Value} {l : List Bool} (h : Rf w C base v l) (n : Nat) : Rf (w.drewN n) C base v l := ⟨h.cell, h.fz, h.own, h.lt, h.le⟩
/-- What grew below the reader's list leaves the other reader as it was. -/
theorem Br.grew {w u : World} {H C n m : Nat} {row : Option Nat} (h : Br w H n m) (k : Grew C row w u) (hH : H < C) (hr : ∀ g, row = some g → C < g) : Br u H n m :=
  h.below (B := H + 1) (k.below (by omega) h.blt (fun g e => by have := hr g e; omega)) (by omega)
theorem Rf.row {w : World} {C base : Nat} {v : Value} {l : List Bool} (h : Rf w C base v l) : ∀ g, v.ownBlock = some g → base ≤ g ∧ g < w.heap.size := h.own.lt
/-- The program's reader and the document's hold the same bits. -/
structure Both (w : World) (H C : Nat) (v : Value) (l : List Bool) : Prop where
  br : Br w H (nm l) l.length
  rf : Rf w C (C + 1) v l
  lt : H < C
theorem Both.shape {w : World} {H C : Nat} {v : Value} {l : List Bool} (h : Both w H C v l) : ∃ a cap, v = .slice a l.length cap := by
  rcases h.rf.form with ⟨rfl, rfl⟩ | ⟨g, cap, hv, _⟩
  · exact ⟨_, _, rfl⟩
  · exact ⟨_, _, hv⟩
theorem Both.alloc {w : World} {H C : Nat} {v : Value} {l : List Bool} (h : Both w H C v l) (o : Obj) : Both (w.alloc o) H C v l := ⟨h.br.alloc o, h.rf.alloc o, h.lt⟩
theorem Both.drewN {w : World} {H C : Nat} {v : Value} {l : List Bool} (h : Both w H C v l) (n : Nat) : Both (w.drewN n) H C v l := ⟨h.br.drewN n, h.rf.drewN n, h.lt⟩
/-- Behind Put of both. -/
theorem Both.put {w u : World} {H C : Nat} {v' : Value} {l : List Bool} {x : Nat} {row : Option Nat} (hb : Br w H (nm l + x * 2 ^ l.length) (l.length + 8)) (hg : Grew C row w u) (hH : H < C) (hr : ∀ g, row = some g → C + 1 ≤ g) (hx : x < 256) (hf : Rf u C (C + 1) v' (l ++ bitsOf 8 x)) : Both u H C v' (l ++ bitsOf 8 x) := by
  refine ⟨?_, hf, hH⟩
  rw [nm_append, nm_byte x hx, List.length_append, bitsOf_length]
  exact hb.grew hg hH (fun g e => by have := hr g e; omega)
/-- Behind Take of both, or Align. -/
theorem Both.take {w u : World} {H C : Nat} {v' : Value} {l : List Bool} {k : Nat} (hb : Br w H (nm l / 2 ^ k) (l.length - k)) (hg : Grew C none w u) (hH : H < C) (hf : Rf u C (C + 1) v' (l.drop k)) : Both u H C v' (l.drop k) := by
  refine ⟨?_, hf, hH⟩
  rw [nm_drop, List.length_drop]
  exact hb.grew hg hH (fun g e => by cases e)
/-- Behind Clear of both. -/
theorem Both.clear {w : World} {H C : Nat} {v : Value} {l : List Bool} (hb : Br w H 0 0) (hf : Rf w C (C + 1) v l) (hH : H < C) : Both (w.setCell ⟨C, 0, none⟩ (.slice none 0 0)) H C (.slice none 0 0) [] := by
  refine ⟨hb.only ((Only.refl C w).setCell 0 _) (by omega), Rf.nil (World.cell?_setCell_same' _ _ _ (by rw [hf.cell]; rfl)) ((World.frozen?_setCell ..).trans hf.fz) hf.lt ?_, hH⟩
  have := hf.le
  simp [World.setCell]; omega
theorem held_q (b v n : Nat) (w : World) (h : Br w b v n) : Calls Try.prog 19 #[.pointer (some ⟨b, 0, none⟩)] w fun e w' => e = .returned (.int .i64 n) ∧ w' = w :=
  (held_b b v n w h).mono fun _ _ h => ⟨h.1, h.2.symm⟩
end Go.Proofs.Ytlmajiejapaegaa
