/-
  Entries in memory; what the document's Write comes to.
-/
import Derived.Test.YtcmmjbkgoafbnaaGreatDoorWhe
import Derived.Test.YtcmmjbkgoafbnaaGreatDoorAps
import Derived.Deep.RegionHeld3
import Derived.BigRegion
namespace Go.Proofs.YtcmmjbkgoafbnaaGreatDoor
open Go.RowKit
set_option linter.unusedVariables false
set_option linter.unusedSimpArgs false
/-- An entry: its name, its data, how it is written, its kind. -/
abbrev Ent := List Nat × List Nat × Nat × Nat
/-- A header ahead that says the name, or the size, too. -/
def wpr (h : Nat) (n d : List Nat) : List Nat :=
  if h = 1 then hdr [120] (n.length + 1) 76 ++ wh512 (n ++ [0])
  else if h = 2 then hdr [120] (sad kpath n).length 120 ++ wh512 (sad kpath n)
  else if h = 3 then hdr [120] (sad kpath n ++ sad ksize (dgs d.length)).length 120 ++ wh512 (sad kpath n ++ sad ksize (dgs d.length))
  else []
def whw (how : Nat) (n : List Nat) : Nat := if how % 4 = 0 ∧ 100 < n.length then 1 else how % 4
def wotk (k : Nat) : Nat := if k % 2 = 0 then 75 else 103
/-- An entry as it is written. -/
def wen (e : Ent) : List Nat :=
  if e.2.2.2 ≠ 0 then hdr (nmd e.1) e.2.1.length (wotk e.2.2.2) ++ wh512 e.2.1
  else wpr (whw e.2.2.1 (nmd e.1)) (nmd e.1) e.2.1 ++ (hdr (nmd e.1) (if whw e.2.2.1 (nmd e.1) = 3 then 7 else e.2.1.length) 48 ++ wh512 e.2.1)
def wal : List Ent → List Nat
  | [] => []
  | e :: r => wen e ++ wal r
def wri (l : List Ent) : List Nat := wal l ++ List.replicate 1024 0
theorem wal_append (a b : List Ent) : wal (a ++ b) = wal a ++ wal b := by
  induction a with
  | nil => rfl
  | cons e r ih => simp only [List.cons_append, wal, ih, List.append_assoc]
/-- One entry's cells. -/
structure E1 (w : World) (b o : Nat) (e : Ent) : Prop where
  ex : ∃ (da : Option Addr) (L C : Nat), w.cell? ⟨b, o, none⟩ = some (.string (st e.1)) ∧ w.cell? ⟨b, o + 1, none⟩ = some (.slice da L C) ∧ w.cell? ⟨b, o + 2, none⟩ = some (.int .u8 (e.2.2.1 : Int)) ∧ w.cell? ⟨b, o + 3, none⟩ = some (.int .u8 (e.2.2.2 : Int)) ∧ Lies w da e.2.1 ∧ e.2.1.length = L ∧ L ≤ C ∧ (da = none → L = 0 ∧ C = 0)
/-- What may be asked of an entry. -/
structure Eok (e : Ent) : Prop where
  n : Oct e.1
  nl : e.1.length ≤ 9223372036854775807
  d : Oct e.2.1
  dl : e.2.1.length ≤ 100000
  h : e.2.2.1 < 256
  k : e.2.2.2 < 256
/-- Entries in memory. -/
def Em (w : World) (a : Option Addr) (l : List Ent) : Prop := l = [] ∨ ∃ b o, a = some ⟨b, o, none⟩ ∧ ∀ (i : Nat) (e : Ent), l[i]? = some e → E1 w b (o + i * 4) e
theorem E1.below {w u : World} {C b o : Nat} {e : Ent} (h : E1 w b o e) (k : Below C w u) (hC : w.heap.size ≤ C) : E1 u b o e := by
  obtain ⟨da, L, Cp, h1, h2, h3, h4, h5, h6, h7, h8⟩ := h.ex
  have hb : b < w.heap.size := Classical.byContradiction fun hc => by
    have : w.heap[b]? = none := Array.getElem?_eq_none (by omega)
    simp [World.cell?, this] at h1
  have kk : ∀ j, u.cell? ⟨b, j, none⟩ = w.cell? ⟨b, j, none⟩ := fun j => World.cell?_of_block (w := w) (k.block b (by omega))
  exact ⟨da, L, Cp, by rw [kk]; exact h1, by rw [kk]; exact h2, by rw [kk]; exact h3, by rw [kk]; exact h4, h5.below (k.mono hC), h6, h7, h8⟩
theorem Em.below {w u : World} {C : Nat} {a : Option Addr} {l : List Ent} (h : Em w a l) (k : Below C w u) (hC : w.heap.size ≤ C) : Em u a l := by
  rcases h with h | ⟨b, o, ha, h⟩
  · exact Or.inl h
  · exact Or.inr ⟨b, o, ha, fun i e he => (h i e he).below k hC⟩
/-- What Write stands at within an entry: what is written so far, the entry's own place. -/
structure Rw (lo E : Nat) (w wr : World) (v : Value) (n : Nat) (z : List Nat) (cs : Array Value) : Prop where
  ow : Ow wr lo 5 1 v n (ob z)
  bel : Below lo w wr
  ev : Cells wr E cs 59
  len : z.length = n
section
variable {lo E n : Nat} {w wr u : World} {v : Value} {z : List Nat} {cs : Array Value}
theorem Rw.step (h : Rw lo E w wr v n z cs) (k : Below wr.heap.size wr u) : Rw lo E w u v n z cs := ⟨h.ow.below k (Nat.le_refl _), h.bel.trans (k.mono h.ow.le), h.ev.below k h.ev.lt, h.len⟩
theorem Rw.app (h : Rw lo E w wr v n z cs) {v' : Value} {m : Nat} {y : List Nat} (k : Got lo 5 1 wr u v v' (n + m) (ob z ++ ob y)) (hm : y.length = m) : Rw lo E w u v' (n + m) (z ++ y) cs := by
  refine ⟨?_, h.bel.trans k.bel, h.ev.got k (by decide), by rw [List.length_append, h.len, hm]⟩
  have := k.ow
  rw [ob_append] at this
  exact this
end
/-- Bytes of a row that was made. -/
theorem Bk.oc {w u : World} {G n : Nat} {cs : List Nat} (h : Bk w u G n cs) : ob cs = [] ∨ ∃ b o, (some ⟨G, 0, none⟩ : Option Addr) = some ⟨b, o, none⟩ ∧ ∀ i x, (ob cs)[i]? = some x → u.cell? ⟨b, o + i, none⟩ = some x := lies_ob h.lies
end Go.Proofs.YtcmmjbkgoafbnaaGreatDoor
