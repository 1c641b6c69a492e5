/-
  Bytes that lie side by side in memory.
-/
import Derived.WalkKit
import Derived.Below
import Derived.Test.YtbepbjbbhenphabDoorMem
namespace Go.Proofs.YtbepbjbbhenphabDoor
open Go.RowKit
set_option linter.unusedVariables false
/-- Bytes that lie side by side. -/
def Lies (w : World) (a : Option Addr) (l : List Nat) : Prop := l = [] ∨ ∃ (b o : Nat), a = some ⟨b, o, none⟩ ∧ ∀ (i x : Nat), l[i]? = some x → w.cell? ⟨b, o + i, none⟩ = some (.int .u8 (x : Int))
theorem Lies.drew {w : World} {a : Option Addr} {l : List Nat} (h : Lies w a l) : Lies w.drew a l := h
theorem Lies.drewN {w : World} {a : Option Addr} {l : List Nat} (h : Lies w a l) (n : Nat) : Lies (w.drewN n) a l := h
/-- Bytes. -/
def Oct (l : List Nat) : Prop := ∀ x ∈ l, x < 256
theorem Oct.drop {l : List Nat} (h : Oct l) (k : Nat) : Oct (l.drop k) := fun x hx => h x (List.mem_of_mem_drop hx)
theorem Oct.take {l : List Nat} (h : Oct l) (k : Nat) : Oct (l.take k) := fun x hx => h x (List.mem_of_mem_take hx)
theorem lies_drop {w : World} {b o : Nat} {l : List Nat} (h : ∀ (i x : Nat), l[i]? = some x → w.cell? ⟨b, o + i, none⟩ = some (.int .u8 (x : Int))) (k : Nat) : Lies w (some ⟨b, o + k, none⟩) (l.drop k) :=
  Or.inr ⟨b, o + k, rfl, fun i x hx => by rw [List.getElem?_drop] at hx; rw [Nat.add_assoc]; exact h _ _ hx⟩
theorem Lies.take {w : World} {a : Option Addr} {l : List Nat} (h : Lies w a l) (k : Nat) : Lies w a (l.take k) := by
  rcases h with rfl | ⟨b, o, ha, hc⟩
  · left; simp
  · refine Or.inr ⟨b, o, ha, fun i z hz => hc i z ?_⟩
    rw [List.getElem?_take] at hz
    split at hz
    · exact hz
    · cases hz
/-- Bytes lie where they lay, where old memory has not turned. -/
theorem Lies.below {w u : World} {a : Option Addr} {l : List Nat} (h : Lies w a l) (k : Below w.heap.size w u) : Lies u a l := by
  rcases h with h | ⟨b, o, ha, hc⟩
  · exact Or.inl h
  · refine Or.inr ⟨b, o, ha, fun i x hx => ?_⟩
    have hlt := World.block_lt_of_cell? w ⟨b, o + i, none⟩ (hc i x hx)
    exact (k.cell (p := ⟨b, o + i, none⟩) hlt).trans (hc i x hx)
theorem beq_int (x c : Nat) : ((x : Int) == (c : Int)) = decide (x = c) := by
  by_cases h : x = c
  · simp [h]
  · rw [decide_eq_false h, beq_eq_false_iff_ne]; omega
end Go.Proofs.YtbepbjbbhenphabDoor
