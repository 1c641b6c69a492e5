/-
  What the document's look comes to.
-/
import Derived.Test.YtbndohpcaahenabOwn
import Derived.Test.YtbndohpcaahenabTvm
import Derived.BigQuiet
import Derived.BigRegion
import Derived.Deep.CutBlock
import Derived.Deep.DeepCutAuto
import Derived.Deep.LoopGhost
namespace Go.Proofs.Ytbndohpcaahenab
open Go.RowKit
set_option linter.unusedVariables false
def dd (b : List Nat) : List Nat := 45 :: 45 :: b
theorem dd_st (b : List Nat) : (⟨#[45, 45]⟩ : ByteArray) ++ st b = st (dd b) := by
  have : (⟨#[45, 45]⟩ : ByteArray) = st [45, 45] := by rfl
  rw [this, st_append]; rfl
theorem dd_oct {b : List Nat} (h : Oct b) : Oct (dd b) := (h.cons (by decide)).cons (by decide)
def Dn (w u : World) : Prop := ∃ n, u = w.drewN n
theorem Dn.refl (w : World) : Dn w w := ⟨0, rfl⟩
theorem Dn.drewN {w u : World} (h : Dn w u) (n : Nat) : Dn w (u.drewN n) := by
  obtain ⟨m, rfl⟩ := h
  exact ⟨m + n, by rw [World.drewN_drewN]⟩
theorem Dn.cell {w u : World} (h : Dn w u) (p : Addr) : u.cell? p = w.cell? p := by obtain ⟨n, rfl⟩ := h; rfl
theorem w64_id (z : Int) (h0 : 0 ≤ z) (h1 : z < 9223372036854775808) : wrap64 z = z := by unfold wrap64; omega
theorem lkE_cons (D : List Nat) (y : Nat) (r : List Nat) : lkE D (y :: r) = if y = 10 then lkB D r else if y = 13 then (match r with | [] => (1, false) | z :: r' => if z = 10 then lkB D r' else (0, false)) else (0, false) := rfl
end Go.Proofs.Ytbndohpcaahenab
