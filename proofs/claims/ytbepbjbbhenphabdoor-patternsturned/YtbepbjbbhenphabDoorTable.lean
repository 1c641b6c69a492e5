/-
  What the list of package-level variables gives: the library's table holds its 64 numbers.
-/
import Derived.Test.YtbepbjbbhenphabDoorTz
import Derived.Test.YtbepbjbbhenphabDoorRows
import Derived.Lib.LaidTab
import Derived.LaidMore
namespace Go.Proofs.YtbepbjbbhenphabDoor
open Go.RowKit
theorem cells5b : Tryd.prog.cellsOf 5 = 1 := by kernel_rfl
theorem gTab : Tryd.prog.globalNamed "math/bits.deBruijn64tab" = some 0 := by kernel_rfl
theorem gTabType : (Tryd.prog.globals[0]?).map (·.type) = some 60 := by kernel_rfl
theorem cells78 : Tryd.prog.cellsOf 60 = 64 := by kernel_rfl
theorem tab_of_laid {W : World} (h : laidMetH Tryd.prog [("math/bits.deBruijn64tab", Rows.laid_math_bits_deBruijn64tab)] W) : Tab W := by
  have ht : Lib.TabIs Tryd.prog W "math/bits.deBruijn64tab" .u8 (tb.map fun n : Nat => (n : Int)) :=
    Lib.tabIs_of_head (rest := []) gTab gTabType Tryd.underlying60 Tryd.underlying5 cells5b cells78 h
  intro i hi
  have := ht.cell gTab i hi
  rw [this]
  congr 2
  have e : ∀ j : Fin 64, (tb.map fun n : Nat => (n : Int)).getD j.val 0 = ((tb.getD j.val 0 : Nat) : Int) := by decide +kernel
  exact e ⟨i, hi⟩
end Go.Proofs.YtbepbjbbhenphabDoor
