/-
  What the list of package-level variables gives: the program's seven tables.
-/
import Derived.Test.YtikdpnpkmmmacabDoorMf
import Derived.Test.YtikdpnpkmmmacabDoorRows
import Derived.Lib.LaidTab
import Derived.LaidMore
import Derived.LaidSub
namespace Go.Proofs.YtikdpnpkmmmacabDoor
open Go.RowKit
set_option linter.unusedVariables false
theorem cells5b : Tryd.prog.cellsOf 5 = 1 := by kernel_rfl
theorem cells49b : Tryd.prog.cellsOf 23 = 1 := by kernel_rfl
theorem g_lengthBits : Tryd.prog.globalNamed "winkle/inflate.lengthBits" = some 0 := by kernel_rfl
theorem gt_lengthBits : (Tryd.prog.globals[0]?).map (·.type) = some 87 := by kernel_rfl
theorem ct_lengthBits : Tryd.prog.cellsOf 87 = 29 := by kernel_rfl
def tl_lengthBits : List Nat := (List.range 29).map fun i => lmore (257 + i)
theorem is_lengthBits {W : World} (h : laidMet Tryd.prog [("winkle/inflate.order", Rows.laid_winkle_inflate_order), ("winkle/inflate.runLeast", Rows.laid_winkle_inflate_runLeast), ("winkle/inflate.runBits", Rows.laid_winkle_inflate_runBits), ("winkle/inflate.lengthLeast", Rows.laid_winkle_inflate_lengthLeast), ("winkle/inflate.lengthBits", Rows.laid_winkle_inflate_lengthBits), ("winkle/inflate.distanceLeast", Rows.laid_winkle_inflate_distanceLeast), ("winkle/inflate.distanceBits", Rows.laid_winkle_inflate_distanceBits)] W) : Lib.TabIs Tryd.prog W "winkle/inflate.lengthBits" .u8 (tl_lengthBits.map fun n : Nat => (n : Int)) := by
  have h2 := h.filter (fun x => x.1 == "winkle/inflate.lengthBits")
  exact Lib.tabIs_of_head (rest := []) g_lengthBits gt_lengthBits Tryd.underlying87 Tryd.underlying5 cells5b ct_lengthBits (show laidMet Tryd.prog [("winkle/inflate.lengthBits", Lib.tabData .u8 (tl_lengthBits.map fun n : Nat => (n : Int)))] W from h2)
theorem g_lengthLeast : Tryd.prog.globalNamed "winkle/inflate.lengthLeast" = some 1 := by kernel_rfl
theorem gt_lengthLeast : (Tryd.prog.globals[1]?).map (·.type) = some 88 := by kernel_rfl
theorem ct_lengthLeast : Tryd.prog.cellsOf 88 = 29 := by kernel_rfl
def tl_lengthLeast : List Nat := (List.range 29).map fun i => lbase (257 + i)
theorem is_lengthLeast {W : World} (h : laidMet Tryd.prog [("winkle/inflate.order", Rows.laid_winkle_inflate_order), ("winkle/inflate.runLeast", Rows.laid_winkle_inflate_runLeast), ("winkle/inflate.runBits", Rows.laid_winkle_inflate_runBits), ("winkle/inflate.lengthLeast", Rows.laid_winkle_inflate_lengthLeast), ("winkle/inflate.lengthBits", Rows.laid_winkle_inflate_lengthBits), ("winkle/inflate.distanceLeast", Rows.laid_winkle_inflate_distanceLeast), ("winkle/inflate.distanceBits", Rows.laid_winkle_inflate_distanceBits)] W) : Lib.TabIs Tryd.prog W "winkle/inflate.lengthLeast" .u16 (tl_lengthLeast.map fun n : Nat => (n : Int)) := by
  have h2 := h.filter (fun x => x.1 == "winkle/inflate.lengthLeast")
  exact Lib.tabIs_of_head (rest := []) g_lengthLeast gt_lengthLeast Tryd.underlying88 Tryd.underlying23 cells49b ct_lengthLeast (show laidMet Tryd.prog [("winkle/inflate.lengthLeast", Lib.tabData .u16 (tl_lengthLeast.map fun n : Nat => (n : Int)))] W from h2)
theorem g_order : Tryd.prog.globalNamed "winkle/inflate.order" = some 2 := by kernel_rfl
theorem gt_order : (Tryd.prog.globals[2]?).map (·.type) = some 90 := by kernel_rfl
theorem ct_order : Tryd.prog.cellsOf 90 = 19 := by kernel_rfl
def tl_order : List Nat := ordr
theorem is_order {W : World} (h : laidMet Tryd.prog [("winkle/inflate.order", Rows.laid_winkle_inflate_order), ("winkle/inflate.runLeast", Rows.laid_winkle_inflate_runLeast), ("winkle/inflate.runBits", Rows.laid_winkle_inflate_runBits), ("winkle/inflate.lengthLeast", Rows.laid_winkle_inflate_lengthLeast), ("winkle/inflate.lengthBits", Rows.laid_winkle_inflate_lengthBits), ("winkle/inflate.distanceLeast", Rows.laid_winkle_inflate_distanceLeast), ("winkle/inflate.distanceBits", Rows.laid_winkle_inflate_distanceBits)] W) : Lib.TabIs Tryd.prog W "winkle/inflate.order" .u8 (tl_order.map fun n : Nat => (n : Int)) := by
  have h2 := h.filter (fun x => x.1 == "winkle/inflate.order")
  exact Lib.tabIs_of_head (rest := []) g_order gt_order Tryd.underlying90 Tryd.underlying5 cells5b ct_order (show laidMet Tryd.prog [("winkle/inflate.order", Lib.tabData .u8 (tl_order.map fun n : Nat => (n : Int)))] W from h2)
theorem g_distanceBits : Tryd.prog.globalNamed "winkle/inflate.distanceBits" = some 3 := by kernel_rfl
theorem gt_distanceBits : (Tryd.prog.globals[3]?).map (·.type) = some 94 := by kernel_rfl
theorem ct_distanceBits : Tryd.prog.cellsOf 94 = 30 := by kernel_rfl
def tl_distanceBits : List Nat := (List.range 30).map dmore
theorem is_distanceBits {W : World} (h : laidMet Tryd.prog [("winkle/inflate.order", Rows.laid_winkle_inflate_order), ("winkle/inflate.runLeast", Rows.laid_winkle_inflate_runLeast), ("winkle/inflate.runBits", Rows.laid_winkle_inflate_runBits), ("winkle/inflate.lengthLeast", Rows.laid_winkle_inflate_lengthLeast), ("winkle/inflate.lengthBits", Rows.laid_winkle_inflate_lengthBits), ("winkle/inflate.distanceLeast", Rows.laid_winkle_inflate_distanceLeast), ("winkle/inflate.distanceBits", Rows.laid_winkle_inflate_distanceBits)] W) : Lib.TabIs Tryd.prog W "winkle/inflate.distanceBits" .u8 (tl_distanceBits.map fun n : Nat => (n : Int)) := by
  have h2 := h.filter (fun x => x.1 == "winkle/inflate.distanceBits")
  exact Lib.tabIs_of_head (rest := []) g_distanceBits gt_distanceBits Tryd.underlying94 Tryd.underlying5 cells5b ct_distanceBits (show laidMet Tryd.prog [("winkle/inflate.distanceBits", Lib.tabData .u8 (tl_distanceBits.map fun n : Nat => (n : Int)))] W from h2)
theorem g_distanceLeast : Tryd.prog.globalNamed "winkle/inflate.distanceLeast" = some 4 := by kernel_rfl
theorem gt_distanceLeast : (Tryd.prog.globals[4]?).map (·.type) = some 95 := by kernel_rfl
theorem ct_distanceLeast : Tryd.prog.cellsOf 95 = 30 := by kernel_rfl
def tl_distanceLeast : List Nat := (List.range 30).map dbase
theorem is_distanceLeast {W : World} (h : laidMet Tryd.prog [("winkle/inflate.order", Rows.laid_winkle_inflate_order), ("winkle/inflate.runLeast", Rows.laid_winkle_inflate_runLeast), ("winkle/inflate.runBits", Rows.laid_winkle_inflate_runBits), ("winkle/inflate.lengthLeast", Rows.laid_winkle_inflate_lengthLeast), ("winkle/inflate.lengthBits", Rows.laid_winkle_inflate_lengthBits), ("winkle/inflate.distanceLeast", Rows.laid_winkle_inflate_distanceLeast), ("winkle/inflate.distanceBits", Rows.laid_winkle_inflate_distanceBits)] W) : Lib.TabIs Tryd.prog W "winkle/inflate.distanceLeast" .u16 (tl_distanceLeast.map fun n : Nat => (n : Int)) := by
  have h2 := h.filter (fun x => x.1 == "winkle/inflate.distanceLeast")
  exact Lib.tabIs_of_head (rest := []) g_distanceLeast gt_distanceLeast Tryd.underlying95 Tryd.underlying23 cells49b ct_distanceLeast (show laidMet Tryd.prog [("winkle/inflate.distanceLeast", Lib.tabData .u16 (tl_distanceLeast.map fun n : Nat => (n : Int)))] W from h2)
theorem g_runBits : Tryd.prog.globalNamed "winkle/inflate.runBits" = some 5 := by kernel_rfl
theorem gt_runBits : (Tryd.prog.globals[5]?).map (·.type) = some 96 := by kernel_rfl
theorem ct_runBits : Tryd.prog.cellsOf 96 = 3 := by kernel_rfl
def tl_runBits : List Nat := [2, 3, 7]
theorem is_runBits {W : World} (h : laidMet Tryd.prog [("winkle/inflate.order", Rows.laid_winkle_inflate_order), ("winkle/inflate.runLeast", Rows.laid_winkle_inflate_runLeast), ("winkle/inflate.runBits", Rows.laid_winkle_inflate_runBits), ("winkle/inflate.lengthLeast", Rows.laid_winkle_inflate_lengthLeast), ("winkle/inflate.lengthBits", Rows.laid_winkle_inflate_lengthBits), ("winkle/inflate.distanceLeast", Rows.laid_winkle_inflate_distanceLeast), ("winkle/inflate.distanceBits", Rows.laid_winkle_inflate_distanceBits)] W) : Lib.TabIs Tryd.prog W "winkle/inflate.runBits" .u8 (tl_runBits.map fun n : Nat => (n : Int)) := by
  have h2 := h.filter (fun x => x.1 == "winkle/inflate.runBits")
  exact Lib.tabIs_of_head (rest := []) g_runBits gt_runBits Tryd.underlying96 Tryd.underlying5 cells5b ct_runBits (show laidMet Tryd.prog [("winkle/inflate.runBits", Lib.tabData .u8 (tl_runBits.map fun n : Nat => (n : Int)))] W from h2)
theorem g_runLeast : Tryd.prog.globalNamed "winkle/inflate.runLeast" = some 6 := by kernel_rfl
theorem gt_runLeast : (Tryd.prog.globals[6]?).map (·.type) = some 96 := by kernel_rfl
theorem ct_runLeast : Tryd.prog.cellsOf 96 = 3 := by kernel_rfl
def tl_runLeast : List Nat := [3, 3, 11]
theorem is_runLeast {W : World} (h : laidMet Tryd.prog [("winkle/inflate.order", Rows.laid_winkle_inflate_order), ("winkle/inflate.runLeast", Rows.laid_winkle_inflate_runLeast), ("winkle/inflate.runBits", Rows.laid_winkle_inflate_runBits), ("winkle/inflate.lengthLeast", Rows.laid_winkle_inflate_lengthLeast), ("winkle/inflate.lengthBits", Rows.laid_winkle_inflate_lengthBits), ("winkle/inflate.distanceLeast", Rows.laid_winkle_inflate_distanceLeast), ("winkle/inflate.distanceBits", Rows.laid_winkle_inflate_distanceBits)] W) : Lib.TabIs Tryd.prog W "winkle/inflate.runLeast" .u8 (tl_runLeast.map fun n : Nat => (n : Int)) := by
  have h2 := h.filter (fun x => x.1 == "winkle/inflate.runLeast")
  exact Lib.tabIs_of_head (rest := []) g_runLeast gt_runLeast Tryd.underlying96 Tryd.underlying5 cells5b ct_runLeast (show laidMet Tryd.prog [("winkle/inflate.runLeast", Lib.tabData .u8 (tl_runLeast.map fun n : Nat => (n : Int)))] W from h2)
theorem tabs_of_laid {W : World} (h : laidMetH Tryd.prog [("winkle/inflate.order", Rows.laid_winkle_inflate_order), ("winkle/inflate.runLeast", Rows.laid_winkle_inflate_runLeast), ("winkle/inflate.runBits", Rows.laid_winkle_inflate_runBits), ("winkle/inflate.lengthLeast", Rows.laid_winkle_inflate_lengthLeast), ("winkle/inflate.lengthBits", Rows.laid_winkle_inflate_lengthBits), ("winkle/inflate.distanceLeast", Rows.laid_winkle_inflate_distanceLeast), ("winkle/inflate.distanceBits", Rows.laid_winkle_inflate_distanceBits)] W) : Tabs W := by
  have h : laidMet Tryd.prog [("winkle/inflate.order", Rows.laid_winkle_inflate_order), ("winkle/inflate.runLeast", Rows.laid_winkle_inflate_runLeast), ("winkle/inflate.runBits", Rows.laid_winkle_inflate_runBits), ("winkle/inflate.lengthLeast", Rows.laid_winkle_inflate_lengthLeast), ("winkle/inflate.lengthBits", Rows.laid_winkle_inflate_lengthBits), ("winkle/inflate.distanceLeast", Rows.laid_winkle_inflate_distanceLeast), ("winkle/inflate.distanceBits", Rows.laid_winkle_inflate_distanceBits)] W := h
  refine ⟨?_, ?_, ?_, ?_, ?_, ?_, ?_⟩
  · intro i hi
    rw [(is_lengthBits h).cell g_lengthBits i (by rw [List.length_map]; exact hi)]
    have e : ∀ i, i < 29 → (tl_lengthBits.map fun n : Nat => (n : Int)).getD i 0 = ((lmore (257 + i) : Nat) : Int) := by decide +kernel
    rw [e i hi]
  · intro i hi
    rw [(is_lengthLeast h).cell g_lengthLeast i (by rw [List.length_map]; exact hi)]
    have e : ∀ i, i < 29 → (tl_lengthLeast.map fun n : Nat => (n : Int)).getD i 0 = ((lbase (257 + i) : Nat) : Int) := by decide +kernel
    rw [e i hi]
  · intro i hi
    rw [(is_order h).cell g_order i (by rw [List.length_map]; exact hi)]
    have e : ∀ i, i < 19 → (tl_order.map fun n : Nat => (n : Int)).getD i 0 = ((ordr.getD i 0 : Nat) : Int) := by decide +kernel
    rw [e i hi]
  · intro i hi
    rw [(is_distanceBits h).cell g_distanceBits i (by rw [List.length_map]; exact hi)]
    have e : ∀ i, i < 30 → (tl_distanceBits.map fun n : Nat => (n : Int)).getD i 0 = ((dmore i : Nat) : Int) := by decide +kernel
    rw [e i hi]
  · intro i hi
    rw [(is_distanceLeast h).cell g_distanceLeast i (by rw [List.length_map]; exact hi)]
    have e : ∀ i, i < 30 → (tl_distanceLeast.map fun n : Nat => (n : Int)).getD i 0 = ((dbase i : Nat) : Int) := by decide +kernel
    rw [e i hi]
  · intro i hi
    rw [(is_runBits h).cell g_runBits i (by rw [List.length_map]; exact hi)]
    have e : ∀ i, i < 3 → (tl_runBits.map fun n : Nat => (n : Int)).getD i 0 = (([2, 3, 7].getD i 0 : Nat) : Int) := by decide +kernel
    rw [e i hi]
  · intro i hi
    rw [(is_runLeast h).cell g_runLeast i (by rw [List.length_map]; exact hi)]
    have e : ∀ i, i < 3 → (tl_runLeast.map fun n : Nat => (n : Int)).getD i 0 = (([3, 3, 11].getD i 0 : Nat) : Int) := by decide +kernel
    rw [e i hi]
end Go.Proofs.YtikdpnpkmmmacabDoor
