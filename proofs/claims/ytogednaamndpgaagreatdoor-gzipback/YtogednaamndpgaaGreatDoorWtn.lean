/-
  What the list of package-level variables gives: the tables of crc and of the inflater.
-/
import Derived.Test.YtogednaamndpgaaGreatDoorMf
import Derived.Test.YtogednaamndpgaaGreatDoorMk
import Derived.Test.YtogednaamndpgaaGreatDoorRows
import Derived.Lib.LaidTab
import Derived.LaidMore
import Derived.LaidSub
namespace Go.Proofs.YtogednaamndpgaaGreatDoor
open Go.RowKit
set_option linter.unusedVariables false
theorem cells5b : Tryz.prog.cellsOf 5 = 1 := by kernel_rfl
theorem cells63b : Tryz.prog.cellsOf 63 = 1 := by kernel_rfl
theorem cells105b : Tryz.prog.cellsOf 105 = 1 := by kernel_rfl
theorem g_turns : Tryz.prog.globalNamed "winkle/crc.turns" = some 0 := by kernel_rfl
theorem gt_turns : (Tryz.prog.globals[0]?).map (·.type) = some 152 := by kernel_rfl
theorem ct_turns : Tryz.prog.cellsOf 152 = 16 := by kernel_rfl
def tl_turns : List Nat := tb
theorem is_turns {W : World} (h : laidMet Tryz.prog [("winkle/crc.turns", Rows.laid_winkle_crc_turns), ("winkle/inflate.order", Rows.laid_winkle_inflate_order), ("winkle/inflate.runLeast", Rows.laid_winkle_inflate_runLeast), ("winkle/inflate.runBits", Rows.laid_winkle_inflate_runBits), ("winkle/inflate.lengthLeast", Rows.laid_winkle_inflate_lengthLeast), ("winkle/inflate.lengthBits", Rows.laid_winkle_inflate_lengthBits), ("winkle/inflate.distanceLeast", Rows.laid_winkle_inflate_distanceLeast), ("winkle/inflate.distanceBits", Rows.laid_winkle_inflate_distanceBits)] W) : Lib.TabIs Tryz.prog W "winkle/crc.turns" .u32 (tl_turns.map fun n : Nat => (n : Int)) := by
  have h2 := h.filter (fun x => x.1 == "winkle/crc.turns")
  exact Lib.tabIs_of_head (rest := []) g_turns gt_turns Tryz.underlying152 Tryz.underlying63 cells63b ct_turns (show laidMet Tryz.prog [("winkle/crc.turns", Lib.tabData .u32 (tl_turns.map fun n : Nat => (n : Int)))] W from h2)
theorem g_lengthBits : Tryz.prog.globalNamed "winkle/inflate.lengthBits" = some 1 := by kernel_rfl
theorem gt_lengthBits : (Tryz.prog.globals[1]?).map (·.type) = some 168 := by kernel_rfl
theorem ct_lengthBits : Tryz.prog.cellsOf 168 = 29 := by kernel_rfl
def tl_lengthBits : List Nat := (List.range 29).map fun i => lmore (257 + i)
theorem is_lengthBits {W : World} (h : laidMet Tryz.prog [("winkle/crc.turns", Rows.laid_winkle_crc_turns), ("winkle/inflate.order", Rows.laid_winkle_inflate_order), ("winkle/inflate.runLeast", Rows.laid_winkle_inflate_runLeast), ("winkle/inflate.runBits", Rows.laid_winkle_inflate_runBits), ("winkle/inflate.lengthLeast", Rows.laid_winkle_inflate_lengthLeast), ("winkle/inflate.lengthBits", Rows.laid_winkle_inflate_lengthBits), ("winkle/inflate.distanceLeast", Rows.laid_winkle_inflate_distanceLeast), ("winkle/inflate.distanceBits", Rows.laid_winkle_inflate_distanceBits)] W) : Lib.TabIs Tryz.prog W "winkle/inflate.lengthBits" .u8 (tl_lengthBits.map fun n : Nat => (n : Int)) := by
  have h2 := h.filter (fun x => x.1 == "winkle/inflate.lengthBits")
  exact Lib.tabIs_of_head (rest := []) g_lengthBits gt_lengthBits Tryz.underlying168 Tryz.underlying5 cells5b ct_lengthBits (show laidMet Tryz.prog [("winkle/inflate.lengthBits", Lib.tabData .u8 (tl_lengthBits.map fun n : Nat => (n : Int)))] W from h2)
theorem g_lengthLeast : Tryz.prog.globalNamed "winkle/inflate.lengthLeast" = some 2 := by kernel_rfl
theorem gt_lengthLeast : (Tryz.prog.globals[2]?).map (·.type) = some 169 := by kernel_rfl
theorem ct_lengthLeast : Tryz.prog.cellsOf 169 = 29 := by kernel_rfl
def tl_lengthLeast : List Nat := (List.range 29).map fun i => lbase (257 + i)
theorem is_lengthLeast {W : World} (h : laidMet Tryz.prog [("winkle/crc.turns", Rows.laid_winkle_crc_turns), ("winkle/inflate.order", Rows.laid_winkle_inflate_order), ("winkle/inflate.runLeast", Rows.laid_winkle_inflate_runLeast), ("winkle/inflate.runBits", Rows.laid_winkle_inflate_runBits), ("winkle/inflate.lengthLeast", Rows.laid_winkle_inflate_lengthLeast), ("winkle/inflate.lengthBits", Rows.laid_winkle_inflate_lengthBits), ("winkle/inflate.distanceLeast", Rows.laid_winkle_inflate_distanceLeast), ("winkle/inflate.distanceBits", Rows.laid_winkle_inflate_distanceBits)] W) : Lib.TabIs Tryz.prog W "winkle/inflate.lengthLeast" .u16 (tl_lengthLeast.map fun n : Nat => (n : Int)) := by
  have h2 := h.filter (fun x => x.1 == "winkle/inflate.lengthLeast")
  exact Lib.tabIs_of_head (rest := []) g_lengthLeast gt_lengthLeast Tryz.underlying169 Tryz.underlying105 cells105b ct_lengthLeast (show laidMet Tryz.prog [("winkle/inflate.lengthLeast", Lib.tabData .u16 (tl_lengthLeast.map fun n : Nat => (n : Int)))] W from h2)
theorem g_order : Tryz.prog.globalNamed "winkle/inflate.order" = some 3 := by kernel_rfl
theorem gt_order : (Tryz.prog.globals[3]?).map (·.type) = some 171 := by kernel_rfl
theorem ct_order : Tryz.prog.cellsOf 171 = 19 := by kernel_rfl
def tl_order : List Nat := ordr
theorem is_order {W : World} (h : laidMet Tryz.prog [("winkle/crc.turns", Rows.laid_winkle_crc_turns), ("winkle/inflate.order", Rows.laid_winkle_inflate_order), ("winkle/inflate.runLeast", Rows.laid_winkle_inflate_runLeast), ("winkle/inflate.runBits", Rows.laid_winkle_inflate_runBits), ("winkle/inflate.lengthLeast", Rows.laid_winkle_inflate_lengthLeast), ("winkle/inflate.lengthBits", Rows.laid_winkle_inflate_lengthBits), ("winkle/inflate.distanceLeast", Rows.laid_winkle_inflate_distanceLeast), ("winkle/inflate.distanceBits", Rows.laid_winkle_inflate_distanceBits)] W) : Lib.TabIs Tryz.prog W "winkle/inflate.order" .u8 (tl_order.map fun n : Nat => (n : Int)) := by
  have h2 := h.filter (fun x => x.1 == "winkle/inflate.order")
  exact Lib.tabIs_of_head (rest := []) g_order gt_order Tryz.underlying171 Tryz.underlying5 cells5b ct_order (show laidMet Tryz.prog [("winkle/inflate.order", Lib.tabData .u8 (tl_order.map fun n : Nat => (n : Int)))] W from h2)
theorem g_distanceBits : Tryz.prog.globalNamed "winkle/inflate.distanceBits" = some 4 := by kernel_rfl
theorem gt_distanceBits : (Tryz.prog.globals[4]?).map (·.type) = some 174 := by kernel_rfl
theorem ct_distanceBits : Tryz.prog.cellsOf 174 = 30 := by kernel_rfl
def tl_distanceBits : List Nat := (List.range 30).map dmore
theorem is_distanceBits {W : World} (h : laidMet Tryz.prog [("winkle/crc.turns", Rows.laid_winkle_crc_turns), ("winkle/inflate.order", Rows.laid_winkle_inflate_order), ("winkle/inflate.runLeast", Rows.laid_winkle_inflate_runLeast), ("winkle/inflate.runBits", Rows.laid_winkle_inflate_runBits), ("winkle/inflate.lengthLeast", Rows.laid_winkle_inflate_lengthLeast), ("winkle/inflate.lengthBits", Rows.laid_winkle_inflate_lengthBits), ("winkle/inflate.distanceLeast", Rows.laid_winkle_inflate_distanceLeast), ("winkle/inflate.distanceBits", Rows.laid_winkle_inflate_distanceBits)] W) : Lib.TabIs Tryz.prog W "winkle/inflate.distanceBits" .u8 (tl_distanceBits.map fun n : Nat => (n : Int)) := by
  have h2 := h.filter (fun x => x.1 == "winkle/inflate.distanceBits")
  exact Lib.tabIs_of_head (rest := []) g_distanceBits gt_distanceBits Tryz.underlying174 Tryz.underlying5 cells5b ct_distanceBits (show laidMet Tryz.prog [("winkle/inflate.distanceBits", Lib.tabData .u8 (tl_distanceBits.map fun n : Nat => (n : Int)))] W from h2)
theorem g_distanceLeast : Tryz.prog.globalNamed "winkle/inflate.distanceLeast" = some 5 := by kernel_rfl
theorem gt_distanceLeast : (Tryz.prog.globals[5]?).map (·.type) = some 175 := by kernel_rfl
theorem ct_distanceLeast : Tryz.prog.cellsOf 175 = 30 := by kernel_rfl
def tl_distanceLeast : List Nat := (List.range 30).map dbase
theorem is_distanceLeast {W : World} (h : laidMet Tryz.prog [("winkle/crc.turns", Rows.laid_winkle_crc_turns), ("winkle/inflate.order", Rows.laid_winkle_inflate_order), ("winkle/inflate.runLeast", Rows.laid_winkle_inflate_runLeast), ("winkle/inflate.runBits", Rows.laid_winkle_inflate_runBits), ("winkle/inflate.lengthLeast", Rows.laid_winkle_inflate_lengthLeast), ("winkle/inflate.lengthBits", Rows.laid_winkle_inflate_lengthBits), ("winkle/inflate.distanceLeast", Rows.laid_winkle_inflate_distanceLeast), ("winkle/inflate.distanceBits", Rows.laid_winkle_inflate_distanceBits)] W) : Lib.TabIs Tryz.prog W "winkle/inflate.distanceLeast" .u16 (tl_distanceLeast.map fun n : Nat => (n : Int)) := by
  have h2 := h.filter (fun x => x.1 == "winkle/inflate.distanceLeast")
  exact Lib.tabIs_of_head (rest := []) g_distanceLeast gt_distanceLeast Tryz.underlying175 Tryz.underlying105 cells105b ct_distanceLeast (show laidMet Tryz.prog [("winkle/inflate.distanceLeast", Lib.tabData .u16 (tl_distanceLeast.map fun n : Nat => (n : Int)))] W from h2)
theorem g_runBits : Tryz.prog.globalNamed "winkle/inflate.runBits" = some 6 := by kernel_rfl
theorem gt_runBits : (Tryz.prog.globals[6]?).map (·.type) = some 176 := by kernel_rfl
theorem ct_runBits : Tryz.prog.cellsOf 176 = 3 := by kernel_rfl
def tl_runBits : List Nat := [2, 3, 7]
theorem is_runBits {W : World} (h : laidMet Tryz.prog [("winkle/crc.turns", Rows.laid_winkle_crc_turns), ("winkle/inflate.order", Rows.laid_winkle_inflate_order), ("winkle/inflate.runLeast", Rows.laid_winkle_inflate_runLeast), ("winkle/inflate.runBits", Rows.laid_winkle_inflate_runBits), ("winkle/inflate.lengthLeast", Rows.laid_winkle_inflate_lengthLeast), ("winkle/inflate.lengthBits", Rows.laid_winkle_inflate_lengthBits), ("winkle/inflate.distanceLeast", Rows.laid_winkle_inflate_distanceLeast), ("winkle/inflate.distanceBits", Rows.laid_winkle_inflate_distanceBits)] W) : Lib.TabIs Tryz.prog W "winkle/inflate.runBits" .u8 (tl_runBits.map fun n : Nat => (n : Int)) := by
  have h2 := h.filter (fun x => x.1 == "winkle/inflate.runBits")
  exact Lib.tabIs_of_head (rest := []) g_runBits gt_runBits Tryz.underlying176 Tryz.underlying5 cells5b ct_runBits (show laidMet Tryz.prog [("winkle/inflate.runBits", Lib.tabData .u8 (tl_runBits.map fun n : Nat => (n : Int)))] W from h2)
theorem g_runLeast : Tryz.prog.globalNamed "winkle/inflate.runLeast" = some 7 := by kernel_rfl
theorem gt_runLeast : (Tryz.prog.globals[7]?).map (·.type) = some 176 := by kernel_rfl
theorem ct_runLeast : Tryz.prog.cellsOf 176 = 3 := by kernel_rfl
def tl_runLeast : List Nat := [3, 3, 11]
theorem is_runLeast {W : World} (h : laidMet Tryz.prog [("winkle/crc.turns", Rows.laid_winkle_crc_turns), ("winkle/inflate.order", Rows.laid_winkle_inflate_order), ("winkle/inflate.runLeast", Rows.laid_winkle_inflate_runLeast), ("winkle/inflate.runBits", Rows.laid_winkle_inflate_runBits), ("winkle/inflate.lengthLeast", Rows.laid_winkle_inflate_lengthLeast), ("winkle/inflate.lengthBits", Rows.laid_winkle_inflate_lengthBits), ("winkle/inflate.distanceLeast", Rows.laid_winkle_inflate_distanceLeast), ("winkle/inflate.distanceBits", Rows.laid_winkle_inflate_distanceBits)] W) : Lib.TabIs Tryz.prog W "winkle/inflate.runLeast" .u8 (tl_runLeast.map fun n : Nat => (n : Int)) := by
  have h2 := h.filter (fun x => x.1 == "winkle/inflate.runLeast")
  exact Lib.tabIs_of_head (rest := []) g_runLeast gt_runLeast Tryz.underlying176 Tryz.underlying5 cells5b ct_runLeast (show laidMet Tryz.prog [("winkle/inflate.runLeast", Lib.tabData .u8 (tl_runLeast.map fun n : Nat => (n : Int)))] W from h2)
structure Wtabs (w : World) : Prop where
  tabs : Tabs w
  crc : Ctab w
  big : 8 ≤ w.heap.size
theorem wtabs_of_laid {W : World} (h : laidMetH Tryz.prog [("winkle/crc.turns", Rows.laid_winkle_crc_turns), ("winkle/inflate.order", Rows.laid_winkle_inflate_order), ("winkle/inflate.runLeast", Rows.laid_winkle_inflate_runLeast), ("winkle/inflate.runBits", Rows.laid_winkle_inflate_runBits), ("winkle/inflate.lengthLeast", Rows.laid_winkle_inflate_lengthLeast), ("winkle/inflate.lengthBits", Rows.laid_winkle_inflate_lengthBits), ("winkle/inflate.distanceLeast", Rows.laid_winkle_inflate_distanceLeast), ("winkle/inflate.distanceBits", Rows.laid_winkle_inflate_distanceBits)] W) : Wtabs W := by
  have h : laidMet Tryz.prog [("winkle/crc.turns", Rows.laid_winkle_crc_turns), ("winkle/inflate.order", Rows.laid_winkle_inflate_order), ("winkle/inflate.runLeast", Rows.laid_winkle_inflate_runLeast), ("winkle/inflate.runBits", Rows.laid_winkle_inflate_runBits), ("winkle/inflate.lengthLeast", Rows.laid_winkle_inflate_lengthLeast), ("winkle/inflate.lengthBits", Rows.laid_winkle_inflate_lengthBits), ("winkle/inflate.distanceLeast", Rows.laid_winkle_inflate_distanceLeast), ("winkle/inflate.distanceBits", Rows.laid_winkle_inflate_distanceBits)] W := h
  have ht : Tabs W := by
    refine ⟨?_, ?_, ?_, ?_, ?_, ?_, ?_⟩
    · intro i hi
      rw [(is_lengthBits h).cell g_lengthBits i (by rw [List.length_map]; exact hi)]
      have e : ∀ i, i < 29 → (tl_lengthBits.map fun n : Nat => (n : Int)).getD i 0 = ((lmore (257 + i) : Nat) : Int) := by decide +kernel
      rw [e i hi]
    · intro i hi
      rw [(is_lengthLeast h).cell g_lengthLeast i (by rw [List.length_map]; exact hi)]
      have e : ∀ i, i < 29 → (tl_lengthLeast.map fun n : Nat => (n : Int)).getD i 0 = ((lbase (257 + i) : Nat) : Int) := by decide +kernel
      rw [e i hi]
    · intro i hi
      rw [(is_order h).cell g_order i (by rw [List.length_map]; exact hi)]
      have e : ∀ i, i < 19 → (tl_order.map fun n : Nat => (n : Int)).getD i 0 = ((ordr.getD i 0 : Nat) : Int) := by decide +kernel
      rw [e i hi]
    · intro i hi
      rw [(is_distanceBits h).cell g_distanceBits i (by rw [List.length_map]; exact hi)]
      have e : ∀ i, i < 30 → (tl_distanceBits.map fun n : Nat => (n : Int)).getD i 0 = ((dmore i : Nat) : Int) := by decide +kernel
      rw [e i hi]
    · intro i hi
      rw [(is_distanceLeast h).cell g_distanceLeast i (by rw [List.length_map]; exact hi)]
      have e : ∀ i, i < 30 → (tl_distanceLeast.map fun n : Nat => (n : Int)).getD i 0 = ((dbase i : Nat) : Int) := by decide +kernel
      rw [e i hi]
    · intro i hi
      rw [(is_runBits h).cell g_runBits i (by rw [List.length_map]; exact hi)]
      have e : ∀ i, i < 3 → (tl_runBits.map fun n : Nat => (n : Int)).getD i 0 = (([2, 3, 7].getD i 0 : Nat) : Int) := by decide +kernel
      rw [e i hi]
    · intro i hi
      rw [(is_runLeast h).cell g_runLeast i (by rw [List.length_map]; exact hi)]
      have e : ∀ i, i < 3 → (tl_runLeast.map fun n : Nat => (n : Int)).getD i 0 = (([3, 3, 11].getD i 0 : Nat) : Int) := by decide +kernel
      rw [e i hi]
  have hc : Ctab W := by
    refine (?_ : ∀ i, i < 16 → _)
    · intro i hi
      rw [(is_turns h).cell g_turns i (by rw [List.length_map]; exact hi)]
      have e : ∀ i, i < 16 → (tl_turns.map fun n : Nat => (n : Int)).getD i 0 = ((tb.getD i 0 : Nat) : Int) := by decide +kernel
      rw [e i hi]
  exact ⟨ht, hc, World.block_lt_of_cell? W ⟨7, 0, none⟩ (ht.t6 0 (by decide))⟩
end Go.Proofs.YtogednaamndpgaaGreatDoor
