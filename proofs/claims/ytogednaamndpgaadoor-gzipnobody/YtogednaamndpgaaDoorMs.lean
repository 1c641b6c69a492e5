/-
  Own texts of this seat, one behind the other: what each says stands ahead of it.
-/
import Derived.Test.YtogednaamndpgaaDoorMg
import Derived.Test.YtogednaamndpgaaDoorMl
import Derived.Test.YtogednaamndpgaaDoorRows
import Derived.Lib.LaidTab
import Derived.LaidMore
import Derived.LaidSub
import Derived.Test.YtogednaamndpgaaDoorMr
/-
  What the list of package-level variables gives: the tables of crc and of the inflater.
-/
namespace Go.Proofs.YtogednaamndpgaaDoor
open Go.RowKit
set_option linter.unusedVariables false
theorem cells5b : Tryd.prog.cellsOf 5 = 1 := by kernel_rfl
theorem cells34b : Tryd.prog.cellsOf 34 = 1 := by kernel_rfl
theorem cells97b : Tryd.prog.cellsOf 97 = 1 := by kernel_rfl
theorem g_turns : Tryd.prog.globalNamed "winkle/crc.turns" = some 0 := by kernel_rfl
theorem gt_turns : (Tryd.prog.globals[0]?).map (·.type) = some 59 := by kernel_rfl
theorem ct_turns : Tryd.prog.cellsOf 59 = 16 := by kernel_rfl
def tl_turns : List Nat := tb
theorem is_turns {W : World} (h : laidMet Tryd.prog [("winkle/crc.turns", Rows.laid_winkle_crc_turns), ("winkle/inflate.order", Rows.laid_winkle_inflate_order), ("winkle/inflate.runLeast", Rows.laid_winkle_inflate_runLeast), ("winkle/inflate.runBits", Rows.laid_winkle_inflate_runBits), ("winkle/inflate.lengthLeast", Rows.laid_winkle_inflate_lengthLeast), ("winkle/inflate.lengthBits", Rows.laid_winkle_inflate_lengthBits), ("winkle/inflate.distanceLeast", Rows.laid_winkle_inflate_distanceLeast), ("winkle/inflate.distanceBits", Rows.laid_winkle_inflate_distanceBits)] W) : Lib.TabIs Tryd.prog W "winkle/crc.turns" .u32 (tl_turns.map fun n : Nat => (n : Int)) := by
  have h2 := h.filter (fun x => x.1 == "winkle/crc.turns")
  exact Lib.tabIs_of_head (rest := []) g_turns gt_turns Tryd.underlying59 Tryd.underlying34 cells34b ct_turns (show laidMet Tryd.prog [("winkle/crc.turns", Lib.tabData .u32 (tl_turns.map fun n : Nat => (n : Int)))] W from h2)
theorem g_lengthBits : Tryd.prog.globalNamed "winkle/inflate.lengthBits" = some 1 := by kernel_rfl
theorem gt_lengthBits : (Tryd.prog.globals[1]?).map (·.type) = some 96 := by kernel_rfl
theorem ct_lengthBits : Tryd.prog.cellsOf 96 = 29 := by kernel_rfl
def tl_lengthBits : List Nat := (List.range 29).map fun i => lmore (257 + i)
theorem is_lengthBits {W : World} (h : laidMet Tryd.prog [("winkle/crc.turns", Rows.laid_winkle_crc_turns), ("winkle/inflate.order", Rows.laid_winkle_inflate_order), ("winkle/inflate.runLeast", Rows.laid_winkle_inflate_runLeast), ("winkle/inflate.runBits", Rows.laid_winkle_inflate_runBits), ("winkle/inflate.lengthLeast", Rows.laid_winkle_inflate_lengthLeast), ("winkle/inflate.lengthBits", Rows.laid_winkle_inflate_lengthBits), ("winkle/inflate.distanceLeast", Rows.laid_winkle_inflate_distanceLeast), ("winkle/inflate.distanceBits", Rows.laid_winkle_inflate_distanceBits)] W) : Lib.TabIs Tryd.prog W "winkle/inflate.lengthBits" .u8 (tl_lengthBits.map fun n : Nat => (n : Int)) := by
  have h2 := h.filter (fun x => x.1 == "winkle/inflate.lengthBits")
  exact Lib.tabIs_of_head (rest := []) g_lengthBits gt_lengthBits Tryd.underlying96 Tryd.underlying5 cells5b ct_lengthBits (show laidMet Tryd.prog [("winkle/inflate.lengthBits", Lib.tabData .u8 (tl_lengthBits.map fun n : Nat => (n : Int)))] W from h2)
theorem g_lengthLeast : Tryd.prog.globalNamed "winkle/inflate.lengthLeast" = some 2 := by kernel_rfl
theorem gt_lengthLeast : (Tryd.prog.globals[2]?).map (·.type) = some 98 := by kernel_rfl
theorem ct_lengthLeast : Tryd.prog.cellsOf 98 = 29 := by kernel_rfl
def tl_lengthLeast : List Nat := (List.range 29).map fun i => lbase (257 + i)
theorem is_lengthLeast {W : World} (h : laidMet Tryd.prog [("winkle/crc.turns", Rows.laid_winkle_crc_turns), ("winkle/inflate.order", Rows.laid_winkle_inflate_order), ("winkle/inflate.runLeast", Rows.laid_winkle_inflate_runLeast), ("winkle/inflate.runBits", Rows.laid_winkle_inflate_runBits), ("winkle/inflate.lengthLeast", Rows.laid_winkle_inflate_lengthLeast), ("winkle/inflate.lengthBits", Rows.laid_winkle_inflate_lengthBits), ("winkle/inflate.distanceLeast", Rows.laid_winkle_inflate_distanceLeast), ("winkle/inflate.distanceBits", Rows.laid_winkle_inflate_distanceBits)] W) : Lib.TabIs Tryd.prog W "winkle/inflate.lengthLeast" .u16 (tl_lengthLeast.map fun n : Nat => (n : Int)) := by
  have h2 := h.filter (fun x => x.1 == "winkle/inflate.lengthLeast")
  exact Lib.tabIs_of_head (rest := []) g_lengthLeast gt_lengthLeast Tryd.underlying98 Tryd.underlying97 cells97b ct_lengthLeast (show laidMet Tryd.prog [("winkle/inflate.lengthLeast", Lib.tabData .u16 (tl_lengthLeast.map fun n : Nat => (n : Int)))] W from h2)
theorem g_order : Tryd.prog.globalNamed "winkle/inflate.order" = some 3 := by kernel_rfl
theorem gt_order : (Tryd.prog.globals[3]?).map (·.type) = some 100 := by kernel_rfl
theorem ct_order : Tryd.prog.cellsOf 100 = 19 := by kernel_rfl
def tl_order : List Nat := ordr
theorem is_order {W : World} (h : laidMet Tryd.prog [("winkle/crc.turns", Rows.laid_winkle_crc_turns), ("winkle/inflate.order", Rows.laid_winkle_inflate_order), ("winkle/inflate.runLeast", Rows.laid_winkle_inflate_runLeast), ("winkle/inflate.runBits", Rows.laid_winkle_inflate_runBits), ("winkle/inflate.lengthLeast", Rows.laid_winkle_inflate_lengthLeast), ("winkle/inflate.lengthBits", Rows.laid_winkle_inflate_lengthBits), ("winkle/inflate.distanceLeast", Rows.laid_winkle_inflate_distanceLeast), ("winkle/inflate.distanceBits", Rows.laid_winkle_inflate_distanceBits)] W) : Lib.TabIs Tryd.prog W "winkle/inflate.order" .u8 (tl_order.map fun n : Nat => (n : Int)) := by
  have h2 := h.filter (fun x => x.1 == "winkle/inflate.order")
  exact Lib.tabIs_of_head (rest := []) g_order gt_order Tryd.underlying100 Tryd.underlying5 cells5b ct_order (show laidMet Tryd.prog [("winkle/inflate.order", Lib.tabData .u8 (tl_order.map fun n : Nat => (n : Int)))] W from h2)
theorem g_distanceBits : Tryd.prog.globalNamed "winkle/inflate.distanceBits" = some 4 := by kernel_rfl
theorem gt_distanceBits : (Tryd.prog.globals[4]?).map (·.type) = some 105 := by kernel_rfl
theorem ct_distanceBits : Tryd.prog.cellsOf 105 = 30 := by kernel_rfl
def tl_distanceBits : List Nat := (List.range 30).map dmore
theorem is_distanceBits {W : World} (h : laidMet Tryd.prog [("winkle/crc.turns", Rows.laid_winkle_crc_turns), ("winkle/inflate.order", Rows.laid_winkle_inflate_order), ("winkle/inflate.runLeast", Rows.laid_winkle_inflate_runLeast), ("winkle/inflate.runBits", Rows.laid_winkle_inflate_runBits), ("winkle/inflate.lengthLeast", Rows.laid_winkle_inflate_lengthLeast), ("winkle/inflate.lengthBits", Rows.laid_winkle_inflate_lengthBits), ("winkle/inflate.distanceLeast", Rows.laid_winkle_inflate_distanceLeast), ("winkle/inflate.distanceBits", Rows.laid_winkle_inflate_distanceBits)] W) : Lib.TabIs Tryd.prog W "winkle/inflate.distanceBits" .u8 (tl_distanceBits.map fun n : Nat => (n : Int)) := by
  have h2 := h.filter (fun x => x.1 == "winkle/inflate.distanceBits")
  exact Lib.tabIs_of_head (rest := []) g_distanceBits gt_distanceBits Tryd.underlying105 Tryd.underlying5 cells5b ct_distanceBits (show laidMet Tryd.prog [("winkle/inflate.distanceBits", Lib.tabData .u8 (tl_distanceBits.map fun n : Nat => (n : Int)))] W from h2)
theorem g_distanceLeast : Tryd.prog.globalNamed "winkle/inflate.distanceLeast" = some 5 := by kernel_rfl
theorem gt_distanceLeast : (Tryd.prog.globals[5]?).map (·.type) = some 106 := by kernel_rfl
theorem ct_distanceLeast : Tryd.prog.cellsOf 106 = 30 := by kernel_rfl
def tl_distanceLeast : List Nat := (List.range 30).map dbase
theorem is_distanceLeast {W : World} (h : laidMet Tryd.prog [("winkle/crc.turns", Rows.laid_winkle_crc_turns), ("winkle/inflate.order", Rows.laid_winkle_inflate_order), ("winkle/inflate.runLeast", Rows.laid_winkle_inflate_runLeast), ("winkle/inflate.runBits", Rows.laid_winkle_inflate_runBits), ("winkle/inflate.lengthLeast", Rows.laid_winkle_inflate_lengthLeast), ("winkle/inflate.lengthBits", Rows.laid_winkle_inflate_lengthBits), ("winkle/inflate.distanceLeast", Rows.laid_winkle_inflate_distanceLeast), ("winkle/inflate.distanceBits", Rows.laid_winkle_inflate_distanceBits)] W) : Lib.TabIs Tryd.prog W "winkle/inflate.distanceLeast" .u16 (tl_distanceLeast.map fun n : Nat => (n : Int)) := by
  have h2 := h.filter (fun x => x.1 == "winkle/inflate.distanceLeast")
  exact Lib.tabIs_of_head (rest := []) g_distanceLeast gt_distanceLeast Tryd.underlying106 Tryd.underlying97 cells97b ct_distanceLeast (show laidMet Tryd.prog [("winkle/inflate.distanceLeast", Lib.tabData .u16 (tl_distanceLeast.map fun n : Nat => (n : Int)))] W from h2)
theorem g_runBits : Tryd.prog.globalNamed "winkle/inflate.runBits" = some 6 := by kernel_rfl
theorem gt_runBits : (Tryd.prog.globals[6]?).map (·.type) = some 107 := by kernel_rfl
theorem ct_runBits : Tryd.prog.cellsOf 107 = 3 := by kernel_rfl
def tl_runBits : List Nat := [2, 3, 7]
theorem is_runBits {W : World} (h : laidMet Tryd.prog [("winkle/crc.turns", Rows.laid_winkle_crc_turns), ("winkle/inflate.order", Rows.laid_winkle_inflate_order), ("winkle/inflate.runLeast", Rows.laid_winkle_inflate_runLeast), ("winkle/inflate.runBits", Rows.laid_winkle_inflate_runBits), ("winkle/inflate.lengthLeast", Rows.laid_winkle_inflate_lengthLeast), ("winkle/inflate.lengthBits", Rows.laid_winkle_inflate_lengthBits), ("winkle/inflate.distanceLeast", Rows.laid_winkle_inflate_distanceLeast), ("winkle/inflate.distanceBits", Rows.laid_winkle_inflate_distanceBits)] W) : Lib.TabIs Tryd.prog W "winkle/inflate.runBits" .u8 (tl_runBits.map fun n : Nat => (n : Int)) := by
  have h2 := h.filter (fun x => x.1 == "winkle/inflate.runBits")
  exact Lib.tabIs_of_head (rest := []) g_runBits gt_runBits Tryd.underlying107 Tryd.underlying5 cells5b ct_runBits (show laidMet Tryd.prog [("winkle/inflate.runBits", Lib.tabData .u8 (tl_runBits.map fun n : Nat => (n : Int)))] W from h2)
theorem g_runLeast : Tryd.prog.globalNamed "winkle/inflate.runLeast" = some 7 := by kernel_rfl
theorem gt_runLeast : (Tryd.prog.globals[7]?).map (·.type) = some 107 := by kernel_rfl
theorem ct_runLeast : Tryd.prog.cellsOf 107 = 3 := by kernel_rfl
def tl_runLeast : List Nat := [3, 3, 11]
theorem is_runLeast {W : World} (h : laidMet Tryd.prog [("winkle/crc.turns", Rows.laid_winkle_crc_turns), ("winkle/inflate.order", Rows.laid_winkle_inflate_order), ("winkle/inflate.runLeast", Rows.laid_winkle_inflate_runLeast), ("winkle/inflate.runBits", Rows.laid_winkle_inflate_runBits), ("winkle/inflate.lengthLeast", Rows.laid_winkle_inflate_lengthLeast), ("winkle/inflate.lengthBits", Rows.laid_winkle_inflate_lengthBits), ("winkle/inflate.distanceLeast", Rows.laid_winkle_inflate_distanceLeast), ("winkle/inflate.distanceBits", Rows.laid_winkle_inflate_distanceBits)] W) : Lib.TabIs Tryd.prog W "winkle/inflate.runLeast" .u8 (tl_runLeast.map fun n : Nat => (n : Int)) := by
  have h2 := h.filter (fun x => x.1 == "winkle/inflate.runLeast")
  exact Lib.tabIs_of_head (rest := []) g_runLeast gt_runLeast Tryd.underlying107 Tryd.underlying5 cells5b ct_runLeast (show laidMet Tryd.prog [("winkle/inflate.runLeast", Lib.tabData .u8 (tl_runLeast.map fun n : Nat => (n : Int)))] W from h2)
/-- What the tables hold. -/
structure Wtabs (w : World) : Prop where
  tabs : Tabs w
  crc : Ctab w
  big : 8 ≤ w.heap.size
theorem wtabs_of_laid {W : World} (h : laidMetH Tryd.prog [("winkle/crc.turns", Rows.laid_winkle_crc_turns), ("winkle/inflate.order", Rows.laid_winkle_inflate_order), ("winkle/inflate.runLeast", Rows.laid_winkle_inflate_runLeast), ("winkle/inflate.runBits", Rows.laid_winkle_inflate_runBits), ("winkle/inflate.lengthLeast", Rows.laid_winkle_inflate_lengthLeast), ("winkle/inflate.lengthBits", Rows.laid_winkle_inflate_lengthBits), ("winkle/inflate.distanceLeast", Rows.laid_winkle_inflate_distanceLeast), ("winkle/inflate.distanceBits", Rows.laid_winkle_inflate_distanceBits)] W) : Wtabs W := by
  have h : laidMet Tryd.prog [("winkle/crc.turns", Rows.laid_winkle_crc_turns), ("winkle/inflate.order", Rows.laid_winkle_inflate_order), ("winkle/inflate.runLeast", Rows.laid_winkle_inflate_runLeast), ("winkle/inflate.runBits", Rows.laid_winkle_inflate_runBits), ("winkle/inflate.lengthLeast", Rows.laid_winkle_inflate_lengthLeast), ("winkle/inflate.lengthBits", Rows.laid_winkle_inflate_lengthBits), ("winkle/inflate.distanceLeast", Rows.laid_winkle_inflate_distanceLeast), ("winkle/inflate.distanceBits", Rows.laid_winkle_inflate_distanceBits)] W := h
  have ht : Tabs W := by
    refine ⟨?_, ?_, ?_, ?_, ?_, ?_, ?_⟩
    · intro i hi
      rw [(is_lengthBits h).cell g_lengthBits i (by rw [List.length_map]; exact hi)]
      have e : ∀ i, i < 29 → (tl_lengthBits.map fun n : Nat => (n : Int)).getD i 0 = ((lmore (257 + i) : Nat) : Int) := by decide +kernel
      rw [e i hi]
    · intro i hi
      rw [(is_lengthLeast h).cell g_lengthLeast i (by rw [List.length_map]; exact hi)]
      have e : ∀ i, i < 29 → (tl_lengthLeast.map fun n : Nat => (n : Int)).getD i 0 = ((lbase (257 + i) : Nat) : Int) := by decide +kernel
      rw [e i hi]
    · intro i hi
      rw [(is_order h).cell g_order i (by rw [List.length_map]; exact hi)]
      have e : ∀ i, i < 19 → (tl_order.map fun n : Nat => (n : Int)).getD i 0 = ((ordr.getD i 0 : Nat) : Int) := by decide +kernel
      rw [e i hi]
    · intro i hi
      rw [(is_distanceBits h).cell g_distanceBits i (by rw [List.length_map]; exact hi)]
      have e : ∀ i, i < 30 → (tl_distanceBits.map fun n : Nat => (n : Int)).getD i 0 = ((dmore i : Nat) : Int) := by decide +kernel
      rw [e i hi]
    · intro i hi
      rw [(is_distanceLeast h).cell g_distanceLeast i (by rw [List.length_map]; exact hi)]
      have e : ∀ i, i < 30 → (tl_distanceLeast.map fun n : Nat => (n : Int)).getD i 0 = ((dbase i : Nat) : Int) := by decide +kernel
      rw [e i hi]
    · intro i hi
      rw [(is_runBits h).cell g_runBits i (by rw [List.length_map]; exact hi)]
      have e : ∀ i, i < 3 → (tl_runBits.map fun n : Nat => (n : Int)).getD i 0 = (([2, 3, 7].getD i 0 : Nat) : Int) := by decide +kernel
      rw [e i hi]
    · intro i hi
      rw [(is_runLeast h).cell g_runLeast i (by rw [List.length_map]; exact hi)]
      have e : ∀ i, i < 3 → (tl_runLeast.map fun n : Nat => (n : Int)).getD i 0 = (([3, 3, 11].getD i 0 : Nat) : Int) := by decide +kernel
      rw [e i hi]
  have hc : Ctab W := by
    refine (?_ : ∀ i, i < 16 → _)
    · intro i hi
      rw [(is_turns h).cell g_turns i (by rw [List.length_map]; exact hi)]
      have e : ∀ i, i < 16 → (tl_turns.map fun n : Nat => (n : Int)).getD i 0 = ((tb.getD i 0 : Nat) : Int) := by decide +kernel
      rw [e i hi]
  exact ⟨ht, hc, World.block_lt_of_cell? W ⟨7, 0, none⟩ (ht.t6 0 (by decide))⟩
end Go.Proofs.YtogednaamndpgaaDoor

/-
  A walker that is not there: what the law asks of it.
-/
namespace Go.Proofs.YtogednaamndpgaaDoor
open Go.RowKit
set_option linter.unusedVariables false
theorem none_open (w : World) : Calls Tryd.prog 10 #[.pointer none] w fun e w' => e = .returned (.bool false) ∧ w = w' := by
  go_enter Tryd.func10, Tryd.ntmps10
  go_wp2_with fail
  first | go_ret | go_ret2
  exact ⟨rfl, rfl⟩
theorem none_put (x : Int) (w : World) : Calls Tryd.prog 7 #[.pointer none, .int .u8 x] w fun e w' => e = .returned (.bool false) ∧ w = w' := by
  have ko := none_open w
  go_enter Tryd.func7, Tryd.ntmps7
  go_wp2_with (go_at_call 10; refine ko.mono ?_; rintro e2 w2 ⟨rfl, rfl⟩)
  first | go_ret | go_ret2
  exact ⟨rfl, rfl⟩
theorem none_end (w : World) : Calls Tryd.prog 4 #[.pointer none] w fun e w' => e = .returned (.tuple #[]) ∧ w = w' := by
  have ko := none_open w
  go_enter Tryd.func4, Tryd.ntmps4
  go_wp2_with (go_at_call 10; refine ko.mono ?_; rintro e2 w2 ⟨rfl, rfl⟩)
  first | go_end0 | (refine bodyPost_ret (results_none rfl _ _ _) rfl ?_)
  exact ⟨rfl, rfl⟩
theorem none_reset (w : World) : Calls Tryd.prog 5 #[.pointer none] w fun e w' => e = .returned (.tuple #[]) ∧ w = w' := by
  go_enter Tryd.func5, Tryd.ntmps5
  go_wp2_with fail
  first | go_end0 | (refine bodyPost_ret (results_none rfl _ _ _) rfl ?_)
  exact ⟨rfl, rfl⟩
theorem none_reason (w : World) : Calls Tryd.prog 8 #[.pointer none] w fun e w' => e = .returned (.int .i64 0) ∧ w = w' := by
  go_enter Tryd.func8, Tryd.ntmps8
  go_wp2_with fail
  first | go_ret | go_ret2
  exact ⟨rfl, rfl⟩
set_option maxHeartbeats 1000000 in
theorem none_next (w : World) : Calls Tryd.prog 6 #[.pointer none] w fun e w' => e = .returned (.tuple #[.agg z5, .bool false]) ∧ Below w.heap.size w w' := by
  obtain ⟨H, hH⟩ : ∃ H, w.heap.size = H := ⟨_, rfl⟩
  have hC := Cells.new w z5 24
  have hbel : Below w.heap.size w (w.alloc (.cells z5 24)) := (Below.refl _ w).alloc (Nat.le_refl _) _
  rw [hH] at hC
  obtain ⟨w1, hw1⟩ : ∃ w1, w.alloc (.cells z5 24) = w1 := ⟨_, rfl⟩
  rw [hw1] at hC hbel
  have e0 : w1.cell? ⟨H, 0, none⟩ = some (.int .i64 0) := (hC.cell 0).trans rfl
  have e1 : w1.cell? ⟨H, 1, none⟩ = some (.int .u8 0) := (hC.cell 1).trans rfl
  have e2 : w1.cell? ⟨H, 2, none⟩ = some (.int .i64 0) := (hC.cell 2).trans rfl
  have e3 : w1.cell? ⟨H, 3, none⟩ = some (.int .i64 0) := (hC.cell 3).trans rfl
  have e4 : w1.cell? ⟨H, 4, none⟩ = some (.string ⟨#[]⟩) := (hC.cell 4).trans rfl
  have z0 := hC.frozen 0
  have z1 := hC.frozen 1
  have z2 := hC.frozen 2
  have z3 := hC.frozen 3
  have z4 := hC.frozen 4
  have A1 : Aside (Cells w1 H z5 24 ∧ Below w.heap.size w w1) := ⟨hC, hbel⟩
  have AH : Aside (w.heap.size = H) := hH
  clear hC hbel
  unfold z5 at hw1
  go_enter Tryd.func6, Tryd.ntmps6
  go_upto_region 1 with fail
  clear hw1
  go_wp2_with fail
  (try simp only [Exit.inBlock, Exit.then])
  obtain ⟨a2, a3⟩ := A1.out
  have hC2 := set5 a2 (.int .i64 0) (.int .u8 0) (.int .i64 0) (.int .i64 0) (.string ⟨#[]⟩)
  have o5 := only_five H w1 (.int .i64 0) (.int .u8 0) (.int .i64 0) (.int .i64 0) (.string ⟨#[]⟩)
  refine bodyPost_ret (v := .tuple #[.agg z5, .bool false]) ?_ rfl ?_
  · rw [results_cell_tmp rfl]
    simp [asAddr, Result.andThen, ret43 hC2 rfl, z5]
  · exact ⟨rfl, a3.trans (o5.below (by rw [AH.out]; exact Nat.le_refl _))⟩
set_option maxHeartbeats 2000000 in
theorem nobody_core (w : World) (h : Wtabs w) (x : Int) : Calls Tryd.prog 3 #[.int .u8 x] w fun e w' => e = .returned (.bool true) ∧ Below w.heap.size w w' := by
  have ke := none_end w
  have kr := none_reset w
  have kn := none_next w
  unfold z5 at kn
  have A : Aside (Wtabs w) := h
  clear h
  go_enter Tryd.func3, Tryd.ntmps3
  go_upto_region 5 with (first
    | (go_at_call 4; refine ke.mono ?_; rintro e1 w1 ⟨rfl, rfl⟩)
    | (go_at_call 5; refine kr.mono ?_; rintro e2 w2 ⟨rfl, rfl⟩)
    | (go_at_call 6; refine kn.mono ?_; rintro e3 w3 ⟨rfl, b3⟩))
  obtain ⟨H, hH⟩ : ∃ H, w3.heap.size = H := ⟨_, rfl⟩
  have b4 : Below w3.heap.size w3 (w3.alloc (.cells z5 24)) := (Below.refl _ w3).alloc (Nat.le_refl _) _
  have hC := Cells.new w3 z5 24
  rw [hH] at hC
  obtain ⟨w4, hw4⟩ : ∃ w4, w3.alloc (.cells z5 24) = w4 := ⟨_, rfl⟩
  rw [hw4] at b4 hC
  have bel : Below w.heap.size w w4 := b3.trans (b4.mono b3.size)
  have d0 : w4.cell? ⟨H, 0, none⟩ = some (.int .i64 0) := (hC.cell 0).trans rfl
  have d1 : w4.cell? ⟨H, 1, none⟩ = some (.int .u8 0) := (hC.cell 1).trans rfl
  have d2 : w4.cell? ⟨H, 2, none⟩ = some (.int .i64 0) := (hC.cell 2).trans rfl
  have d3 : w4.cell? ⟨H, 3, none⟩ = some (.int .i64 0) := (hC.cell 3).trans rfl
  have d4 : w4.cell? ⟨H, 4, none⟩ = some (.string ⟨#[]⟩) := (hC.cell 4).trans rfl
  have ka := wawake_c w4 (A.out.tabs.below bel A.out.big) (A.out.crc.below bel (by have := A.out.big; omega)) (Nat.le_trans A.out.big bel.size)
  have A2 : Aside (Below w.heap.size w w4) := bel
  unfold z5 at hw4
  rw [hw4, hH]
  clear hw4 hH b3 b4 hC bel ke kr kn
  go_wp2_with (first
    | (go_at_call 7; refine (none_put _ _).mono ?_; rintro e5 w5 ⟨rfl, rfl⟩)
    | (go_at_call 8; refine (none_reason _).mono ?_; rintro e6 w6 ⟨rfl, rfl⟩)
    | (go_at_call 9; refine ka.mono ?_; rintro e7 w7 ⟨rfl, b7⟩))
  first | go_ret | go_ret2
  exact ⟨rfl, A2.out.trans (b7.mono A2.out.size)⟩
end Go.Proofs.YtogednaamndpgaaDoor
