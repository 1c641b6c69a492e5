/-
  Own texts of this seat, one behind the other: what each says stands ahead of it.
-/
import Derived.Test.YtpihipbeagpgpaaGreatDoorMf
import Derived.Test.YtpihipbeagpgpaaGreatDoorMj
import Derived.Test.YtpihipbeagpgpaaGreatDoorRows
import Derived.Lib.LaidTab
import Derived.LaidMore
import Derived.LaidSub
import Derived.Laws.IdiomArrays
import Derived.Test.YtpihipbeagpgpaaGreatDoorMk
/-
 What the list of package-level variables gives: the tables of crc and of the inflater.
-/
namespace Go.Proofs.YtpihipbeagpgpaaGreatDoor
open Go.RowKit
set_option linter.unusedVariables false
theorem cells5b : Tryz.prog.cellsOf 5 = 1 := by kernel_rfl
theorem cells68b : Tryz.prog.cellsOf 68 = 1 := by kernel_rfl
theorem cells140b : Tryz.prog.cellsOf 140 = 1 := by kernel_rfl
theorem g_turns : Tryz.prog.globalNamed "winkle/crc.turns" = some 8 := by kernel_rfl
theorem gt_turns : (Tryz.prog.globals[8]?).map (·.type) = some 179 := by kernel_rfl
theorem ct_turns : Tryz.prog.cellsOf 179 = 16 := by kernel_rfl
def tl_turns : List Nat := tb
theorem is_turns {W : World} (h : laidMet Tryz.prog [("winkle/crc.turns", Rows.laid_winkle_crc_turns), ("winkle/inflate.order", Rows.laid_winkle_inflate_order), ("winkle/inflate.runLeast", Rows.laid_winkle_inflate_runLeast), ("winkle/inflate.runBits", Rows.laid_winkle_inflate_runBits), ("winkle/inflate.lengthLeast", Rows.laid_winkle_inflate_lengthLeast), ("winkle/inflate.lengthBits", Rows.laid_winkle_inflate_lengthBits), ("winkle/inflate.distanceLeast", Rows.laid_winkle_inflate_distanceLeast), ("winkle/inflate.distanceBits", Rows.laid_winkle_inflate_distanceBits), ("winkle/zip.overMagics", Rows.laid_winkle_zip_overMagics)] W) : Lib.TabIs Tryz.prog W "winkle/crc.turns" .u32 (tl_turns.map fun n : Nat => (n : Int)) := by
 have h2 := h.filter (fun x => x.1 == "winkle/crc.turns")
 exact Lib.tabIs_of_head (rest := []) g_turns gt_turns Tryz.underlying179 Tryz.underlying68 cells68b ct_turns (show laidMet Tryz.prog [("winkle/crc.turns", Lib.tabData .u32 (tl_turns.map fun n : Nat => (n : Int)))] W from h2)
theorem g_lengthBits : Tryz.prog.globalNamed "winkle/inflate.lengthBits" = some 1 := by kernel_rfl
theorem gt_lengthBits : (Tryz.prog.globals[1]?).map (·.type) = some 193 := by kernel_rfl
theorem ct_lengthBits : Tryz.prog.cellsOf 193 = 29 := by kernel_rfl
def tl_lengthBits : List Nat := (List.range 29).map fun i => lmore (257 + i)
theorem is_lengthBits {W : World} (h : laidMet Tryz.prog [("winkle/crc.turns", Rows.laid_winkle_crc_turns), ("winkle/inflate.order", Rows.laid_winkle_inflate_order), ("winkle/inflate.runLeast", Rows.laid_winkle_inflate_runLeast), ("winkle/inflate.runBits", Rows.laid_winkle_inflate_runBits), ("winkle/inflate.lengthLeast", Rows.laid_winkle_inflate_lengthLeast), ("winkle/inflate.lengthBits", Rows.laid_winkle_inflate_lengthBits), ("winkle/inflate.distanceLeast", Rows.laid_winkle_inflate_distanceLeast), ("winkle/inflate.distanceBits", Rows.laid_winkle_inflate_distanceBits), ("winkle/zip.overMagics", Rows.laid_winkle_zip_overMagics)] W) : Lib.TabIs Tryz.prog W "winkle/inflate.lengthBits" .u8 (tl_lengthBits.map fun n : Nat => (n : Int)) := by
 have h2 := h.filter (fun x => x.1 == "winkle/inflate.lengthBits")
 exact Lib.tabIs_of_head (rest := []) g_lengthBits gt_lengthBits Tryz.underlying193 Tryz.underlying5 cells5b ct_lengthBits (show laidMet Tryz.prog [("winkle/inflate.lengthBits", Lib.tabData .u8 (tl_lengthBits.map fun n : Nat => (n : Int)))] W from h2)
theorem g_lengthLeast : Tryz.prog.globalNamed "winkle/inflate.lengthLeast" = some 2 := by kernel_rfl
theorem gt_lengthLeast : (Tryz.prog.globals[2]?).map (·.type) = some 194 := by kernel_rfl
theorem ct_lengthLeast : Tryz.prog.cellsOf 194 = 29 := by kernel_rfl
def tl_lengthLeast : List Nat := (List.range 29).map fun i => lbase (257 + i)
theorem is_lengthLeast {W : World} (h : laidMet Tryz.prog [("winkle/crc.turns", Rows.laid_winkle_crc_turns), ("winkle/inflate.order", Rows.laid_winkle_inflate_order), ("winkle/inflate.runLeast", Rows.laid_winkle_inflate_runLeast), ("winkle/inflate.runBits", Rows.laid_winkle_inflate_runBits), ("winkle/inflate.lengthLeast", Rows.laid_winkle_inflate_lengthLeast), ("winkle/inflate.lengthBits", Rows.laid_winkle_inflate_lengthBits), ("winkle/inflate.distanceLeast", Rows.laid_winkle_inflate_distanceLeast), ("winkle/inflate.distanceBits", Rows.laid_winkle_inflate_distanceBits), ("winkle/zip.overMagics", Rows.laid_winkle_zip_overMagics)] W) : Lib.TabIs Tryz.prog W "winkle/inflate.lengthLeast" .u16 (tl_lengthLeast.map fun n : Nat => (n : Int)) := by
 have h2 := h.filter (fun x => x.1 == "winkle/inflate.lengthLeast")
 exact Lib.tabIs_of_head (rest := []) g_lengthLeast gt_lengthLeast Tryz.underlying194 Tryz.underlying140 cells140b ct_lengthLeast (show laidMet Tryz.prog [("winkle/inflate.lengthLeast", Lib.tabData .u16 (tl_lengthLeast.map fun n : Nat => (n : Int)))] W from h2)
theorem g_order : Tryz.prog.globalNamed "winkle/inflate.order" = some 3 := by kernel_rfl
theorem gt_order : (Tryz.prog.globals[3]?).map (·.type) = some 196 := by kernel_rfl
theorem ct_order : Tryz.prog.cellsOf 196 = 19 := by kernel_rfl
def tl_order : List Nat := ordr
theorem is_order {W : World} (h : laidMet Tryz.prog [("winkle/crc.turns", Rows.laid_winkle_crc_turns), ("winkle/inflate.order", Rows.laid_winkle_inflate_order), ("winkle/inflate.runLeast", Rows.laid_winkle_inflate_runLeast), ("winkle/inflate.runBits", Rows.laid_winkle_inflate_runBits), ("winkle/inflate.lengthLeast", Rows.laid_winkle_inflate_lengthLeast), ("winkle/inflate.lengthBits", Rows.laid_winkle_inflate_lengthBits), ("winkle/inflate.distanceLeast", Rows.laid_winkle_inflate_distanceLeast), ("winkle/inflate.distanceBits", Rows.laid_winkle_inflate_distanceBits), ("winkle/zip.overMagics", Rows.laid_winkle_zip_overMagics)] W) : Lib.TabIs Tryz.prog W "winkle/inflate.order" .u8 (tl_order.map fun n : Nat => (n : Int)) := by
 have h2 := h.filter (fun x => x.1 == "winkle/inflate.order")
 exact Lib.tabIs_of_head (rest := []) g_order gt_order Tryz.underlying196 Tryz.underlying5 cells5b ct_order (show laidMet Tryz.prog [("winkle/inflate.order", Lib.tabData .u8 (tl_order.map fun n : Nat => (n : Int)))] W from h2)
theorem g_distanceBits : Tryz.prog.globalNamed "winkle/inflate.distanceBits" = some 4 := by kernel_rfl
theorem gt_distanceBits : (Tryz.prog.globals[4]?).map (·.type) = some 203 := by kernel_rfl
theorem ct_distanceBits : Tryz.prog.cellsOf 203 = 30 := by kernel_rfl
def tl_distanceBits : List Nat := (List.range 30).map dmore
theorem is_distanceBits {W : World} (h : laidMet Tryz.prog [("winkle/crc.turns", Rows.laid_winkle_crc_turns), ("winkle/inflate.order", Rows.laid_winkle_inflate_order), ("winkle/inflate.runLeast", Rows.laid_winkle_inflate_runLeast), ("winkle/inflate.runBits", Rows.laid_winkle_inflate_runBits), ("winkle/inflate.lengthLeast", Rows.laid_winkle_inflate_lengthLeast), ("winkle/inflate.lengthBits", Rows.laid_winkle_inflate_lengthBits), ("winkle/inflate.distanceLeast", Rows.laid_winkle_inflate_distanceLeast), ("winkle/inflate.distanceBits", Rows.laid_winkle_inflate_distanceBits), ("winkle/zip.overMagics", Rows.laid_winkle_zip_overMagics)] W) : Lib.TabIs Tryz.prog W "winkle/inflate.distanceBits" .u8 (tl_distanceBits.map fun n : Nat => (n : Int)) := by
 have h2 := h.filter (fun x => x.1 == "winkle/inflate.distanceBits")
 exact Lib.tabIs_of_head (rest := []) g_distanceBits gt_distanceBits Tryz.underlying203 Tryz.underlying5 cells5b ct_distanceBits (show laidMet Tryz.prog [("winkle/inflate.distanceBits", Lib.tabData .u8 (tl_distanceBits.map fun n : Nat => (n : Int)))] W from h2)
theorem g_distanceLeast : Tryz.prog.globalNamed "winkle/inflate.distanceLeast" = some 5 := by kernel_rfl
theorem gt_distanceLeast : (Tryz.prog.globals[5]?).map (·.type) = some 204 := by kernel_rfl
theorem ct_distanceLeast : Tryz.prog.cellsOf 204 = 30 := by kernel_rfl
def tl_distanceLeast : List Nat := (List.range 30).map dbase
theorem is_distanceLeast {W : World} (h : laidMet Tryz.prog [("winkle/crc.turns", Rows.laid_winkle_crc_turns), ("winkle/inflate.order", Rows.laid_winkle_inflate_order), ("winkle/inflate.runLeast", Rows.laid_winkle_inflate_runLeast), ("winkle/inflate.runBits", Rows.laid_winkle_inflate_runBits), ("winkle/inflate.lengthLeast", Rows.laid_winkle_inflate_lengthLeast), ("winkle/inflate.lengthBits", Rows.laid_winkle_inflate_lengthBits), ("winkle/inflate.distanceLeast", Rows.laid_winkle_inflate_distanceLeast), ("winkle/inflate.distanceBits", Rows.laid_winkle_inflate_distanceBits), ("winkle/zip.overMagics", Rows.laid_winkle_zip_overMagics)] W) : Lib.TabIs Tryz.prog W "winkle/inflate.distanceLeast" .u16 (tl_distanceLeast.map fun n : Nat => (n : Int)) := by
 have h2 := h.filter (fun x => x.1 == "winkle/inflate.distanceLeast")
 exact Lib.tabIs_of_head (rest := []) g_distanceLeast gt_distanceLeast Tryz.underlying204 Tryz.underlying140 cells140b ct_distanceLeast (show laidMet Tryz.prog [("winkle/inflate.distanceLeast", Lib.tabData .u16 (tl_distanceLeast.map fun n : Nat => (n : Int)))] W from h2)
theorem g_runBits : Tryz.prog.globalNamed "winkle/inflate.runBits" = some 6 := by kernel_rfl
theorem gt_runBits : (Tryz.prog.globals[6]?).map (·.type) = some 205 := by kernel_rfl
theorem ct_runBits : Tryz.prog.cellsOf 205 = 3 := by kernel_rfl
def tl_runBits : List Nat := [2, 3, 7]
theorem is_runBits {W : World} (h : laidMet Tryz.prog [("winkle/crc.turns", Rows.laid_winkle_crc_turns), ("winkle/inflate.order", Rows.laid_winkle_inflate_order), ("winkle/inflate.runLeast", Rows.laid_winkle_inflate_runLeast), ("winkle/inflate.runBits", Rows.laid_winkle_inflate_runBits), ("winkle/inflate.lengthLeast", Rows.laid_winkle_inflate_lengthLeast), ("winkle/inflate.lengthBits", Rows.laid_winkle_inflate_lengthBits), ("winkle/inflate.distanceLeast", Rows.laid_winkle_inflate_distanceLeast), ("winkle/inflate.distanceBits", Rows.laid_winkle_inflate_distanceBits), ("winkle/zip.overMagics", Rows.laid_winkle_zip_overMagics)] W) : Lib.TabIs Tryz.prog W "winkle/inflate.runBits" .u8 (tl_runBits.map fun n : Nat => (n : Int)) := by
 have h2 := h.filter (fun x => x.1 == "winkle/inflate.runBits")
 exact Lib.tabIs_of_head (rest := []) g_runBits gt_runBits Tryz.underlying205 Tryz.underlying5 cells5b ct_runBits (show laidMet Tryz.prog [("winkle/inflate.runBits", Lib.tabData .u8 (tl_runBits.map fun n : Nat => (n : Int)))] W from h2)
theorem g_runLeast : Tryz.prog.globalNamed "winkle/inflate.runLeast" = some 7 := by kernel_rfl
theorem gt_runLeast : (Tryz.prog.globals[7]?).map (·.type) = some 205 := by kernel_rfl
theorem ct_runLeast : Tryz.prog.cellsOf 205 = 3 := by kernel_rfl
def tl_runLeast : List Nat := [3, 3, 11]
theorem is_runLeast {W : World} (h : laidMet Tryz.prog [("winkle/crc.turns", Rows.laid_winkle_crc_turns), ("winkle/inflate.order", Rows.laid_winkle_inflate_order), ("winkle/inflate.runLeast", Rows.laid_winkle_inflate_runLeast), ("winkle/inflate.runBits", Rows.laid_winkle_inflate_runBits), ("winkle/inflate.lengthLeast", Rows.laid_winkle_inflate_lengthLeast), ("winkle/inflate.lengthBits", Rows.laid_winkle_inflate_lengthBits), ("winkle/inflate.distanceLeast", Rows.laid_winkle_inflate_distanceLeast), ("winkle/inflate.distanceBits", Rows.laid_winkle_inflate_distanceBits), ("winkle/zip.overMagics", Rows.laid_winkle_zip_overMagics)] W) : Lib.TabIs Tryz.prog W "winkle/inflate.runLeast" .u8 (tl_runLeast.map fun n : Nat => (n : Int)) := by
 have h2 := h.filter (fun x => x.1 == "winkle/inflate.runLeast")
 exact Lib.tabIs_of_head (rest := []) g_runLeast gt_runLeast Tryz.underlying205 Tryz.underlying5 cells5b ct_runLeast (show laidMet Tryz.prog [("winkle/inflate.runLeast", Lib.tabData .u8 (tl_runLeast.map fun n : Nat => (n : Int)))] W from h2)
theorem cells9b : Tryz.prog.cellsOf 9 = 1 := by kernel_rfl
theorem g_magics : Tryz.prog.globalNamed "winkle/zip.overMagics" = some 0 := by kernel_rfl
theorem gt_magics : (Tryz.prog.globals[0]?).map (·.type) = some 129 := by kernel_rfl
theorem ct_magics : Tryz.prog.cellsOf 129 = 4 := by kernel_rfl
theorem len_of_trod {H : Type} {enc : TypeId × Value → H} {P : Program} {w : World} {base : Nat} {sp : Nat → Bool} {held : Bool} {fuel : Nat} {t e : TypeId} {n : Nat} {cs : List Value} {x : DataW H × List MemPlace} (ht : P.underlying t = some (.array n e)) (hce : P.cellsOf e = 1) (hct : P.cellsOf t = n) (h : DataW.trod enc P w base sp held fuel t cs = some x) : cs.length = n := by
 cases fuel with
 | zero => simp [DataW.trod] at h
 | succ fuel =>
  simp only [DataW.trod, ht, hce, hct, Nat.mul_one] at h
  split at h
  ·rename_i hl
   first | exact hl | simpa using hl
  ·cases h
theorem str_of {H : Type} {enc : TypeId × Value → H} {w : World} {base n : Nat} {sp : Nat → Bool} {held : Bool} {c : Value} {y : DataW H × List MemPlace} {l : List Nat} (h : DataW.trod enc Tryz.prog w base sp held n 9 [c] = some y) (hy : y.1 = .lit (.string (l.map UInt8.ofNat))) : c = .string (st l) := by
 obtain ⟨s, hc, hx, _⟩ := DataW.trod_string Tryz.underlying9 h
 rw [hx] at hy
 simp only [DataW.lit.injEq, Lit.string.injEq] at hy
 have e : s = st l := by
  have : s.data = (l.map UInt8.ofNat).toArray := by rw [← hy]
  cases s
  simp only at this
  rw [this]
  rfl
 rw [← e]
 simpa using hc
theorem mtab_of {W : World} (h : laidMet Tryz.prog [("winkle/crc.turns", Rows.laid_winkle_crc_turns), ("winkle/inflate.order", Rows.laid_winkle_inflate_order), ("winkle/inflate.runLeast", Rows.laid_winkle_inflate_runLeast), ("winkle/inflate.runBits", Rows.laid_winkle_inflate_runBits), ("winkle/inflate.lengthLeast", Rows.laid_winkle_inflate_lengthLeast), ("winkle/inflate.lengthBits", Rows.laid_winkle_inflate_lengthBits), ("winkle/inflate.distanceLeast", Rows.laid_winkle_inflate_distanceLeast), ("winkle/inflate.distanceBits", Rows.laid_winkle_inflate_distanceBits), ("winkle/zip.overMagics", Rows.laid_winkle_zip_overMagics)] W) : Mtab W := by
 have h2 := h.filter (fun x => x.1 == "winkle/zip.overMagics")
 have h3 : laidMet Tryz.prog [("winkle/zip.overMagics", Rows.laid_winkle_zip_overMagics)] W := h2
 obtain ⟨ps, ⟨g', t', cs, fuel, p, q, hg', ht', hvar, hd, _, _⟩, _⟩ := h3
 obtain rfl := Option.some.inj (g_magics.symm.trans hg')
 obtain rfl := Option.some.inj (gt_magics.symm.trans ht')
 have hc := World.var?_cell g_magics hvar
 have hlen : cs.toList.length = 4 := len_of_trod Tryz.underlying129 cells9b ct_magics hd
 obtain ⟨c0, c1, c2, c3, hcs⟩ : ∃ c0 c1 c2 c3, cs.toList = [c0, c1, c2, c3] := by
  match h : cs.toList, hlen with
  | [a, b, c, d], _ => exact ⟨a, b, c, d, rfl⟩
 rw [hcs] at hd
 obtain ⟨y0, y1, y2, y3, n, hx, h0, h1, h2, h3⟩ := ChangeShapes.trod_array4 Tryz.underlying129 cells9b hd
 have hx1 := congrArg Prod.fst hx
 unfold Rows.laid_winkle_zip_overMagics at hx1
 simp only [DataW.agg.injEq, List.cons.injEq, and_true] at hx1
 obtain ⟨e0, e1, e2, e3⟩ := hx1
 have r0 := str_of (l := [80, 75, 1, 2]) h0 e0.symm
 have r1 := str_of (l := [80, 75, 5, 6]) h1 e1.symm
 have r2 := str_of (l := [80, 75, 6, 6]) h2 e2.symm
 have r3 := str_of (l := [80, 75, 6, 7]) h3 e3.symm
 have ha : cs = #[c0, c1, c2, c3] := by
  cases cs
  simp only at hcs
  rw [hcs]
 rw [ha] at hc
 exact ⟨(hc 0).trans (by rw [r0]; rfl), (hc 1).trans (by rw [r1]; rfl), (hc 2).trans (by rw [r2]; rfl), (hc 3).trans (by rw [r3]; rfl)⟩
structure Wtabs (w : World) : Prop where
 tabs : Tabs w
 crc : Ctab w
 mag : Mtab w
 big : 9 ≤ w.heap.size
theorem wtabs_of_laid {W : World} (h : laidMetH Tryz.prog [("winkle/crc.turns", Rows.laid_winkle_crc_turns), ("winkle/inflate.order", Rows.laid_winkle_inflate_order), ("winkle/inflate.runLeast", Rows.laid_winkle_inflate_runLeast), ("winkle/inflate.runBits", Rows.laid_winkle_inflate_runBits), ("winkle/inflate.lengthLeast", Rows.laid_winkle_inflate_lengthLeast), ("winkle/inflate.lengthBits", Rows.laid_winkle_inflate_lengthBits), ("winkle/inflate.distanceLeast", Rows.laid_winkle_inflate_distanceLeast), ("winkle/inflate.distanceBits", Rows.laid_winkle_inflate_distanceBits), ("winkle/zip.overMagics", Rows.laid_winkle_zip_overMagics)] W) : Wtabs W := by
 have h : laidMet Tryz.prog [("winkle/crc.turns", Rows.laid_winkle_crc_turns), ("winkle/inflate.order", Rows.laid_winkle_inflate_order), ("winkle/inflate.runLeast", Rows.laid_winkle_inflate_runLeast), ("winkle/inflate.runBits", Rows.laid_winkle_inflate_runBits), ("winkle/inflate.lengthLeast", Rows.laid_winkle_inflate_lengthLeast), ("winkle/inflate.lengthBits", Rows.laid_winkle_inflate_lengthBits), ("winkle/inflate.distanceLeast", Rows.laid_winkle_inflate_distanceLeast), ("winkle/inflate.distanceBits", Rows.laid_winkle_inflate_distanceBits), ("winkle/zip.overMagics", Rows.laid_winkle_zip_overMagics)] W := h
 have ht : Tabs W := by
  refine ⟨?_, ?_, ?_, ?_, ?_, ?_, ?_⟩
  ·intro i hi
   rw [(is_lengthBits h).cell g_lengthBits i (by rw [List.length_map]; exact hi)]
   have e : ∀ i, i < 29 → (tl_lengthBits.map fun n : Nat => (n : Int)).getD i 0 = ((lmore (257 + i) : Nat) : Int) := by decide +kernel
   rw [e i hi]
  ·intro i hi
   rw [(is_lengthLeast h).cell g_lengthLeast i (by rw [List.length_map]; exact hi)]
   have e : ∀ i, i < 29 → (tl_lengthLeast.map fun n : Nat => (n : Int)).getD i 0 = ((lbase (257 + i) : Nat) : Int) := by decide +kernel
   rw [e i hi]
  ·intro i hi
   rw [(is_order h).cell g_order i (by rw [List.length_map]; exact hi)]
   have e : ∀ i, i < 19 → (tl_order.map fun n : Nat => (n : Int)).getD i 0 = ((ordr.getD i 0 : Nat) : Int) := by decide +kernel
   rw [e i hi]
  ·intro i hi
   rw [(is_distanceBits h).cell g_distanceBits i (by rw [List.length_map]; exact hi)]
   have e : ∀ i, i < 30 → (tl_distanceBits.map fun n : Nat => (n : Int)).getD i 0 = ((dmore i : Nat) : Int) := by decide +kernel
   rw [e i hi]
  ·intro i hi
   rw [(is_distanceLeast h).cell g_distanceLeast i (by rw [List.length_map]; exact hi)]
   have e : ∀ i, i < 30 → (tl_distanceLeast.map fun n : Nat => (n : Int)).getD i 0 = ((dbase i : Nat) : Int) := by decide +kernel
   rw [e i hi]
  ·intro i hi
   rw [(is_runBits h).cell g_runBits i (by rw [List.length_map]; exact hi)]
   have e : ∀ i, i < 3 → (tl_runBits.map fun n : Nat => (n : Int)).getD i 0 = (([2, 3, 7].getD i 0 : Nat) : Int) := by decide +kernel
   rw [e i hi]
  ·intro i hi
   rw [(is_runLeast h).cell g_runLeast i (by rw [List.length_map]; exact hi)]
   have e : ∀ i, i < 3 → (tl_runLeast.map fun n : Nat => (n : Int)).getD i 0 = (([3, 3, 11].getD i 0 : Nat) : Int) := by decide +kernel
   rw [e i hi]
 have hc : Ctab W := by
  refine (?_ : ∀ i, i < 16 → _)
  ·intro i hi
   rw [(is_turns h).cell g_turns i (by rw [List.length_map]; exact hi)]
   have e : ∀ i, i < 16 → (tl_turns.map fun n : Nat => (n : Int)).getD i 0 = ((tb.getD i 0 : Nat) : Int) := by decide +kernel
   rw [e i hi]
 exact ⟨ht, hc, mtab_of h, World.block_lt_of_cell? W ⟨8, 0, none⟩ (hc 0 (by decide))⟩
end Go.Proofs.YtpihipbeagpgpaaGreatDoor
