/-
  What the list of package-level variables gives: the errors of strconv.
-/
import Derived.Test.YtcmmjbkgoafbnaaGreatDoorWpa
import Derived.Test.YtcmmjbkgoafbnaaGreatDoorRows
import Derived.Lib.LaidTab
import Derived.LaidMore
import Derived.LaidSub
namespace Go.Proofs.YtcmmjbkgoafbnaaGreatDoor
open Go.RowKit
set_option linter.unusedVariables false
theorem g_syntax : Tryz.prog.globalNamed "strconv.ErrSyntax" = some 1 := by kernel_rfl
theorem g_range : Tryz.prog.globalNamed "strconv.ErrRange" = some 2 := by kernel_rfl
theorem gt_syntax : (Tryz.prog.globals[1]?).map (·.type) = some 104 := by kernel_rfl
theorem gt_range : (Tryz.prog.globals[2]?).map (·.type) = some 104 := by kernel_rfl
theorem sent_of {W : World} {nm name : String} {g : Nat} {d : DataW Unit} {rest : List (String × DataW Unit)} {ms : Array (String × TypeId)} (hg : Tryz.prog.globalNamed nm = some g) (hty : (Tryz.prog.globals[g]?).map (·.type) = some 104) (hi : Tryz.prog.underlying 104 = some (.interface ms)) (h : laidMet Tryz.prog ((nm, .iface name d) :: rest) W) : ∃ u v, W.cell? ⟨g, 0, none⟩ = some (.iface u v) := by
  obtain ⟨ps, ⟨g', t', cs, fuel, p, q, hg', ht', hvar, hd, _, _⟩, _⟩ := h
  obtain rfl := Option.some.inj (hg.symm.trans hg')
  obtain rfl := Option.some.inj (hty.symm.trans ht')
  obtain ⟨_, u, v, hcs, _, _⟩ := iface_of_trod hi hd
  have hc := World.var?_cell hg hvar 0
  refine ⟨u, v, hc.trans ?_⟩
  have : cs = #[.iface u v] := by cases cs; simp_all
  rw [this]; rfl
theorem er_of {W : World} {l : List (String × DataW Unit)} (hl1 : (l.filter fun x => x.1 == "strconv.ErrSyntax") = [("strconv.ErrSyntax", Rows.laid_strconv_ErrSyntax)]) (hl2 : (l.filter fun x => x.1 == "strconv.ErrRange") = [("strconv.ErrRange", Rows.laid_strconv_ErrRange)]) (h : laidMet Tryz.prog l W) : Er W := by
  have h1 := h.filter (fun x => x.1 == "strconv.ErrSyntax")
  have h2 := h.filter (fun x => x.1 == "strconv.ErrRange")
  rw [hl1] at h1
  rw [hl2] at h2
  obtain ⟨u1, v1, c1⟩ := sent_of g_syntax gt_syntax Tryz.underlying104 h1
  obtain ⟨u2, v2, c2⟩ := sent_of g_range gt_range Tryz.underlying104 h2
  have := World.block_lt_of_cell? W _ c2
  exact ⟨this, u1, v1, u2, v2, c1, c2⟩
theorem er_whole {W : World} (h : laidMetH Tryz.prog Rows.tarWholeUptoRow.laid W) : Er W := er_of rfl rfl (show laidMet Tryz.prog Rows.tarWholeUptoRow.laid W from h)
end Go.Proofs.YtcmmjbkgoafbnaaGreatDoor
