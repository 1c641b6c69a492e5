/-
  What the listed variable gives: the marks.
-/
import Derived.Test.YtbhlmmbknmejkaaDoorSnw
import Derived.Test.YtbhlmmbknmejkaaDoorRows
import Derived.Lib.LaidTab
import Derived.LaidMore
import Derived.LaidSub
import Derived.OpenShut
import Derived.Deep.Strs
namespace Go.Proofs.YtbhlmmbknmejkaaDoor
open Go.RowKit
set_option linter.unusedVariables false
theorem cells3 : Tryd.prog.cellsOf 3 = 1 := by kernel_rfl
theorem cells9 : Tryd.prog.cellsOf 9 = 1 := by kernel_rfl
theorem cells31 : Tryd.prog.cellsOf 31 = 3 := by kernel_rfl
theorem cells32 : Tryd.prog.cellsOf 32 = 9 := by kernel_rfl
theorem g_marks : Tryd.prog.globalNamed "winkle/sniff.marks" = some 0 := by kernel_rfl
theorem gt_marks : (Tryd.prog.globals[0]?).map (·.type) = some 32 := by kernel_rfl
theorem str_of {H : Type} {enc : TypeId × Value → H} {w : World} {base n : Nat} {sp : Nat → Bool} {held : Bool} {c : Value} {y : DataW H × List MemPlace} {l : List Nat} (h : DataW.trod enc Tryd.prog w base sp held n 9 [c] = some y) (hy : y.1 = .lit (.string (l.map UInt8.ofNat))) : c = .string (st l) := by
  obtain ⟨s, hc, hx, _⟩ := DataW.trod_string Tryd.underlying9 h
  rw [hx] at hy
  simp only [DataW.lit.injEq, Lit.string.injEq] at hy
  have e : s = st l := by
    have : s.data = (l.map UInt8.ofNat).toArray := by rw [← hy]
    cases s
    simp only at this
    rw [this]
    rfl
  rw [← e]
  simpa using hc
theorem int_of {H : Type} {enc : TypeId × Value → H} {w : World} {base n : Nat} {sp : Nat → Bool} {held : Bool} {c : Value} {y : DataW H × List MemPlace} {z : Int} (h : DataW.trod enc Tryd.prog w base sp held n 3 [c] = some y) (hy : y.1 = .lit (.int .i64 z)) : c = .int .i64 z := by
  obtain ⟨z', hc, hx, _⟩ := DataW.trod_int Tryd.underlying3 h
  rw [hx] at hy
  simp only [DataW.lit.injEq, Lit.int.injEq] at hy
  rw [← hy.2]
  simpa using hc
/-- One mark. -/
theorem mark_of {H : Type} {enc : TypeId × Value → H} {w : World} {base n : Nat} {sp : Nat → Bool} {held : Bool} {c0 c1 c2 : Value} {y : DataW H × List MemPlace} {k p : Int} {l : List Nat} (h : DataW.trod enc Tryd.prog w base sp held n 31 [c0, c1, c2] = some y) (hy : y.1 = .agg [.lit (.int .i64 k), .lit (.int .i64 p), .lit (.string (l.map UInt8.ofNat))]) : c0 = .int .i64 k ∧ c1 = .int .i64 p ∧ c2 = .string (st l) := by
  obtain ⟨y0, y1, y2, m, hx, _, h0, h1, h2⟩ := Deep.trod_struct3 Tryd.underlying31 h
  rw [hx] at hy
  simp only [DataW.agg.injEq, List.cons.injEq, and_true] at hy
  obtain ⟨e0, e1, e2⟩ := hy
  simp only [cells3, cells9] at h0 h1 h2
  exact ⟨int_of (by simpa using h0) e0, int_of (by simpa using h1) e1, str_of (by simpa using h2) e2⟩
theorem mk_of_laid {W : World} (h : laidMetH Tryd.prog [("winkle/sniff.marks", Rows.laid_winkle_sniff_marks)] W) : Mk W := by
  have h : laidMet Tryd.prog [("winkle/sniff.marks", Rows.laid_winkle_sniff_marks)] W := h
  obtain ⟨ps, ⟨g', t', cs, fuel, p, q, hg', ht', hvar, hd, _, _⟩, _⟩ := h
  obtain rfl := Option.some.inj (g_marks.symm.trans hg')
  obtain rfl := Option.some.inj (gt_marks.symm.trans ht')
  have hc := World.var?_cell g_marks hvar
  obtain ⟨xs, m, _, hx, hlen, hxl, he⟩ := DataW.trod_array Tryd.underlying32 hd
  rw [cells32] at hlen
  obtain ⟨c0, c1, c2, c3, c4, c5, c6, c7, c8, hcs⟩ : ∃ c0 c1 c2 c3 c4 c5 c6 c7 c8, cs.toList = [c0, c1, c2, c3, c4, c5, c6, c7, c8] := by
    match hh : cs.toList, hlen with
    | [a, b, c, d, e, f, g, h, i], _ => exact ⟨a, b, c, d, e, f, g, h, i, rfl⟩
  obtain ⟨y0, y1, y2, hxs⟩ : ∃ y0 y1 y2, xs = [y0, y1, y2] := by
    match xs, hxl with
    | [a, b, c], _ => exact ⟨a, b, c, rfl⟩
  rw [hxs] at he
  rw [hxs] at hx
  have hx1 := congrArg Prod.fst hx
  unfold Rows.laid_winkle_sniff_marks at hx1
  simp only [List.map_cons, List.map_nil, DataW.agg.injEq, List.cons.injEq, and_true] at hx1
  obtain ⟨e0, e1, e2⟩ := hx1
  rw [hcs, cells31] at he
  have r0 := mark_of (c0 := c0) (c1 := c1) (c2 := c2) (k := 7) (p := 0) (l := gz) (by simpa using he 0 (by decide)) e0.symm
  have r1 := mark_of (c0 := c3) (c1 := c4) (c2 := c5) (k := 9) (p := 0) (l := pk) (by simpa using he 1 (by decide)) e1.symm
  have r2 := mark_of (c0 := c6) (c1 := c7) (c2 := c8) (k := 8) (p := 257) (l := us) (by simpa using he 2 (by decide)) e2.symm
  have ha : cs = #[c0, c1, c2, c3, c4, c5, c6, c7, c8] := by
    cases cs
    simp only at hcs
    rw [hcs]
  rw [ha] at hc
  exact ⟨(hc 0).trans (by rw [r0.1]; rfl), (hc 1).trans (by rw [r0.2.1]; rfl), (hc 2).trans (by rw [r0.2.2]; rfl), (hc 3).trans (by rw [r1.1]; rfl), (hc 4).trans (by rw [r1.2.1]; rfl), (hc 5).trans (by rw [r1.2.2]; rfl), (hc 6).trans (by rw [r2.1]; rfl), (hc 7).trans (by rw [r2.2.1]; rfl), (hc 8).trans (by rw [r2.2.2]; rfl)⟩
end Go.Proofs.YtbhlmmbknmejkaaDoor
