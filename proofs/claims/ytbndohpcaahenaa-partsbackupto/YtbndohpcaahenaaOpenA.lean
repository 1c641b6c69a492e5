/-
  How an argument that is an array of two slices of bytes is opened, where what came in is small.
-/
import Derived.Test.YtbndohpcaahenaaOpenR
namespace Go.Proofs.Ytbndohpcaahenaa
open Go.ChangeShapes Go.WideShapes Go.ChangeAt Go.RowKit
set_option linter.unusedVariables false
section
variable {H : Type} {enc : TypeId × Value → H} {P : Program} {w : World} {held : Bool}
theorem open_two {t e u : TypeId} {b0 : Nat} {r : Reach} {v : Value} {d : DataW H} {p : List MemPlace} (ht : P.underlying t = some (.array 2 e)) (hu : P.underlying e = some (.slice u)) (he : P.underlying u = some (.int .u8)) (hc : P.cellsOf u = 1) (hce : P.cellsOf e = 1) (hct : P.cellsOf t = 2)
    (hv : Value.okWide P w r b0 t v) (h : DataW.Trod enc P w 0 (fun _ => true) held t v d p) :
    ∃ (a : Option Addr) (l : List Nat) (ca : Nat) (b : Option Addr) (m : List Nat) (cb : Nat), v = .agg #[.slice a l.length ca, .slice b m.length cb] ∧ Lies w a l ∧ Lies w b m ∧ Oct l ∧ Oct m ∧ (b = none → m.length = 0 ∧ cb = 0) ∧ l.length + m.length + 2 ≤ Rows.uptoBulk d := by
  unfold Value.okWide at hv
  rw [ht] at hv
  obtain ⟨cs, rfl, hsz, _⟩ := hv
  obtain ⟨fuel, hf⟩ := h
  obtain ⟨xs, m, _, hxx, _, hxl, hx⟩ := DataW.trod_array ht hf
  simp only [Value.cells] at hx
  rw [hce] at hx
  rw [hct] at hsz
  have two : ∃ s0 s1, cs = #[s0, s1] := by
    obtain ⟨l⟩ := cs
    match l, hsz with
    | [s0, s1], _ => exact ⟨s0, s1, rfl⟩
  obtain ⟨s0, s1, rfl⟩ := two
  obtain ⟨⟨x0, y0⟩, ⟨x1, y1⟩, rfl⟩ : ∃ p0 p1, xs = [p0, p1] := by
    match xs, hxl with
    | [p0, p1], _ => exact ⟨p0, p1, rfl⟩
  have g0 := hx 0 (by omega)
  have g1 := hx 1 (by omega)
  simp at g0 g1
  obtain ⟨a, l, ca, rfl, h1, h2, h3, h4, h5⟩ := open_cell hu he hc g0
  obtain ⟨b, m', cb, rfl, k1, k2, k3, k4, k5⟩ := open_cell hu he hc g1
  refine ⟨a, l, ca, b, m', cb, rfl, h2, k2, h1, k1, k4, ?_⟩
  rw [(Prod.mk.inj hxx).1, Rows.uptoBulk]
  simp only [List.map_cons, List.map_nil, Rows.uptoBulkAll]
  omega
end
theorem cells53' : Try.prog.cellsOf 53 = 2 := by kernel_rfl
end Go.Proofs.Ytbndohpcaahenaa
