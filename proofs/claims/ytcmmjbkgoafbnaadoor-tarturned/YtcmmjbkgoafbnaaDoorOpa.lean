/-
  How an argument that is an array of bytes is opened.
-/
import Derived.Test.YtcmmjbkgoafbnaaDoorMe
namespace Go.Proofs.YtcmmjbkgoafbnaaDoor
open Go.ChangeShapes Go.WideShapes Go.ChangeAt Go.RowKit
set_option linter.unusedVariables false
theorem all_bytes : ∀ l : List Value, (∀ v ∈ l, ∃ z, v = .int .u8 z ∧ (Lit.int .u8 z).wf = true) → ∃ xs : List Nat, l = xs.map (fun x : Nat => Value.int .u8 (x : Int)) ∧ ∀ x ∈ xs, x < 256
  | [], _ => ⟨[], rfl, by simp⟩
  | v :: l, h => by
    obtain ⟨z, rfl, hz⟩ := h v (by simp)
    obtain ⟨x, rfl, hx⟩ := byte_of_wf hz
    obtain ⟨xs, rfl, hw⟩ := all_bytes l (fun u hu => h u (by simp [hu]))
    exact ⟨x :: xs, rfl, by
      intro y hy
      rcases List.mem_cons.1 hy with rfl | hy
      · exact hx
      · exact hw y hy⟩

section
variable {H : Type} {enc : TypeId × Value → H} {P : Program} {w : World} {spare : Nat → Bool} {held : Bool}

/-- An array of bytes by value. -/
theorem open_arr {t e : TypeId} {n base b0 : Nat} {r : Reach} {v : Value} {d : DataW H} {p : List MemPlace} (ht : P.underlying t = some (.array n e)) (he : P.underlying e = some (.int .u8)) (hc : P.cellsOf e = 1) (hct : P.cellsOf t = n)
    (hv : Value.okWide P w r b0 t v) (h : DataW.Trod enc P w base spare held t v d p) : ∃ xs : List Nat, xs.length = n ∧ v = .agg (xs.map (fun x : Nat => Value.int .u8 (x : Int))).toArray ∧ ∀ x ∈ xs, x < 256 := by
  unfold Value.okWide at hv
  rw [ht] at hv
  obtain ⟨cs, rfl, hsz, _⟩ := hv
  obtain ⟨fuel, hf⟩ := h
  obtain ⟨xs, m, _, _, _, hxl, hx⟩ := DataW.trod_array ht hf
  simp only [Value.cells] at hx
  rw [hc] at hx
  rw [hct] at hsz
  obtain ⟨zs, hzs, hw⟩ := all_bytes cs.toList (by
    intro v hv
    obtain ⟨i, hi, rfl⟩ := List.getElem_of_mem hv
    have hi' : i < n := by simpa [hsz] using hi
    have g := hx i hi'
    rw [List.getElem?_eq_getElem (by omega)] at g
    obtain ⟨z, hz, _, hw⟩ := DataW.trod_int he g
    rw [Nat.mul_one, List.drop_eq_getElem_cons hi] at hz
    simp only [List.take_succ_cons, List.take_zero, List.cons.injEq, and_true] at hz
    exact ⟨z, hz, hw⟩)
  refine ⟨zs, ?_, ?_, hw⟩
  · have := congrArg List.length hzs
    simp [hsz] at this
    exact this.symm
  · rw [← hzs]
end
theorem cells55m : Tryd.prog.cellsOf 55 = 2 := by kernel_rfl
set_option maxRecDepth 100000 in
theorem open_two {H : Type} {enc : TypeId × Value → H} {w : World} {held : Bool} {b0 : Nat} {r : Reach} {v : Value} {d : DataW H} {p : List MemPlace} (hv : Value.okWide Tryd.prog w r b0 55 v) (h : DataW.Trod enc Tryd.prog w 0 (fun _ => true) held 55 v d p) : ∃ x y : Nat, v = .agg #[.int .u8 (x : Int), .int .u8 (y : Int)] ∧ x < 256 ∧ y < 256 := by
  obtain ⟨xs, hl, rfl, hx⟩ := open_arr Tryd.underlying55 Tryd.underlying5 cells5m cells55m hv h
  match xs, hl with
  | [x, y], _ => exact ⟨x, y, rfl, hx x (by simp), hx y (by simp)⟩
end Go.Proofs.YtcmmjbkgoafbnaaDoor
