/-
  How an argument that is an array of two slices of bytes is opened: over any program.
-/
import Derived.Test.YtlipkncnomndnaaOpen
namespace Go.Proofs.Ytlipkncnomndnaa
open Go.ChangeShapes Go.WideShapes Go.ChangeAt Go.RowKit
section
variable {H : Type} {enc : TypeId × Value → H} {P : Program} {w : World} {spare : Nat → Bool} {held : Bool}
theorem open_came_cell {t e : TypeId} {fuel : Nat} {s : Value} {x : DataW H × List MemPlace} (ht : P.underlying t = some (.slice e)) (he : P.underlying e = some (.int .u8)) (hc : P.cellsOf e = 1)
    (hf : DataW.trod enc P w 0 spare held fuel t [s] = some x) :
    ∃ (a : Option Addr) (bs : List Int) (cap : Nat), s = .slice a bs.length cap ∧ bs.length ≤ cap ∧ cap ≤ maxLen ∧ Came w a bs := by
  rcases Deep.open_slice1 ht hc hf with ⟨hcs, _⟩ | ⟨a', len, cap, m, n, V, D, Pl, hcs, _, hl, hm, hmm, _, hx⟩
  · simp at hcs
    exact ⟨none, [], 0, hcs, Nat.le_refl _, Nat.zero_le _, Or.inl rfl⟩
  · simp at hcs
    have hlm : len ≤ m := by rw [hmm]; split <;> omega
    by_cases h0 : len = 0
    · subst h0
      exact ⟨some a', [], cap, hcs, hl, hm, Or.inl rfl⟩
    obtain ⟨b, off, spot⟩ := a'
    have g := (hx 0 (by omega)).1
    have hs : spot = none := by simpa [Addr.add] using World.cell?_spot g
    subst hs
    have hb : b < w.heap.size := by
      apply Decidable.byContradiction
      intro hn
      simp [Addr.add, World.cell?, Array.getElem?_eq_none (Nat.le_of_not_lt hn)] at g
    have each : ∀ i, i < len → ∃ x : Nat, w.cell? ⟨b, off + i, none⟩ = some (.int .u8 (x : Int)) ∧ x < 256 := by
      intro i hi
      obtain ⟨g0, g1⟩ := hx i (by omega)
      obtain ⟨z, hz0, _, hw⟩ := DataW.trod_int he g1
      obtain ⟨x, rfl, hx⟩ := byte_of_wf hw
      simp only [List.cons.injEq, and_true] at hz0
      rw [hz0] at g0
      refine ⟨x, ?_, hx⟩
      rw [← g0]; congr 1; unfold Addr.add; split
      · simp_all
      · rfl
    obtain ⟨X, hX⟩ := Deep.choose_lt each
    obtain ⟨bs, hbl, hbs⟩ := came_of_row (w := w) (a := some ⟨b, off, none⟩) (len := len) (X := X) (Or.inr ⟨b, off, rfl, hb, hX⟩)
    exact ⟨_, bs, cap, by rw [hbl]; exact hcs, by rw [hbl]; exact hl, hm, hbs⟩
theorem open_two {t e u : TypeId} {b0 : Nat} {r : Reach} {v : Value} {d : DataW H} {p : List MemPlace} (ht : P.underlying t = some (.array 2 e)) (hu : P.underlying e = some (.slice u)) (he : P.underlying u = some (.int .u8)) (hc : P.cellsOf u = 1) (hce : P.cellsOf e = 1) (hct : P.cellsOf t = 2)
    (hv : Value.okWide P w r b0 t v) (h : DataW.Trod enc P w 0 spare held t v d p) :
    ∃ (a : Option Addr) (us : List Int) (ca : Nat) (b : Option Addr) (bs : List Int) (cb : Nat), v = .agg #[.slice a us.length ca, .slice b bs.length cb] ∧ us.length ≤ ca ∧ ca ≤ maxLen ∧ Came w a us ∧ bs.length ≤ cb ∧ cb ≤ maxLen ∧ Came w b bs := by
  unfold Value.okWide at hv
  rw [ht] at hv
  obtain ⟨cs, rfl, hsz, _⟩ := hv
  obtain ⟨fuel, hf⟩ := h
  obtain ⟨xs, m, _, _, _, hxl, hx⟩ := DataW.trod_array ht hf
  simp only [Value.cells] at hx
  rw [hce] at hx
  rw [hct] at hsz
  have two : ∃ s0 s1, cs = #[s0, s1] := by
    obtain ⟨l⟩ := cs
    match l, hsz with
    | [s0, s1], _ => exact ⟨s0, s1, rfl⟩
  obtain ⟨s0, s1, rfl⟩ := two
  have g0 := hx 0 (by omega)
  have g1 := hx 1 (by omega)
  rw [List.getElem?_eq_getElem (by omega)] at g0 g1
  simp at g0 g1
  obtain ⟨a, us, ca, rfl, h1, h2, h3⟩ := open_came_cell hu he hc g0
  obtain ⟨b, bs, cb, rfl, k1, k2, k3⟩ := open_came_cell hu he hc g1
  exact ⟨a, us, ca, b, bs, cb, rfl, h1, h2, h3, k1, k2, k3⟩
end
end Go.Proofs.Ytlipkncnomndnaa
