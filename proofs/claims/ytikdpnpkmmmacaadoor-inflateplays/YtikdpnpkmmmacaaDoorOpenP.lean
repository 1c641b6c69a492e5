/-
  How an argument that is a list of calls (two bytes each) is opened.
-/
import Derived.Test.YtikdpnpkmmmacaaDoorPlaysCore
import Derived.ProofKit
import Derived.OpenShut
import Derived.Deep.SlicePairs
namespace Go.Proofs.YtikdpnpkmmmacaaDoor
open Go.ChangeShapes Go.WideShapes Go.ChangeAt Go.RowKit
set_option linter.unusedVariables false
section
variable {H : Type} {enc : TypeId × Value → H} {P : Program} {w : World} {spare : Nat → Bool} {held : Bool}
/-- A slice of structs of two bytes: empty, or a row of pairs. -/
theorem open_two {t e : TypeId} {f0 f1 : Field} {b0 : Nat} {r : Reach} {v : Value} {d : DataW H} {p : List MemPlace} (ht : P.underlying t = some (.slice e)) (he : P.underlying e = some (.struct #[f0, f1]))
    (ce : P.cellsOf e = 2) (o0 : f0.offset = 0) (o1 : f1.offset = 1) (c0 : P.cellsOf f0.type = 1) (c1 : P.cellsOf f1.type = 1) (u0 : P.underlying f0.type = some (.int .u8)) (u1 : P.underlying f1.type = some (.int .u8))
    (hv : Value.okWide P w r b0 t v) (h : DataW.Trod enc P w 0 spare held t v d p) :
    (∃ a cap, v = .slice a 0 cap) ∨ ∃ (b off len cap : Nat) (G Z : Nat → Nat), v = .slice (some ⟨b, off, none⟩) len cap ∧ 0 < len ∧ len ≤ maxLen ∧ b < w.heap.size ∧
      ∀ i, i < len → w.cell? ⟨b, off + i * 2, none⟩ = some (.int .u8 (G i : Int)) ∧ w.cell? ⟨b, off + i * 2 + 1, none⟩ = some (.int .u8 (Z i : Int)) ∧ G i < 256 ∧ Z i < 256 := by
  obtain ⟨a, len, cap, rfl⟩ := okWide_slice ht hv
  obtain ⟨fuel, hf⟩ := h
  rcases Deep.open_slice_pairs ht he ce o0 o1 c0 c1 hf with ⟨hcs, _⟩ | ⟨a', len', cap', m, n, V0, V1, D0, D1, P0, P1, hcs, _, hl, hm, hmm, _, hx⟩
  · simp [Value.cells] at hcs
    obtain ⟨rfl, rfl, rfl⟩ := hcs
    exact Or.inl ⟨_, _, rfl⟩
  · simp [Value.cells] at hcs
    obtain ⟨rfl, rfl, rfl⟩ := hcs
    have hlm : len ≤ m := by rw [hmm]; split <;> omega
    by_cases h0 : len = 0
    · subst h0; exact Or.inl ⟨_, _, rfl⟩
    right
    obtain ⟨b, off, spot⟩ := a'
    have g := (hx 0 (by omega)).1
    have hs : spot = none := by simpa [Addr.add] using World.cell?_spot g
    subst hs
    have hb : b < w.heap.size := by
      apply Decidable.byContradiction
      intro hn
      simp [Addr.add, World.cell?, Array.getElem?_eq_none (Nat.le_of_not_lt hn)] at g
    have each : ∀ i, i < len → ∃ q : Nat × Nat, w.cell? ⟨b, off + i * 2, none⟩ = some (.int .u8 (q.1 : Int)) ∧ w.cell? ⟨b, off + i * 2 + 1, none⟩ = some (.int .u8 (q.2 : Int)) ∧ q.1 < 256 ∧ q.2 < 256 := by
      intro i hi
      obtain ⟨g0, g1, g2, g3⟩ := hx i (by omega)
      obtain ⟨x, hx0, _, hw0⟩ := DataW.trod_int u0 g2
      obtain ⟨z, hz0, _, hw1⟩ := DataW.trod_int u1 g3
      simp only [List.cons.injEq, and_true] at hx0 hz0
      rw [hx0] at g0
      rw [hz0] at g1
      have hb0 := bounds_u8 hw0
      have hb1 := bounds_u8 hw1
      obtain ⟨xn, rfl⟩ : ∃ xn : Nat, x = (xn : Int) := ⟨x.toNat, by omega⟩
      obtain ⟨zn, rfl⟩ : ∃ zn : Nat, z = (zn : Int) := ⟨z.toNat, by omega⟩
      refine ⟨(xn, zn), ?_, ?_, by show xn < 256; omega, by show zn < 256; omega⟩
      · rw [← g0]; congr 1; unfold Addr.add; split
        · simp
        · rfl
      · rw [← g1]; congr 1
    obtain ⟨q, hq⟩ := Deep.choose_lt each
    exact ⟨b, off, len, cap, fun i => (q i).1, fun i => (q i).2, rfl, by omega, by omega, hb, hq⟩
end
set_option maxRecDepth 100000 in
theorem oacts {H : Type} {enc : TypeId × Value → H} {w : World} {base : Nat} {v : Value} {d : DataW H} {p : List MemPlace} (o : Value.okWide Tryd.prog w .any base 42 v) (h : DataW.Trod enc Tryd.prog w 0 (fun _ => true) true 42 v d p) :
    ∃ (a : Option Addr) (As : List (Nat × Nat)) (cap : Nat), v = .slice a As.length cap ∧ As.length ≤ maxLen ∧ Acts w a As ∧ ∀ q ∈ As, q.1 < 256 ∧ q.2 < 256 := by
  rcases open_two Tryd.underlying42 Tryd.underlying44 (by kernel_rfl) rfl rfl (by kernel_rfl) (by kernel_rfl) Tryd.underlying5 Tryd.underlying5 o h with ⟨a, cap, rfl⟩ | ⟨b, off, len, cap, G, Z, rfl, hp, hl, hb, hc⟩
  · exact ⟨a, [], cap, rfl, Nat.zero_le _, Or.inl rfl, fun q hq => by cases hq⟩
  · refine ⟨some ⟨b, off, none⟩, (List.range len).map fun i => (G i, Z i), cap, by rw [List.length_map, List.length_range], by rw [List.length_map, List.length_range]; exact hl, Or.inr ⟨b, off, rfl, fun i k x hx => ?_⟩, fun q hq => ?_⟩
    · have hi : i < len := by have := (List.getElem?_eq_some_iff.1 hx).1; rwa [List.length_map, List.length_range] at this
      rw [List.getElem?_map, List.getElem?_range hi] at hx
      simp only [Option.map_some, Option.some.injEq, Prod.mk.injEq] at hx
      obtain ⟨rfl, rfl⟩ := hx
      exact ⟨(hc i hi).1, (hc i hi).2.1⟩
    · obtain ⟨i, hi, rfl⟩ := List.mem_map.1 hq
      have := hc i (List.mem_range.1 hi)
      exact this.2.2
end Go.Proofs.YtikdpnpkmmmacaaDoor
