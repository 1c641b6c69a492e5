/-
  How an argument that is an array of integers, or a slice of structs of a bool and an integer, is opened: over any program.
-/
import Derived.ProofKit
import Derived.OpenShut
import Derived.Deep.SlicePairs
namespace Go.Proofs.Yteajgfdjjpcpiaa
open Go.ChangeShapes Go.WideShapes Go.ChangeAt Go.RowKit

theorem all_ints {k : IntKind} : ∀ l : List Value, (∀ v ∈ l, ∃ z, v = .int k z ∧ (Lit.int k z).wf = true) → ∃ zs : List Int, l = zs.map (Value.int k) ∧ ∀ z ∈ zs, (Lit.int k z).wf = true
  | [], _ => ⟨[], rfl, by simp⟩
  | v :: l, h => by
    obtain ⟨z, rfl, hz⟩ := h v (by simp)
    obtain ⟨zs, rfl, hw⟩ := all_ints l (fun u hu => h u (by simp [hu]))
    exact ⟨z :: zs, rfl, by
      intro y hy
      rcases List.mem_cons.1 hy with rfl | hy
      · exact hz
      · exact hw y hy⟩

section
variable {H : Type} {enc : TypeId × Value → H} {P : Program} {w : World} {spare : Nat → Bool} {held : Bool}

/-- An array of integers by value. -/
theorem open_arr {t e : TypeId} {n base b0 : Nat} {r : Reach} {k : IntKind} {v : Value} {d : DataW H} {p : List MemPlace} (ht : P.underlying t = some (.array n e)) (he : P.underlying e = some (.int k)) (hc : P.cellsOf e = 1) (hct : P.cellsOf t = n)
    (hv : Value.okWide P w r b0 t v) (h : DataW.Trod enc P w base spare held t v d p) : ∃ zs : List Int, zs.length = n ∧ v = .agg (zs.map (Value.int k)).toArray ∧ ∀ z ∈ zs, (Lit.int k z).wf = true := by
  unfold Value.okWide at hv
  rw [ht] at hv
  obtain ⟨cs, rfl, hsz, _⟩ := hv
  obtain ⟨fuel, hf⟩ := h
  obtain ⟨xs, m, _, _, _, hxl, hx⟩ := DataW.trod_array ht hf
  simp only [Value.cells] at hx
  rw [hc] at hx
  rw [hct] at hsz
  obtain ⟨zs, hzs, hw⟩ := all_ints (k := k) cs.toList (by
    intro v hv
    obtain ⟨i, hi, rfl⟩ := List.getElem_of_mem hv
    have hi' : i < n := by simpa [hsz] using hi
    have g := hx i hi'
    rw [List.getElem?_eq_getElem (by omega)] at g
    obtain ⟨z, hz, _, hw⟩ := DataW.trod_int he g
    rw [Nat.mul_one, List.drop_eq_getElem_cons hi] at hz
    simp only [List.take_succ_cons, List.take_zero, List.cons.injEq, and_true] at hz
    exact ⟨z, hz, hw⟩)
  refine ⟨zs, ?_, ?_, hw⟩
  · have := congrArg List.length hzs
    simp [hsz] at this
    exact this.symm
  · rw [← hzs]

/-- A slice of structs of a bool and an integer: empty, or a row of pairs. -/
theorem open_pairs {t e : TypeId} {f0 f1 : Field} {b0 : Nat} {r : Reach} {k : IntKind} {v : Value} {d : DataW H} {p : List MemPlace} (ht : P.underlying t = some (.slice e)) (he : P.underlying e = some (.struct #[f0, f1]))
    (ce : P.cellsOf e = 2) (o0 : f0.offset = 0) (o1 : f1.offset = 1) (c0 : P.cellsOf f0.type = 1) (c1 : P.cellsOf f1.type = 1) (u0 : P.underlying f0.type = some .bool) (u1 : P.underlying f1.type = some (.int k))
    (hv : Value.okWide P w r b0 t v) (h : DataW.Trod enc P w 0 spare held t v d p) :
    (∃ a cap, v = .slice a 0 cap) ∨ ∃ (b off len cap : Nat) (G : Nat → Bool) (Z : Nat → Int), v = .slice (some ⟨b, off, none⟩) len cap ∧ 0 < len ∧ len ≤ maxLen ∧ b < w.heap.size ∧
      ∀ i, i < len → w.cell? ⟨b, off + i * 2, none⟩ = some (.bool (G i)) ∧ w.cell? ⟨b, off + i * 2 + 1, none⟩ = some (.int k (Z i)) ∧ (Lit.int k (Z i)).wf = true := by
  obtain ⟨a, len, cap, rfl⟩ := okWide_slice ht hv
  obtain ⟨fuel, hf⟩ := h
  rcases Deep.open_slice_pairs ht he ce o0 o1 c0 c1 hf with ⟨hcs, _⟩ | ⟨a', len', cap', m, n, V0, V1, D0, D1, P0, P1, hcs, _, hl, hm, hmm, _, hx⟩
  · simp [Value.cells] at hcs
    obtain ⟨rfl, rfl, rfl⟩ := hcs
    exact Or.inl ⟨_, _, rfl⟩
  · simp [Value.cells] at hcs
    obtain ⟨rfl, rfl, rfl⟩ := hcs
    have hlm : len ≤ m := by rw [hmm]; split <;> omega
    by_cases h0 : len = 0
    · subst h0; exact Or.inl ⟨_, _, rfl⟩
    right
    obtain ⟨b, off, spot⟩ := a'
    have g := (hx 0 (by omega)).1
    have hs : spot = none := by simpa [Addr.add] using World.cell?_spot g
    subst hs
    have hb : b < w.heap.size := by
      apply Decidable.byContradiction
      intro hn
      simp [Addr.add, World.cell?, Array.getElem?_eq_none (Nat.le_of_not_lt hn)] at g
    have each : ∀ i, i < len → ∃ q : Bool × Int, w.cell? ⟨b, off + i * 2, none⟩ = some (.bool q.1) ∧ w.cell? ⟨b, off + i * 2 + 1, none⟩ = some (.int k q.2) ∧ (Lit.int k q.2).wf = true := by
      intro i hi
      obtain ⟨g0, g1, g2, g3⟩ := hx i (by omega)
      obtain ⟨x, hx0, _⟩ := DataW.trod_bool u0 g2
      obtain ⟨z, hz0, _, hw⟩ := DataW.trod_int u1 g3
      simp only [List.cons.injEq, and_true] at hx0 hz0
      rw [hx0] at g0
      rw [hz0] at g1
      refine ⟨(x, z), ?_, ?_, hw⟩
      · rw [← g0]; congr 1; unfold Addr.add; split
        · simp
        · rfl
      · rw [← g1]; congr 1
    obtain ⟨q, hq⟩ := Deep.choose_lt each
    exact ⟨b, off, len, cap, fun i => (q i).1, fun i => (q i).2, rfl, by omega, by omega, hb, hq⟩
end
end Go.Proofs.Yteajgfdjjpcpiaa
