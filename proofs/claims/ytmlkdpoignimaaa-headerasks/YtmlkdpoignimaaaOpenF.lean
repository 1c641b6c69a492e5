/-
  How an argument that is a slice of fields is opened.
-/
import Derived.Test.YtmlkdpoignimaaaOpen
import Derived.Test.YtmlkdpoignimaaaFeq
import Derived.Deep.SlicePairs
namespace Go.Proofs.Ytmlkdpoignimaaa
open Go.ChangeShapes Go.WideShapes Go.ChangeAt Go.RowKit
theorem bytes43 : Try.prog.bytesOf 43 = 32 := by kernel_rfl
theorem fl_of {w : World} {a : Option Addr} {C b off len : Nat} (ha : a = some ⟨b, off, none⟩) (q : Nat → ByteArray × ByteArray) (hq : ∀ i, i < len → w.cell? ⟨b, off + i * 2, none⟩ = some (.string (q i).1) ∧ w.cell? ⟨b, off + i * 2 + 1, none⟩ = some (.string (q i).2)) : FL w (.slice a len C) ((List.range len).map fun i => (bl (q i).1, bl (q i).2)) := by
  refine ⟨a, C, by simp, Or.inr ⟨b, off, ha, fun i f hf => ?_⟩⟩
  have hi : i < len := by
    obtain ⟨hi, _⟩ := List.getElem?_eq_some_iff.1 hf
    simpa using hi
  simp [hi] at hf
  rw [← hf]
  simp only [st_bl]
  exact hq i hi
/-- A slice of fields that came in. -/
theorem open_f {H : Type} {enc : TypeId × Value → H} {w : World} {b0 : Nat} {r : Reach} {held : Bool} {v : Value} {d : DataW H} {p : List MemPlace}
    (hv : Value.okWide Try.prog w r b0 23 v) (h : DataW.Trod enc Try.prog w 0 (fun _ => true) held 23 v d p) (hz : ∀ elems spare, d = .slice elems spare → (elems.length + spare.length) * Try.prog.bytesOf 43 ≤ reachBytes) :
    ∃ (a : Option Addr) (T : List Fd) (L C : Nat), v = .slice a L C ∧ T.length = L ∧ L * 32 ≤ 140737488351232 ∧ FL w (.slice a L C) T ∧ OctF T ∧ (∀ f ∈ T, f.1.length < 9223372036854775808) ∧ (a = none → L = 0 ∧ C = 0) := by
  obtain ⟨a, len, cap, rfl⟩ := okWide_slice Try.underlying23 hv
  obtain ⟨fuel, hf⟩ := h
  rcases Deep.open_slice_pairs Try.underlying23 Try.underlying43 (by kernel_rfl) rfl rfl (by kernel_rfl) (by kernel_rfl) hf with ⟨hcs, _⟩ | ⟨a', len', cap', m, n, V0, V1, D0, D1, P0, P1, hcs, _, hl, hm, hmm, hxe, hx⟩
  · simp [Value.cells] at hcs
    obtain ⟨rfl, rfl, rfl⟩ := hcs
    exact ⟨none, [], 0, 0, rfl, rfl, by omega, ⟨none, 0, rfl, Or.inl rfl⟩, by simp [OctF], by simp, fun _ => ⟨rfl, rfl⟩⟩
  · simp [Value.cells] at hcs
    obtain ⟨rfl, rfl, rfl⟩ := hcs
    have hlm : len ≤ m := by rw [hmm]; split <;> omega
    have hcap : len * 32 ≤ 140737488351232 := by
      have := hz _ _ (Prod.mk.inj hxe).1
      rw [bytes43] at this
      simp only [List.length_map, List.length_range, reachBytes] at this
      omega
    by_cases h0 : len = 0
    · subst h0
      exact ⟨_, [], 0, cap, rfl, rfl, by omega, ⟨_, cap, rfl, Or.inl rfl⟩, by simp [OctF], by simp, fun h => by cases h⟩
    obtain ⟨b, off, spot⟩ := a'
    have g := (hx 0 (by omega)).1
    have hs : spot = none := by simpa [Addr.add] using World.cell?_spot g
    subst hs
    have each : ∀ i, i < len → ∃ q : ByteArray × ByteArray, (w.cell? ⟨b, off + i * 2, none⟩ = some (.string q.1) ∧ w.cell? ⟨b, off + i * 2 + 1, none⟩ = some (.string q.2)) ∧ q.1.size ≤ maxLen := by
      intro i hi
      obtain ⟨g0, g1, g2, g3⟩ := hx i (by omega)
      obtain ⟨x, hx0, _, hxm⟩ := DataW.trod_string Try.underlying9 g2
      obtain ⟨y, hy0, _, hym⟩ := DataW.trod_string Try.underlying9 g3
      simp only [List.cons.injEq, and_true] at hx0 hy0
      rw [hx0, addr_add] at g0
      rw [hy0, addr_add] at g1
      exact ⟨(x, y), ⟨g0, by rw [Nat.add_assoc]; exact g1⟩, hxm⟩
    obtain ⟨q, hq⟩ := Deep.choose_lt each
    refine ⟨_, (List.range len).map fun i => (bl (q i).1, bl (q i).2), len, cap, rfl, by simp, hcap, fl_of rfl q (fun i hi => (hq i hi).1), ?_, ?_, fun h => by cases h⟩
    · intro f hf
      obtain ⟨i, _, rfl⟩ := List.mem_map.1 hf
      exact ⟨bl_oct _, bl_oct _⟩
    · intro f hf
      obtain ⟨i, hi, rfl⟩ := List.mem_map.1 hf
      have := (hq i (List.mem_range.1 hi)).2
      rw [bl_length]
      unfold maxLen at this
      omega
end Go.Proofs.Ytmlkdpoignimaaa
