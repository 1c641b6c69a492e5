/-
  How arguments that are slices of bytes, and slices of slices of bytes, are opened.
-/
import Derived.Test.YtbepbjbbhenphabDoorRows
import Derived.Test.YtbepbjbbhenphabDoorCheck
import Derived.ProofKit
import Derived.OpenShut
import Derived.Deep.Slices
import Derived.ChangeSame
import Derived.SizedLaws
namespace Go.Proofs.YtbepbjbbhenphabDoor
open Go.ChangeShapes Go.WideShapes Go.ChangeAt Go.RowKit
set_option linter.unusedVariables false
theorem byte_of_wf {z : Int} (h : (Lit.int .u8 z).wf = true) : ∃ x : Nat, z = (x : Int) ∧ x < 256 := by
  have := bounds_u8 h
  exact ⟨z.toNat, by omega, by omega⟩
theorem weights_all {H : Type} {P : Program} {e : TypeId} : ∀ {l : List (DataW H)} {d : DataW H}, d ∈ l → ∀ n ∈ d.weights P e, n ∈ DataW.weightsAll P e l
  | x :: l, d, hd, n, hn => by
    rw [DataW.weightsAll]
    rcases List.mem_cons.1 hd with rfl | hd
    · exact List.mem_append_left _ hn
    · exact List.mem_append_right _ (weights_all hd n hn)
section
variable {H : Type} {enc : TypeId × Value → H} {P : Program} {w : World} {held : Bool}
/-- A slice of bytes in a cell. -/
theorem open_cell {t e : TypeId} {fuel : Nat} {s : Value} {x : DataW H × List MemPlace} (ht : P.underlying t = some (.slice e)) (he : P.underlying e = some (.int .u8)) (hc : P.cellsOf e = 1) (hbe : P.bytesOf e = 1)
    (hf : DataW.trod enc P w 0 (fun _ => true) held fuel t [s] = some x) (hz : ∀ n ∈ x.1.weights P t, n ≤ reachBytes) :
    ∃ (a : Option Addr) (l : List Nat) (cap : Nat), s = .slice a l.length cap ∧ l.length ≤ cap ∧ cap < 140737488355328 ∧ Oct l ∧ Lies w a l ∧ (a = none → l.length = 0 ∧ cap = 0) := by
  rcases Deep.open_slice1 ht hc hf with ⟨hcs, _⟩ | ⟨a', len, cap, m, n, V, D, Pl, hcs, _, hl, hm, hmm, hxe, hx⟩
  · simp at hcs
    exact ⟨none, [], 0, hcs, Nat.le_refl _, by decide, (fun x hx => by cases hx), Or.inl rfl, fun _ => ⟨rfl, rfl⟩⟩
  · simp at hcs
    simp only [if_true] at hmm
    subst hmm
    have hcap : m < 140737488355328 := by
      have := hz ((((List.range len).map D).length + ((List.range (m - len)).map fun j => D (len + j)).length) * P.bytesOf e) (by rw [hxe]; simp [DataW.weights, ht])
      rw [hbe] at this
      simp only [List.length_map, List.length_range] at this
      have h2 := reachBytes_lt
      omega
    by_cases h0 : len = 0
    · subst h0
      exact ⟨some a', [], m, hcs, hl, hcap, (fun x hx => by cases hx), Or.inl rfl, fun h => by cases h⟩
    obtain ⟨b, off, spot⟩ := a'
    have g := (hx 0 (by omega)).1
    have hs : spot = none := by simpa [Addr.add] using World.cell?_spot g
    subst hs
    have each : ∀ i, i < len → ∃ x : Nat, w.cell? ⟨b, off + i, none⟩ = some (.int .u8 (x : Int)) ∧ x < 256 := by
      intro i hi
      obtain ⟨g0, g1⟩ := hx i (by omega)
      obtain ⟨z, hz0, _, hw⟩ := DataW.trod_int he g1
      obtain ⟨x, rfl, hx⟩ := byte_of_wf hw
      simp only [List.cons.injEq, and_true] at hz0
      rw [hz0] at g0
      refine ⟨x, ?_, hx⟩
      rw [← g0]; congr 1; unfold Addr.add; split
      · simp_all
      · rfl
    obtain ⟨X, hX⟩ := Deep.choose_lt each
    refine ⟨_, (List.range len).map X, m, by simpa using hcs, by simpa using hl, hcap, ?_, Or.inr ⟨b, off, rfl, fun i x hx' => ?_⟩, fun h => by cases h⟩
    · intro x hx'
      obtain ⟨i, hi, rfl⟩ := List.mem_map.1 hx'
      exact (hX i (List.mem_range.1 hi)).2
    · have hi : i < len := by
        have := (List.getElem?_eq_some_iff.1 hx').1
        simpa using this
      simp [hi] at hx'
      rw [← hx']
      exact (hX i hi).1
/-- An argument that is a slice of bytes. -/
theorem open_arg {t e : TypeId} {b0 : Nat} {r : Reach} {v : Value} {d : DataW H} {p : List MemPlace} (ht : P.underlying t = some (.slice e)) (he : P.underlying e = some (.int .u8)) (hc : P.cellsOf e = 1) (hbe : P.bytesOf e = 1)
    (hv : Value.okWide P w r b0 t v) (h : DataW.Trod enc P w 0 (fun _ => true) held t v d p) (hz : ∀ n ∈ d.weights P t, n ≤ reachBytes) :
    ∃ (a : Option Addr) (l : List Nat) (cap : Nat), v = .slice a l.length cap ∧ l.length ≤ cap ∧ cap < 140737488355328 ∧ Oct l ∧ Lies w a l ∧ (a = none → l.length = 0 ∧ cap = 0) := by
  obtain ⟨a, len, cap, rfl⟩ := okWide_slice ht hv
  obtain ⟨fuel, hf⟩ := h
  exact open_cell ht he hc hbe hf hz
/-- An argument that is a slice of slices of bytes. -/
theorem open_args {t u e : TypeId} {b0 : Nat} {r : Reach} {v : Value} {d : DataW H} {p : List MemPlace} (ht : P.underlying t = some (.slice u)) (hu : P.underlying u = some (.slice e)) (he : P.underlying e = some (.int .u8)) (hc : P.cellsOf e = 1) (hbe : P.bytesOf e = 1) (hcu : P.cellsOf u = 1) (hbu : P.bytesOf u = 24)
    (hv : Value.okWide P w r b0 t v) (h : DataW.Trod enc P w 0 (fun _ => true) held t v d p) (hz : ∀ n ∈ d.weights P t, n ≤ reachBytes) :
    ∃ (a : Option Addr) (ll : List (List Nat)) (cap : Nat), v = .slice a ll.length cap ∧ ll.length ≤ cap ∧ cap * 24 < 140737488355328 ∧ Octs ll ∧ Rows2 w a ll ∧ (a = none → ll.length = 0 ∧ cap = 0) := by
  obtain ⟨a, len, cap, rfl⟩ := okWide_slice ht hv
  obtain ⟨fuel, hf⟩ := h
  rcases Deep.open_slice1 ht hcu hf with ⟨hcs, _⟩ | ⟨a', len', cap', m, n, V, D, Pl, hcs, _, hl, hm, hmm, hxe, hx⟩
  · simp [Value.cells] at hcs
    obtain ⟨rfl, rfl, rfl⟩ := hcs
    exact ⟨none, [], 0, rfl, Nat.le_refl _, by decide, (fun x hx => by cases hx), Or.inl rfl, fun _ => ⟨rfl, rfl⟩⟩
  · simp [Value.cells] at hcs
    obtain ⟨rfl, rfl, rfl⟩ := hcs
    simp only [if_true] at hmm
    subst hmm
    have hd := (Prod.mk.inj hxe).1
    have hcap : m * 24 < 140737488355328 := by
      have := hz ((((List.range len).map D).length + ((List.range (m - len)).map fun j => D (len + j)).length) * P.bytesOf u) (by rw [hd]; simp [DataW.weights, ht])
      rw [hbu] at this
      simp only [List.length_map, List.length_range] at this
      have h2 := reachBytes_lt
      have e : len + (m - len) = m := by omega
      rw [e] at this
      omega
    by_cases h0 : len = 0
    · subst h0
      exact ⟨some a', [], m, rfl, hl, hcap, (fun x hx => by cases hx), Or.inl rfl, fun h => by cases h⟩
    obtain ⟨b, off, spot⟩ := a'
    have g := (hx 0 (by omega)).1
    have hs : spot = none := by simpa [Addr.add] using World.cell?_spot g
    subst hs
    have each : ∀ i, i < len → ∃ l : List Nat, Oct l ∧ ∃ (ai : Option Addr) (ci : Nat), w.cell? ⟨b, off + i, none⟩ = some (.slice ai l.length ci) ∧ Lies w ai l ∧ l.length ≤ ci ∧ l.length < 140737488355328 ∧ (ai = none → l.length = 0 ∧ ci = 0) := by
      intro i hi
      obtain ⟨g0, g1⟩ := hx i (by omega)
      obtain ⟨ai, l, ci, e1, e2, e3, e4, e5, e6⟩ := open_cell hu he hc hbe g1 (fun k hk => hz k (by
        rw [hd]
        simp only [DataW.weights, ht, List.mem_cons, List.mem_append]
        exact Or.inr (Or.inl (weights_all (List.mem_map.2 ⟨i, List.mem_range.2 hi, rfl⟩) k hk))))
      refine ⟨l, e4, ai, ci, ?_, e5, e2, by omega, e6⟩
      rw [← e1, ← g0]; congr 1; unfold Addr.add; split
      · simp_all
      · rfl
    obtain ⟨X, hX⟩ := Deep.choose_lt each
    refine ⟨_, (List.range len).map X, m, by simp, by simpa using hl, hcap, ?_, Or.inr ⟨b, off, rfl, fun i l hx' => ?_⟩, fun h => by cases h⟩
    · intro l hl'
      obtain ⟨i, hi, rfl⟩ := List.mem_map.1 hl'
      exact (hX i (List.mem_range.1 hi)).1
    · have hi : i < len := by
        have := (List.getElem?_eq_some_iff.1 hx').1
        simpa using this
      simp [hi] at hx'
      rw [← hx']
      exact (hX i hi).2
end
theorem bytes5 : Tryd.prog.bytesOf 5 = 1 := by kernel_rfl
theorem cells5' : Tryd.prog.cellsOf 5 = 1 := by kernel_rfl
theorem cells36 : Tryd.prog.cellsOf 23 = 1 := by kernel_rfl
theorem bytes36 : Tryd.prog.bytesOf 23 = 24 := by kernel_rfl
end Go.Proofs.YtbepbjbbhenphabDoor
