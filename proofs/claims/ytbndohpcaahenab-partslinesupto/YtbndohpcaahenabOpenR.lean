/-
  How an argument that is a slice of slices of bytes is opened, where what came in is small.
-/
import Derived.Test.YtbndohpcaahenabOpen
import Derived.Test.YtbndohpcaahenabWrt
namespace Go.Proofs.Ytbndohpcaahenab
open Go.ChangeShapes Go.WideShapes Go.ChangeAt Go.RowKit
set_option linter.unusedVariables false
theorem byte_of_wf' {z : Int} (h : (Lit.int .u8 z).wf = true) : ∃ x : Nat, z = (x : Int) ∧ x < 256 := by
  have h8 : 0 ≤ z ∧ z ≤ 255 := by simpa [Lit.wf, IntKind.min, IntKind.max, IntKind.signed, IntKind.bits] using h
  exact ⟨z.toNat, by omega, by omega⟩
section
variable {H : Type} {enc : TypeId × Value → H} {P : Program} {w : World} {held : Bool}
/-- A slice of bytes in a cell. -/
theorem open_cell {t e : TypeId} {fuel : Nat} {s : Value} {d : DataW H} {pl : List MemPlace} (ht : P.underlying t = some (.slice e)) (he : P.underlying e = some (.int .u8)) (hc : P.cellsOf e = 1)
    (hf : DataW.trod enc P w 0 (fun _ => true) held fuel t [s] = some (d, pl)) :
    ∃ (a : Option Addr) (l : List Nat) (cap : Nat), s = .slice a l.length cap ∧ Oct l ∧ Lies w a l ∧ l.length ≤ cap ∧ (a = none → l.length = 0 ∧ cap = 0) ∧ l.length + 1 ≤ Rows.uptoBulk d := by
  rcases Deep.open_slice1 ht hc hf with ⟨hcs, hd⟩ | ⟨a', len, cap, m, n, V, D, Pl, hcs, _, hl, hm, hmm, hxe, hx⟩
  · simp at hcs
    exact ⟨none, [], 0, hcs, (fun x hx => by cases hx), Or.inl rfl, Nat.le_refl _, fun _ => ⟨rfl, rfl⟩, bulk_pos d⟩
  · simp at hcs
    have hlm : len ≤ m := by rw [hmm]; split <;> omega
    have hbd : len + 1 ≤ Rows.uptoBulk d := by
      rw [(Prod.mk.inj hxe).1, Rows.uptoBulk]
      have := bulk_many ((List.range len).map D)
      simp at this
      omega
    by_cases h0 : len = 0
    · subst h0
      exact ⟨some a', [], cap, hcs, (fun x hx => by cases hx), Or.inl rfl, Nat.zero_le _, (fun h => by cases h), hbd⟩
    obtain ⟨b, off, spot⟩ := a'
    have g := (hx 0 (by omega)).1
    have hs : spot = none := by simpa [Addr.add] using World.cell?_spot g
    subst hs
    have each : ∀ i, i < len → ∃ x : Nat, w.cell? ⟨b, off + i, none⟩ = some (.int .u8 (x : Int)) ∧ x < 256 := by
      intro i hi
      obtain ⟨g0, g1⟩ := hx i (by omega)
      obtain ⟨z, hz0, _, hw⟩ := DataW.trod_int he g1
      obtain ⟨x, rfl, hx⟩ := byte_of_wf' hw
      simp only [List.cons.injEq, and_true] at hz0
      rw [hz0] at g0
      refine ⟨x, ?_, hx⟩
      rw [← g0]; congr 1; unfold Addr.add; split
      · simp_all
      · rfl
    obtain ⟨X, hX⟩ := Deep.choose_lt each
    refine ⟨_, (List.range len).map X, cap, by simpa using hcs, ?_, Or.inr ⟨b, off, rfl, fun i x hx' => ?_⟩, by simpa using hl, (fun h => by cases h), by simpa using hbd⟩
    · intro x hx'
      obtain ⟨i, hi, rfl⟩ := List.mem_map.1 hx'
      exact (hX i (List.mem_range.1 hi)).2
    · have hi : i < len := by
        have := (List.getElem?_eq_some_iff.1 hx').1
        simpa using this
      simp [hi] at hx'
      rw [← hx']
      exact (hX i hi).1
theorem bulk_sum (D : Nat → DataW H) (X : Nat → List Nat) : ∀ l : List Nat, (∀ i ∈ l, (X i).length + 1 ≤ Rows.uptoBulk (D i)) → (l.map fun i => (X i).length).sum + l.length ≤ Rows.uptoBulkAll (l.map D)
  | [], _ => by simp
  | i :: l, h => by
    have h1 := bulk_sum D X l (fun j hj => h j (by simp [hj]))
    have h2 := h i (by simp)
    simp only [List.map_cons, List.sum_cons, List.length_cons, Rows.uptoBulkAll]
    omega
/-- An argument that is a slice of slices of bytes. -/
theorem open_rows {t u e : TypeId} {b0 : Nat} {r : Reach} {v : Value} {d : DataW H} {p : List MemPlace} (ht : P.underlying t = some (.slice u)) (hu : P.underlying u = some (.slice e)) (he : P.underlying e = some (.int .u8)) (hc : P.cellsOf e = 1) (hcu : P.cellsOf u = 1)
    (hv : Value.okWide P w r b0 t v) (h : DataW.Trod enc P w 0 (fun _ => true) held t v d p) :
    ∃ (a : Option Addr) (ll : List (List Nat)) (cap : Nat), v = .slice a ll.length cap ∧ (∀ l ∈ ll, Oct l) ∧ Rl w a ll ∧ ll.length ≤ cap ∧ (a = none → ll.length = 0 ∧ cap = 0) ∧ (ll.map List.length).sum + ll.length ≤ Rows.uptoBulk d := by
  obtain ⟨a, len, cap, rfl⟩ := okWide_slice ht hv
  obtain ⟨fuel, hf⟩ := h
  rcases Deep.open_slice1 ht hcu hf with ⟨hcs, _⟩ | ⟨a', len', cap', m, n, V, D, Pl, hcs, _, hl, hm, hmm, hxe, hx⟩
  · simp [Value.cells] at hcs
    obtain ⟨rfl, rfl, rfl⟩ := hcs
    exact ⟨none, [], 0, rfl, (fun x hx => by cases hx), Or.inl rfl, Nat.le_refl _, fun _ => ⟨rfl, rfl⟩, by simp⟩
  · simp [Value.cells] at hcs
    obtain ⟨rfl, rfl, rfl⟩ := hcs
    have hlm : len ≤ m := by rw [hmm]; split <;> omega
    by_cases h0 : len = 0
    · subst h0
      exact ⟨some a', [], _, rfl, (fun x hx => by cases hx), Or.inl rfl, Nat.zero_le _, (fun h => by cases h), by simp⟩
    obtain ⟨b, off, spot⟩ := a'
    have g := (hx 0 (by omega)).1
    have hs : spot = none := by simpa [Addr.add] using World.cell?_spot g
    subst hs
    have each : ∀ i, i < len → ∃ l : List Nat, (Oct l ∧ l.length + 1 ≤ Rows.uptoBulk (D i)) ∧ ∃ (ai : Option Addr) (ci : Nat), w.cell? ⟨b, off + i, none⟩ = some (.slice ai l.length ci) ∧ Lies w ai l ∧ l.length ≤ ci ∧ (ai = none → l.length = 0 ∧ ci = 0) := by
      intro i hi
      obtain ⟨g0, g1⟩ := hx i (by omega)
      obtain ⟨ai, l, ci, e1, e4, e5, e6, e7, e8⟩ := open_cell hu he hc g1
      refine ⟨l, ⟨e4, e8⟩, ai, ci, ?_, e5, e6, e7⟩
      rw [← e1, ← g0]; congr 1; unfold Addr.add; split
      · simp_all
      · rfl
    obtain ⟨X, hX⟩ := Deep.choose_lt each
    refine ⟨_, (List.range len).map X, cap, by simp, ?_, Or.inr ⟨b, off, rfl, fun i l hx' => ?_⟩, by simpa using hl, (fun h => by cases h), ?_⟩
    · intro l hl'
      obtain ⟨i, hi, rfl⟩ := List.mem_map.1 hl'
      exact (hX i (List.mem_range.1 hi)).1.1
    · have hi : i < len := by
        have := (List.getElem?_eq_some_iff.1 hx').1
        simpa using this
      simp [hi] at hx'
      rw [← hx']
      exact (hX i hi).2
    · have hb := bulk_sum D X (List.range len) (fun i hi => (hX i (List.mem_range.1 hi)).1.2)
      rw [(Prod.mk.inj hxe).1, Rows.uptoBulk, List.map_map]
      simp only [List.length_map, List.length_range] at hb ⊢
      have e : (List.map (List.length ∘ X) (List.range len)) = (List.range len).map fun i => (X i).length := rfl
      rw [e]
      omega
end
theorem cells5' : Try.prog.cellsOf 5 = 1 := by kernel_rfl
theorem cells22' : Try.prog.cellsOf 23 = 1 := by kernel_rfl
theorem wri_sum (D : List Nat) : ∀ (ls : List (List Nat)), (wri D ls).length = (ls.map List.length).sum + ls.length * (D.length + 4) + (D.length + 4)
  | [] => by simp [wri]
  | p :: r => by
    have h1 := wri_sum D r
    have h4 : (r.length + 1) * (D.length + 4) = r.length * (D.length + 4) + (D.length + 4) := by rw [Nat.succ_mul]
    simp only [wri, List.length_append, List.map_cons, List.sum_cons, h1, List.length_cons, List.length_nil]
    omega
theorem len_sum {ls : List (List Nat)} {l : List Nat} (h : l ∈ ls) : l.length ≤ (ls.map List.length).sum := by
  induction ls with
  | nil => simp at h
  | cons p r ih =>
    rcases List.mem_cons.1 h with e | e
    · subst e; simp
    · have := ih e; simp; omega
/-- Parts that came in, where what came in is small. -/
theorem open_parts {H : Type} {enc : TypeId × Value → H} {w : World} {b0 : Nat} {r : Reach} {held : Bool} {v : Value} {d : DataW H} {p : List MemPlace}
    (hv : Value.okWide Try.prog w r b0 22 v) (h : DataW.Trod enc Try.prog w 0 (fun _ => true) held 22 v d p) (hb : Rows.uptoBulk d ≤ 1048576) :
    ∃ (a : Option Addr) (ls : List (List Nat)) (N C : Nat), v = .slice a N C ∧ ls.length = N ∧ N ≤ C ∧ N ≤ 2000000 ∧ (∀ l ∈ ls, Oct l) ∧ Rl w a ls ∧ (a = none → N = 0 ∧ C = 0) ∧ (∀ l ∈ ls, l.length ≤ 2000000) ∧ ∀ b : List Nat, b.length ≤ 70 → (wri (dd b) ls).length ≤ 90000000 := by
  obtain ⟨a, ll, cap, rfl, h1, h2, h3, h4, h5⟩ := open_rows Try.underlying22 Try.underlying23 Try.underlying5 cells5' cells22' hv h
  refine ⟨a, ll, ll.length, cap, rfl, rfl, h3, by omega, h1, h2, h4, fun l hl => ?_, fun b hb2 => ?_⟩
  · have := len_sum hl; omega
  · rw [wri_sum]
    have e : (dd b).length = b.length + 2 := rfl
    have h6 : ll.length * ((dd b).length + 4) ≤ ll.length * 76 := Nat.mul_le_mul_left _ (by omega)
    have h7 : ll.length * 76 ≤ 1048576 * 76 := Nat.mul_le_mul_right _ (by omega)
    omega
end Go.Proofs.Ytbndohpcaahenab
