/-
  How an argument that is a slice of bytes is opened; bytes that lie in memory that is as it was.
-/
import Derived.Test.YtmaojldkadpheaaRows
import Derived.Test.YtmaojldkadpheaaRead
import Derived.ProofKit
import Derived.OpenShut
import Derived.Deep.Slices
import Derived.ChangeSame
import Derived.SizedLaws
namespace Go.Proofs.Ytmaojldkadpheaa
open Go.ChangeShapes Go.WideShapes Go.ChangeAt Go.RowKit

theorem byte_of_wf {z : Int} (h : (Lit.int .u8 z).wf = true) : ∃ x : Nat, z = (x : Int) ∧ x < 256 := by
  have := bounds_u8 h
  exact ⟨z.toNat, by omega, by omega⟩
theorem all_bytes : ∀ l : List Value, (∀ v ∈ l, ∃ z, v = .int .u8 z ∧ (Lit.int .u8 z).wf = true) → ∃ xs : List Nat, l = xs.map (fun x : Nat => Value.int .u8 (x : Int)) ∧ ∀ x ∈ xs, x < 256
  | [], _ => ⟨[], rfl, by simp⟩
  | v :: l, h => by
    obtain ⟨z, rfl, hz⟩ := h v (by simp)
    obtain ⟨x, rfl, hx⟩ := byte_of_wf hz
    obtain ⟨xs, rfl, hw⟩ := all_bytes l (fun u hu => h u (by simp [hu]))
    exact ⟨x :: xs, rfl, by
      intro y hy
      rcases List.mem_cons.1 hy with rfl | hy
      · exact hx
      · exact hw y hy⟩

section
variable {H : Type} {enc : TypeId × Value → H} {P : Program} {w : World} {spare : Nat → Bool} {held : Bool}

/-- What is known of a slice of bytes: none, or a row of them in old memory. -/
def Row (w : World) (a : Option Addr) (len : Nat) (X : Nat → Nat) : Prop :=
  len = 0 ∨ ∃ (b off : Nat), a = some ⟨b, off, none⟩ ∧ b < w.heap.size ∧ ∀ i, i < len → w.cell? ⟨b, off + i, none⟩ = some (.int .u8 (X i)) ∧ X i < 256

/-- A slice of bytes. -/
theorem open_bytes {t e : TypeId} {b0 : Nat} {r : Reach} {v : Value} {d : DataW H} {p : List MemPlace} (ht : P.underlying t = some (.slice e)) (he : P.underlying e = some (.int .u8)) (hc : P.cellsOf e = 1)
    (hv : Value.okWide P w r b0 t v) (h : DataW.Trod enc P w 0 spare held t v d p) :
    ∃ (a : Option Addr) (len cap : Nat) (X : Nat → Nat), v = .slice a len cap ∧ len ≤ cap ∧ cap ≤ maxLen ∧ Row w a len X ∧ (a = none → len = 0 ∧ cap = 0) := by
  obtain ⟨a, len, cap, rfl⟩ := okWide_slice ht hv
  obtain ⟨fuel, hf⟩ := h
  rcases Deep.open_slice1 ht hc hf with ⟨hcs, _⟩ | ⟨a', len', cap', m, n, V, D, Pl, hcs, _, hl, hm, hmm, _, hx⟩
  · simp [Value.cells] at hcs
    obtain ⟨rfl, rfl, rfl⟩ := hcs
    exact ⟨_, _, _, fun _ => 0, rfl, Nat.le_refl _, Nat.zero_le _, Or.inl rfl, fun _ => ⟨rfl, rfl⟩⟩
  · simp [Value.cells] at hcs
    obtain ⟨rfl, rfl, rfl⟩ := hcs
    have hlm : len ≤ m := by rw [hmm]; split <;> omega
    by_cases h0 : len = 0
    · subst h0; exact ⟨_, _, _, fun _ => 0, rfl, hl, hm, Or.inl rfl, fun h => by cases h⟩
    obtain ⟨b, off, spot⟩ := a'
    have g := (hx 0 (by omega)).1
    have hs : spot = none := by simpa [Addr.add] using World.cell?_spot g
    subst hs
    have hb : b < w.heap.size := by
      apply Decidable.byContradiction
      intro hn
      simp [Addr.add, World.cell?, Array.getElem?_eq_none (Nat.le_of_not_lt hn)] at g
    have each : ∀ i, i < len → ∃ x : Nat, w.cell? ⟨b, off + i, none⟩ = some (.int .u8 (x : Int)) ∧ x < 256 := by
      intro i hi
      obtain ⟨g0, g1⟩ := hx i (by omega)
      obtain ⟨z, hz0, _, hw⟩ := DataW.trod_int he g1
      obtain ⟨x, rfl, hx⟩ := byte_of_wf hw
      simp only [List.cons.injEq, and_true] at hz0
      rw [hz0] at g0
      refine ⟨x, ?_, hx⟩
      rw [← g0]; congr 1; unfold Addr.add; split
      · simp_all
      · rfl
    obtain ⟨X, hX⟩ := Deep.choose_lt each
    exact ⟨_, len, cap, X, rfl, hl, hm, Or.inr ⟨b, off, rfl, hb, hX⟩, fun h => by cases h⟩

/-- A slice of bytes whose places are counted. -/
theorem open_bytes_sized {t e : TypeId} {b0 : Nat} {r : Reach} {v : Value} {d : DataW H} {p : List MemPlace} (ht : P.underlying t = some (.slice e)) (he : P.underlying e = some (.int .u8)) (hc : P.cellsOf e = 1) (hbe : P.bytesOf e = 1)
    (hv : Value.okWide P w r b0 t v) (h : DataW.Trod enc P w 0 (fun _ => true) held t v d p)
    (hz : ∀ elems spare, d = .slice elems spare → (elems.length + spare.length) * P.bytesOf e ≤ reachBytes) :
    ∃ (a : Option Addr) (len cap : Nat) (X : Nat → Nat), v = .slice a len cap ∧ len ≤ cap ∧ cap < 140737488355328 ∧ Row w a len X ∧ (a = none → len = 0 ∧ cap = 0) := by
  obtain ⟨a, len, cap, X, rfl, hl, hm, hr⟩ := open_bytes ht he hc hv h
  refine ⟨a, len, cap, X, rfl, hl, ?_, hr⟩
  obtain ⟨fuel, hf⟩ := h
  rcases Deep.open_slice1 ht hc hf with ⟨hcs, _⟩ | ⟨a', len', cap', m, n, V, D, Pl, hcs, _, hl, hm, hmm, hxe, hx⟩
  · simp [Value.cells] at hcs
    omega
  · simp [Value.cells] at hcs
    obtain ⟨rfl, rfl, rfl⟩ := hcs
    have := hz _ _ (Prod.mk.inj hxe).1
    simp only [if_true] at hmm
    subst hmm
    rw [hbe] at this
    simp only [List.length_map, List.length_range] at this
    have h2 := reachBytes_lt
    omega

/-- What is known of a list of bytes that came in: none of them, or they lie in old memory, side by side. -/
def Came (w : World) (a : Option Addr) (l : List Nat) : Prop := l = [] ∨ ∃ (b o : Nat), a = some ⟨b, o, none⟩ ∧ b < w.heap.size ∧ ∀ (i x : Nat), l[i]? = some x → w.cell? ⟨b, o + i, none⟩ = some (.int .u8 (x : Int))
theorem Came.lies {w u : World} {a : Option Addr} {l : List Nat} (h : Came w a l) (hb : Below w.heap.size w u) : Lies u a l := by
  rcases h with h | ⟨b, o, ha, hlt, hc⟩
  · exact Or.inl h
  · exact Or.inr ⟨b, o, ha, fun i x hx => (hb.cell (p := ⟨b, o + i, none⟩) hlt).trans (hc i x hx)⟩
theorem came_of_row {a : Option Addr} {len : Nat} {X : Nat → Nat} (h : Row w a len X) : ∃ l : List Nat, l.length = len ∧ Oct l ∧ Came w a l := by
  rcases h with h | ⟨b, o, ha, hb, hc⟩
  · exact ⟨[], h.symm, fun x hx => (by cases hx), Or.inl rfl⟩
  · refine ⟨(List.range len).map X, by simp, ?_, Or.inr ⟨b, o, ha, hb, fun i x hx => ?_⟩⟩
    · intro x hx
      obtain ⟨i, hi, rfl⟩ := List.mem_map.1 hx
      exact (hc i (List.mem_range.1 hi)).2
    · have hi : i < len := by
        obtain ⟨hi, _⟩ := List.getElem?_eq_some_iff.1 hx
        simpa using hi
      simp [hi] at hx
      rw [← hx]
      exact (hc i hi).1
theorem open_came {t e : TypeId} {b0 : Nat} {r : Reach} {v : Value} {d : DataW H} {p : List MemPlace} (ht : P.underlying t = some (.slice e)) (he : P.underlying e = some (.int .u8)) (hc : P.cellsOf e = 1) (hbe : P.bytesOf e = 1)
    (hv : Value.okWide P w r b0 t v) (h : DataW.Trod enc P w 0 (fun _ => true) held t v d p)
    (hz : ∀ elems spare, d = .slice elems spare → (elems.length + spare.length) * P.bytesOf e ≤ reachBytes) :
    ∃ (a : Option Addr) (l : List Nat) (cap : Nat), v = .slice a l.length cap ∧ l.length ≤ cap ∧ cap < 140737488355328 ∧ Oct l ∧ Came w a l ∧ (a = none → l.length = 0 ∧ cap = 0) := by
  obtain ⟨a, len, cap, X, rfl, h1, h2, h3, h4⟩ := open_bytes_sized ht he hc hbe hv h hz
  obtain ⟨l, rfl, ho, hb⟩ := came_of_row h3
  exact ⟨a, l, cap, rfl, h1, h2, ho, hb, h4⟩
end
theorem lies_new (w : World) (x : Nat) : Lies (w.alloc (.cells #[.int .u8 (x : Int)] 5)) (some ⟨w.heap.size, 0, none⟩) [x] := by
  refine Or.inr ⟨_, _, rfl, fun i y hy => ?_⟩
  match i, hy with
  | 0, hy =>
    have : x = y := by simpa using hy
    subst this
    rw [Nat.zero_add, (Cells.new w _ 5).cell]; rfl
/-- Bytes lie where they lay, where old memory has not turned. -/
theorem Lies.below {w u : World} {a : Option Addr} {l : List Nat} (h : Lies w a l) (k : Below w.heap.size w u) : Lies u a l := by
  rcases h with h | ⟨b, o, ha, hc⟩
  · exact Or.inl h
  · refine Or.inr ⟨b, o, ha, fun i x hx => ?_⟩
    have hlt := World.block_lt_of_cell? w ⟨b, o + i, none⟩ (hc i x hx)
    exact (k.cell (p := ⟨b, o + i, none⟩) hlt).trans (hc i x hx)
theorem lies_take {w : World} {a : Option Addr} {l : List Nat} (h : Lies w a l) (k : Nat) : Lies w a (l.take k) := by
  rcases h with rfl | ⟨b, o, ha, hc⟩
  · left; simp
  · refine Or.inr ⟨b, o, ha, fun i z hz => hc i z ?_⟩
    rw [List.getElem?_take] at hz
    split at hz
    · exact hz
    · cases hz
theorem cells5 : Try.prog.cellsOf 5 = 1 := by kernel_rfl
theorem bytes5 : Try.prog.bytesOf 5 = 1 := by kernel_rfl
end Go.Proofs.Ytmaojldkadpheaa
