/-
  How an argument that is an array of bytes, a slice of bytes, two such slices, or a slice of structs of four integers, is opened: over any program.
-/
import Derived.ProofKit
import Derived.OpenShut
import Derived.Deep.Slices
import Derived.ChangeSame
namespace Go.Proofs.Ytlipkncnomndnaa
open Go.ChangeShapes Go.WideShapes Go.ChangeAt Go.RowKit

theorem byte_of_wf {z : Int} (h : (Lit.int .u8 z).wf = true) : ∃ x : Nat, z = (x : Int) ∧ x < 256 := by
  have := bounds_u8 h
  exact ⟨z.toNat, by omega, by omega⟩
theorem all_bytes : ∀ l : List Value, (∀ v ∈ l, ∃ z, v = .int .u8 z ∧ (Lit.int .u8 z).wf = true) → ∃ xs : List Nat, l = xs.map (fun x : Nat => Value.int .u8 (x : Int)) ∧ ∀ x ∈ xs, x < 256
  | [], _ => ⟨[], rfl, by simp⟩
  | v :: l, h => by
    obtain ⟨z, rfl, hz⟩ := h v (by simp)
    obtain ⟨x, rfl, hx⟩ := byte_of_wf hz
    obtain ⟨xs, rfl, hw⟩ := all_bytes l (fun u hu => h u (by simp [hu]))
    exact ⟨x :: xs, rfl, by
      intro y hy
      rcases List.mem_cons.1 hy with rfl | hy
      · exact hx
      · exact hw y hy⟩

section
variable {H : Type} {enc : TypeId × Value → H} {P : Program} {w : World} {spare : Nat → Bool} {held : Bool}

/-- An array of bytes by value. -/
theorem open_arr {t e : TypeId} {n base b0 : Nat} {r : Reach} {v : Value} {d : DataW H} {p : List MemPlace} (ht : P.underlying t = some (.array n e)) (he : P.underlying e = some (.int .u8)) (hc : P.cellsOf e = 1) (hct : P.cellsOf t = n)
    (hv : Value.okWide P w r b0 t v) (h : DataW.Trod enc P w base spare held t v d p) : ∃ xs : List Nat, xs.length = n ∧ v = .agg (xs.map (fun x : Nat => Value.int .u8 (x : Int))).toArray ∧ ∀ x ∈ xs, x < 256 := by
  unfold Value.okWide at hv
  rw [ht] at hv
  obtain ⟨cs, rfl, hsz, _⟩ := hv
  obtain ⟨fuel, hf⟩ := h
  obtain ⟨xs, m, _, _, _, hxl, hx⟩ := DataW.trod_array ht hf
  simp only [Value.cells] at hx
  rw [hc] at hx
  rw [hct] at hsz
  obtain ⟨zs, hzs, hw⟩ := all_bytes cs.toList (by
    intro v hv
    obtain ⟨i, hi, rfl⟩ := List.getElem_of_mem hv
    have hi' : i < n := by simpa [hsz] using hi
    have g := hx i hi'
    rw [List.getElem?_eq_getElem (by omega)] at g
    obtain ⟨z, hz, _, hw⟩ := DataW.trod_int he g
    rw [Nat.mul_one, List.drop_eq_getElem_cons hi] at hz
    simp only [List.take_succ_cons, List.take_zero, List.cons.injEq, and_true] at hz
    exact ⟨z, hz, hw⟩)
  refine ⟨zs, ?_, ?_, hw⟩
  · have := congrArg List.length hzs
    simp [hsz] at this
    exact this.symm
  · rw [← hzs]

/-- What is known of a slice of bytes: none, or a row of them in old memory. -/
def Row (w : World) (a : Option Addr) (len : Nat) (X : Nat → Nat) : Prop :=
  len = 0 ∨ ∃ (b off : Nat), a = some ⟨b, off, none⟩ ∧ b < w.heap.size ∧ ∀ i, i < len → w.cell? ⟨b, off + i, none⟩ = some (.int .u8 (X i)) ∧ X i < 256

/-- A slice of bytes. -/
theorem open_bytes {t e : TypeId} {b0 : Nat} {r : Reach} {v : Value} {d : DataW H} {p : List MemPlace} (ht : P.underlying t = some (.slice e)) (he : P.underlying e = some (.int .u8)) (hc : P.cellsOf e = 1)
    (hv : Value.okWide P w r b0 t v) (h : DataW.Trod enc P w 0 spare held t v d p) :
    ∃ (a : Option Addr) (len cap : Nat) (X : Nat → Nat), v = .slice a len cap ∧ len ≤ cap ∧ cap ≤ maxLen ∧ Row w a len X := by
  obtain ⟨a, len, cap, rfl⟩ := okWide_slice ht hv
  obtain ⟨fuel, hf⟩ := h
  rcases Deep.open_slice1 ht hc hf with ⟨hcs, _⟩ | ⟨a', len', cap', m, n, V, D, Pl, hcs, _, hl, hm, hmm, _, hx⟩
  · simp [Value.cells] at hcs
    obtain ⟨rfl, rfl, rfl⟩ := hcs
    exact ⟨_, _, _, fun _ => 0, rfl, Nat.le_refl _, Nat.zero_le _, Or.inl rfl⟩
  · simp [Value.cells] at hcs
    obtain ⟨rfl, rfl, rfl⟩ := hcs
    have hlm : len ≤ m := by rw [hmm]; split <;> omega
    by_cases h0 : len = 0
    · subst h0; exact ⟨_, _, _, fun _ => 0, rfl, hl, hm, Or.inl rfl⟩
    obtain ⟨b, off, spot⟩ := a'
    have g := (hx 0 (by omega)).1
    have hs : spot = none := by simpa [Addr.add] using World.cell?_spot g
    subst hs
    have hb : b < w.heap.size := by
      apply Decidable.byContradiction
      intro hn
      simp [Addr.add, World.cell?, Array.getElem?_eq_none (Nat.le_of_not_lt hn)] at g
    have each : ∀ i, i < len → ∃ x : Nat, w.cell? ⟨b, off + i, none⟩ = some (.int .u8 (x : Int)) ∧ x < 256 := by
      intro i hi
      obtain ⟨g0, g1⟩ := hx i (by omega)
      obtain ⟨z, hz0, _, hw⟩ := DataW.trod_int he g1
      obtain ⟨x, rfl, hx⟩ := byte_of_wf hw
      simp only [List.cons.injEq, and_true] at hz0
      rw [hz0] at g0
      refine ⟨x, ?_, hx⟩
      rw [← g0]; congr 1; unfold Addr.add; split
      · simp_all
      · rfl
    obtain ⟨X, hX⟩ := Deep.choose_lt each
    exact ⟨_, len, cap, X, rfl, hl, hm, Or.inr ⟨b, off, rfl, hb, hX⟩⟩

/-- What is known of a list of bytes that came in: none of them, or they lie in old memory, side by side. -/
def Came (w : World) (a : Option Addr) (bs : List Int) : Prop := bs = [] ∨ ∃ b o, a = some ⟨b, o, none⟩ ∧ b < w.heap.size ∧ ∀ i z, bs[i]? = some z → w.cell? ⟨b, o + i, none⟩ = some (.int .u8 z)
theorem came_of_row {a : Option Addr} {len : Nat} {X : Nat → Nat} (h : Row w a len X) : ∃ bs : List Int, bs.length = len ∧ Came w a bs := by
  refine ⟨(List.range len).map (fun i => (X i : Int)), by simp, ?_⟩
  rcases h with h | ⟨b, o, ha, hb, hc⟩
  · subst h; left; rfl
  · right
    refine ⟨b, o, ha, hb, fun i z hz => ?_⟩
    have hi : i < len := by
      obtain ⟨hi, _⟩ := List.getElem?_eq_some_iff.1 hz
      simpa using hi
    simp [hi] at hz
    rw [← hz]
    exact (hc i hi).1
theorem open_came {t e : TypeId} {b0 : Nat} {r : Reach} {v : Value} {d : DataW H} {p : List MemPlace} (ht : P.underlying t = some (.slice e)) (he : P.underlying e = some (.int .u8)) (hc : P.cellsOf e = 1)
    (hv : Value.okWide P w r b0 t v) (h : DataW.Trod enc P w 0 spare held t v d p) :
    ∃ (a : Option Addr) (bs : List Int) (cap : Nat), v = .slice a bs.length cap ∧ bs.length ≤ cap ∧ cap ≤ maxLen ∧ Came w a bs := by
  obtain ⟨a, len, cap, X, rfl, h1, h2, h3⟩ := open_bytes ht he hc hv h
  obtain ⟨bs, rfl, hb⟩ := came_of_row h3
  exact ⟨a, bs, cap, rfl, h1, h2, hb⟩
end
end Go.Proofs.Ytlipkncnomndnaa
