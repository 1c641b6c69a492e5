/-
  How an argument that is a slice of bytes is opened, where what came in is small.
-/
import Derived.Test.YtbhlmmbknmejkaaDoorRows
import Derived.Test.YtbhlmmbknmejkaaDoorOwx
import Derived.ProofKit
import Derived.OpenShut
import Derived.Deep.Slices
import Derived.ChangeSame
import Derived.SizedLaws
namespace Go.Proofs.YtbhlmmbknmejkaaDoor
open Go.ChangeShapes Go.WideShapes Go.ChangeAt Go.RowKit
section
variable {H : Type} {enc : TypeId × Value → H} {P : Program} {w : World} {spare : Nat → Bool} {held : Bool}
/-- Integers that lie side by side. -/
def IRow (k : IntKind) (w : World) (a : Option Addr) (zs : List Int) : Prop := zs = [] ∨ ∃ (b o : Nat), a = some ⟨b, o, none⟩ ∧ ∀ (i : Nat) (z : Int), zs[i]? = some z → w.cell? ⟨b, o + i, none⟩ = some (.int k z)
theorem open_ints {t e : TypeId} {k : IntKind} {b0 : Nat} {r : Reach} {v : Value} {d : DataW H} {p : List MemPlace} (ht : P.underlying t = some (.slice e)) (he : P.underlying e = some (.int k)) (hc : P.cellsOf e = 1)
    (hv : Value.okWide P w r b0 t v) (h : DataW.Trod enc P w 0 (fun _ => true) held t v d p) (nb : Nat) (hz : ∀ elems spare, d = .slice elems spare → elems.length + spare.length ≤ nb) :
    ∃ (a : Option Addr) (zs : List Int) (cap : Nat), v = .slice a zs.length cap ∧ zs.length ≤ cap ∧ cap ≤ nb ∧ (∀ z ∈ zs, (Lit.int k z).wf = true) ∧ IRow k w a zs ∧ (a = none → zs.length = 0 ∧ cap = 0) := by
  obtain ⟨a, len, cap, rfl⟩ := okWide_slice ht hv
  obtain ⟨fuel, hf⟩ := h
  rcases Deep.open_slice1 ht hc hf with ⟨hcs, _⟩ | ⟨a', len', cap', m, n, V, D, Pl, hcs, _, hl, hm, hmm, hxe, hx⟩
  · simp [Value.cells] at hcs
    obtain ⟨rfl, rfl, rfl⟩ := hcs
    exact ⟨none, [], 0, rfl, Nat.le_refl _, by simp, by simp, Or.inl rfl, fun _ => ⟨rfl, rfl⟩⟩
  · simp [Value.cells] at hcs
    obtain ⟨rfl, rfl, rfl⟩ := hcs
    have hcap : cap ≤ nb := by
      have := hz _ _ (Prod.mk.inj hxe).1
      simp only [if_true] at hmm
      subst hmm
      simp only [List.length_map, List.length_range] at this
      omega
    have hlm : len ≤ m := by rw [hmm]; split <;> omega
    by_cases h0 : len = 0
    · subst h0; exact ⟨_, [], cap, rfl, hl, hcap, by simp, Or.inl rfl, fun h => by cases h⟩
    obtain ⟨b, off, spot⟩ := a'
    have g := (hx 0 (by omega)).1
    have hs : spot = none := by simpa [Addr.add] using World.cell?_spot g
    subst hs
    have each : ∀ i, i < len → ∃ z : Int, w.cell? ⟨b, off + i, none⟩ = some (.int k z) ∧ (Lit.int k z).wf = true := by
      intro i hi
      obtain ⟨g0, g1⟩ := hx i (by omega)
      obtain ⟨z, hz0, _, hw⟩ := DataW.trod_int he g1
      simp only [List.cons.injEq, and_true] at hz0
      rw [hz0] at g0
      refine ⟨z, ?_, hw⟩
      rw [← g0]; congr 1; unfold Addr.add; split
      · simp_all
      · rfl
    obtain ⟨X, hX⟩ := Deep.choose_lt each
    refine ⟨_, (List.range len).map X, cap, by simp, by simpa using hl, hcap, ?_, Or.inr ⟨b, off, rfl, fun i z hz => ?_⟩, fun h => by cases h⟩
    · intro z hz
      obtain ⟨i, hi, rfl⟩ := List.mem_map.1 hz
      exact (hX i (List.mem_range.1 hi)).2
    · have hi : i < len := by
        obtain ⟨hi, _⟩ := List.getElem?_eq_some_iff.1 hz
        simpa using hi
      simp [hi] at hz
      rw [← hz]
      exact (hX i hi).1
end
/-- Numbers of a kind that has none below 0. -/
theorem nats_of {l : List Int} (h : ∀ z ∈ l, 0 ≤ z) : ∃ xs : List Nat, l = xs.map (fun x : Nat => (x : Int)) := by
  induction l with
  | nil => exact ⟨[], rfl⟩
  | cons z l ih =>
    obtain ⟨xs, rfl⟩ := ih (fun y hy => h y (by simp [hy]))
    have := h z (by simp)
    exact ⟨z.toNat :: xs, by simp; omega⟩
theorem IRow.nats {k : IntKind} {w : World} {a : Option Addr} {xs : List Nat} (h : IRow k w a (xs.map (fun x : Nat => (x : Int)))) : xs = [] ∨ ∃ (b o : Nat), a = some ⟨b, o, none⟩ ∧ ∀ (i x : Nat), xs[i]? = some x → w.cell? ⟨b, o + i, none⟩ = some (.int k (x : Int)) := by
  rcases h with h | ⟨b, o, ha, hc⟩
  · left; simpa using h
  · exact Or.inr ⟨b, o, ha, fun i x hx => hc i x (by rw [List.getElem?_map, hx]; rfl)⟩
theorem bulk_pos {H : Type} (d : DataW H) : 0 < Rows.uptoBulk d := by
  cases d with
  | lit l => cases l <;> simp [Rows.uptoBulk]
  | _ => simp [Rows.uptoBulk]
theorem bulk_many {H : Type} : ∀ l : List (DataW H), l.length ≤ Rows.uptoBulkAll l
  | [] => Nat.zero_le _
  | d :: l => by
    have h1 := bulk_pos d
    have h2 := bulk_many l
    rw [Rows.uptoBulkAll, List.length_cons]
    omega
theorem bulk_slice {H : Type} {d : DataW H} {n : Nat} (h : Rows.uptoBulk d ≤ n) : ∀ elems spare, d = .slice elems spare → elems.length + spare.length ≤ n := by
  rintro elems spare rfl
  have h1 := bulk_many elems
  have h2 := bulk_many spare
  rw [Rows.uptoBulk] at h
  omega
theorem cells5o : Tryd.prog.cellsOf 5 = 1 := by kernel_rfl
set_option maxRecDepth 100000 in
/-- A slice of bytes that came in, where what came in is small. -/
theorem open_small {H : Type} {enc : TypeId × Value → H} {w : World} {b0 : Nat} {r : Reach} {held : Bool} {v : Value} {d : DataW H} {p : List MemPlace}
    (hv : Value.okWide Tryd.prog w r b0 22 v) (h : DataW.Trod enc Tryd.prog w 0 (fun _ => true) held 22 v d p) (hb : Rows.uptoBulk d ≤ 1048576) :
    ∃ (a : Option Addr) (l : List Nat) (L C : Nat), v = .slice a L C ∧ l.length = L ∧ L ≤ C ∧ L ≤ 2000000 ∧ Oct l ∧ Lies w a l ∧ (a = none → L = 0 ∧ C = 0) ∧ C ≤ 1048576 := by
  obtain ⟨a, zs, cap, rfl, h1, h2, h3, h4, h5⟩ := open_ints (k := .u8) Tryd.underlying22 Tryd.underlying5 cells5o hv h 1048576 (bulk_slice hb)
  have h8 : ∀ z ∈ zs, 0 ≤ z ∧ z ≤ 255 := fun z hz => by
    have := h3 z hz
    simpa [Lit.wf, IntKind.min, IntKind.max, IntKind.signed, IntKind.bits] using this
  obtain ⟨xs, rfl⟩ := nats_of (fun z hz => (h8 z hz).1)
  refine ⟨a, xs, xs.length, cap, by simp, rfl, by simpa using h1, by simp at h1; omega, ?_, h4.nats, by simpa using h5, h2⟩
  intro x hx
  have := h8 (x : Int) (List.mem_map.2 ⟨x, hx, rfl⟩)
  omega
theorem bytes5o : Tryd.prog.bytesOf 5 = 1 := by kernel_rfl
set_option maxRecDepth 100000 in
/-- A slice of bytes that came in, within the form's own reach. -/
theorem open_reach {H : Type} {enc : TypeId × Value → H} {w : World} {b0 : Nat} {r : Reach} {held : Bool} {v : Value} {d : DataW H} {p : List MemPlace}
    (hv : Value.okWide Tryd.prog w r b0 22 v) (h : DataW.Trod enc Tryd.prog w 0 (fun _ => true) held 22 v d p) (z : ∀ elems spare, d = .slice elems spare → (elems.length + spare.length) * Tryd.prog.bytesOf 5 ≤ reachBytes) :
    ∃ (a : Option Addr) (l : List Nat) (L C : Nat), v = .slice a L C ∧ l.length = L ∧ L ≤ C ∧ L ≤ 140737488351232 ∧ Oct l ∧ Lies w a l ∧ (a = none → L = 0 ∧ C = 0) := by
  obtain ⟨a, zs, cap, rfl, h1, h2, h3, h4, h5⟩ := open_ints (k := .u8) Tryd.underlying22 Tryd.underlying5 cells5o hv h reachBytes (fun e s q => by have := z e s q; rw [bytes5o, Nat.mul_one] at this; exact this)
  have h8 : ∀ z ∈ zs, 0 ≤ z ∧ z ≤ 255 := fun z hz => by
    have := h3 z hz
    simpa [Lit.wf, IntKind.min, IntKind.max, IntKind.signed, IntKind.bits] using this
  obtain ⟨xs, rfl⟩ := nats_of (fun z hz => (h8 z hz).1)
  have hr : reachBytes = 140737488351232 := rfl
  refine ⟨a, xs, xs.length, cap, by simp, rfl, by simpa using h1, by simp at h1; omega, ?_, h4.nats, by simpa using h5⟩
  intro x hx
  have := h8 (x : Int) (List.mem_map.2 ⟨x, hx, rfl⟩)
  omega
end Go.Proofs.YtbhlmmbknmejkaaDoor
