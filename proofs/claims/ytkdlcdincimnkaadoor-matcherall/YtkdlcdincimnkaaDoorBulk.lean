/-
  Where what came in is small, a slice of bytes has few places.
-/
import Derived.Test.YtkdlcdincimnkaaDoorOpen
namespace Go.Proofs.YtkdlcdincimnkaaDoor
open Go.ChangeShapes Go.WideShapes Go.ChangeAt Go.RowKit
theorem bulk_pos {H : Type} (d : DataW H) : 0 < Rows.uptoBulk d := by
  cases d with
  | lit l => cases l <;> simp [Rows.uptoBulk]
  | _ => simp [Rows.uptoBulk]
theorem bulk_many {H : Type} : ∀ l : List (DataW H), l.length ≤ Rows.uptoBulkAll l
  | [] => Nat.zero_le _
  | d :: l => by
    have h1 := bulk_pos d
    have h2 := bulk_many l
    rw [Rows.uptoBulkAll, List.length_cons]
    omega
theorem bulk_slice {H : Type} {d : DataW H} {n : Nat} (h : Rows.uptoBulk d ≤ n) : ∀ elems spare, d = .slice elems spare → elems.length + spare.length ≤ n := by
  rintro elems spare rfl
  have h1 := bulk_many elems
  have h2 := bulk_many spare
  rw [Rows.uptoBulk] at h
  omega
section
variable {H : Type} {enc : TypeId × Value → H} {P : Program} {w : World}
theorem arg_few {t e : TypeId} {a : Option Addr} {len cap : Nat} {d : DataW H} {p : List MemPlace} (ht : P.underlying t = some (.slice e)) (hc : P.cellsOf e = 1)
    (h : DataW.Trod enc P w 0 (fun _ => true) true t (.slice a len cap) d p) (n : Nat) (hz : Rows.uptoBulk d ≤ n) : cap ≤ n := by
  obtain ⟨fuel, hf⟩ := h
  have hz := bulk_slice hz
  rcases Deep.open_slice1 ht hc hf with ⟨hcs, _⟩ | ⟨a', len', cap', m, k, V, D, Pl, hcs, _, hl, hm, hmm, hxe, hx⟩
  · simp [Value.cells] at hcs
    omega
  · simp [Value.cells] at hcs
    obtain ⟨rfl, e2, rfl⟩ := hcs
    have := hz _ _ (Prod.mk.inj hxe).1
    simp only [if_true] at hmm
    subst hmm
    simp only [List.length_map, List.length_range] at this
    omega
end
end Go.Proofs.YtkdlcdincimnkaaDoor
