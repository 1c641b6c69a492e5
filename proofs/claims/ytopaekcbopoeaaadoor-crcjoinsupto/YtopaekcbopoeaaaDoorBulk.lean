/-
  Where what came in is small, a slice of bytes has few places: how such an argument is opened.
-/
import Derived.Test.YtopaekcbopoeaaaDoorOpen
namespace Go.Proofs.YtopaekcbopoeaaaDoor
open Go.ChangeShapes Go.WideShapes Go.ChangeAt Go.RowKit
theorem bulk_pos {H : Type} (d : DataW H) : 0 < Rows.uptoBulk d := by
  cases d with
  | lit l => cases l <;> simp [Rows.uptoBulk]
  | _ => simp [Rows.uptoBulk]
theorem bulk_many {H : Type} : ∀ l : List (DataW H), l.length ≤ Rows.uptoBulkAll l
  | [] => Nat.zero_le _
  | d :: l => by
    have h1 := bulk_pos d
    have h2 := bulk_many l
    rw [Rows.uptoBulkAll, List.length_cons]
    omega
theorem bulk_slice {H : Type} {d : DataW H} {n : Nat} (h : Rows.uptoBulk d ≤ n) : ∀ elems spare, d = .slice elems spare → elems.length + spare.length ≤ n := by
  rintro elems spare rfl
  have h1 := bulk_many elems
  have h2 := bulk_many spare
  rw [Rows.uptoBulk] at h
  omega
section
variable {H : Type} {enc : TypeId × Value → H} {P : Program} {w : World} {held : Bool}
theorem open_came_by {t e : TypeId} {b0 : Nat} {r : Reach} {v : Value} {d : DataW H} {p : List MemPlace} (ht : P.underlying t = some (.slice e)) (he : P.underlying e = some (.int .u8)) (hc : P.cellsOf e = 1)
    (hv : Value.okWide P w r b0 t v) (h : DataW.Trod enc P w 0 (fun _ => true) held t v d p) (n : Nat) (hz : ∀ elems spare, d = .slice elems spare → elems.length + spare.length ≤ n) :
    ∃ (a : Option Addr) (l : List Nat) (cap : Nat), v = .slice a l.length cap ∧ l.length ≤ cap ∧ cap ≤ n ∧ Oct l ∧ Came w a l ∧ (a = none → l.length = 0 ∧ cap = 0) := by
  obtain ⟨a, len, cap, X, rfl, hl, hm, hr, h4⟩ := open_bytes ht he hc hv h
  obtain ⟨l, rfl, ho, hb⟩ := came_of_row hr
  refine ⟨a, l, cap, rfl, hl, ?_, ho, hb, h4⟩
  obtain ⟨fuel, hf⟩ := h
  rcases Deep.open_slice1 ht hc hf with ⟨hcs, _⟩ | ⟨a', len', cap', m, k, V, D, Pl, hcs, _, hl, hm, hmm, hxe, hx⟩
  · simp [Value.cells] at hcs
    omega
  · simp [Value.cells] at hcs
    obtain ⟨rfl, e2, rfl⟩ := hcs
    have := hz _ _ (Prod.mk.inj hxe).1
    simp only [if_true] at hmm
    subst hmm
    simp only [List.length_map, List.length_range] at this
    omega
end
end Go.Proofs.YtopaekcbopoeaaaDoor
