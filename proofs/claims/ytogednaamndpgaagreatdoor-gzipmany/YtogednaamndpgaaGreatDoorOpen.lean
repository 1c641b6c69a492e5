/-
 How an argument that is a slice of bytes is opened, where what came in is small.
-/
import Derived.Test.YtogednaamndpgaaGreatDoorRows
import Derived.Test.YtogednaamndpgaaGreatDoorMk
import Derived.ProofKit
import Derived.OpenShut
import Derived.Deep.Slices
import Derived.ChangeSame
import Derived.SizedLaws
namespace Go.Proofs.YtogednaamndpgaaGreatDoor
open Go.ChangeShapes Go.WideShapes Go.ChangeAt Go.RowKit
section
variable {H : Type} {enc : TypeId × Value → H} {P : Program} {w : World} {spare : Nat → Bool} {held : Bool}
end
theorem bulk_pos {H : Type} (d : DataW H) : 0 < Rows.uptoBulk d := by
 cases d with
 | lit l => cases l <;> simp [Rows.uptoBulk]
 | _ => simp [Rows.uptoBulk]
theorem bulk_many {H : Type} : ∀ l : List (DataW H), l.length ≤ Rows.uptoBulkAll l
 | [] => Nat.zero_le _
 | d :: l => by
  have h1 := bulk_pos d
  have h2 := bulk_many l
  rw [Rows.uptoBulkAll, List.length_cons]
  omega
end Go.Proofs.YtogednaamndpgaaGreatDoor
