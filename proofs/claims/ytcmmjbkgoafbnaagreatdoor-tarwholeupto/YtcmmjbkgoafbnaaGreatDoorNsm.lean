/-
  The two sums of a block, its sum field, noughts: what they are. No walk.
-/
import Derived.Test.YtcmmjbkgoafbnaaGreatDoorNum
namespace Go.Proofs.YtcmmjbkgoafbnaaGreatDoor
/-- Bytes alone. -/
def Oct (l : List Nat) : Prop := ∀ x ∈ l, x < 256
theorem Oct.drop {l : List Nat} (h : Oct l) (k : Nat) : Oct (l.drop k) := fun x hx => h x (List.mem_of_mem_drop hx)
theorem Oct.take {l : List Nat} (h : Oct l) (k : Nat) : Oct (l.take k) := fun x hx => h x (List.mem_of_mem_take hx)
/-- The byte at place i as it counts. -/
def val (l : List Nat) (i : Nat) : Nat := if 148 ≤ i ∧ i < 156 then 32 else l.getD i 0
/-- A byte as a number that may be below 0. -/
def sg (x : Nat) : Int := if 128 ≤ x then (x : Int) - 256 else x
def pl (l : List Nat) : Nat → Int
  | 0 => 0
  | k + 1 => pl l k + (val l k : Int)
def sn (l : List Nat) : Nat → Int
  | 0 => 0
  | k + 1 => sn l k + sg (val l k)
/-- The sum field. -/
def sumfield (l : List Nat) : List Nat := (l.drop 148).take 8
def rgt (l : List Nat) : Bool := match oct (sumfield l) with
  | none => false
  | some v => decide ((v : Int) = pl l 512) || decide ((v : Int) = sn l 512)
/-- A block of noughts alone. -/
def noughts (l : List Nat) : Bool := l.all fun x => x == 0
end Go.Proofs.YtcmmjbkgoafbnaaGreatDoor
