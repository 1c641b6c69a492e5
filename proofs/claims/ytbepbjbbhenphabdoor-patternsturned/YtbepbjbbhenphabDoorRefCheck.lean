/-
  What the document's Check comes to: the error of some patterns.
  Conditions: the patterns lie in memory.
-/
import Derived.Test.YtbepbjbbhenphabDoorEqs
import Derived.Test.YtbepbjbbhenphabDoorChecks
import Derived.Test.YtbepbjbbhenphabDoorBuild
namespace Go.Proofs.YtbepbjbbhenphabDoor
open Go.RowKit
set_option linter.unusedVariables false
/-- A world behind some draws. -/
def Drawn (w u : World) : Prop := ∃ n, u = w.drewN n
theorem Drawn.refl (w : World) : Drawn w w := ⟨0, rfl⟩
theorem Drawn.drewN {w u : World} (h : Drawn w u) (n : Nat) : Drawn w (u.drewN n) := by
  obtain ⟨m, rfl⟩ := h
  exact ⟨_, World.drewN_drewN _ _ _⟩
theorem Drawn.cell {w u : World} (h : Drawn w u) {p : Addr} {v : Value} (hc : w.cell? p = some v) : u.cell? p = some v := by
  obtain ⟨m, rfl⟩ := h
  exact hc
theorem Drawn.lies {w u : World} (h : Drawn w u) {a : Option Addr} {l : List Nat} (hc : Lies w a l) : Lies u a l := by
  obtain ⟨m, rfl⟩ := h
  exact hc
theorem Drawn.trans {w u v : World} (h : Drawn w u) (k : Drawn u v) : Drawn w v := by
  obtain ⟨m, rfl⟩ := k
  exact h.drewN m
theorem Drawn.below {w u : World} (h : Drawn w u) (B : Nat) : Below B w u := by
  obtain ⟨m, rfl⟩ := h
  exact ⟨rfl, rfl, rfl, Nat.le_refl _, fun _ _ => rfl⟩
theorem oneErr_long {p : List Nat} {ahead : List (List Nat)} (h0 : p.length ≠ 0) (h1 : ¬ 32 < p.length) : oneErr p ahead = if p ∈ ahead then 63 else 0 := by unfold oneErr; rw [if_neg h0, if_neg h1]
end Go.Proofs.YtbepbjbbhenphabDoor
