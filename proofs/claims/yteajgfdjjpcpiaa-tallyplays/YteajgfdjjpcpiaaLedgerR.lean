/-
  What each method of the document's own ledger comes to.
  Conditions: both numbers are of 64 bits, and what is used is not above the limit.
-/
import Derived.Test.YteajgfdjjpcpiaaLedger
namespace Go.Proofs.Yteajgfdjjpcpiaa
open Go.RowKit
/-! ### the document's ledger -/
theorem rgive_no (b : Nat) (l u n : Int) (w : World) (h : Led w b l u) (hn : u < n) :
    Calls Try.prog 19 #[.pointer (some ⟨b, 0, none⟩), .int .u64 n] w fun e w' => e = .returned (.bool false) ∧ Led w' b l u ∧ Only b w w' := by
  have h1 := h.c1
  go_enter Try.func19, Try.ntmps19
  go_wp2
  go_ret
  exact ⟨rfl, h, Only.refl _ _⟩
theorem rgive_yes (b : Nat) (l u n : Int) (w : World) (h : Led w b l u) (hu : Word u) (h0 : 0 ≤ n) (hn : n ≤ u) :
    Calls Try.prog 19 #[.pointer (some ⟨b, 0, none⟩), .int .u64 n] w fun e w' => e = .returned (.bool true) ∧ Led w' b l (u - n) ∧ Only b w w' := by
  have h1 := h.c1
  have hf := h.fz
  obtain ⟨u0, u1⟩ := hu
  have hn' : ¬ u < n := by omega
  go_enter Try.func19, Try.ntmps19
  go_wp2
  go_ret
  exact ⟨rfl, h.set _, (Only.refl _ _).setCell _ _⟩
theorem rclaim_no (b : Nat) (l u n : Int) (w : World) (h : Led w b l u) (hl : Word l) (hu : 0 ≤ u) (hul : u ≤ l) (hn : l - u < n) :
    Calls Try.prog 21 #[.pointer (some ⟨b, 0, none⟩), .int .u64 n] w fun e w' => e = .returned (.bool false) ∧ Led w' b l u ∧ Only b w w' := by
  have h0 := h.c0
  have h1 := h.c1
  obtain ⟨l0, l1⟩ := hl
  have hw : IntKind.u64.wrap (l - u) = l - u := by rw [IntKind.wrap_u64]; omega
  go_enter Try.func21, Try.ntmps21
  go_wp2
  go_quiet (fail)
  go_wp2
  go_ret
  exact ⟨rfl, h.drewN _, (Only.refl _ _).drewN _⟩
theorem rclaim_yes (b : Nat) (l u n : Int) (w : World) (h : Led w b l u) (hl : Word l) (hu : 0 ≤ u) (_hul : u ≤ l) (h0 : 0 ≤ n) (hn : n ≤ l - u) :
    Calls Try.prog 21 #[.pointer (some ⟨b, 0, none⟩), .int .u64 n] w fun e w' => e = .returned (.bool true) ∧ Led w' b l (u + n) ∧ Only b w w' := by
  have h0' := h.c0
  have h1 := h.c1
  have hf := h.fz
  have hn' : ¬ l - u < n := by omega
  obtain ⟨l0, l1⟩ := hl
  have hw : IntKind.u64.wrap (l - u) = l - u := by rw [IntKind.wrap_u64]; omega
  go_enter Try.func21, Try.ntmps21
  go_wp2
  go_quiet (fail)
  go_wp2
  go_ret
  exact ⟨rfl, (h.drewN _).set _, ((Only.refl _ _).drewN _).setCell _ _⟩
end Go.Proofs.Yteajgfdjjpcpiaa
