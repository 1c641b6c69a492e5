/-
  What each method of tally's Ledger comes to: at a nil ledger, and at one whose two numbers (limit, used) lie in memory.
  Conditions: both are numbers of 64 bits, and what is used is not above the limit.
-/
import Derived.Test.YteajgfdjjpcpiaaSums
import Derived.Test.YteajgfdjjpcpiaaMem
import Derived.Deep.QuietTactic
import Derived.BigQuiet
namespace Go.Proofs.Yteajgfdjjpcpiaa
open Go.RowKit

/-! ### nil -/
theorem used_nil (w : World) : Calls Try.prog 16 #[.pointer none] w fun e w' => e = .returned (.int .u64 0) ∧ w' = w := by
  go_enter Try.func16, Try.ntmps16
  go_wp2
  go_ret
  exact ⟨rfl, rfl⟩
theorem left_nil (w : World) : Calls Try.prog 17 #[.pointer none] w fun e w' => e = .returned (.int .u64 0) ∧ w' = w := by
  go_enter Try.func17, Try.ntmps17
  go_wp2
  go_ret
  exact ⟨rfl, rfl⟩
theorem give_nil (n : Int) (w : World) : Calls Try.prog 18 #[.pointer none, .int .u64 n] w fun e w' => e = .returned (.bool false) ∧ w' = w := by
  go_enter Try.func18, Try.ntmps18
  go_wp2
  go_ret
  exact ⟨rfl, rfl⟩
theorem claim_nil (n : Int) (w : World) : Calls Try.prog 20 #[.pointer none, .int .u64 n] w fun e w' => e = .returned (.bool false) ∧ w' = w := by
  go_enter Try.func20, Try.ntmps20
  go_wp2
  go_ret
  exact ⟨rfl, rfl⟩

/-! ### a ledger that is there -/
theorem new_any (n : Int) (w : World) : Calls Try.prog 15 #[.int .u64 n] w fun e w' => e = .returned (.pointer (some ⟨w.heap.size, 0, none⟩)) ∧ w' = w.alloc (.cells #[.int .u64 n, .int .u64 0] 47) := by
  go_enter Try.func15, Try.ntmps15
  go_wp2
  go_ret
  exact ⟨rfl, rfl⟩
/-- Block b holds a ledger: its limit, and what is used of it. -/
def Led (w : World) (b : Nat) (l u : Int) : Prop := ∃ t, Cells w b #[.int .u64 l, .int .u64 u] t
theorem Led.c0 {w : World} {b : Nat} {l u : Int} (h : Led w b l u) : w.cell? ⟨b, 0, none⟩ = some (.int .u64 l) := by obtain ⟨t, h⟩ := h; rw [h.cell 0]; rfl
theorem Led.c1 {w : World} {b : Nat} {l u : Int} (h : Led w b l u) : w.cell? ⟨b, 1, none⟩ = some (.int .u64 u) := by obtain ⟨t, h⟩ := h; rw [h.cell 1]; rfl
theorem Led.fz {w : World} {b : Nat} {l u : Int} (h : Led w b l u) : w.frozen? ⟨b, 1, none⟩ = false := by obtain ⟨t, h⟩ := h; exact h.frozen 1
theorem Led.set {w : World} {b : Nat} {l u : Int} (h : Led w b l u) (u' : Int) : Led (w.setCell ⟨b, 1, none⟩ (.int .u64 u')) b l u' := by obtain ⟨t, h⟩ := h; exact ⟨t, h.set 1 _⟩
theorem Led.drewN {w : World} {b : Nat} {l u : Int} (h : Led w b l u) (n : Nat) : Led (w.drewN n) b l u := h
theorem Led.only {w v : World} {b c : Nat} {l u : Int} (h : Led w b l u) (k : Only c w v) (hb : b ≠ c) : Led v b l u := by obtain ⟨t, h⟩ := h; exact ⟨t, h.only k hb⟩
theorem Led.new (w : World) (l : Int) (t : TypeId) : Led (w.alloc (.cells #[.int .u64 l, .int .u64 0] t)) w.heap.size l 0 := ⟨t, Cells.new w _ t⟩
theorem Led.alloc {w : World} {b : Nat} {l u : Int} (h : Led w b l u) (o : Obj) : Led (w.alloc o) b l u := by obtain ⟨t, h⟩ := h; exact ⟨t, h.alloc o⟩

theorem used_any (b : Nat) (l u : Int) (w : World) (h : Led w b l u) :
    Calls Try.prog 16 #[.pointer (some ⟨b, 0, none⟩)] w fun e w' => e = .returned (.int .u64 u) ∧ w' = w := by
  have h1 := h.c1
  clear h
  go_enter Try.func16, Try.ntmps16
  go_wp2
  go_ret
  exact ⟨rfl, rfl⟩
theorem left_any (b : Nat) (l u : Int) (w : World) (h : Led w b l u) (hl : Word l) (hu : 0 ≤ u) (hul : u ≤ l) :
    Calls Try.prog 17 #[.pointer (some ⟨b, 0, none⟩)] w fun e w' => e = .returned (.int .u64 (l - u)) ∧ ∃ n, w' = w.drewN n := by
  have h0 := h.c0
  have h1 := h.c1
  clear h
  obtain ⟨l0, l1⟩ := hl
  go_enter Try.func17, Try.ntmps17
  go_wp2
  go_quiet (fail)
  go_wp2
  go_ret
  exact ⟨rfl, _, rfl⟩
theorem give_no (b : Nat) (l u n : Int) (w : World) (h : Led w b l u) (hn : u < n) :
    Calls Try.prog 18 #[.pointer (some ⟨b, 0, none⟩), .int .u64 n] w fun e w' => e = .returned (.bool false) ∧ Led w' b l u ∧ Only b w w' := by
  have h1 := h.c1
  go_enter Try.func18, Try.ntmps18
  go_wp2
  go_ret
  exact ⟨rfl, h, Only.refl _ _⟩
theorem give_yes (b : Nat) (l u n : Int) (w : World) (h : Led w b l u) (hu : Word u) (h0 : 0 ≤ n) (hn : n ≤ u) :
    Calls Try.prog 18 #[.pointer (some ⟨b, 0, none⟩), .int .u64 n] w fun e w' => e = .returned (.bool true) ∧ Led w' b l (u - n) ∧ Only b w w' := by
  have h1 := h.c1
  have hf := h.fz
  obtain ⟨u0, u1⟩ := hu
  have hn' : ¬ u < n := by omega
  go_enter Try.func18, Try.ntmps18
  go_wp2
  go_ret
  exact ⟨rfl, h.set _, (Only.refl _ _).setCell _ _⟩
theorem claim_no (b : Nat) (l u n : Int) (w : World) (h : Led w b l u) (hl : Word l) (hu : 0 ≤ u) (hul : u ≤ l) (hn : l - u < n) :
    Calls Try.prog 20 #[.pointer (some ⟨b, 0, none⟩), .int .u64 n] w fun e w' => e = .returned (.bool false) ∧ Led w' b l u ∧ Only b w w' := by
  go_enter Try.func20, Try.ntmps20
  go_wp2_with (go_at_call 17; refine (left_any b l u _ h hl hu hul).mono ?_; rintro e w' ⟨rfl, k, rfl⟩)
  go_ret
  exact ⟨rfl, h.drewN _, (Only.refl _ _).drewN _⟩
theorem claim_yes (b : Nat) (l u n : Int) (w : World) (h : Led w b l u) (hl : Word l) (hu : 0 ≤ u) (hul : u ≤ l) (h0 : 0 ≤ n) (hn : n ≤ l - u) :
    Calls Try.prog 20 #[.pointer (some ⟨b, 0, none⟩), .int .u64 n] w fun e w' => e = .returned (.bool true) ∧ Led w' b l (u + n) ∧ Only b w w' := by
  have h1 := h.c1
  have hf := h.fz
  have hn' : ¬ l - u < n := by omega
  have l0 := hl.1
  have l1 := hl.2
  go_enter Try.func20, Try.ntmps20
  go_wp2_with (go_at_call 17; refine (left_any b l u _ h hl hu hul).mono ?_; rintro e w' ⟨rfl, k, rfl⟩)
  go_ret
  exact ⟨rfl, (h.drewN _).set _, ((Only.refl _ _).drewN _).setCell _ _⟩
end Go.Proofs.Yteajgfdjjpcpiaa
namespace Go.Proofs.Yteajgfdjjpcpiaa
open Go.RowKit
theorem new_c (n : Int) (w : World) : Calls Try.prog 15 #[.int .u64 n] w fun e w' => e = .returned (.pointer (some ⟨w.heap.size, 0, none⟩)) ∧ Led w' w.heap.size n 0 ∧ Below w.heap.size w w' ∧ w'.heap.size = w.heap.size + 1 :=
  (new_any n w).mono fun _ _ h => ⟨h.1, by rw [h.2]; exact Led.new _ _ _, by rw [h.2]; exact (Below.refl _ _).alloc (Nat.le_refl _) _, by rw [h.2]; simp⟩
theorem used_c (b : Nat) (l u : Int) (w : World) (h : Led w b l u) : Calls Try.prog 16 #[.pointer (some ⟨b, 0, none⟩)] w fun e w' => e = .returned (.int .u64 u) ∧ w = w' :=
  (used_any b l u w h).mono fun _ _ h => ⟨h.1, h.2.symm⟩
end Go.Proofs.Yteajgfdjjpcpiaa
