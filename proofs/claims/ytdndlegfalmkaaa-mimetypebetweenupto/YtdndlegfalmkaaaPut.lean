/-
  What put comes to.
-/
import Derived.Test.YtdndlegfalmkaaaGps
namespace Go.Proofs.Ytdndlegfalmkaaa
open Go.RowKit
set_option linter.unusedVariables false
set_option maxHeartbeats 2000000 in
theorem put_c (w : World) (a : Option Addr) (N c : Nat) (A : List Nat) (k : Nat) (hA : Lies w a A) (hN : A.length = N) (hNb : N ≤ 1000000000) (hk : k ≤ 10000000000) (ho : Oct A) : Calls Try.prog 25 #[.slice a N c, .int .i64 (k : Int)] w fun e w' => e = .returned (.string (st (pu A k))) ∧ Below w.heap.size w w' := by
  by_cases h0 : N = 0
  · have e : pu A k = [] := if_pos (List.eq_nil_of_length_eq_zero (by omega))
    rw [e]
    subst h0
    clear hA hN hNb hk ho e
    go_enter Try.func25, Try.ntmps25
    go_wp2
    go_ret
    exact ⟨rfl, Below.refl _ _⟩
  · have hne : A ≠ [] := fun e => by rw [e] at hN; exact h0 hN.symm
    rcases hA with hA | ⟨b, o, rfl, hc⟩
    · exact absurd hA hne
    have hlt : k % N < N := Nat.mod_lt _ (by omega)
    obtain ⟨x, hx⟩ : ∃ x, A[k % N]? = some x := ⟨_, List.getElem?_eq_getElem (by omega)⟩
    have hxo := ho x (List.mem_of_getElem? hx)
    have hcell := hc _ _ hx
    have e : pu A k = gp (x % 6) := by
      unfold pu
      rw [if_neg hne, hN]
      simp [hx]
    rw [e]
    have b1 : Below w.heap.size w (w.alloc (.cells #[.string ⟨#[]⟩, .string ⟨#[32]⟩, .string ⟨#[9, 32]⟩, .string ⟨#[40, 97, 59, 98, 41]⟩, .string ⟨#[32, 40, 120, 40, 121, 41, 92, 41, 41, 32]⟩, .string ⟨#[40, 41]⟩] 9)) := (Below.refl _ w).alloc (Nat.le_refl _) _
    have hcell1 : (w.alloc (.cells #[.string ⟨#[]⟩, .string ⟨#[32]⟩, .string ⟨#[9, 32]⟩, .string ⟨#[40, 97, 59, 98, 41]⟩, .string ⟨#[32, 40, 120, 40, 121, 41, 92, 41, 41, 32]⟩, .string ⟨#[40, 41]⟩] 9)).cell? ⟨b, o + k % N, none⟩ = some (.int .u8 (x : Int)) := (b1.cell (p := ⟨b, o + k % N, none⟩) (World.block_lt_of_cell? w ⟨b, o + k % N, none⟩ hcell)).trans hcell
    have hj6 : x % 6 < 6 := by omega
    have hcj : (w.alloc (.cells #[.string ⟨#[]⟩, .string ⟨#[32]⟩, .string ⟨#[9, 32]⟩, .string ⟨#[40, 97, 59, 98, 41]⟩, .string ⟨#[32, 40, 120, 40, 121, 41, 92, 41, 41, 32]⟩, .string ⟨#[40, 41]⟩] 9)).cell? ⟨w.heap.size, x % 6, none⟩ = some (.string (st (gp (x % 6)))) := by
      rw [(Cells.new w _ 9).cell]
      obtain ⟨j, hj⟩ : ∃ j, x % 6 = j := ⟨_, rfl⟩
      rw [hj] at hj6 ⊢
      rcases (show j = 0 ∨ j = 1 ∨ j = 2 ∨ j = 3 ∨ j = 4 ∨ j = 5 by omega) with rfl | rfl | rfl | rfl | rfl | rfl <;> rfl
    have A1 : Aside (Below w.heap.size w (w.alloc (.cells #[.string ⟨#[]⟩, .string ⟨#[32]⟩, .string ⟨#[9, 32]⟩, .string ⟨#[40, 97, 59, 98, 41]⟩, .string ⟨#[32, 40, 120, 40, 121, 41, 92, 41, 41, 32]⟩, .string ⟨#[40, 41]⟩] 9))) := b1
    have n0 : ((N : Int) == 0) = false := by rw [beq_eq_false_iff_ne]; omega
    clear hc hx hcell e b1 hne ho
    go_enter Try.func25, Try.ntmps25
    go_wp2_with fail
    go_ret
    exact ⟨rfl, A1.out⟩
end Go.Proofs.Ytdndlegfalmkaaa
