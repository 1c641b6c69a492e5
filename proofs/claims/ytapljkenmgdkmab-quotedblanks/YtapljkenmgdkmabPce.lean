/-
  What is written for one byte.
-/
import Derived.Test.YtapljkenmgdkmabWrt
namespace Go.Proofs.Ytapljkenmgdkmab
open Go.RowKit
set_option linter.unusedVariables false
theorem u8_and15 (b : Nat) (hb : b < 256) : bits .and .u8 (b : Int) 15 = ((b % 16 : Nat) : Int) := by
  have key : ∀ b : Fin 256, bits .and .u8 ((b : Nat) : Int) 15 = (((b : Nat) % 16 : Nat) : Int) := by decide +kernel
  exact key ⟨b, hb⟩
theorem hx_fin : ∀ ix : Fin 16, ((ByteArray.mk #[48, 49, 50, 51, 52, 53, 54, 55, 56, 57, 65, 66, 67, 68, 69, 70])[ix.val]'(by have := ix.isLt; exact this)).toNat = hx ix.val := by decide
theorem hx_at (ix : Nat) (h : ix < 16) (p : ix < (ByteArray.mk #[48, 49, 50, 51, 52, 53, 54, 55, 56, 57, 65, 66, 67, 68, 69, 70]).size) : ((ByteArray.mk #[48, 49, 50, 51, 52, 53, 54, 55, 56, 57, 65, 66, 67, 68, 69, 70])[ix]'p).toNat = hx ix := hx_fin ⟨ix, h⟩
/-- What piece comes to. -/
def PcTo (p : List Nat) (w : World) (e : Ending) (w' : World) : Prop := ∃ H c, e = .returned (.slice (some ⟨H, 0, none⟩) p.length c) ∧ Lies w' (some ⟨H, 0, none⟩) p ∧ w.heap.size ≤ H ∧ Below w.heap.size w w'
theorem piece_c (w : World) (a : Option Addr) (b : Nat) (r : List Nat) (L C : Nat) (hl : Lies w a (b :: r)) (hL : (b :: r).length = L) (hLC : L ≤ C) (hb : b < 256) : Calls Try.prog 23 #[.slice a L C] w fun e w' => PcTo (pc b r) w e w' := by
  have hst := stands_c w a b r L C hl hL hLC hb
  obtain ⟨A, o, rfl, c0⟩ := hl.one
  have t2 : (0 : Int) < (L : Int) := by simp at hL; omega
  obtain ⟨z, hz⟩ : ∃ z, stn b r = z := ⟨_, rfl⟩
  rw [hz] at hst
  unfold pc
  rw [hz]
  cases z
  · have hand := u8_and15 b hb
    obtain ⟨q1, hq1⟩ : ∃ q1, b / 16 = q1 := ⟨_, rfl⟩
    obtain ⟨q2, hq2⟩ : ∃ q2, b % 16 = q2 := ⟨_, rfl⟩
    rw [hq2] at hand
    have hq1' : (b : Int) / 16 = (q1 : Int) := by omega
    have i1 : (q1 : Int) < 16 := by omega
    have i2 : (q2 : Int) < 16 := by omega
    have e1 := hx_at q1 (by omega)
    have e2 := hx_at q2 (by omega)
    rw [hq1, hq2]
    clear hl hL hLC hz hq1 hq2 hb
    go_enter Try.func23, Try.ntmps23
    go_upto_region 3 with (go_at_call 30; refine hst.mono ?_; rintro e1 w0 ⟨rfl, hw0⟩; subst hw0)
    go_region
    go_wp2_with fail
    go_ret
    refine ⟨w.heap.size, 3, rfl, ?_, Nat.le_refl _, ((Below.refl _ w).alloc (Nat.le_refl _) _).drew⟩
    exact (lies_new w _ rfl [61, hx q1, hx q2] (0, 0)).drewN 1
  · clear hl hL hLC hz hb
    go_enter Try.func23, Try.ntmps23
    go_wp2_with (go_at_call 30; refine hst.mono ?_; rintro e1 w0 ⟨rfl, hw0⟩; subst hw0)
    go_ret
    exact ⟨w.heap.size, 1, rfl, lies_one w _ b rfl, Nat.le_refl _, (Below.refl _ w).alloc (Nat.le_refl _) _⟩
end Go.Proofs.Ytapljkenmgdkmab
