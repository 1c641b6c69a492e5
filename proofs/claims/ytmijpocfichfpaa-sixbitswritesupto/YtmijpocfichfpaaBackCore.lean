/-
  SixbitsBack's walk.
-/
import Derived.Test.YtmijpocfichfpaaAwake
import Derived.Test.YtmijpocfichfpaaSame
namespace Go.Proofs.Ytmijpocfichfpaa
open Go.RowKit
set_option linter.unusedVariables false
theorem Below.drewN' {B : Nat} {w u : World} (h : Below B w u) (n : Nat) : Below B w (u.drewN n) := h.trans (((Only.refl B u).drewN n).below (Nat.le_refl _))
set_option maxRecDepth 20000 in
set_option maxHeartbeats 1000000 in
theorem back_core (w : World) (a : Option Addr) (l : List Nat) (L C : Nat) (line : Int) (hl : Lies w a l) (hL : l.length = L) (hLb : L ≤ 2000000) (hLC : L ≤ C) (ho : Oct l) (hln : line < 9223372036854775808) (haz : a = none → L = 0 ∧ C = 0) :
    Calls Try.prog 7 #[.slice a L C, .int .i64 line] w fun e w' => e = .returned (.bool true) ∧ Below w.heap.size w w' := by
  have hwr := writes_c w a l L C line hl hL hLb hLC ho hln haz
  obtain ⟨B, hB⟩ : ∃ B, w.heap.size = B := ⟨_, rfl⟩
  rw [hB] at hwr ⊢
  have A : Aside (Lies w a l ∧ l.length = L ∧ L ≤ 2000000 ∧ Oct l ∧ w.heap.size = B) := ⟨hl, hL, hLb, ho, hB⟩
  clear hl hL hLb hLC ho hln haz hB
  go_enter Try.func7, Try.ntmps7
  go_upto_region 2 with (go_at_call 17; refine hwr.mono ?_; rintro e1 w1 ⟨v1, rfl, hob1, hb1⟩)
  have a0 := A.out
  obtain ⟨va, vc, hv, hvc, hlies1, hvn⟩ := hob1.shape
  obtain ⟨vn, hvn2⟩ : ∃ vn, (wri l line).length = vn := ⟨_, rfl⟩
  rw [hvn2] at hv
  subst hv
  have hwl := wri_len l line
  have hwm := (wri_wv l line).len
  have hel := enc_len l
  have hoct : Oct (wri l line) := by
    intro x hx
    exact wri_oct l line a0.2.2.2.1 x hx
  have hwh := whole_c w1 va (wri l line) vn vc hlies1 hvn2 (by omega) hoct
  obtain ⟨e1, e2, e3⟩ := back l line a0.2.2.2.1
  unfold WhTo at hwh
  rw [e1, e2, e3, hvn2] at hwh
  have hge : (((L : Int) + 2) / 3 * 4 ≤ (vn : Int)) = True := eq_true (by omega)
  have hvb : (vn : Int) < 100000000 := by omega
  have hLi : (L : Int) ≤ 2000000 := by omega
  have A1 : Aside (Below B w w1 ∧ B ≤ w1.heap.size) := ⟨hb1, hob1.le⟩
  clear a0 hvc hlies1 hvn hob1 hb1 hwl hwm hel hoct e1 e2 e3 hvn2 hwr
  go_upto_region 3 with (go_at_call 9; refine hwh.mono ?_; rintro e1 w2 ⟨vo, he, hob2, hb2⟩; obtain rfl := (show e1 = .returned (.tuple #[vo, .int .i64 0, .int .i64 (vn : Int)]) from he))
  obtain ⟨va2, vc2, hv2, hvc2, hlies2, hvn2⟩ := hob2.shape
  have a0 := A.out
  rw [a0.2.1] at hv2
  subst hv2
  have bel2 : Below B w w2 := A1.out.1.trans (hb2.mono A1.out.2)
  have hla : Lies w2 a l := a0.1.below (by rw [a0.2.2.2.2]; exact bel2)
  have hsm := same_c va2 a l l L L vc2 C w2 a0.2.1 a0.2.1 (by omega) hlies2 hla
  rw [decide_eq_true rfl] at hsm
  have A2 : Aside (Below B w w2 ∧ B ≤ w2.heap.size) := ⟨bel2, by have := bel2.size; omega⟩
  clear a0 hob2 hb2 hvc2 hlies2 hvn2 hla bel2 hwh
  have hq : ((vn : Int) == (vn : Int)) = true := by simp
  go_wp2_with (first
    | (go_at_call 11; refine hsm.mono ?_; rintro e1 w3 ⟨rfl, n3, hw3⟩; have haw := awake_c w3; have A3 : Aside (Below B w w3 ∧ B ≤ w3.heap.size) := (by rw [hw3]; exact ⟨Below.drewN' A2.out.1 n3, A2.out.2⟩); clear hw3)
    | (go_at_call 12; refine haw.mono ?_; rintro e1 w4 ⟨rfl, hb4⟩))
  first | go_ret | go_ret2
  exact ⟨rfl, A3.out.1.trans (hb4.mono A3.out.2)⟩
end Go.Proofs.Ytmijpocfichfpaa
