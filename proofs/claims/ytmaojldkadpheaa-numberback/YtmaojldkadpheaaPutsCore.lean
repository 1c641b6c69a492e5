/-
  NumberPuts, behind the opening of its arguments: the call answers true, and what lay in memory is as it was.
  Conditions: the number is one of 64 bits.
-/
import Derived.Test.YtmaojldkadpheaaPutB
import Derived.Test.YtmaojldkadpheaaOpen
namespace Go.Proofs.Ytmaojldkadpheaa
open Go.RowKit
set_option linter.unusedVariables false
theorem below_drewN {B : Nat} {w u : World} (h : Below B w u) (n : Nat) : Below B w (u.drewN n) := ⟨h.os, h.tape, h.output, h.size, h.block⟩
theorem below_le {B C : Nat} {w u : World} (h : Below C w u) (hB : B ≤ C) : Below B w u := ⟨h.os, h.tape, h.output, h.size, fun k hk => h.block k (by omega)⟩
theorem put_eight : put 8 4 = some [48, 49, 48, 0] := by decide +kernel
theorem lies_four (w : World) : Lies (w.alloc (.cells #[.int .u8 48, .int .u8 49, .int .u8 48, .int .u8 0] 5)) (some ⟨w.heap.size, 0, none⟩) [48, 49, 48, 0] := by
  refine Or.inr ⟨_, _, rfl, fun i y hy => ?_⟩
  rw [Nat.zero_add, (Cells.new w _ 5).cell]
  match i, hy with
  | 0, hy => cases hy; rfl
  | 1, hy => cases hy; rfl
  | 2, hy => cases hy; rfl
  | 3, hy => cases hy; rfl
set_option maxRecDepth 100000 in
set_option maxHeartbeats 2000000 in
theorem puts_core (v : Nat) (n : Int) (w : World) (hv : v < 18446744073709551616) :
    Calls Try.prog 4 #[.int .u64 v, .int .i64 n] w fun e w' => e = .returned (.bool true) ∧ Below w.heap.size w w' := by
  have c1 := put_c v n w hv
  have c2 := fun u => rput_c v n u hv
  have c3 := fun u => put_c 8 4 u (by decide)
  rw [put_eight] at c3
  generalize put v n = o at *
  have f1 : (o.isSome == o.isSome) = true := by simp
  clear hv
  go_enter Try.func4, Try.ntmps4
  go_wp2_with fail
  refine c1.mono ?_
  rintro e w1 ⟨a1, l, L, k1, rfl, hl, hL, hLk1, hk1, lies1, bel1⟩
  clear c1
  go_wp2_with fail
  refine (c2 w1).mono ?_
  rintro e w2 ⟨a2, l2, L2, k2, rfl, hl2, hL2, hLk2, hk2, lies2, bel2⟩
  obtain rfl : l2 = l := by rw [← hl2, hl]
  obtain rfl : L2 = L := by rw [← hL2, hL]
  clear c2 hl2 hL2
  go_wp2_with fail
  refine (c3 w2).mono ?_
  rintro e w3 ⟨a3, l3, L3, k3, rfl, hl3, hL3, hLk3, hk3, lies3, bel3⟩
  obtain rfl : l3 = [48, 49, 48, 0] := by rw [← hl3]; rfl
  obtain rfl : L3 = 4 := by rw [← hL3]; rfl
  clear c3 hl3 hL3
  have lies1' := (lies1.below bel2).below bel3
  have lies2' := lies2.below bel3
  have s1 := bel1.size
  have s2 := bel2.size
  have s3 := bel3.size
  have b3 := (bel1.trans (below_le bel2 s1)).trans (below_le bel3 (Nat.le_trans s1 s2))
  have hL64 : L2 < 9223372036854775808 := by omega
  have cs := same_c a1 a2 l2 L2 k1 k2 w3 hL hL64 lies1' lies2'
  clear hl hL lies1 lies2 lies1' lies2' bel1 bel2 bel3 s1 s2 s3 hLk1 hk1 hLk2 hk2 hL64
  go_wp2_with fail
  refine cs.mono ?_
  rintro e w4 ⟨rfl, m, rfl⟩
  clear cs
  have b4 := below_drewN b3 m
  have b5 := (Below.refl (w3.drewN m).heap.size (w3.drewN m)).alloc (Nat.le_refl _) (.cells #[.int .u8 48, .int .u8 49, .int .u8 48, .int .u8 0] 5)
  have b6 := b4.trans (below_le b5 b4.size)
  have cs2 := same_c a3 (some ⟨w3.heap.size, 0, none⟩) [48, 49, 48, 0] 4 k3 4 _ rfl (by decide) (Lies.below (lies3.drewN m) b5) (lies_four (w3.drewN m))
  clear b3 b4 b5 lies3 hLk3 hk3
  go_wp2_with fail
  refine cs2.mono ?_
  rintro e w5 ⟨rfl, m5, rfl⟩
  go_wp2_with fail
  go_ret
  exact ⟨rfl, below_drewN b6 m5⟩
end Go.Proofs.Ytmaojldkadpheaa
