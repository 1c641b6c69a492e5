/-
  Own texts of this seat, one behind the other: what each says stands ahead of it.
-/
import Derived.Test.YtpihipbeagpgpaaGreatDoorMb
import Derived.Test.YtpihipbeagpgpaaGreatDoorMa
import Derived.OwnWalk
import Derived.BigQuiet
import Derived.Test.YtpihipbeagpgpaaGreatDoorProg
import Derived.WalkSpells
import Derived.OpenShut
import Derived.WalkMore
import Derived.ScopeJumps
import Derived.Deep.QuietTactic
/-
  What the program's sum, check, firsts and Kraft come to, over rows of sixteen counts.
-/
namespace Go.Proofs.YtpihipbeagpgpaaGreatDoor
open Go.RowKit
set_option linter.unusedVariables false
def psum (f : Nat → Nat) : Nat → Nat
  | 0 => 0
  | n + 1 => psum f n * 2 + f (n + 1)
theorem psum_part (ls : List Nat) : ∀ n, psum (fun j => ls.count j) n = part ls n
  | 0 => rfl
  | n + 1 => by rw [psum, part, psum_part ls n]; omega
theorem psum_zero : ∀ n, psum (fun _ => 0) n = 0
  | 0 => rfl
  | n + 1 => by rw [psum, psum_zero n]
theorem psum_le {f : Nat → Nat} (h : ∀ j, f j ≤ 320) : ∀ n, psum f n + 320 ≤ 320 * 2 ^ n
  | 0 => by simp [psum]
  | n + 1 => by
    have h1 := psum_le h n
    have h2 := h (n + 1)
    rw [psum, Nat.pow_succ]
    omega
theorem psum_step (f : Nat → Nat) (n : Nat) (h : n < 15) : psum f n * 2 ^ (15 - n) + f (n + 1) * 2 ^ (15 - (n + 1)) = psum f (n + 1) * 2 ^ (15 - (n + 1)) := by
  rw [psum, Nat.add_mul, show 15 - n = (15 - (n + 1)) + 1 by omega, Nat.pow_succ, Nat.mul_assoc, Nat.mul_comm 2]
theorem sw64_cast {n : Nat} (h : n < 9223372036854775808) : wrap64 (n : Int) = (n : Int) := by unfold wrap64; omega
theorem w64_nat {q d : Nat} (h : q * 2 ^ d < 9223372036854775808) : wrap64 ((q : Int) * 2 ^ d) = (q : Int) * 2 ^ d := by
  have e : (q : Int) * 2 ^ d = ((q * 2 ^ d : Nat) : Int) := by push_cast; rfl
  rw [e, sw64_cast h]
set_option maxRecDepth 100000 in
set_option maxHeartbeats 2000000 in
theorem sum_c (f : Nat → Nat) (hf : ∀ j, f j ≤ 320) (w : World) :
    Calls Tryz.prog 131 #[.agg (rw16 f)] w fun e w' => e = .returned (.int .i64 (psum f 15 : Nat)) ∧ Below w.heap.size w w' := by
  obtain ⟨B, hB⟩ : ∃ B, w.heap.size = B := ⟨_, rfl⟩
  obtain ⟨w1, hw1⟩ : ∃ w1, w1 = w.alloc (.cells (rw16 f) 180) := ⟨_, rfl⟩
  have c0 : Cells w1 B (rw16 f) 180 := by rw [hw1, ← hB]; exact Cells.new w _ 180
  have bel : Below B w w1 := by rw [hw1, ← hB]; exact (Below.refl _ w).alloc (Nat.le_refl _) _
  obtain ⟨R, hR⟩ : ∃ R, rw16 f = R := ⟨_, rfl⟩
  rw [hR] at hw1 ⊢
  have hRs : R.size = 16 := by rw [← hR]; exact rw16_size _
  have AW : Aside (Cells w1 B (rw16 f) 180 ∧ Below B w w1 ∧ w.heap.size = B ∧ rw16 f = R) := ⟨c0, bel, hB, hR⟩
  clear c0 bel hR
  go_enter Tryz.func131, Tryz.ntmps131
  go_upto_region 2 with fail
  rw [← hw1]
  clear hw1 hB
  go_wp2_with fail
  go_loopg [3, 4] 15 (fun g st sl wr => ∃ (n s : Nat), st = .int .i64 (s : Int) ∧ sl = .int .i64 ((n + 1 : Nat) : Int) ∧ Aside (n + g = 15 ∧ s = psum f n * 2 ^ (15 - n)) ∧ w1 = wr)
  case atStart => exact ⟨0, 0, rfl, rfl, ⟨by omega, by simp [psum]⟩, rfl⟩
  case round =>
    obtain ⟨n, s, rfl, rfl, hI, hw⟩ := hrel
    subst hw
    by_cases hn : n < 15
    · obtain ⟨q, hq⟩ : ∃ q, f (n + 1) = q := ⟨_, rfl⟩
      have hqb : q ≤ 320 := by rw [← hq]; exact hf _
      obtain ⟨l, hl⟩ : ∃ l, n + 1 = l := ⟨_, rfl⟩
      rw [hl]
      have hl15 : (l : Int) ≤ 15 := by omega
      have hl0 : (0 : Int) ≤ l := by omega
      have cq : w1.cell? ⟨B, l, none⟩ = some (.int .u32 (q : Int)) := by rw [AW.out.1.cell, rw16_at _ _ (by omega), ← hl, hq]
      have hbig : s + q * 2 ^ (15 - l) ≤ 320 * 2 ^ 15 := by
        have e1 := psum_step f n hn
        rw [hq, ← hI.out.2, hl] at e1
        rw [e1]
        have h2 := psum_le hf l
        have h3 : psum f l * 2 ^ (15 - l) ≤ (320 * 2 ^ l) * 2 ^ (15 - l) := Nat.mul_le_mul_right _ (by omega)
        rw [Nat.mul_assoc, ← Nat.pow_add, show l + (15 - l) = 15 by omega] at h3
        exact h3
      have hnx : Aside (s + q * 2 ^ (15 - l) = psum f l * 2 ^ (15 - l) ∧ n < 15 ∧ n + 1 = l) := by
        refine ⟨?_, hn, hl⟩
        have e1 := psum_step f n hn
        rw [hq, ← hI.out.2, hl] at e1
        exact e1
      obtain ⟨P, hP⟩ : ∃ P, 2 ^ (15 - l) = P := ⟨_, rfl⟩
      have hPI : (2 : Int) ^ (15 - (l : Int)).toNat = (P : Int) := by rw [← hP, show (15 - (l : Int)).toNat = 15 - l by omega]; push_cast; rfl
      clear hq
      go_wp2_with fail
      have e1 : wrap64 ((q : Int) * 2 ^ (15 - l)) = ((q * 2 ^ (15 - l) : Nat) : Int) := by
        rw [w64_nat (by omega)]
        · push_cast; rfl
      have e2 : wrap64 ((s : Int) + ((q * 2 ^ (15 - l) : Nat) : Int)) = ((s + q * 2 ^ (15 - l) : Nat) : Int) := by
        rw [← Int.natCast_add, sw64_cast (by omega)]
      rw [e1, e2]
      go_roundg (15 - (n + 1))
      case measure => have := hI.out.1; have := hnx.out.2.1; omega
      case rel =>
        refine ⟨n + 1, s + q * 2 ^ (15 - l), rfl, by have := hnx.out.2.2; subst this; go_num, ⟨by have := hnx.out.2.1; omega, ?_⟩, rfl⟩
        rw [hnx.out.1, hnx.out.2.2]
    · have hn15 : n = 15 := by have := hI.out.1; omega
      subst hn15
      have hs : s = psum f 15 := by have := hI.out.2; simpa using this
      clear hn hI
      go_wp2_with fail
      first | go_ret | go_ret2
      exact ⟨by rw [hs]; rfl, by rw [AW.out.2.2.1]; exact AW.out.2.1⟩
def cerr (f : Nat → Nat) : Nat := if 32768 < psum f 15 then 80 else if psum f 15 = 32768 ∨ psum f 15 = 0 ∨ (psum f 15 = 16384 ∧ f 1 = 1) then 0 else 81
set_option maxRecDepth 100000 in
set_option maxHeartbeats 2000000 in
theorem check_c (f : Nat → Nat) (hf : ∀ j, f j ≤ 320) (e0 : Nat) (he : cerr f = e0) (w : World) :
    Calls Tryz.prog 115 #[.agg (rw16 f)] w fun e w' => e = .returned (.int .i64 (e0 : Int)) ∧ Below w.heap.size w w' := by
  obtain ⟨B, hB⟩ : ∃ B, w.heap.size = B := ⟨_, rfl⟩
  obtain ⟨w1, hw1⟩ : ∃ w1, w1 = w.alloc (.cells (rw16 f) 180) := ⟨_, rfl⟩
  have c0 : Cells w1 B (rw16 f) 180 := by rw [hw1, ← hB]; exact Cells.new w _ 180
  have bel : Below B w w1 := by rw [hw1, ← hB]; exact (Below.refl _ w).alloc (Nat.le_refl _) _
  have hB1 : w1.heap.size = B + 1 := by rw [hw1, ← hB]; exact Array.size_push _
  have hsum := sum_c f hf w1
  obtain ⟨s, hs⟩ : ∃ s, psum f 15 = s := ⟨_, rfl⟩
  obtain ⟨q, hq⟩ : ∃ q, f 1 = q := ⟨_, rfl⟩
  have hqb : q ≤ 320 := by rw [← hq]; exact hf 1
  have cq : (rw16 f)[1]? = some (.int .u32 (q : Int)) := by rw [rw16_at _ _ (by omega), hq]
  unfold cerr at he
  rw [hs, hq] at he
  rw [hs] at hsum
  obtain ⟨R, hR⟩ : ∃ R, rw16 f = R := ⟨_, rfl⟩
  rw [hR] at hw1 hsum c0 cq ⊢
  have hRs : R.size = 16 := by rw [← hR]; exact rw16_size _
  have AW : Aside (Cells w1 B R 180 ∧ Below B w w1 ∧ w.heap.size = B ∧ w1.heap.size = B + 1) := ⟨c0, bel, hB, hB1⟩
  have AE : Aside ((if 32768 < s then 80 else if s = 32768 ∨ s = 0 ∨ (s = 16384 ∧ q = 1) then 0 else 81) = e0) := he
  clear bel hR hB1 he hs hq
  go_enter Tryz.func115, Tryz.ntmps115
  go_upto_region 1 with fail
  rw [← hw1]
  clear hw1 hB
  go_upto_region 2 with (first
    | (refine wpList_load_row rfl 180 (.tmp 1) rfl B rfl 180 _ (0, 0) _ c0 Tryz.underlying180 rfl (by rw [hRs]; exact size59) ?_)
    | (go_at_call 131; refine hsum.mono ?_; rintro e2 w2 ⟨rfl, hb2⟩))
  have c1 : w2.cell? ⟨B, 1, none⟩ = some (.int .u32 (q : Int)) := ((AW.out.1.below hb2 (by rw [AW.out.2.2.2]; omega)).cell 1).trans cq
  have AB : Aside (Below B w w2) := AW.out.2.1.trans (hb2.mono (by rw [AW.out.2.2.2]; omega))
  clear c0 hb2 hsum cq
  by_cases h1 : 32768 < s
  · have t1 : ((32768 : Int) < (s : Int)) = True := eq_true (by omega)
    have he2 : e0 = 80 := by have := AE.out; rw [if_pos h1] at this; exact this.symm
    clear h1
    go_wp2_with fail
    first | go_ret | go_ret2
    exact ⟨by rw [he2]; rfl, by rw [AW.out.2.2.1]; exact AB.out⟩
  have t1 : ((32768 : Int) < (s : Int)) = False := eq_false (by omega)
  have AE2 : Aside ((if s = 32768 ∨ s = 0 ∨ (s = 16384 ∧ q = 1) then 0 else 81) = e0) := by have := AE.out; rw [if_neg h1] at this; exact this
  clear AE h1
  by_cases h2 : s = 32768
  · have he2 : e0 = 0 := by have := AE2.out; rw [if_pos (Or.inl h2)] at this; exact this.symm
    have t2 : ((s : Int) == 32768) = true := beq_iff_eq.2 (by omega)
    clear h2
    go_wp2_with fail
    first | go_ret | go_ret2
    exact ⟨by rw [he2]; rfl, by rw [AW.out.2.2.1]; exact AB.out⟩
  by_cases h3 : s = 0
  · have he2 : e0 = 0 := by have := AE2.out; rw [if_pos (Or.inr (Or.inl h3))] at this; exact this.symm
    have t2 : ((s : Int) == 32768) = false := beq_eq_false_iff_ne.2 (by omega)
    have t3 : ((s : Int) == 0) = true := beq_iff_eq.2 (by omega)
    clear h2 h3
    go_wp2_with fail
    first | go_ret | go_ret2
    exact ⟨by rw [he2]; rfl, by rw [AW.out.2.2.1]; exact AB.out⟩
  have t2 : ((s : Int) == 32768) = false := beq_eq_false_iff_ne.2 (by omega)
  have t3 : ((s : Int) == 0) = false := beq_eq_false_iff_ne.2 (by omega)
  by_cases h4 : s = 16384
  · have t4 : ((s : Int) == 16384) = true := beq_iff_eq.2 (by omega)
    by_cases h5 : q = 1
    · have he2 : e0 = 0 := by have := AE2.out; rw [if_pos (Or.inr (Or.inr ⟨h4, h5⟩))] at this; exact this.symm
      have t5 : ((q : Int) == 1) = true := beq_iff_eq.2 (by omega)
      clear h2 h3 h4 h5
      go_wp2_with fail
      first | go_ret | go_ret2
      exact ⟨by rw [he2]; rfl, by rw [AW.out.2.2.1]; exact AB.out⟩
    · have he2 : e0 = 81 := by have := AE2.out; rw [if_neg (by omega)] at this; exact this.symm
      have t5 : ((q : Int) == 1) = false := beq_eq_false_iff_ne.2 (by omega)
      clear h2 h3 h4 h5
      go_wp2_with fail
      first | go_ret | go_ret2
      exact ⟨by rw [he2]; rfl, by rw [AW.out.2.2.1]; exact AB.out⟩
  · have he2 : e0 = 81 := by have := AE2.out; rw [if_neg (by omega)] at this; exact this.symm
    have t4 : ((s : Int) == 16384) = false := beq_eq_false_iff_ne.2 (by omega)
    clear h2 h3 h4
    go_wp2_with fail
    first | go_ret | go_ret2
    exact ⟨by rw [he2]; rfl, by rw [AW.out.2.2.1]; exact AB.out⟩
theorem psum_cell {f : Nat → Nat} (hf : ∀ j, f j ≤ 320) (n : Nat) (h : n ≤ 15) : psum f n ≤ 10485760 := by
  have h1 := psum_le hf n
  have h2 : 2 ^ n ≤ 2 ^ 15 := Nat.pow_le_pow_right (by decide) h
  omega
def frs (f : Nat → Nat) (j : Nat) : Nat := if j = 0 then 0 else 2 * psum f (j - 1)
theorem frs_first (ls : List Nat) : ∀ j, frs (fun j => ls.count j) j = first ls j
  | 0 => rfl
  | n + 1 => by unfold frs first; rw [if_neg (by omega), show n + 1 - 1 = n by omega, psum_part]
set_option maxRecDepth 100000 in
set_option maxHeartbeats 2000000 in
theorem firsts_c (f : Nat → Nat) (hf : ∀ j, f j ≤ 320) (w : World) :
    Calls Tryz.prog 116 #[.agg (rw16 f)] w fun e w' => e = .returned (.agg (rw16 (frs f))) ∧ Below w.heap.size w w' := by
  obtain ⟨B, hB⟩ : ∃ B, w.heap.size = B := ⟨_, rfl⟩
  obtain ⟨w1, hw1⟩ : ∃ w1, w1 = w.alloc (.cells (rw16 f) 180) := ⟨_, rfl⟩
  obtain ⟨w2, hw2⟩ : ∃ w2, w2 = w1.alloc (.cells (rw16 fun _ => 0) 180) := ⟨_, rfl⟩
  obtain ⟨w3, hw3⟩ : ∃ w3, w3 = w2.alloc (.cells (rw16 fun _ => 0) 180) := ⟨_, rfl⟩
  have hB1 : w1.heap.size = B + 1 := by rw [hw1, ← hB]; exact Array.size_push _
  have hB2 : w2.heap.size = B + 2 := by rw [hw2, show B + 2 = B + 1 + 1 from rfl, ← hB1]; exact Array.size_push _
  have c0 : Cells w3 B (rw16 f) 180 := by rw [hw3, hw2]; refine Cells.alloc (Cells.alloc ?_ _) _; rw [hw1, ← hB]; exact Cells.new w _ 180
  have c1 : Cells w3 (B + 1) (rw16 fun _ => 0) 180 := by rw [hw3]; refine Cells.alloc ?_ _; rw [hw2, ← hB1]; exact Cells.new w1 _ 180
  have c2 : Cells w3 (B + 2) (rw16 fun _ => 0) 180 := by rw [hw3, ← hB2]; exact Cells.new w2 _ 180
  have bel : Below B w w3 := by
    rw [hw3, hw2]
    refine Below.alloc (Below.alloc ?_ (by rw [hB1]; omega) _) (by rw [← hw2, hB2]; omega) _
    rw [hw1, ← hB]; exact (Below.refl _ w).alloc (Nat.le_refl _) _
  obtain ⟨R, hR⟩ : ∃ R, rw16 f = R := ⟨_, rfl⟩
  rw [hR] at hw1 ⊢
  have hRs : R.size = 16 := by rw [← hR]; exact rw16_size _
  have AW : Aside (Cells w3 B (rw16 f) 180 ∧ Cells w3 (B + 1) (rw16 fun _ => 0) 180 ∧ Cells w3 (B + 2) (rw16 fun _ => 0) 180 ∧ Below B w w3 ∧ w.heap.size = B) := ⟨c0, c1, c2, bel, hB⟩
  clear c0 c1 c2 bel hR
  have hz : ∀ w', (zeroValue 180).run Tryz.prog w' = .ok (.agg (rw16 fun _ => 0)) w' := fun w' => by kernel_rfl
  go_enter Tryz.func116, Tryz.ntmps116
  go_upto_region 2 with fail
  rw [← hw1, ← hw2, ← hw3]
  clear hw1 hw2 hw3 hB hB1 hB2
  go_wp2_with fail
  go_loopg [4] 14 (fun g sl wr => ∃ (n : Nat), sl = .int .i64 ((n + 2 : Nat) : Int) ∧ Aside (n + g = 14 ∧ Cells wr B (rw16 f) 180 ∧ Cells wr (B + 1) (rw16 fun _ => 0) 180 ∧ Cells wr (B + 2) (rw16 fun j => if j < n + 2 then frs f j else 0) 180 ∧ Below B w wr))
  case atStart =>
    refine ⟨0, rfl, ⟨by omega, AW.out.1, AW.out.2.1, ?_, AW.out.2.2.2.1⟩⟩
    have e : (rw16 fun j => if j < 0 + 2 then frs f j else 0) = rw16 fun _ => 0 := rw16_congr fun j _ => by
      split
      · unfold frs
        rcases (show j = 0 ∨ j = 1 by omega) with rfl | rfl <;> rfl
      · rfl
    rw [e]; exact AW.out.2.2.1
  case round =>
    obtain ⟨n, rfl, hI⟩ := hrel
    by_cases hn : n < 14
    · obtain ⟨l, hl⟩ : ∃ l, n + 2 = l := ⟨_, rfl⟩
      rw [hl]
      have hl15 : (l : Int) ≤ 15 := by omega
      have hl2 : (2 : Int) ≤ l := by omega
      obtain ⟨k, hk⟩ : ∃ k, n + 1 = k := ⟨_, rfl⟩
      have elk : (l : Int) - 1 = (k : Int) := by omega
      obtain ⟨q, hq⟩ : ∃ q, f k = q := ⟨_, rfl⟩
      obtain ⟨r, hr⟩ : ∃ r, frs f k = r := ⟨_, rfl⟩
      have hqb : q ≤ 320 := by rw [← hq]; exact hf _
      have hrb : r ≤ 20971520 := by rw [← hr]; unfold frs; rw [if_neg (by omega)]; have := psum_cell hf (k - 1) (by omega); omega
      have cq : wr.cell? ⟨B, k, none⟩ = some (.int .u32 (q : Int)) := by rw [hI.out.2.1.cell, rw16_at _ _ (by omega), hq]
      have cr : wr.cell? ⟨B + 2, k, none⟩ = some (.int .u32 (r : Int)) := by rw [hI.out.2.2.2.1.cell, rw16_at _ _ (by omega), if_pos (by omega), hr]
      have fq := hI.out.2.2.2.1.frozen l
      have hnx : Aside (frs f l = 2 * (r + q) ∧ n < 14 ∧ n + 2 = l) := by
        refine ⟨?_, hn, hl⟩
        rw [← hr, ← hq, ← hl, ← hk]
        unfold frs
        rw [if_neg (by omega), if_neg (by omega), show n + 2 - 1 = n + 1 by omega, psum, show n + 1 - 1 = n by omega]
        omega
      have hcell : ∃ v, wr.cell? ⟨B + 2, l, none⟩ = some v := ⟨_, by rw [hI.out.2.2.2.1.cell, rw16_at _ _ (by omega)]⟩
      obtain ⟨v, hv⟩ := hcell
      clear hq hr hl hk
      have hwr : ∀ z : Int, (z = (l : Int) - 1) → IntKind.i64.wrap z = (k : Int) := by
        intro z hz
        rw [hz, elk, IntKind.wrap_i64]; omega
      go_upto_region 5 with fail
      go_region
      go_wp2_with fail
      go_roundg (14 - (n + 1))
      case measure => have := hI.out.1; have := hnx.out.2.1; omega
      case rel =>
        refine ⟨n + 1, by have := hnx.out.2.2; subst this; go_num, ⟨by have := hnx.out.2.1; omega, ?_, ?_, ?_, ?_⟩⟩
        · exact (hI.out.2.1.only ((Only.refl (B + 2) wr).setCell l _) (by omega)).drew
        · exact (hI.out.2.2.1.only ((Only.refl (B + 2) wr).setCell l _) (by omega)).drew
        · have := hI.out.2.2.2.1.set l (.int .u32 ((2 * (r + q) : Nat) : Int))
          rw [rw16_set] at this
          have e : (rw16 fun j => if j = l then 2 * (r + q) else if j < n + 2 then frs f j else 0) = rw16 fun j => if j < n + 1 + 2 then frs f j else 0 := rw16_congr fun j _ => by
            have := hnx.out.2.2
            by_cases e : j = l
            · rw [if_pos e, if_pos (by omega), e, hnx.out.1]
            · rw [if_neg e]
              by_cases h2 : j < n + 2
              · rw [if_pos h2, if_pos (by omega)]
              · rw [if_neg h2, if_neg (by omega)]
          rw [e] at this
          have := this.drew
          push_cast at this
          exact this
        · exact (hI.out.2.2.2.2.setCell (p := ⟨B + 2, l, none⟩) (by show B ≤ B + 2; omega) _).drew
    · have hn14 : n = 14 := by have := hI.out.1; omega
      subst hn14
      have hc0 := hI.out.2.2.1
      have hc1 := hI.out.2.2.2.1
      have e : (rw16 fun j => if j < 14 + 2 then frs f j else 0) = rw16 (frs f) := rw16_congr fun j hj => if_pos (by omega)
      rw [e] at hc1
      have hc := set_row hc0 (rw16 (frs f))
      have hbel := hI.out.2.2.2.2.trans ((only_row hc0 (rw16 (frs f))).below (by omega))
      have AC : Aside (Cells (wr.setRow (B + 1) (rw16 (frs f))) (B + 1) (rw16 (frs f)) 180 ∧ Below B w (wr.setRow (B + 1) (rw16 (frs f)))) := ⟨hc, hbel⟩
      clear hI hc hbel e hn
      go_wp2_with (first
        | (refine wpList_load_row rfl 180 (.tmp 3) rfl (B + 2) rfl 180 _ (0, 0) _ hc1 Tryz.underlying180 rfl (by rw [rw16_size]; exact size59) ?_)
        | (refine wpList_store_row rfl 180 (.tmp 2) (.tmp 21) rfl (B + 1) (rw16 (frs f)) rfl rfl 180 (rw16 fun _ => 0) hc0 (by rw [rw16_size]; exact size59) rfl (rw16_one _) ?_))
      (try simp only [Exit.inBlock, Exit.then])
      refine bodyPost_ret (v := .agg (rw16 (frs f))) ?_ rfl ?_
      · exact results_cell_row rfl _ _ (B + 1) 180 _ (0, 0) _ rfl AC.out.1 Tryz.underlying180 rfl (by rw [rw16_size]; exact size59)
      · exact ⟨rfl, by rw [AW.out.2.2.2.2]; exact AC.out.2⟩
set_option maxRecDepth 100000 in
set_option maxHeartbeats 2000000 in
theorem kraft_c (a : Option Addr) (zs : List Int) (L C r : Nat) (ok : Bool) (w : World) (h : Lens w a zs) (hL : zs.length = L) (hLb : L < 140737488355328) (hr : (Okl zs ∧ r = kr (lens zs) ∧ ok = true) ∨ (¬ Okl zs ∧ r = 0 ∧ ok = false)) :
    Calls Tryz.prog 121 #[.slice a L C] w fun e w' => e = .returned (.tuple #[.int .i64 (r : Int), .bool ok]) ∧ Below w.heap.size w w' := by
  obtain ⟨f, hf, hfb, hfs⟩ : ∃ f : Nat → Nat, ((Okl zs ∧ (f = fun j => (lens zs).count j) ∧ ok = true) ∨ (¬ Okl zs ∧ (f = fun _ => 0) ∧ ok = false)) ∧ (∀ j, f j ≤ 320) ∧ psum f 15 = r := by
    rcases hr with ⟨h1, h2, h3⟩ | ⟨h1, h2, h3⟩
    · refine ⟨fun j => (lens zs).count j, Or.inl ⟨h1, rfl, h3⟩, fun j => ?_, ?_⟩
      · have e1 := List.count_le_length (a := j) (l := lens zs)
        have e2 : (lens zs).length ≤ 320 := by unfold lens; rw [List.length_map]; exact h1.1
        exact Nat.le_trans e1 e2
      · rw [psum_part, h2, kr_part]
        intro l hl
        unfold lens at hl
        obtain ⟨z, hz, rfl⟩ := List.mem_map.1 hl
        have := h1.2 z hz
        omega
    · exact ⟨fun _ => 0, Or.inr ⟨h1, rfl, h3⟩, fun _ => Nat.zero_le _, by rw [psum_zero, h2]⟩
  have hcount := count_c a zs L C f ok w h hL hLb hf
  have hsum : ∀ u, Calls Tryz.prog 131 #[.agg (rw16 f)] u fun e w' => e = .returned (.int .i64 (r : Int)) ∧ Below u.heap.size u w' := fun u => by have := sum_c f hfb u; rw [hfs] at this; exact this
  obtain ⟨R, hR⟩ : ∃ R, rw16 f = R := ⟨_, rfl⟩
  rw [hR] at hcount hsum
  have hRs : R.size = 16 := by rw [← hR]; exact rw16_size _
  have hR1 : R.all (·.oneCell') = true := by rw [← hR]; exact rw16_one _
  have hz : ∀ w', (zeroValue 180).run Tryz.prog w' = .ok (.agg (rw16 fun _ => 0)) w' := fun w' => by kernel_rfl
  clear h hL hLb hr hf hfb hfs hR
  go_enter Tryz.func121, Tryz.ntmps121
  go_upto_region 2 with (first
    | (go_at_call 114; refine hcount.mono ?_; rintro e2 w2 ⟨rfl, hb2⟩
       have c2 := Cells.new w2 (rw16 fun _ => 0) 180
       have b2 : Aside (Below w.heap.size w w2) := hb2
       clear hb2)
    | (refine wpList_store_row rfl 180 (.tmp 4) (.tmp 9) rfl w2.heap.size R rfl rfl 180 (rw16 fun _ => 0) c2 (by rw [hRs]; exact size59) (by rw [hRs]; rfl) hR1 ?_))
  have c3 := set_row c2 R
  have b3 : Aside (Below w.heap.size w ((w2.alloc (.cells (rw16 fun _ => 0) 180)).setRow w2.heap.size R)) := (b2.out.alloc b2.out.size _).trans ((only_row c2 R).below b2.out.size)
  obtain ⟨w3, hw3⟩ : ∃ w3, w3 = (w2.alloc (.cells (rw16 fun _ => 0) 180)).setRow w2.heap.size R := ⟨_, rfl⟩
  rw [← hw3] at c3 b3 ⊢
  obtain ⟨D, hD⟩ : ∃ D, w2.heap.size = D := ⟨_, rfl⟩
  rw [hD] at c3 ⊢
  clear c2 hw3 hD b2
  go_wp2_with (first
    | (refine wpList_load_row rfl 180 (.tmp 4) rfl D rfl 180 _ (0, 0) _ c3 Tryz.underlying180 rfl (by rw [hRs]; exact size59) ?_)
    | (go_at_call 131; refine (hsum _).mono ?_; rintro e4 w4 ⟨rfl, hb4⟩))
  first | go_ret | go_ret2
  exact ⟨rfl, b3.out.trans (hb4.mono b3.out.size)⟩
end Go.Proofs.YtpihipbeagpgpaaGreatDoor

/-
  What the program's New comes to.
-/
namespace Go.Proofs.YtpihipbeagpgpaaGreatDoor
open Go.RowKit
set_option linter.unusedVariables false
def PT (w : World) (lo hi T : Nat) (ls : List Nat) : Prop := ∃ g M k, Tq w T g M k ls ls.length ∧ lo ≤ T ∧ T < hi ∧ lo ≤ g ∧ g < hi ∧ lo ≤ M ∧ M < hi ∧ part ls 15 ≤ 32768 ∧ ∀ x ∈ ls, x ≤ 15
theorem Tq.heap {w u : World} {T g M k : Nat} {ls : List Nat} {i : Nat} (h : Tq w T g M k ls i) (e1 : u.heap[T]? = w.heap[T]?) (e2 : u.heap[g]? = w.heap[g]?) (e3 : u.heap[M]? = w.heap[M]?) : Tq u T g M k ls i := by
  obtain ⟨h1, h2, G, h3, h4⟩ := h
  exact ⟨e1.trans h1, h2.heap e2, G, h3.heap e3, h4⟩
theorem PT.keep {w u : World} {lo hi T : Nat} {ls : List Nat} (h : PT w lo hi T ls) (k : ∀ k, lo ≤ k → k < hi → u.heap[k]? = w.heap[k]?) : PT u lo hi T ls := by
  obtain ⟨g, M, k', h1, a, b, c, d, e, f, q⟩ := h
  exact ⟨g, M, k', h1.heap (k T a b) (k g c d) (k M e f), a, b, c, d, e, f, q⟩
theorem Okl.le15 {zs : List Int} (h : Okl zs) : ∀ l ∈ lens zs, l ≤ 15 := by
  intro l hl
  unfold lens at hl
  obtain ⟨z, hz, rfl⟩ := List.mem_map.1 hl
  have := h.2 z hz
  omega
theorem Okl.cast {zs : List Int} (h : Okl zs) {i : Nat} {z : Int} (hz : zs[i]? = some z) : ∃ m : Nat, z = (m : Int) ∧ (lens zs)[i]? = some m := by
  have := h.2 z (List.mem_of_getElem? hz)
  exact ⟨z.toNat, by omega, by unfold lens; rw [List.getElem?_map, hz]; rfl⟩
theorem kr_parts : ∀ {ls : List Nat}, (∀ l ∈ ls, l ≤ 15) → ∃ o r, kr ls = 16384 * ls.count 1 + r ∧ used ls = ls.count 1 + o ∧ (r = 0 ↔ o = 0)
  | [], _ => ⟨0, 0, rfl, rfl, Iff.rfl⟩
  | l :: ls, h => by
    obtain ⟨o, r, h1, h2, h3⟩ := kr_parts (ls := ls) (fun x hx => h x (by simp [hx]))
    have hl := h l (by simp)
    have hu : used (l :: ls) = used ls + (if l = 0 then 0 else 1) := by
      unfold used
      simp only [List.countP_cons]
      by_cases e : l = 0
      · simp [e]
      · have : 0 < l := by omega
        simp [e, this]
    rw [hu, kr, List.count_cons]
    by_cases e0 : l = 0
    · subst e0
      exact ⟨o, r, by simp [h1], by simp [h2], h3⟩
    · by_cases e1 : l = 1
      · subst e1
        exact ⟨o, r, by simp [h1]; omega, by simp [h2]; omega, h3⟩
      · have hp : 0 < 2 ^ (15 - l) := Nat.pow_pos (by decide)
        have hb : (l == 1) = false := by rw [beq_eq_false_iff_ne]; exact e1
        refine ⟨o + 1, 2 ^ (15 - l) + r, ?_, ?_, ?_⟩
        · rw [if_neg e0, hb, h1]; simp; omega
        · rw [if_neg e0, hb, h2]; simp; omega
        · omega
theorem under_row {ls : List Nat} (h15 : ∀ l ∈ ls, l ≤ 15) (h : kr ls ≤ 32768) : cerr (fun j => ls.count j) = if Under ls then 81 else 0 := by
  unfold cerr
  rw [psum_part, ← kr_part h15, if_neg (by omega)]
  obtain ⟨o, r, h1, h2, h3⟩ := kr_parts h15
  by_cases hu : Under ls
  · rw [if_pos hu, if_neg]
    unfold Under at hu
    obtain ⟨a, b, c⟩ := hu
    rintro (e | e | ⟨e1, e2⟩)
    · omega
    · omega
    · have e2' : ls.count 1 = 1 := e2
      omega
  · rw [if_neg hu, if_pos]
    unfold Under at hu
    by_cases a : kr ls = 32768
    · exact Or.inl a
    · by_cases b : used ls = 0
      · exact Or.inr (Or.inl (by omega))
      · have c : ls.count 1 = 1 := by omega
        exact Or.inr (Or.inr ⟨by omega, c⟩)
theorem over_row {ls : List Nat} (h15 : ∀ l ∈ ls, l ≤ 15) (h : 32768 < kr ls) : cerr (fun j => ls.count j) = 80 := by
  unfold cerr
  rw [psum_part, ← kr_part h15, if_pos h]
theorem nerr_cerr {zs : List Int} (h : Okl zs) : cerr (fun j => (lens zs).count j) = nerr zs := by
  unfold nerr
  rw [if_neg (by simpa using h)]
  by_cases h2 : 32768 < kr (lens zs)
  · rw [if_pos h2]; exact over_row h.le15 h2
  · rw [if_neg h2]; exact under_row h.le15 (by omega)
theorem count_le {zs : List Int} (h : Okl zs) (j : Nat) : (lens zs).count j ≤ 320 := by
  have e1 := List.count_le_length (a := j) (l := lens zs)
  have e2 : (lens zs).length ≤ 320 := by unfold lens; rw [List.length_map]; exact h.1
  exact Nat.le_trans e1 e2
set_option maxRecDepth 100000 in
set_option maxHeartbeats 2000000 in
theorem new_arg (a : Option Addr) (zs : List Int) (L C : Nat) (w : World) (h : Lens w a zs) (hL : zs.length = L) (hLb : L < 140737488355328) (hno : ¬ Okl zs) :
    Calls Tryz.prog 88 #[.slice a L C] w fun e w' => e = .returned (.tuple #[.pointer none, .int .i64 2]) ∧ Below w.heap.size w w' := by
  have hcount := count_c a zs L C (fun _ => 0) false w h hL hLb (Or.inr ⟨hno, rfl, rfl⟩)
  obtain ⟨R, hR⟩ : ∃ R, (rw16 fun _ => 0) = R := ⟨_, rfl⟩
  rw [hR] at hcount
  have hRs : R.size = 16 := by rw [← hR]; exact rw16_size _
  have hR1 : R.all (·.oneCell') = true := by rw [← hR]; exact rw16_one _
  have hz : ∀ w', (zeroValue 180).run Tryz.prog w' = .ok (.agg R) w' := fun w' => by rw [← hR]; kernel_rfl
  clear h hL hLb hno hR
  go_enter Tryz.func88, Tryz.ntmps88
  go_wp2_with (first
    | (go_at_call 114; refine hcount.mono ?_; rintro e2 w2 ⟨rfl, hb2⟩
       have c2 := Cells.new w2 R 180
       have b2 : Aside (Below w.heap.size w w2) := hb2
       clear hb2)
    | (refine wpList_store_row rfl 180 (.tmp 4) (.tmp 14) rfl w2.heap.size R rfl rfl 180 R c2 (by rw [hRs]; exact size59) rfl hR1 ?_))
  first | go_ret | go_ret2
  exact ⟨rfl, (b2.out.alloc b2.out.size _).trans ((only_row c2 R).below b2.out.size)⟩
set_option maxRecDepth 100000 in
set_option maxHeartbeats 2000000 in
theorem new_room (a : Option Addr) (zs : List Int) (L C e0 : Nat) (w : World) (h : Lens w a zs) (hL : zs.length = L) (hLb : L < 140737488355328) (hok : Okl zs) (he : nerr zs = e0) (he0 : e0 ≠ 0) :
    Calls Tryz.prog 88 #[.slice a L C] w fun e w' => e = .returned (.tuple #[.pointer none, .int .i64 (e0 : Int)]) ∧ Below w.heap.size w w' := by
  have hcount := count_c a zs L C (fun j => (lens zs).count j) true w h hL hLb (Or.inl ⟨hok, rfl, rfl⟩)
  have hcheck := check_c (fun j => (lens zs).count j) (count_le hok) e0 (by rw [nerr_cerr hok]; exact he)
  obtain ⟨R, hR⟩ : ∃ R, (rw16 fun j => (lens zs).count j) = R := ⟨_, rfl⟩
  rw [hR] at hcount hcheck
  have hRs : R.size = 16 := by rw [← hR]; exact rw16_size _
  have hR1 : R.all (·.oneCell') = true := by rw [← hR]; exact rw16_one _
  have hz : ∀ w', (zeroValue 180).run Tryz.prog w' = .ok (.agg (rw16 fun _ => 0)) w' := fun w' => by kernel_rfl
  have hne : ((e0 : Int) == 0) = false := beq_eq_false_iff_ne.2 (by omega)
  clear h hL hLb hok hR he he0
  go_enter Tryz.func88, Tryz.ntmps88
  go_upto_region 4 with (first
    | (go_at_call 114; refine hcount.mono ?_; rintro e2 w2 ⟨rfl, hb2⟩
       have c2 := Cells.new w2 (rw16 fun _ => 0) 180
       have b2 : Aside (Below w.heap.size w w2) := hb2
       clear hb2)
    | (refine wpList_store_row rfl 180 (.tmp 4) (.tmp 14) rfl w2.heap.size R rfl rfl 180 (rw16 fun _ => 0) c2 (by rw [hRs]; exact size59) (by rw [hRs]; rfl) hR1 ?_))
  have c3 := set_row c2 R
  have b3 : Aside (Below w.heap.size w ((w2.alloc (.cells (rw16 fun _ => 0) 180)).setRow w2.heap.size R)) := (b2.out.alloc b2.out.size _).trans ((only_row c2 R).below b2.out.size)
  obtain ⟨w3, hw3⟩ : ∃ w3, w3 = (w2.alloc (.cells (rw16 fun _ => 0) 180)).setRow w2.heap.size R := ⟨_, rfl⟩
  rw [← hw3] at c3 b3 ⊢
  obtain ⟨D, hD⟩ : ∃ D, w2.heap.size = D := ⟨_, rfl⟩
  rw [hD] at c3 ⊢
  clear c2 hw3 hD b2
  go_wp2_with (first
    | (refine wpList_load_row rfl 180 (.tmp 4) rfl D rfl 180 _ (0, 0) _ c3 Tryz.underlying180 rfl (by rw [hRs]; exact size59) ?_)
    | (go_at_call 115; refine (hcheck _).mono ?_; rintro e4 w4 ⟨rfl, hb4⟩))
  first | go_ret | go_ret2
  exact ⟨rfl, b3.out.trans (hb4.mono b3.out.size)⟩
theorem info70 : (Tryz.prog.info? 191).map (fun i => (i.zero, i.size, i.bytes)) = some (some (.agg #[.int .u32 0, .int .u32 0]), 2, 8) := by kernel_rfl
theorem made_codes (n : Nat) (hn : n ≤ 1048576) (w : World) : (Instr.makeSlice 184 (.int .i64 (n : Int)) (.int .i64 (n : Int))).run Tryz.prog w = .ok (.slice (some ⟨w.heap.size, 0, none⟩) n n) (w.alloc (.cells (Array.replicate (n * 2) (Value.int .u32 0)) 191)) := by
  obtain ⟨i, hi, hz, hs, hb⟩ := info_parts info70
  have := run_make (P := Tryz.prog) w 184 191 i _ Tryz.underlying184 hi hz .i64 .i64 n n (by omega) (by omega) (by rw [hb]; omega) (by omega)
  rw [this, hs]
  have e : madeCells (Value.agg #[.int .u32 0, .int .u32 0]).cells ((n : Int).toNat * 2) = (Array.replicate (n * 2) (Value.int .u32 0)) := by
    apply Array.ext_getElem?
    intro j
    by_cases hj : j < n * 2
    · rcases Nat.mod_two_eq_zero_or_one j with h | h <;> simp [madeCells, Value.cells, hj, h]
    · simp [madeCells, hj]
  rw [e]
  simp
theorem run_makeMap_hint (n : Int) (w : World) : (Instr.makeMap 185 (some (.int .i64 n))).run Tryz.prog w = .ok (.map (some w.heap.size)) (w.alloc (.map #[] 0)) := by
  simp [Instr.makeMap, run_underlying Tryz.underlying185, asInt, asIntOf, Result.andThen]
theorem Tq.new {w : World} {T g M : Nat} {ls : List Nat} (ht : Cells w T #[.slice (some ⟨g, 0, none⟩) ls.length ls.length, .map (some M)] 187) (hg : Cells w g (Array.replicate (ls.length * 2) (Value.int .u32 0)) 191) (hm : Mp w M 0 (fun _ _ => none)) : Tq w T g M 0 ls 0 := by
  refine ⟨ht, ⟨_, hg, by simp; omega, fun j m hj => ⟨fun h => by omega, fun _ => ?_⟩⟩, _, hm, Laidm.none ls⟩
  have := lt_of_at hj
  constructor
  · rw [Array.getElem?_replicate, if_pos (by omega)]
  · rw [Array.getElem?_replicate, if_pos (by omega)]
theorem size_al (w : World) (o : Obj) : (w.alloc o).heap.size = w.heap.size + 1 := Array.size_push _
theorem Mp.al {w : World} {M k : Nat} {G : Nat → Nat → Option Int} (h : Mp w M k G) (o : Obj) : Mp (w.alloc o) M k G := h.heap (Below.heap_alloc w o M h.lt)
def Made (w4 wc : World) (N T : Nat) (ls : List Nat) : Prop := ∃ g M, Tq wc T g M 0 ls 0 ∧ N ≤ T ∧ N ≤ g ∧ N ≤ M ∧ T ≠ g ∧ T ≠ M ∧ g ≠ M ∧ T < wc.heap.size ∧ g < wc.heap.size ∧ M < wc.heap.size ∧ Below N w4 wc
theorem made_ab (w4 : World) (N L : Nat) (ls : List Nat) (hN : w4.heap.size = N) (hL : ls.length = L) :
    Made w4 (((w4.alloc (.cells (Array.replicate (L * 2) (Value.int .u32 0)) 191)).alloc (.map #[] 0)).alloc (.cells #[.slice (some ⟨N, 0, none⟩) L L, .map (some (N + 1))] 187)).drew N (N + 1 + 1) ls := by
  subst hN hL
  have s1 := size_al w4 (.cells (Array.replicate (ls.length * 2) (Value.int .u32 0)) 191)
  have c1 := Cells.new w4 (Array.replicate (ls.length * 2) (Value.int .u32 0)) 191
  have b1 := (Below.refl w4.heap.size w4).alloc (Nat.le_refl _) (.cells (Array.replicate (ls.length * 2) (Value.int .u32 0)) 191)
  generalize (w4.alloc (.cells (Array.replicate (ls.length * 2) (Value.int .u32 0)) 191)) = w5 at *
  have s2 := size_al w5 (.map #[] 0)
  have c2 := c1.alloc (.map #[] 0)
  have m2 := Mp.made w5
  have b2 := b1.alloc (by omega) (.map #[] 0)
  generalize (w5.alloc (.map #[] 0)) = w6 at *
  rw [s1] at s2 m2
  have s3 := size_al w6 (.cells #[.slice (some ⟨w4.heap.size, 0, none⟩) ls.length ls.length, .map (some (w4.heap.size + 1))] 187)
  have t3 := Cells.new w6 #[.slice (some ⟨w4.heap.size, 0, none⟩) ls.length ls.length, .map (some (w4.heap.size + 1))] 187
  rw [s2] at s3 t3
  have sd : ((w6.alloc (.cells #[.slice (some ⟨w4.heap.size, 0, none⟩) ls.length ls.length, .map (some (w4.heap.size + 1))] 187)).drew).heap.size = w4.heap.size + 1 + 1 + 1 := s3
  exact ⟨w4.heap.size, w4.heap.size + 1, Tq.new t3.drew (c2.alloc _).drew (m2.al _).drew, by omega, by omega, by omega, by omega, by omega, by omega, by omega, by omega, by omega, (b2.alloc (by omega) _).drew⟩
theorem made_ba (w4 : World) (N L : Nat) (ls : List Nat) (hN : w4.heap.size = N) (hL : ls.length = L) :
    Made w4 (((w4.alloc (.map #[] 0)).alloc (.cells (Array.replicate (L * 2) (Value.int .u32 0)) 191)).alloc (.cells #[.slice (some ⟨N + 1, 0, none⟩) L L, .map (some N)] 187)).drew N (N + 1 + 1) ls := by
  subst hN hL
  have s1 := size_al w4 (.map #[] 0)
  have m1 := Mp.made w4
  have b1 := (Below.refl w4.heap.size w4).alloc (Nat.le_refl _) (.map #[] 0)
  generalize (w4.alloc (.map #[] 0)) = w5 at *
  have s2 := size_al w5 (.cells (Array.replicate (ls.length * 2) (Value.int .u32 0)) 191)
  have c2 := Cells.new w5 (Array.replicate (ls.length * 2) (Value.int .u32 0)) 191
  have m2 := m1.al (.cells (Array.replicate (ls.length * 2) (Value.int .u32 0)) 191)
  have b2 := b1.alloc (by omega) (.cells (Array.replicate (ls.length * 2) (Value.int .u32 0)) 191)
  generalize (w5.alloc (.cells (Array.replicate (ls.length * 2) (Value.int .u32 0)) 191)) = w6 at *
  rw [s1] at s2 c2
  have s3 := size_al w6 (.cells #[.slice (some ⟨w4.heap.size + 1, 0, none⟩) ls.length ls.length, .map (some w4.heap.size)] 187)
  have t3 := Cells.new w6 #[.slice (some ⟨w4.heap.size + 1, 0, none⟩) ls.length ls.length, .map (some w4.heap.size)] 187
  rw [s2] at s3 t3
  have sd : ((w6.alloc (.cells #[.slice (some ⟨w4.heap.size + 1, 0, none⟩) ls.length ls.length, .map (some w4.heap.size)] 187)).drew).heap.size = w4.heap.size + 1 + 1 + 1 := s3
  exact ⟨w4.heap.size + 1, w4.heap.size, Tq.new t3.drew (c2.alloc _).drew (m2.al _).drew, by omega, by omega, by omega, by omega, by omega, by omega, by omega, by omega, by omega, (b2.alloc (by omega) _).drew⟩
def nx (ls : List Nat) (i j : Nat) : Nat := if j = 0 then 0 else code ls i j
theorem nx_start (ls : List Nat) (j : Nat) : nx ls 0 j = first ls j := by
  unfold nx code
  by_cases h : j = 0
  · subst h; rfl
  · rw [if_neg h]; simp
theorem nx_skip {ls : List Nat} {i : Nat} (h : ls[i]? = some 0) (j : Nat) : nx ls (i + 1) j = nx ls i j := by
  unfold nx code
  by_cases e : j = 0
  · rw [if_pos e, if_pos e]
  · rw [if_neg e, if_neg e, rank_step h j, if_neg (fun h => e h.symm)]; rfl
theorem nx_step {ls : List Nat} {i m : Nat} (h : ls[i]? = some m) (hm : 0 < m) (j : Nat) : nx ls (i + 1) j = if j = m then code ls i m + 1 else nx ls i j := by
  unfold nx code
  by_cases e : j = 0
  · rw [if_pos e, if_pos e, if_neg (by omega)]
  · rw [if_neg e, if_neg e, rank_step h j]
    by_cases e2 : j = m
    · subst e2; rw [if_pos rfl, if_pos rfl]; omega
    · rw [if_neg e2, if_neg (fun h => e2 h.symm)]; omega
set_option maxRecDepth 100000 in
set_option maxHeartbeats 4000000 in
theorem new_yes (a : Option Addr) (zs : List Int) (L C : Nat) (w : World) (h : Lens w a zs) (hL : zs.length = L) (hLb : L < 140737488355328) (he : nerr zs = 0) :
    Calls Tryz.prog 88 #[.slice a L C] w fun e w' => ∃ T, e = .returned (.tuple #[.pointer (some ⟨T, 0, none⟩), .int .i64 0]) ∧ PT w' w.heap.size w'.heap.size T (lens zs) ∧ Below w.heap.size w w' := by
  obtain ⟨hok, hkr, _⟩ := nerr_ok he
  have hcount := count_c a zs L C (fun j => (lens zs).count j) true w h hL hLb (Or.inl ⟨hok, rfl, rfl⟩)
  have hcheck := check_c (fun j => (lens zs).count j) (count_le hok) 0 (by rw [nerr_cerr hok]; exact he)
  have hfirsts := firsts_c (fun j => (lens zs).count j) (count_le hok)
  have efr : rw16 (frs fun j => (lens zs).count j) = rw16 (first (lens zs)) := rw16_congr fun j _ => frs_first _ j
  rw [efr] at hfirsts
  obtain ⟨R, hR⟩ : ∃ R, (rw16 fun j => (lens zs).count j) = R := ⟨_, rfl⟩
  rw [hR] at hcount hcheck hfirsts
  have hRs : R.size = 16 := by rw [← hR]; exact rw16_size _
  have hR1 : R.all (·.oneCell') = true := by rw [← hR]; exact rw16_one _
  have hz : ∀ w', (zeroValue 180).run Tryz.prog w' = .ok (.agg (rw16 fun _ => 0)) w' := fun w' => by kernel_rfl
  have hL320 : L ≤ 320 := by have := hok.1; omega
  have hlL : (lens zs).length = L := by unfold lens; rw [List.length_map]; exact hL
  have AH : Aside (Lens w a zs ∧ zs.length = L ∧ Okl zs ∧ kr (lens zs) ≤ 32768 ∧ (lens zs).length = L) := ⟨h, hL, hok, hkr, hlL⟩
  clear h hL hLb hok hR he efr hkr hlL
  go_enter Tryz.func88, Tryz.ntmps88
  go_upto_region 4 with (first
    | (go_at_call 114; refine hcount.mono ?_; rintro e2 w2 ⟨rfl, hb2⟩
       have c2 := Cells.new w2 (rw16 fun _ => 0) 180
       have b2 : Aside (Below w.heap.size w w2) := hb2
       clear hb2)
    | (refine wpList_store_row rfl 180 (.tmp 4) (.tmp 14) rfl w2.heap.size R rfl rfl 180 (rw16 fun _ => 0) c2 (by rw [hRs]; exact size59) (by rw [hRs]; rfl) hR1 ?_))
  have c3 := set_row c2 R
  have b3 : Aside (Below w.heap.size w ((w2.alloc (.cells (rw16 fun _ => 0) 180)).setRow w2.heap.size R)) := (b2.out.alloc b2.out.size _).trans ((only_row c2 R).below b2.out.size)
  obtain ⟨w3, hw3⟩ : ∃ w3, w3 = (w2.alloc (.cells (rw16 fun _ => 0) 180)).setRow w2.heap.size R := ⟨_, rfl⟩
  rw [← hw3] at c3 b3 ⊢
  obtain ⟨D, hD⟩ : ∃ D, w2.heap.size = D := ⟨_, rfl⟩
  rw [hD] at c3 ⊢
  clear c2 hw3 hD b2
  go_upto_region 7 with (first
    | (refine wpList_load_row rfl 180 (.tmp 4) rfl D rfl 180 _ (0, 0) _ c3 Tryz.underlying180 rfl (by rw [hRs]; exact size59) ?_)
    | (go_at_call 115; refine (hcheck _).mono ?_; rintro e4 w4 ⟨rfl, hb4⟩))
  have b4 : Aside (Below w.heap.size w w4 ∧ Cells w4 D R 180) := ⟨b3.out.trans (hb4.mono b3.out.size), c3.below hb4 c3.lt⟩
  clear hb4 b3 c3 hcheck hcount
  obtain ⟨N, hN⟩ : ∃ N, w4.heap.size = N := ⟨_, rfl⟩
  have AN : Aside (w4.heap.size = N) := hN
  have hms := made_codes L (by omega)
  have hmm := run_makeMap_hint
  go_cut [7] (fun s7 wc => ∃ T, s7 = .pointer (some ⟨T, 0, none⟩) ∧ Aside (Made w4 wc N T (lens zs)))
  case first =>
    go_region
    · go_wp2_with fail
      go_meet
      exact ⟨_, rfl, made_ab w4 N L (lens zs) AN.out AH.out.2.2.2.2⟩
    · go_wp2_with fail
      go_meet
      exact ⟨_, rfl, made_ba w4 N L (lens zs) AN.out AH.out.2.2.2.2⟩
  case rest =>
    obtain ⟨T, rfl, hM⟩ := hcut
    obtain ⟨g, M, hM⟩ := hM.out
    have AM : Aside (Tq wc T g M 0 (lens zs) 0 ∧ N ≤ T ∧ N ≤ g ∧ N ≤ M ∧ T ≠ g ∧ T ≠ M ∧ g ≠ M ∧ T < wc.heap.size ∧ g < wc.heap.size ∧ M < wc.heap.size ∧ Below N w4 wc) := hM
    have c5 : Cells wc D R 180 := b4.out.2.below hM.2.2.2.2.2.2.2.2.2.2 (by rw [← AN.out]; exact b4.out.2.lt)
    have b5 : Aside (Below w.heap.size w wc) := b4.out.1.trans (hM.2.2.2.2.2.2.2.2.2.2.mono (by have := b4.out.1.size; rw [AN.out] at this; exact this))
    clear hM hms hmm hN
    go_upto_region 9 with (first
      | (refine wpList_load_row rfl 180 (.tmp 4) rfl D rfl 180 _ (0, 0) _ c5 Tryz.underlying180 rfl (by rw [hRs]; exact size59) ?_)
      | (go_at_call 116; refine (hfirsts _).mono ?_; rintro e6 w6 ⟨rfl, hb6⟩
         have c6 := Cells.new w6 (rw16 fun _ => 0) 180
         have b6 : Aside (Below wc.heap.size wc w6) := hb6
         clear hb6)
      | (refine wpList_store_row rfl 180 (.tmp 8) (.tmp 33) rfl w6.heap.size (rw16 (first (lens zs))) rfl rfl 180 (rw16 fun _ => 0) c6 (by rw [rw16_size]; exact size59) rfl (rw16_one _) ?_))
    have c7 := set_row c6 (rw16 (first (lens zs)))
    have o7 := only_row c6 (rw16 (first (lens zs)))
    have s7 : ((w6.alloc (.cells (rw16 fun _ => 0) 180)).setRow w6.heap.size (rw16 (first (lens zs)))).heap.size = w6.heap.size + 1 := by rw [o7.size]; exact size_al _ _
    have b7 : Below wc.heap.size wc ((w6.alloc (.cells (rw16 fun _ => 0) 180)).setRow w6.heap.size (rw16 (first (lens zs)))) := (b6.out.alloc b6.out.size _).trans (o7.below b6.out.size)
    obtain ⟨w7, hw7⟩ : ∃ w7, w7 = (w6.alloc (.cells (rw16 fun _ => 0) 180)).setRow w6.heap.size (rw16 (first (lens zs))) := ⟨_, rfl⟩
    rw [← hw7] at c7 s7 b7 ⊢
    obtain ⟨F, hF⟩ : ∃ F, w6.heap.size = F := ⟨_, rfl⟩
    have hFw : wc.heap.size ≤ F := by rw [← hF]; exact b6.out.size
    rw [hF] at c7 s7 ⊢
    have A7 : Aside (Cells w7 F (rw16 (first (lens zs))) 180 ∧ Below w.heap.size w w7 ∧ Tq w7 T g M 0 (lens zs) 0 ∧ w.heap.size ≤ N ∧ N ≤ T ∧ N ≤ g ∧ N ≤ M ∧ T ≠ g ∧ T ≠ M ∧ g ≠ M ∧ T < F ∧ g < F ∧ M < F) := by
      have m := AM.out
      refine ⟨c7, b5.out.trans (b7.mono b5.out.size), m.1.heap (b7.block T (by omega)) (b7.block g (by omega)) (b7.block M (by omega)), ?_, m.2.1, m.2.2.1, m.2.2.2.1, m.2.2.2.2.1, m.2.2.2.2.2.1, m.2.2.2.2.2.2.1, by omega, by omega, by omega⟩
      have := b4.out.1.size; rw [AN.out] at this; exact this
    clear c5 c6 o7 s7 b7 hw7 hF hFw b6 AM b5 c7 b4 AN
    obtain ⟨B, hB⟩ : ∃ B, w.heap.size = B := ⟨_, rfl⟩
    have AB : Aside (w.heap.size = B) := hB
    clear hB
    go_wp2_with fail
    go_loopg [36] L (fun gg si wr => ∃ (i k : Nat), si = .int .i64 (i : Int) ∧ Aside (i + gg = L ∧ k ≤ 16 * i ∧ Tq wr T g M k (lens zs) i ∧ Cells wr F (rw16 (nx (lens zs) i)) 180 ∧ Below w.heap.size w wr))
    case atStart =>
      have e : rw16 (nx (lens zs) 0) = rw16 (first (lens zs)) := rw16_congr fun j _ => nx_start _ j
      exact ⟨0, 0, rfl, by omega, by omega, A7.out.2.2.1, by rw [e]; exact A7.out.1, A7.out.2.1⟩
    case round =>
      obtain ⟨i, k, rfl, hI⟩ := hrel
      by_cases hiL : i < L
      · have hi : (i : Int) < (L : Int) := by omega
        obtain ⟨z, hz1⟩ : ∃ z, zs[i]? = some z := ⟨_, List.getElem?_eq_getElem (by have := AH.out; omega)⟩
        obtain ⟨m, rfl, hm⟩ := AH.out.2.2.1.cast hz1
        have hm15 := AH.out.2.2.1.le15 m (List.mem_of_getElem? hm)
        rcases AH.out.1 with e | ⟨b, o, rfl, hc⟩
        · rw [e] at hz1; simp at hz1
        have hcw := hc i m hz1
        have cz : wr.cell? ⟨b, o + i, none⟩ = some (.int .i64 (m : Int)) := (hI.out.2.2.2.2.cell (p := ⟨b, o + i, none⟩) (World.block_lt_of_cell? w ⟨b, o + i, none⟩ hcw)).trans hcw
        have AZ : Aside (zs[i]? = some (m : Int) ∧ i < L ∧ (lens zs)[i]? = some m) := ⟨hz1, hiL, hm⟩
        clear hc hz1 hiL hcw hm
        by_cases hm0 : m = 0
        · subst hm0
          go_wp2_with fail
          go_roundg (L - (i + 1))
          case measure => have := hI.out.1; have := AZ.out.2.1; omega
          case rel =>
            refine ⟨i + 1, k, by go_num, by have := AZ.out.2.1; omega, by have := hI.out.2.1; omega, ⟨hI.out.2.2.1.t, hI.out.2.2.1.c.skip AZ.out.2.2, ?_⟩, ?_, hI.out.2.2.2.2⟩
            · obtain ⟨G, h1, h2⟩ := hI.out.2.2.1.m
              exact ⟨G, h1, h2.skip AZ.out.2.2⟩
            · have e : rw16 (nx (lens zs) (i + 1)) = rw16 (nx (lens zs) i) := rw16_congr fun j _ => nx_skip AZ.out.2.2 j
              rw [e]; exact hI.out.2.2.2.1
        · have hmp : (0 : Int) < (m : Int) := by omega
          have hmpN : 0 < m := by omega
          obtain ⟨c, hc⟩ : ∃ c, code (lens zs) i m = c := ⟨_, rfl⟩
          have hpart : part (lens zs) 15 ≤ 32768 := by rw [← kr_part AH.out.2.2.1.le15]; exact AH.out.2.2.2.1
          have hcb : c < 2 ^ m := by rw [← hc]; exact code_fits hpart AZ.out.2.2 hmpN hm15
          have hcb2 : c < 32768 := Nat.lt_of_lt_of_le hcb (show 2 ^ m ≤ 2 ^ 15 from Nat.pow_le_pow_right (by decide) hm15)
          have cq : wr.cell? ⟨F, m, none⟩ = some (.int .u32 (c : Int)) := by rw [hI.out.2.2.2.1.cell, rw16_at _ _ (by omega), nx, if_neg hm0, hc]
          have hmI : (m : Int) ≤ 15 := by omega
          have a7 := A7.out
          have hlay := lay_c T g M k i m c (lens zs) wr hI.out.2.2.1 (by rw [AH.out.2.2.2.2]; exact hL320) AZ.out.2.2 hmpN hm15 hc hcb (by have := hI.out.2.1; have := AZ.out.2.1; omega) a7.2.2.2.2.2.2.2.1 a7.2.2.2.2.2.2.2.2.1 a7.2.2.2.2.2.2.2.2.2.1
          have AQ : Aside (code (lens zs) i m = c ∧ 0 < m) := ⟨hc, hmpN⟩
          clear hc hcb hm0 hpart a7 hmpN
          go_upto_region 14 with (go_at_call 117; refine hlay.mono ?_; rintro e8 w8 ⟨rfl, hq8, ht8⟩)
          have a7 := A7.out
          have c8 : Cells w8 F (rw16 (nx (lens zs) i)) 180 := hI.out.2.2.2.1.two ht8 (by omega) (by omega)
          have b8 : Below w.heap.size w w8 := hI.out.2.2.2.2.trans (ht8.below (by omega) (by omega) hI.out.2.2.2.2.size)
          have cq8 : w8.cell? ⟨F, m, none⟩ = some (.int .u32 (c : Int)) := by rw [c8.cell, rw16_at _ _ (by omega), nx, if_neg (by have := AQ.out.2; omega), AQ.out.1]
          have fq8 := c8.frozen m
          have A8 : Aside (Cells w8 F (rw16 (nx (lens zs) i)) 180 ∧ Below w.heap.size w w8 ∧ Tq w8 T g M (k + 16) (lens zs) (i + 1)) := ⟨c8, b8, hq8⟩
          clear c8 b8 hq8 ht8 hlay cq a7
          go_wp2_with fail
          go_roundg (L - (i + 1))
          case measure => have := hI.out.1; have := AZ.out.2.1; omega
          case rel =>
            have a7 := A7.out
            have o9 : Only F w8 (w8.setCell ⟨F, m, none⟩ (.int .u32 ((c : Int) + 1))) := (Only.refl F w8).setCell _ _
            refine ⟨i + 1, k + 16, by go_num, by have := AZ.out.2.1; omega, by have := hI.out.2.1; omega, A8.out.2.2.heap (o9.block T (by omega)) (o9.block g (by omega)) (o9.block M (by omega)), ?_, A8.out.2.1.trans (o9.below (by omega))⟩
            have := A8.out.1.set m (.int .u32 ((c + 1 : Nat) : Int))
            rw [rw16_set] at this
            have e : (rw16 fun j => if j = m then c + 1 else nx (lens zs) i j) = rw16 (nx (lens zs) (i + 1)) := rw16_congr fun j _ => by
              rw [nx_step AZ.out.2.2 AQ.out.2 j, AQ.out.1]
            rw [e] at this
            exact this
      · have hieq : i = L := by have := hI.out.1; omega
        have hni : ¬ (i : Int) < (L : Int) := by omega
        clear hiL
        go_wp2_with fail
        first | go_ret | go_ret2
        have a7 := A7.out
        have hI2 := hI.out
        rw [hieq] at hI2
        have hl := hI2.2.2.2.1.lt
        exact ⟨T, rfl, ⟨g, M, k, by rw [AH.out.2.2.2.2]; exact hI2.2.2.1, by omega, by omega, by omega, by omega, by omega, by omega, by rw [← kr_part AH.out.2.2.1.le15]; exact AH.out.2.2.2.1, AH.out.2.2.1.le15⟩, hI2.2.2.2.2⟩
end Go.Proofs.YtpihipbeagpgpaaGreatDoor

/-
 What the program's Symbols and Code come to.
-/
namespace Go.Proofs.YtpihipbeagpgpaaGreatDoor
open Go.RowKit
set_option linter.unusedVariables false
end Go.Proofs.YtpihipbeagpgpaaGreatDoor

/-
 What the document's Code, begins and Look come to.
 Conditions: the table and the bits lie in memory.
-/
namespace Go.Proofs.YtpihipbeagpgpaaGreatDoor
open Go.RowKit
set_option linter.unusedVariables false
def Drawn (w u : World) : Prop := ∃ n, u = w.drewN n
theorem Drawn.refl (w : World) : Drawn w w := ⟨0, rfl⟩
theorem Drawn.drewN {w u : World} (h : Drawn w u) (n : Nat) : Drawn w (u.drewN n) := by
 obtain ⟨k, rfl⟩ := h
 exact ⟨k + n, by simp [World.drewN, Nat.add_assoc]⟩
end Go.Proofs.YtpihipbeagpgpaaGreatDoor

/-
 What the document's Look and Code come to.
 Conditions: the table and the bits lie in memory; the lengths make codes.
-/
namespace Go.Proofs.YtpihipbeagpgpaaGreatDoor
open Go.RowKit
set_option linter.unusedVariables false
def Told (ls : List Nat) (h : List Bool) (s how k : Nat) : Prop :=
 (Hit ls h s k ∧ how = 0) ∨ ((∀ i n, ¬ Hit ls h i n) ∧ (∃ j n, ls[j]? = some n ∧ 0 < n ∧ h <+: cbits ls j) ∧ s = 0 ∧ how = 1 ∧ k = 0) ∨ ((∀ i n, ¬ Hit ls h i n) ∧ (¬ ∃ j n, ls[j]? = some n ∧ 0 < n ∧ h <+: cbits ls j) ∧ s = 0 ∧ how = 2 ∧ k = 0)
theorem cbits_at {ls : List Nat} {i n : Nat} (h : ls[i]? = some n) : cbits ls i = bitsB n (code ls i n) := by unfold cbits; rw [h]
theorem num_take_snoc {l : List Bool} {k : Nat} {x : Bool} (h : l[k]? = some x) : num (l.take (k + 1)) = 2 * num (l.take k) + (if x then 1 else 0) := by
 rw [take_one h, num_app]
 cases x <;> simp [num] <;> omega
end Go.Proofs.YtpihipbeagpgpaaGreatDoor

/-
  What Reverse comes to, the program's and the document's: the lowest m bits of v, the lowest one first, gathered as a number; m is n between 0 and 32.
  Conditions: v is a number of 32 bits.
-/
namespace Go.Proofs.YtpihipbeagpgpaaGreatDoor
open Go.RowKit
def revl : Nat → Nat → Nat → Nat
  | 0, _, o => o
  | k + 1, v, o => revl k (v / 2) (2 * o + v % 2)
theorem revl_add : ∀ (k v o : Nat), revl k v o = o * 2 ^ k + revl k v 0
  | 0, _, o => by simp [revl]
  | k + 1, v, o => by
    rw [revl, revl, revl_add k (v / 2) (2 * o + v % 2), revl_add k (v / 2) (2 * 0 + v % 2), Nat.pow_succ, Nat.add_mul, Nat.mul_zero, Nat.zero_add]
    rw [show 2 * o * 2 ^ k = o * (2 ^ k * 2) by rw [Nat.mul_comm 2 o, Nat.mul_assoc, Nat.mul_comm 2]]
    omega
theorem revl_last : ∀ (k v : Nat), revl (k + 1) v 0 = 2 * revl k v 0 + v / 2 ^ k % 2
  | 0, v => by simp [revl]
  | k + 1, v => by
    rw [revl, revl_add (k + 1), revl_last k (v / 2), revl, revl_add k (v / 2) (2 * 0 + v % 2), Nat.div_div_eq_div_mul, ← Nat.pow_succ']
    rw [Nat.mul_zero, Nat.zero_add, Nat.pow_succ, ← Nat.mul_assoc]
    omega
theorem revl_high : ∀ (k v o c : Nat), revl k (v + c * 2 ^ k) o = revl k v o
  | 0, _, _, _ => rfl
  | k + 1, v, o, c => by
    rw [revl, revl]
    have e : c * 2 ^ (k + 1) = 2 * (c * 2 ^ k) := by rw [Nat.pow_succ, ← Nat.mul_assoc, Nat.mul_comm]
    rw [e, show (v + 2 * (c * 2 ^ k)) % 2 = v % 2 by omega, show (v + 2 * (c * 2 ^ k)) / 2 = v / 2 + c * 2 ^ k by omega]
    exact revl_high k _ _ _
theorem or_bit (o v i : Nat) (ho : o < 2 ^ i) (hi : i < 32) (hv : v < 4294967296) : bits .or .u32 ((o : Int) * 2 % 4294967296) (bits .and .u32 (v : Int) 1) = ((2 * o + v % 2 : Nat) : Int) := by
  have h1 : 2 ^ i ≤ 2147483648 := pow_le64 (show i ≤ 31 by omega)
  have e : (o : Int) * 2 % 4294967296 = ((2 * o : Nat) : Int) := by omega
  rw [e, show (1 : Int) = ((1 : Nat) : Int) from rfl, u32_and_nat v 1 hv (by decide), Nat.and_one_is_mod, u32_or_nat _ _ (by omega) (by omega)]
  congr 1
  exact (Nat.two_pow_add_eq_or_of_lt (i := 1) (b := v % 2) (by omega) o).symm

def clamp (n : Int) : Nat := (max 0 (min n 32)).toNat
set_option maxHeartbeats 1000000 in
theorem rev_c (v : Nat) (hv : v < 4294967296) (n : Int) (w : World) :
    Calls Tryz.prog 133 #[.int .u32 v, .int .i64 n] w fun e w' => e = .returned (.int .u32 (revl (clamp n) v 0 : Nat)) ∧ w = w' := by
  obtain ⟨m, hm⟩ : ∃ m, clamp n = m := ⟨_, rfl⟩
  have hm2 : (m : Int) = max 0 (min n 32) := by unfold clamp at hm; omega
  rw [hm]
  go_enter Tryz.func133, Tryz.ntmps133
  go_wp2
  all_goals
    go_loop [0, 5, 9] (fun a o i => ∃ k v' o' : Nat, k ≤ m ∧ i = .int .i64 k ∧ a = .int .u32 v' ∧ o = .int .u32 o' ∧ v' < 4294967296 ∧ o' < 2 ^ k ∧ revl (m - k) v' o' = revl m v 0) (fun _ _ i => m - (intOf i).toNat)
    case atStart => exact ⟨0, v, 0, Nat.zero_le _, rfl, rfl, rfl, hv, by decide, rfl⟩
    case round =>
      obtain ⟨k, v', o', hk, rfl, rfl, rfl, hv', ho', hr⟩ := hrel
      go_wp2
      all_goals first
        | (have hlt : k < m := by omega
           obtain ⟨j, hj⟩ : ∃ j, m - k = j + 1 := ⟨m - k - 1, by omega⟩
           rw [hj, revl] at hr
           have hp : 2 ^ k ≤ 2147483648 := pow_le64 (show k ≤ 31 by omega)
           go_round
           case rel =>
             refine ⟨k + 1, v' / 2, 2 * o' + v' % 2, by omega, by go_num, by go_num, ?_, by omega, by rw [Nat.pow_succ]; omega, by rw [show m - (k + 1) = j by omega]; exact hr⟩
             rw [← or_bit o' v' k ho' (by omega) hv']
           case measure => simp [intOf]; omega)
        | (have hke : k = m := by omega
           subst hke
           rw [Nat.sub_self, revl] at hr
           go_ret
           exact ⟨by rw [← hr]; rfl, rfl⟩)
end Go.Proofs.YtpihipbeagpgpaaGreatDoor

/-
 Bits that a reader holds, as a number and turned round: the number of the first ones, the first one highest. No walk in this text.
-/
namespace Go.Proofs.YtpihipbeagpgpaaGreatDoor
open Go.RowKit
set_option linter.unusedVariables false
theorem nm_bit {l : List Bool} {k : Nat} {x : Bool} (h : l[k]? = some x) : nm l / 2 ^ k % 2 = if x then 1 else 0 := by
 obtain ⟨hk, e⟩ := List.getElem?_eq_some_iff.1 h
 rw [← nm_drop, nm_ahead l k hk, e]
 cases x <;> simp <;> omega
theorem rev_num {l : List Bool} : ∀ k, k ≤ l.length → revl k (nm l) 0 = num (l.take k)
 | 0, _ => by simp [revl, num]
 | k + 1, h => by
  obtain ⟨x, hx⟩ : ∃ x, l[k]? = some x := ⟨_, List.getElem?_eq_getElem (by omega)⟩
  rw [revl_last, rev_num k (by omega), nm_bit hx, num_take_snoc hx]
theorem rev_mod (n m v : Nat) (h : n ≤ m) : revl n (v % 2 ^ m) 0 = revl n v 0 := by
 have e : v = v % 2 ^ m % 2 ^ n + v / 2 ^ n * 2 ^ n := by
  rw [Nat.mod_mod_of_dvd _ (Nat.pow_dvd_pow 2 h), Nat.mul_comm]; exact (Nat.mod_add_div v (2 ^ n)).symm
 have e2 : v % 2 ^ m = v % 2 ^ m % 2 ^ n + v % 2 ^ m / 2 ^ n * 2 ^ n := by rw [Nat.mul_comm]; exact (Nat.mod_add_div _ _).symm
 rw [e2, revl_high, e, revl_high, ← e]
end Go.Proofs.YtpihipbeagpgpaaGreatDoor

/-
 Worlds in which of all blocks that were there one alone may have turned.
-/
namespace Go.Proofs.YtpihipbeagpgpaaGreatDoor
open Go.RowKit
set_option linter.unusedVariables false
structure But (M : Nat) (w w' : World) : Prop where
 os : w'.os = w.os
 tape : w'.tape = w.tape
 output : w'.output = w.output
 size : w.heap.size ≤ w'.heap.size
 block : ∀ k, k < w.heap.size → k ≠ M → w'.heap[k]? = w.heap[k]?
end Go.Proofs.YtpihipbeagpgpaaGreatDoor

/-
 What each method of bits' Reader comes to: at a nil reader, and at one that lies in memory, whose wide number is v and whose count is n.
 Conditions: n is at most 64, and v is below 2 to the n.
-/
namespace Go.Proofs.YtpihipbeagpgpaaGreatDoor
open Go.RowKit

theorem wp_scope_forward {P : Program} {a : Act} {w : World} {Q : Exit → Act → World → Prop} {c rest : Code} (l : Nat) (hf : findLabel c l = some rest)
  (first : c.wp P (Exit.jump l (fun a w => rest.wp P (Exit.noGoto Q) a w) Q) a w) : (Code.scope c).wp P Q a w := by
 refine wp_scope_jumps l _ (fun _ _ => 0) hf first ?_
 intro a w h
 refine wp_mono h ?_
 intro e a w hq
 cases e with
 | goto l => exact hq.elim
 | _ => exact hq
section
variable {Q : Exit → Act → World → Prop} {a : Act} {w : World} {l : Nat} {J : Act → World → Prop}
theorem jump_ret : Exit.jump l J Q .ret a w = Q .ret a w := rfl
end

/-! ### nil -/
/-! ### a reader that is there -/
def Rd (w : World) (b : Nat) (v n : Int) : Prop := ∃ t, Cells w b #[.int .u64 v, .int .u64 n] t
section
variable {w u : World} {b c : Nat} {v n : Int}
theorem Rd.c0 (h : Rd w b v n) : w.cell? ⟨b, 0, none⟩ = some (.int .u64 v) := by obtain ⟨t, h⟩ := h; rw [h.cell 0]; rfl
theorem Rd.c1 (h : Rd w b v n) : w.cell? ⟨b, 1, none⟩ = some (.int .u64 n) := by obtain ⟨t, h⟩ := h; rw [h.cell 1]; rfl
theorem Rd.fz (h : Rd w b v n) (i : Nat) : w.frozen? ⟨b, i, none⟩ = false := by obtain ⟨t, h⟩ := h; exact h.frozen i
theorem Rd.set0 (h : Rd w b v n) (v' : Int) : Rd (w.setCell ⟨b, 0, none⟩ (.int .u64 v')) b v' n := by obtain ⟨t, h⟩ := h; exact ⟨t, h.set 0 _⟩
theorem Rd.set1 (h : Rd w b v n) (n' : Int) : Rd (w.setCell ⟨b, 1, none⟩ (.int .u64 n')) b v n' := by obtain ⟨t, h⟩ := h; exact ⟨t, h.set 1 _⟩
theorem Rd.drew (h : Rd w b v n) : Rd w.drew b v n := h
theorem Rd.only (h : Rd w b v n) (k : Only c w u) (hb : b ≠ c) : Rd u b v n := by obtain ⟨t, h⟩ := h; exact ⟨t, h.only k hb⟩
theorem Rd.below {B : Nat} (h : Rd w b v n) (k : Below B w u) (hb : b < B) : Rd u b v n := by obtain ⟨t, h⟩ := h; exact ⟨t, h.below k hb⟩
end
theorem Rd.new (w : World) (t : TypeId) : Rd (w.alloc (.cells #[.int .u64 0, .int .u64 0] t)) w.heap.size 0 0 := ⟨t, Cells.new w _ t⟩

theorem new_any (w : World) : Calls Tryz.prog 44 #[] w fun e w' => e = .returned (.pointer (some ⟨w.heap.size, 0, none⟩)) ∧ w' = w.alloc (.cells #[.int .u64 0, .int .u64 0] 116) := by
 go_enter Tryz.func44, Tryz.ntmps44
 go_wp2
 go_ret
 exact ⟨rfl, rfl⟩
theorem new_c (w : World) : Calls Tryz.prog 44 #[] w fun e w' => e = .returned (.pointer (some ⟨w.heap.size, 0, none⟩)) ∧ Rd w' w.heap.size 0 0 ∧ Below w.heap.size w w' ∧ w'.heap.size = w.heap.size + 1 :=
 (new_any w).mono fun _ _ h => ⟨h.1, by rw [h.2]; exact Rd.new _ _, by rw [h.2]; exact (Below.refl _ _).alloc (Nat.le_refl _) _, by rw [h.2]; simp⟩
theorem held_c (b : Nat) (v n : Int) (w : World) (h : Rd w b v n) (h0 : 0 ≤ n) (h64 : n ≤ 64) :
  Calls Tryz.prog 132 #[.pointer (some ⟨b, 0, none⟩)] w fun e w' => e = .returned (.int .i64 n) ∧ w = w' := by
 have h1 := h.c1
 go_enter Tryz.func132, Tryz.ntmps132
 go_wp2
 go_ret
 exact ⟨rfl, rfl⟩
end Go.Proofs.YtpihipbeagpgpaaGreatDoor
