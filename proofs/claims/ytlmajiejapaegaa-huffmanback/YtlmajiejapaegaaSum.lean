/-
  What the program's sum, check, firsts and Kraft come to, over rows of sixteen counts.
-/
import Derived.Test.YtlmajiejapaegaaRow
import Derived.Test.YtlmajiejapaegaaRNew
namespace Go.Proofs.Ytlmajiejapaegaa
open Go.RowKit
set_option linter.unusedVariables false
/-- The sum of a row: what the codes of n bits or fewer take. -/
def psum (f : Nat → Nat) : Nat → Nat
  | 0 => 0
  | n + 1 => psum f n * 2 + f (n + 1)
theorem psum_part (ls : List Nat) : ∀ n, psum (fun j => ls.count j) n = part ls n
  | 0 => rfl
  | n + 1 => by rw [psum, part, psum_part ls n]; omega
theorem psum_zero : ∀ n, psum (fun _ => 0) n = 0
  | 0 => rfl
  | n + 1 => by rw [psum, psum_zero n]
theorem psum_le {f : Nat → Nat} (h : ∀ j, f j ≤ 320) : ∀ n, psum f n + 320 ≤ 320 * 2 ^ n
  | 0 => by simp [psum]
  | n + 1 => by
    have h1 := psum_le h n
    have h2 := h (n + 1)
    rw [psum, Nat.pow_succ]
    omega
theorem psum_step (f : Nat → Nat) (n : Nat) (h : n < 15) : psum f n * 2 ^ (15 - n) + f (n + 1) * 2 ^ (15 - (n + 1)) = psum f (n + 1) * 2 ^ (15 - (n + 1)) := by
  rw [psum, Nat.add_mul, show 15 - n = (15 - (n + 1)) + 1 by omega, Nat.pow_succ, Nat.mul_assoc, Nat.mul_comm 2]
theorem w64_cast {n : Nat} (h : n < 9223372036854775808) : wrap64 (n : Int) = (n : Int) := by unfold wrap64; omega
theorem w64_nat {q d : Nat} (h : q * 2 ^ d < 9223372036854775808) : wrap64 ((q : Int) * 2 ^ d) = (q : Int) * 2 ^ d := by
  have e : (q : Int) * 2 ^ d = ((q * 2 ^ d : Nat) : Int) := by push_cast; rfl
  rw [e, w64_cast h]
set_option maxRecDepth 100000 in
set_option maxHeartbeats 2000000 in
theorem sum_c (f : Nat → Nat) (hf : ∀ j, f j ≤ 320) (w : World) :
    Calls Try.prog 24 #[.agg (rw16 f)] w fun e w' => e = .returned (.int .i64 (psum f 15 : Nat)) ∧ Below w.heap.size w w' := by
  obtain ⟨B, hB⟩ : ∃ B, w.heap.size = B := ⟨_, rfl⟩
  obtain ⟨w1, hw1⟩ : ∃ w1, w1 = w.alloc (.cells (rw16 f) 59) := ⟨_, rfl⟩
  have c0 : Cells w1 B (rw16 f) 59 := by rw [hw1, ← hB]; exact Cells.new w _ 59
  have bel : Below B w w1 := by rw [hw1, ← hB]; exact (Below.refl _ w).alloc (Nat.le_refl _) _
  obtain ⟨R, hR⟩ : ∃ R, rw16 f = R := ⟨_, rfl⟩
  rw [hR] at hw1 ⊢
  have hRs : R.size = 16 := by rw [← hR]; exact rw16_size _
  have AW : Aside (Cells w1 B (rw16 f) 59 ∧ Below B w w1 ∧ w.heap.size = B ∧ rw16 f = R) := ⟨c0, bel, hB, hR⟩
  clear c0 bel hR
  go_enter Try.func24, Try.ntmps24
  go_upto_region 2 with fail
  rw [← hw1]
  clear hw1 hB
  go_wp2_with fail
  go_loopg [3, 4] 15 (fun g st sl wr => ∃ (n s : Nat), st = .int .i64 (s : Int) ∧ sl = .int .i64 ((n + 1 : Nat) : Int) ∧ Aside (n + g = 15 ∧ s = psum f n * 2 ^ (15 - n)) ∧ w1 = wr)
  case atStart => exact ⟨0, 0, rfl, rfl, ⟨by omega, by simp [psum]⟩, rfl⟩
  case round =>
    obtain ⟨n, s, rfl, rfl, hI, hw⟩ := hrel
    subst hw
    by_cases hn : n < 15
    · obtain ⟨q, hq⟩ : ∃ q, f (n + 1) = q := ⟨_, rfl⟩
      have hqb : q ≤ 320 := by rw [← hq]; exact hf _
      obtain ⟨l, hl⟩ : ∃ l, n + 1 = l := ⟨_, rfl⟩
      rw [hl]
      have hl15 : (l : Int) ≤ 15 := by omega
      have hl0 : (0 : Int) ≤ l := by omega
      have cq : w1.cell? ⟨B, l, none⟩ = some (.int .u32 (q : Int)) := by rw [AW.out.1.cell, rw16_at _ _ (by omega), ← hl, hq]
      have hbig : s + q * 2 ^ (15 - l) ≤ 320 * 2 ^ 15 := by
        have e1 := psum_step f n hn
        rw [hq, ← hI.out.2, hl] at e1
        rw [e1]
        have h2 := psum_le hf l
        have h3 : psum f l * 2 ^ (15 - l) ≤ (320 * 2 ^ l) * 2 ^ (15 - l) := Nat.mul_le_mul_right _ (by omega)
        rw [Nat.mul_assoc, ← Nat.pow_add, show l + (15 - l) = 15 by omega] at h3
        exact h3
      have hnx : Aside (s + q * 2 ^ (15 - l) = psum f l * 2 ^ (15 - l) ∧ n < 15 ∧ n + 1 = l) := by
        refine ⟨?_, hn, hl⟩
        have e1 := psum_step f n hn
        rw [hq, ← hI.out.2, hl] at e1
        exact e1
      obtain ⟨P, hP⟩ : ∃ P, 2 ^ (15 - l) = P := ⟨_, rfl⟩
      have hPI : (2 : Int) ^ (15 - (l : Int)).toNat = (P : Int) := by rw [← hP, show (15 - (l : Int)).toNat = 15 - l by omega]; push_cast; rfl
      clear hq
      go_wp2_with fail
      have e1 : wrap64 ((q : Int) * 2 ^ (15 - l)) = ((q * 2 ^ (15 - l) : Nat) : Int) := by
        rw [w64_nat (by omega)]
        · push_cast; rfl
      have e2 : wrap64 ((s : Int) + ((q * 2 ^ (15 - l) : Nat) : Int)) = ((s + q * 2 ^ (15 - l) : Nat) : Int) := by
        rw [← Int.natCast_add, w64_cast (by omega)]
      rw [e1, e2]
      go_roundg (15 - (n + 1))
      case measure => have := hI.out.1; have := hnx.out.2.1; omega
      case rel =>
        refine ⟨n + 1, s + q * 2 ^ (15 - l), rfl, by have := hnx.out.2.2; subst this; go_num, ⟨by have := hnx.out.2.1; omega, ?_⟩, rfl⟩
        rw [hnx.out.1, hnx.out.2.2]
    · have hn15 : n = 15 := by have := hI.out.1; omega
      subst hn15
      have hs : s = psum f 15 := by have := hI.out.2; simpa using this
      clear hn hI
      go_wp2_with fail
      first | go_ret | go_ret2
      exact ⟨by rw [hs]; rfl, by rw [AW.out.2.2.1]; exact AW.out.2.1⟩
/-- What the check comes to. -/
def cerr (f : Nat → Nat) : Nat := if 32768 < psum f 15 then 80 else if psum f 15 = 32768 ∨ psum f 15 = 0 ∨ (psum f 15 = 16384 ∧ f 1 = 1) then 0 else 81
set_option maxRecDepth 100000 in
set_option maxHeartbeats 2000000 in
theorem check_c (f : Nat → Nat) (hf : ∀ j, f j ≤ 320) (e0 : Nat) (he : cerr f = e0) (w : World) :
    Calls Try.prog 25 #[.agg (rw16 f)] w fun e w' => e = .returned (.int .i64 (e0 : Int)) ∧ Below w.heap.size w w' := by
  obtain ⟨B, hB⟩ : ∃ B, w.heap.size = B := ⟨_, rfl⟩
  obtain ⟨w1, hw1⟩ : ∃ w1, w1 = w.alloc (.cells (rw16 f) 59) := ⟨_, rfl⟩
  have c0 : Cells w1 B (rw16 f) 59 := by rw [hw1, ← hB]; exact Cells.new w _ 59
  have bel : Below B w w1 := by rw [hw1, ← hB]; exact (Below.refl _ w).alloc (Nat.le_refl _) _
  have hB1 : w1.heap.size = B + 1 := by rw [hw1, ← hB]; exact Array.size_push _
  have hsum := sum_c f hf w1
  obtain ⟨s, hs⟩ : ∃ s, psum f 15 = s := ⟨_, rfl⟩
  obtain ⟨q, hq⟩ : ∃ q, f 1 = q := ⟨_, rfl⟩
  have hqb : q ≤ 320 := by rw [← hq]; exact hf 1
  have cq : (rw16 f)[1]? = some (.int .u32 (q : Int)) := by rw [rw16_at _ _ (by omega), hq]
  unfold cerr at he
  rw [hs, hq] at he
  rw [hs] at hsum
  obtain ⟨R, hR⟩ : ∃ R, rw16 f = R := ⟨_, rfl⟩
  rw [hR] at hw1 hsum c0 cq ⊢
  have hRs : R.size = 16 := by rw [← hR]; exact rw16_size _
  have AW : Aside (Cells w1 B R 59 ∧ Below B w w1 ∧ w.heap.size = B ∧ w1.heap.size = B + 1) := ⟨c0, bel, hB, hB1⟩
  have AE : Aside ((if 32768 < s then 80 else if s = 32768 ∨ s = 0 ∨ (s = 16384 ∧ q = 1) then 0 else 81) = e0) := he
  clear bel hR hB1 he hs hq
  go_enter Try.func25, Try.ntmps25
  go_upto_region 1 with fail
  rw [← hw1]
  clear hw1 hB
  go_upto_region 2 with (first
    | (refine wpList_load_row rfl 59 (.tmp 1) rfl B rfl 59 _ (0, 0) _ c0 Try.underlying59 rfl (by rw [hRs]; exact size59) ?_)
    | (go_at_call 24; refine hsum.mono ?_; rintro e2 w2 ⟨rfl, hb2⟩))
  have c1 : w2.cell? ⟨B, 1, none⟩ = some (.int .u32 (q : Int)) := ((AW.out.1.below hb2 (by rw [AW.out.2.2.2]; omega)).cell 1).trans cq
  have AB : Aside (Below B w w2) := AW.out.2.1.trans (hb2.mono (by rw [AW.out.2.2.2]; omega))
  clear c0 hb2 hsum cq
  by_cases h1 : 32768 < s
  · have t1 : ((32768 : Int) < (s : Int)) = True := eq_true (by omega)
    have he2 : e0 = 80 := by have := AE.out; rw [if_pos h1] at this; exact this.symm
    clear h1
    go_wp2_with fail
    first | go_ret | go_ret2
    exact ⟨by rw [he2]; rfl, by rw [AW.out.2.2.1]; exact AB.out⟩
  have t1 : ((32768 : Int) < (s : Int)) = False := eq_false (by omega)
  have AE2 : Aside ((if s = 32768 ∨ s = 0 ∨ (s = 16384 ∧ q = 1) then 0 else 81) = e0) := by have := AE.out; rw [if_neg h1] at this; exact this
  clear AE h1
  by_cases h2 : s = 32768
  · have he2 : e0 = 0 := by have := AE2.out; rw [if_pos (Or.inl h2)] at this; exact this.symm
    have t2 : ((s : Int) == 32768) = true := beq_iff_eq.2 (by omega)
    clear h2
    go_wp2_with fail
    first | go_ret | go_ret2
    exact ⟨by rw [he2]; rfl, by rw [AW.out.2.2.1]; exact AB.out⟩
  by_cases h3 : s = 0
  · have he2 : e0 = 0 := by have := AE2.out; rw [if_pos (Or.inr (Or.inl h3))] at this; exact this.symm
    have t2 : ((s : Int) == 32768) = false := beq_eq_false_iff_ne.2 (by omega)
    have t3 : ((s : Int) == 0) = true := beq_iff_eq.2 (by omega)
    clear h2 h3
    go_wp2_with fail
    first | go_ret | go_ret2
    exact ⟨by rw [he2]; rfl, by rw [AW.out.2.2.1]; exact AB.out⟩
  have t2 : ((s : Int) == 32768) = false := beq_eq_false_iff_ne.2 (by omega)
  have t3 : ((s : Int) == 0) = false := beq_eq_false_iff_ne.2 (by omega)
  by_cases h4 : s = 16384
  · have t4 : ((s : Int) == 16384) = true := beq_iff_eq.2 (by omega)
    by_cases h5 : q = 1
    · have he2 : e0 = 0 := by have := AE2.out; rw [if_pos (Or.inr (Or.inr ⟨h4, h5⟩))] at this; exact this.symm
      have t5 : ((q : Int) == 1) = true := beq_iff_eq.2 (by omega)
      clear h2 h3 h4 h5
      go_wp2_with fail
      first | go_ret | go_ret2
      exact ⟨by rw [he2]; rfl, by rw [AW.out.2.2.1]; exact AB.out⟩
    · have he2 : e0 = 81 := by have := AE2.out; rw [if_neg (by omega)] at this; exact this.symm
      have t5 : ((q : Int) == 1) = false := beq_eq_false_iff_ne.2 (by omega)
      clear h2 h3 h4 h5
      go_wp2_with fail
      first | go_ret | go_ret2
      exact ⟨by rw [he2]; rfl, by rw [AW.out.2.2.1]; exact AB.out⟩
  · have he2 : e0 = 81 := by have := AE2.out; rw [if_neg (by omega)] at this; exact this.symm
    have t4 : ((s : Int) == 16384) = false := beq_eq_false_iff_ne.2 (by omega)
    clear h2 h3 h4
    go_wp2_with fail
    first | go_ret | go_ret2
    exact ⟨by rw [he2]; rfl, by rw [AW.out.2.2.1]; exact AB.out⟩
theorem psum_cell {f : Nat → Nat} (hf : ∀ j, f j ≤ 320) (n : Nat) (h : n ≤ 15) : psum f n ≤ 10485760 := by
  have h1 := psum_le hf n
  have h2 : 2 ^ n ≤ 2 ^ 15 := Nat.pow_le_pow_right (by decide) h
  omega
/-- The first code of each length. -/
def frs (f : Nat → Nat) (j : Nat) : Nat := if j = 0 then 0 else 2 * psum f (j - 1)
theorem frs_first (ls : List Nat) : ∀ j, frs (fun j => ls.count j) j = first ls j
  | 0 => rfl
  | n + 1 => by unfold frs first; rw [if_neg (by omega), show n + 1 - 1 = n by omega, psum_part]
set_option maxRecDepth 100000 in
set_option maxHeartbeats 2000000 in
theorem firsts_c (f : Nat → Nat) (hf : ∀ j, f j ≤ 320) (w : World) :
    Calls Try.prog 26 #[.agg (rw16 f)] w fun e w' => e = .returned (.agg (rw16 (frs f))) ∧ Below w.heap.size w w' := by
  obtain ⟨B, hB⟩ : ∃ B, w.heap.size = B := ⟨_, rfl⟩
  obtain ⟨w1, hw1⟩ : ∃ w1, w1 = w.alloc (.cells (rw16 f) 59) := ⟨_, rfl⟩
  obtain ⟨w2, hw2⟩ : ∃ w2, w2 = w1.alloc (.cells (rw16 fun _ => 0) 59) := ⟨_, rfl⟩
  obtain ⟨w3, hw3⟩ : ∃ w3, w3 = w2.alloc (.cells (rw16 fun _ => 0) 59) := ⟨_, rfl⟩
  have hB1 : w1.heap.size = B + 1 := by rw [hw1, ← hB]; exact Array.size_push _
  have hB2 : w2.heap.size = B + 2 := by rw [hw2, show B + 2 = B + 1 + 1 from rfl, ← hB1]; exact Array.size_push _
  have c0 : Cells w3 B (rw16 f) 59 := by rw [hw3, hw2]; refine Cells.alloc (Cells.alloc ?_ _) _; rw [hw1, ← hB]; exact Cells.new w _ 59
  have c1 : Cells w3 (B + 1) (rw16 fun _ => 0) 59 := by rw [hw3]; refine Cells.alloc ?_ _; rw [hw2, ← hB1]; exact Cells.new w1 _ 59
  have c2 : Cells w3 (B + 2) (rw16 fun _ => 0) 59 := by rw [hw3, ← hB2]; exact Cells.new w2 _ 59
  have bel : Below B w w3 := by
    rw [hw3, hw2]
    refine Below.alloc (Below.alloc ?_ (by rw [hB1]; omega) _) (by rw [← hw2, hB2]; omega) _
    rw [hw1, ← hB]; exact (Below.refl _ w).alloc (Nat.le_refl _) _
  obtain ⟨R, hR⟩ : ∃ R, rw16 f = R := ⟨_, rfl⟩
  rw [hR] at hw1 ⊢
  have hRs : R.size = 16 := by rw [← hR]; exact rw16_size _
  have AW : Aside (Cells w3 B (rw16 f) 59 ∧ Cells w3 (B + 1) (rw16 fun _ => 0) 59 ∧ Cells w3 (B + 2) (rw16 fun _ => 0) 59 ∧ Below B w w3 ∧ w.heap.size = B) := ⟨c0, c1, c2, bel, hB⟩
  clear c0 c1 c2 bel hR
  have hz : ∀ w', (zeroValue 59).run Try.prog w' = .ok (.agg (rw16 fun _ => 0)) w' := fun w' => by kernel_rfl
  go_enter Try.func26, Try.ntmps26
  go_upto_region 2 with fail
  rw [← hw1, ← hw2, ← hw3]
  clear hw1 hw2 hw3 hB hB1 hB2
  go_wp2_with fail
  go_loopg [4] 14 (fun g sl wr => ∃ (n : Nat), sl = .int .i64 ((n + 2 : Nat) : Int) ∧ Aside (n + g = 14 ∧ Cells wr B (rw16 f) 59 ∧ Cells wr (B + 1) (rw16 fun _ => 0) 59 ∧ Cells wr (B + 2) (rw16 fun j => if j < n + 2 then frs f j else 0) 59 ∧ Below B w wr))
  case atStart =>
    refine ⟨0, rfl, ⟨by omega, AW.out.1, AW.out.2.1, ?_, AW.out.2.2.2.1⟩⟩
    have e : (rw16 fun j => if j < 0 + 2 then frs f j else 0) = rw16 fun _ => 0 := rw16_congr fun j _ => by
      split
      · unfold frs
        rcases (show j = 0 ∨ j = 1 by omega) with rfl | rfl <;> rfl
      · rfl
    rw [e]; exact AW.out.2.2.1
  case round =>
    obtain ⟨n, rfl, hI⟩ := hrel
    by_cases hn : n < 14
    · obtain ⟨l, hl⟩ : ∃ l, n + 2 = l := ⟨_, rfl⟩
      rw [hl]
      have hl15 : (l : Int) ≤ 15 := by omega
      have hl2 : (2 : Int) ≤ l := by omega
      obtain ⟨k, hk⟩ : ∃ k, n + 1 = k := ⟨_, rfl⟩
      have elk : (l : Int) - 1 = (k : Int) := by omega
      obtain ⟨q, hq⟩ : ∃ q, f k = q := ⟨_, rfl⟩
      obtain ⟨r, hr⟩ : ∃ r, frs f k = r := ⟨_, rfl⟩
      have hqb : q ≤ 320 := by rw [← hq]; exact hf _
      have hrb : r ≤ 20971520 := by rw [← hr]; unfold frs; rw [if_neg (by omega)]; have := psum_cell hf (k - 1) (by omega); omega
      have cq : wr.cell? ⟨B, k, none⟩ = some (.int .u32 (q : Int)) := by rw [hI.out.2.1.cell, rw16_at _ _ (by omega), hq]
      have cr : wr.cell? ⟨B + 2, k, none⟩ = some (.int .u32 (r : Int)) := by rw [hI.out.2.2.2.1.cell, rw16_at _ _ (by omega), if_pos (by omega), hr]
      have fq := hI.out.2.2.2.1.frozen l
      have hnx : Aside (frs f l = 2 * (r + q) ∧ n < 14 ∧ n + 2 = l) := by
        refine ⟨?_, hn, hl⟩
        rw [← hr, ← hq, ← hl, ← hk]
        unfold frs
        rw [if_neg (by omega), if_neg (by omega), show n + 2 - 1 = n + 1 by omega, psum, show n + 1 - 1 = n by omega]
        omega
      have hcell : ∃ v, wr.cell? ⟨B + 2, l, none⟩ = some v := ⟨_, by rw [hI.out.2.2.2.1.cell, rw16_at _ _ (by omega)]⟩
      obtain ⟨v, hv⟩ := hcell
      clear hq hr hl hk
      have hwr : ∀ z : Int, (z = (l : Int) - 1) → IntKind.i64.wrap z = (k : Int) := by
        intro z hz
        rw [hz, elk, IntKind.wrap_i64]; omega
      go_upto_region 5 with fail
      go_region
      go_wp2_with fail
      go_roundg (14 - (n + 1))
      case measure => have := hI.out.1; have := hnx.out.2.1; omega
      case rel =>
        refine ⟨n + 1, by have := hnx.out.2.2; subst this; go_num, ⟨by have := hnx.out.2.1; omega, ?_, ?_, ?_, ?_⟩⟩
        · exact (hI.out.2.1.only ((Only.refl (B + 2) wr).setCell l _) (by omega)).drew
        · exact (hI.out.2.2.1.only ((Only.refl (B + 2) wr).setCell l _) (by omega)).drew
        · have := hI.out.2.2.2.1.set l (.int .u32 ((2 * (r + q) : Nat) : Int))
          rw [rw16_set] at this
          have e : (rw16 fun j => if j = l then 2 * (r + q) else if j < n + 2 then frs f j else 0) = rw16 fun j => if j < n + 1 + 2 then frs f j else 0 := rw16_congr fun j _ => by
            have := hnx.out.2.2
            by_cases e : j = l
            · rw [if_pos e, if_pos (by omega), e, hnx.out.1]
            · rw [if_neg e]
              by_cases h2 : j < n + 2
              · rw [if_pos h2, if_pos (by omega)]
              · rw [if_neg h2, if_neg (by omega)]
          rw [e] at this
          have := this.drew
          push_cast at this
          exact this
        · exact (hI.out.2.2.2.2.setCell (p := ⟨B + 2, l, none⟩) (by show B ≤ B + 2; omega) _).drew
    · have hn14 : n = 14 := by have := hI.out.1; omega
      subst hn14
      have hc0 := hI.out.2.2.1
      have hc1 := hI.out.2.2.2.1
      have e : (rw16 fun j => if j < 14 + 2 then frs f j else 0) = rw16 (frs f) := rw16_congr fun j hj => if_pos (by omega)
      rw [e] at hc1
      have hc := set_row hc0 (rw16 (frs f))
      have hbel := hI.out.2.2.2.2.trans ((only_row hc0 (rw16 (frs f))).below (by omega))
      have AC : Aside (Cells (wr.setRow (B + 1) (rw16 (frs f))) (B + 1) (rw16 (frs f)) 59 ∧ Below B w (wr.setRow (B + 1) (rw16 (frs f)))) := ⟨hc, hbel⟩
      clear hI hc hbel e hn
      go_wp2_with (first
        | (refine wpList_load_row rfl 59 (.tmp 3) rfl (B + 2) rfl 59 _ (0, 0) _ hc1 Try.underlying59 rfl (by rw [rw16_size]; exact size59) ?_)
        | (refine wpList_store_row rfl 59 (.tmp 2) (.tmp 21) rfl (B + 1) (rw16 (frs f)) rfl rfl 59 (rw16 fun _ => 0) hc0 (by rw [rw16_size]; exact size59) rfl (rw16_one _) ?_))
      (try simp only [Exit.inBlock, Exit.then])
      refine bodyPost_ret (v := .agg (rw16 (frs f))) ?_ rfl ?_
      · exact results_cell_row rfl _ _ (B + 1) 59 _ (0, 0) _ rfl AC.out.1 Try.underlying59 rfl (by rw [rw16_size]; exact size59)
      · exact ⟨rfl, by rw [AW.out.2.2.2.2]; exact AC.out.2⟩
set_option maxRecDepth 100000 in
set_option maxHeartbeats 2000000 in
theorem kraft_c (a : Option Addr) (zs : List Int) (L C r : Nat) (ok : Bool) (w : World) (h : Lens w a zs) (hL : zs.length = L) (hLb : L < 140737488355328) (hr : (Okl zs ∧ r = kr (lens zs) ∧ ok = true) ∨ (¬ Okl zs ∧ r = 0 ∧ ok = false)) :
    Calls Try.prog 8 #[.slice a L C] w fun e w' => e = .returned (.tuple #[.int .i64 (r : Int), .bool ok]) ∧ Below w.heap.size w w' := by
  obtain ⟨f, hf, hfb, hfs⟩ : ∃ f : Nat → Nat, ((Okl zs ∧ (f = fun j => (lens zs).count j) ∧ ok = true) ∨ (¬ Okl zs ∧ (f = fun _ => 0) ∧ ok = false)) ∧ (∀ j, f j ≤ 320) ∧ psum f 15 = r := by
    rcases hr with ⟨h1, h2, h3⟩ | ⟨h1, h2, h3⟩
    · refine ⟨fun j => (lens zs).count j, Or.inl ⟨h1, rfl, h3⟩, fun j => ?_, ?_⟩
      · have e1 := List.count_le_length (a := j) (l := lens zs)
        have e2 : (lens zs).length ≤ 320 := by unfold lens; rw [List.length_map]; exact h1.1
        exact Nat.le_trans e1 e2
      · rw [psum_part, h2, kr_part]
        intro l hl
        unfold lens at hl
        obtain ⟨z, hz, rfl⟩ := List.mem_map.1 hl
        have := h1.2 z hz
        omega
    · exact ⟨fun _ => 0, Or.inr ⟨h1, rfl, h3⟩, fun _ => Nat.zero_le _, by rw [psum_zero, h2]⟩
  have hcount := count_c a zs L C f ok w h hL hLb hf
  have hsum : ∀ u, Calls Try.prog 24 #[.agg (rw16 f)] u fun e w' => e = .returned (.int .i64 (r : Int)) ∧ Below u.heap.size u w' := fun u => by have := sum_c f hfb u; rw [hfs] at this; exact this
  obtain ⟨R, hR⟩ : ∃ R, rw16 f = R := ⟨_, rfl⟩
  rw [hR] at hcount hsum
  have hRs : R.size = 16 := by rw [← hR]; exact rw16_size _
  have hR1 : R.all (·.oneCell') = true := by rw [← hR]; exact rw16_one _
  have hz : ∀ w', (zeroValue 59).run Try.prog w' = .ok (.agg (rw16 fun _ => 0)) w' := fun w' => by kernel_rfl
  clear h hL hLb hr hf hfb hfs hR
  go_enter Try.func8, Try.ntmps8
  go_upto_region 2 with (first
    | (go_at_call 23; refine hcount.mono ?_; rintro e2 w2 ⟨rfl, hb2⟩
       have c2 := Cells.new w2 (rw16 fun _ => 0) 59
       have b2 : Aside (Below w.heap.size w w2) := hb2
       clear hb2)
    | (refine wpList_store_row rfl 59 (.tmp 4) (.tmp 9) rfl w2.heap.size R rfl rfl 59 (rw16 fun _ => 0) c2 (by rw [hRs]; exact size59) (by rw [hRs]; rfl) hR1 ?_))
  have c3 := set_row c2 R
  have b3 : Aside (Below w.heap.size w ((w2.alloc (.cells (rw16 fun _ => 0) 59)).setRow w2.heap.size R)) := (b2.out.alloc b2.out.size _).trans ((only_row c2 R).below b2.out.size)
  obtain ⟨w3, hw3⟩ : ∃ w3, w3 = (w2.alloc (.cells (rw16 fun _ => 0) 59)).setRow w2.heap.size R := ⟨_, rfl⟩
  rw [← hw3] at c3 b3 ⊢
  obtain ⟨D, hD⟩ : ∃ D, w2.heap.size = D := ⟨_, rfl⟩
  rw [hD] at c3 ⊢
  clear c2 hw3 hD b2
  go_wp2_with (first
    | (refine wpList_load_row rfl 59 (.tmp 4) rfl D rfl 59 _ (0, 0) _ c3 Try.underlying59 rfl (by rw [hRs]; exact size59) ?_)
    | (go_at_call 24; refine (hsum _).mono ?_; rintro e4 w4 ⟨rfl, hb4⟩))
  first | go_ret | go_ret2
  exact ⟨rfl, b3.out.trans (hb4.mono b3.out.size)⟩
end Go.Proofs.Ytlmajiejapaegaa
