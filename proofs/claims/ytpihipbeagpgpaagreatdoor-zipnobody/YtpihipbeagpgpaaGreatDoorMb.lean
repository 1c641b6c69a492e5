/-
  Own texts of this seat, one behind the other: what each says stands ahead of it.
-/
import Derived.Test.YtpihipbeagpgpaaGreatDoorMa
import Derived.Deep.WholeRow
import Derived.Laws.Rows
import Derived.Laws.Tables
import Derived.Laws.ResultCell
import Derived.WalkKit
import Derived.Laws.BitsAllLaws
import Derived.Laws.Bits64
import Derived.Laws.Bits64b
import Derived.Test.YtpihipbeagpgpaaGreatDoorProg
import Derived.WalkSpells
import Derived.OwnWalk
import Derived.Laws.AppendOwn
import Derived.Deep.LoopGhost
import Derived.WalkMore
/-
 Rows of sixteen numbers, as the program counts lengths in them: how they are read and written whole, and what the program's count comes to.
 Conditions: the lengths lie in memory.
-/
namespace Go.Proofs.YtpihipbeagpgpaaGreatDoor
open Go.RowKit
set_option linter.unusedVariables false
def rw16 (f : Nat → Nat) : Array Value := ((List.range 16).map fun j => Value.int .u32 (f j : Nat)).toArray
theorem rw16_size (f : Nat → Nat) : (rw16 f).size = 16 := by simp [rw16]
theorem rw16_at (f : Nat → Nat) (j : Nat) (h : j < 16) : (rw16 f)[j]? = some (.int .u32 (f j : Nat)) := by simp [rw16, h]
theorem rw16_congr {f g : Nat → Nat} (h : ∀ j, j < 16 → f j = g j) : rw16 f = rw16 g := by
 unfold rw16
 exact congrArg List.toArray (List.map_congr_left fun j hj => by rw [h j (List.mem_range.1 hj)])
theorem rw16_set (f : Nat → Nat) (i x : Nat) : (rw16 f).setIfInBounds i (.int .u32 (x : Nat)) = rw16 (fun j => if j = i then x else f j) := by
 apply Array.ext_getElem?
 intro j
 by_cases hj : j < 16
 ·rw [Array.getElem?_setIfInBounds, rw16_at _ _ hj, rw16_at _ _ hj, rw16_size]
  by_cases e : i = j
  ·subst e; rw [if_pos rfl, if_pos hj, if_pos rfl]
  ·rw [if_neg e, if_neg (fun h => e h.symm)]
 ·rw [Array.getElem?_eq_none (by simp [rw16_size]; omega), Array.getElem?_eq_none (by rw [rw16_size]; omega)]
theorem rw16_one (f : Nat → Nat) : (rw16 f).all (·.oneCell') = true := by simp [rw16, Value.oneCell']
theorem set_row {w : World} {b : Nat} {cs : Array Value} {t : TypeId} (h : Cells w b cs t) (c : Array Value) : Cells (w.setRow b c) b c t := by
 unfold Cells at *
 simp [World.setRow, Array.getElem?_modify, h]
theorem only_row {w : World} {b : Nat} {cs : Array Value} {t : TypeId} (h : Cells w b cs t) (c : Array Value) : Only b w (w.setRow b c) :=
 ⟨rfl, rfl, rfl, by simp [World.setRow], fun k hk => by
  have : b ≠ k := fun e => hk e.symm
  simp [World.setRow, Array.getElem?_modify, this]⟩
theorem size59 : (Tryz.prog.info? 180).map (·.size) = some 16 := by kernel_rfl
theorem ret59 {w : World} {B : Nat} {f : Nat → Nat} (h : Cells w B (rw16 f) 180) : (loadVar 180 ⟨B, 0, none⟩).run Tryz.prog w = .ok (.agg (rw16 f)) w :=
 run_loadVar_row _ _ 180 180 _ (0, 0) _ h Tryz.underlying180 rfl (by rw [rw16_size]; exact size59)
set_option maxRecDepth 100000 in
set_option maxHeartbeats 2000000 in
theorem count_c (a : Option Addr) (zs : List Int) (L C : Nat) (f : Nat → Nat) (ok : Bool) (w : World) (h : Lens w a zs) (hL : zs.length = L) (hLb : L < 140737488355328) (hr : (Okl zs ∧ (f = fun j => (lens zs).count j) ∧ ok = true) ∨ (¬ Okl zs ∧ (f = fun _ => 0) ∧ ok = false)) :
  Calls Tryz.prog 114 #[.slice a L C] w fun e w' => e = .returned (.tuple #[.agg (rw16 f), .bool ok]) ∧ Below w.heap.size w w' := by
 have AH : Aside (Lens w a zs ∧ zs.length = L ∧ L < 140737488355328) := ⟨h, hL, hLb⟩
 have AR : Aside ((Okl zs ∧ (f = fun j => (lens zs).count j) ∧ ok = true) ∨ (¬ Okl zs ∧ (f = fun _ => 0) ∧ ok = false)) := hr
 clear h hL hLb hr
 obtain ⟨B, hB⟩ : ∃ B, w.heap.size = B := ⟨_, rfl⟩
 obtain ⟨w1, hw1⟩ : ∃ w1, w1 = w.alloc (.cells (rw16 fun _ => 0) 180) := ⟨_, rfl⟩
 obtain ⟨w2, hw2⟩ : ∃ w2, w2 = w1.alloc (.cells (rw16 fun _ => 0) 180) := ⟨_, rfl⟩
 have hB1 : w1.heap.size = B + 1 := by rw [hw1, ← hB]; exact Array.size_push _
 have c0 : Cells w2 B (rw16 fun _ => 0) 180 := by rw [hw2]; refine Cells.alloc ?_ _; rw [hw1, ← hB]; exact Cells.new w _ 180
 have c1 : Cells w2 (B + 1) (rw16 fun _ => 0) 180 := by rw [hw2, ← hB1]; exact Cells.new w1 _ 180
 have bel : Below B w w2 := by
  rw [hw2, hw1, ← hB]; exact ((Below.refl _ w).alloc (Nat.le_refl _) _).alloc (by show w.heap.size ≤ (w.heap.push _).size; rw [Array.size_push]; omega) _
 have AW : Aside (Cells w2 B (rw16 fun _ => 0) 180 ∧ Cells w2 (B + 1) (rw16 fun _ => 0) 180 ∧ Below B w w2 ∧ w.heap.size = B) := ⟨c0, c1, bel, hB⟩
 clear c0 c1 bel
 have hz : ∀ w', (zeroValue 180).run Tryz.prog w' = .ok (.agg (rw16 fun _ => 0)) w' := fun w' => by kernel_rfl
 have hb : (Tryz.prog.built 180 []).getD #[] = rw16 fun _ => 0 := by kernel_rfl
 have hf : (Tryz.prog.built 180 []).isSome = true := by kernel_rfl
 by_cases h320 : 320 < L
 ·have h1 : (320 : Int) < (L : Int) := by omega
  have hno : Aside ((f = fun _ => 0) ∧ ok = false) := by
   rcases AR.out with ⟨h, _⟩ | h
   ·have := h.1; have := AH.out; omega
   ·exact h.2
  clear h320
  go_enter Tryz.func114, Tryz.ntmps114
  go_upto_region 3 with fail
  rw [← hw1, ← hw2]
  clear hw1 hw2 hB hB1
  go_wp2_with (refine wpList_store_row rfl 180 (.tmp 2) (.tmp 10) rfl B (rw16 fun _ => 0) rfl rfl 180 (rw16 fun _ => 0) AW.out.1 (by rw [rw16_size]; exact size59) rfl (rw16_one _) ?_)
  have hc := set_row AW.out.1 (rw16 fun _ => 0)
  have hbel := AW.out.2.2.1.trans ((only_row AW.out.1 (rw16 fun _ => 0)).below (Nat.le_refl _))
  (try simp only [Exit.inBlock, Exit.then])
  refine bodyPost_ret (v := .tuple #[.agg (rw16 fun _ => 0), .bool false]) ?_ rfl ?_
  ·rw [results_cell_tmp rfl]
   simp [asAddr, Result.andThen, ret59 hc]
  ·obtain ⟨rfl, rfl⟩ := hno.out
   exact ⟨rfl, by rw [AW.out.2.2.2]; exact hbel⟩
 have h1 : ¬ (320 : Int) < (L : Int) := by omega
 have hLs : (L : Int) ≤ 320 := by omega
 go_enter Tryz.func114, Tryz.ntmps114
 go_upto_region 4 with fail
 rw [← hw1, ← hw2]
 clear hw1 hw2 hB hB1 h320 h1
 go_wp2_with fail
 go_loopg [13] L (fun g si wr => ∃ (i : Nat), si = .int .i64 i ∧ Aside (i + g = L ∧ (∀ z ∈ zs.take i, 0 ≤ z ∧ z ≤ 15) ∧ Cells wr B (rw16 fun _ => 0) 180 ∧ Cells wr (B + 1) (rw16 fun j => (lens (zs.take i)).count j) 180 ∧ Below B w wr))
 case atStart => exact ⟨0, rfl, ⟨by omega, by simp, AW.out.1, AW.out.2.1, AW.out.2.2.1⟩⟩
 case round =>
  obtain ⟨i, rfl, hI⟩ := hrel
  by_cases hiL : i < L
  ·have hi : (i : Int) < (L : Int) := by omega
   obtain ⟨z, hz1⟩ : ∃ z, zs[i]? = some z := ⟨_, List.getElem?_eq_getElem (by have := AH.out; omega)⟩
   rcases AH.out.1 with e | ⟨b, o, rfl, hc⟩
   ·rw [e] at hz1; simp at hz1
   have hcw := hc i z hz1
   have cz : wr.cell? ⟨b, o + i, none⟩ = some (.int .i64 z) := (hI.out.2.2.2.2.cell (p := ⟨b, o + i, none⟩) (by have := World.block_lt_of_cell? w ⟨b, o + i, none⟩ hcw; rw [AW.out.2.2.2] at this; exact this)).trans hcw
   have AZ : Aside (zs[i]? = some z ∧ i < L) := ⟨hz1, hiL⟩
   clear hc hz1 hiL hcw
   by_cases hbad : z < 0 ∨ 15 < z
   ·have hno : Aside ((f = fun _ => 0) ∧ ok = false) := by
     rcases AR.out with ⟨h, _⟩ | h
     ·have := h.2 z (List.mem_of_getElem? AZ.out.1); omega
     ·exact h.2
    have hc := set_row hI.out.2.2.1 (rw16 fun _ => 0)
    have hbel := hI.out.2.2.2.2.trans ((only_row hI.out.2.2.1 (rw16 fun _ => 0)).below (Nat.le_refl _))
    have AC : Aside (Cells (wr.setRow B (rw16 fun _ => 0)) B (rw16 fun _ => 0) 180 ∧ Below B w (wr.setRow B (rw16 fun _ => 0))) := ⟨hc, hbel⟩
    clear hc hbel
    by_cases hneg : z < 0
    ·clear hbad
     go_wp2_with (refine wpList_store_row rfl 180 (.tmp 2) (.tmp 23) rfl B (rw16 fun _ => 0) rfl rfl 180 (rw16 fun _ => 0) hI.out.2.2.1 (by rw [rw16_size]; exact size59) rfl (rw16_one _) ?_)
     (try simp only [Exit.inBlock, Exit.then])
     refine bodyPost_ret (v := .tuple #[.agg (rw16 fun _ => 0), .bool false]) ?_ rfl ?_
     ·rw [results_cell_tmp rfl]
      simp [asAddr, Result.andThen, ret59 AC.out.1]
     ·obtain ⟨rfl, rfl⟩ := hno.out
      exact ⟨rfl, by rw [AW.out.2.2.2]; exact AC.out.2⟩
    ·have hgt : 15 < z := by omega
     clear hbad
     go_wp2_with (refine wpList_store_row rfl 180 (.tmp 2) (.tmp 23) rfl B (rw16 fun _ => 0) rfl rfl 180 (rw16 fun _ => 0) hI.out.2.2.1 (by rw [rw16_size]; exact size59) rfl (rw16_one _) ?_)
     (try simp only [Exit.inBlock, Exit.then])
     refine bodyPost_ret (v := .tuple #[.agg (rw16 fun _ => 0), .bool false]) ?_ rfl ?_
     ·rw [results_cell_tmp rfl]
      simp [asAddr, Result.andThen, ret59 AC.out.1]
     ·obtain ⟨rfl, rfl⟩ := hno.out
      exact ⟨rfl, by rw [AW.out.2.2.2]; exact AC.out.2⟩
   ·have hz0 : ¬ z < 0 := by omega
    have hz15 : ¬ 15 < z := by omega
    obtain ⟨l, rfl⟩ : ∃ l : Nat, z = (l : Int) := ⟨z.toNat, by omega⟩
    have hl16 : l < 16 := by omega
    have hnx : Aside ((∀ z ∈ zs.take (i + 1), 0 ≤ z ∧ z ≤ 15) ∧ ∀ j, (lens (zs.take (i + 1))).count j = if j = l then (lens (zs.take i)).count l + 1 else (lens (zs.take i)).count j) := by
     have e1 : lens (zs.take (i + 1)) = lens (zs.take i) ++ [l] := by rw [take_one AZ.out.1]; simp [lens]
     refine ⟨?_, ?_⟩
     ·intro y hy
      rw [take_one AZ.out.1] at hy
      rcases List.mem_append.1 hy with hy | hy
      ·exact hI.out.2.1 y hy
      ·rw [List.mem_singleton.1 hy]; omega
     ·intro j
      rw [e1, List.count_append]
      by_cases e : j = l
      ·subst e; rw [if_pos rfl]; simp
      ·rw [if_neg e]
       have : List.count j [l] = 0 := by rw [List.count_cons, List.count_nil]; simp; exact fun h => e h.symm
       omega
    obtain ⟨q, hq⟩ : ∃ q, (lens (zs.take i)).count l = q := ⟨_, rfl⟩
    have hqb : q ≤ 320 := by
     rw [← hq]
     have h2 := List.count_le_length (a := l) (l := lens (zs.take i))
     have h3 : (lens (zs.take i)).length ≤ 320 := by unfold lens; rw [List.length_map, List.length_take]; omega
     omega
    have cq : wr.cell? ⟨B + 1, l, none⟩ = some (.int .u32 (q : Int)) := by rw [hI.out.2.2.2.1.cell, rw16_at _ _ hl16, hq]
    have fq := hI.out.2.2.2.1.frozen l
    have AQ : Aside ((lens (zs.take i)).count l = q) := hq
    clear hbad hq
    have hlI : (l : Int) < 16 := by omega
    go_wp2_with fail
    go_roundg (L - (i + 1))
    case measure => have := hI.out.1; have := AZ.out.2; omega
    case rel =>
     refine ⟨i + 1, by go_num, ⟨by have := AZ.out.2; omega, hnx.out.1, ?_, ?_, ?_⟩⟩
     ·exact hI.out.2.2.1.only ((Only.refl (B + 1) wr).setCell l _) (by omega)
     ·have := hI.out.2.2.2.1.set l (.int .u32 ((q + 1 : Nat) : Int))
      rw [rw16_set] at this
      have e : (rw16 fun j => if j = l then q + 1 else (lens (zs.take i)).count j) = rw16 fun j => (lens (zs.take (i + 1))).count j := rw16_congr fun j _ => by
       rw [hnx.out.2 j, AQ.out]
      rw [e] at this
      exact this
     ·exact hI.out.2.2.2.2.setCell (p := ⟨B + 1, l, none⟩) (by show B ≤ B + 1; omega) _
  ·have hieq : i = L := by have := hI.out.1; omega
   have hni : ¬ (i : Int) < (L : Int) := by omega
   have hall : zs.take i = zs := List.take_of_length_le (by have := AH.out.2.1; omega)
   have hI2 := hI.out
   rw [hall] at hI2
   have hyes : Aside ((f = fun j => (lens zs).count j) ∧ ok = true) := by
    rcases AR.out with h | ⟨h, _⟩
    ·exact h.2
    ·exact absurd ⟨by have := AH.out.2.1; omega, hI2.2.1⟩ h
   have hc := set_row hI2.2.2.1 (rw16 fun j => (lens zs).count j)
   have hbel := hI2.2.2.2.2.trans ((only_row hI2.2.2.1 (rw16 fun j => (lens zs).count j)).below (Nat.le_refl _))
   have hc1 := hI2.2.2.2.1
   have hc0 := hI2.2.2.1
   obtain ⟨R, hR⟩ : ∃ R, (rw16 fun j => (lens zs).count j) = R := ⟨_, rfl⟩
   have hRs : R.size = 16 := by rw [← hR]; exact rw16_size _
   have hR1 : R.all (·.oneCell') = true := by rw [← hR]; exact rw16_one _
   rw [hR] at hc hbel hc1
   have AC : Aside (Cells (wr.setRow B R) B R 180 ∧ Below B w (wr.setRow B R) ∧ (rw16 fun j => (lens zs).count j) = R) := ⟨hc, hbel, hR⟩
   clear hI2 hI hc hbel hR hall hieq hiL
   go_wp2_with (first
    | (refine wpList_load_row rfl 180 (.tmp 4) rfl (B + 1) rfl 180 _ (0, 0) _ hc1 Tryz.underlying180 rfl (by rw [hRs]; exact size59) ?_)
    | (refine wpList_store_row rfl 180 (.tmp 2) (.tmp 30) rfl B R rfl rfl 180 (rw16 fun _ => 0) hc0 (by rw [hRs]; exact size59) (by rw [hRs]; rfl) hR1 ?_))
   (try simp only [Exit.inBlock, Exit.then])
   refine bodyPost_ret (v := .tuple #[.agg R, .bool true]) ?_ rfl ?_
   ·rw [results_cell_tmp rfl]
    have := AC.out.1
    rw [← AC.out.2.2] at this ⊢
    simp [asAddr, Result.andThen, ret59 this]
   ·obtain ⟨rfl, rfl⟩ := hyes.out
    exact ⟨by rw [AC.out.2.2], by rw [AW.out.2.2.2]; exact AC.out.2.1⟩
end Go.Proofs.YtpihipbeagpgpaaGreatDoor

/-
 Numbers and their bits: what a shift, a mask and an 'or' come to, as sums, quotients and remainders.
-/
namespace Go.Proofs.YtpihipbeagpgpaaGreatDoor
open Go.RowKit
theorem pow_le64 {n m : Nat} (h : n ≤ m) : 2 ^ n ≤ 2 ^ m := Nat.pow_le_pow_right (by decide) h
theorem lt_word {v n : Nat} (h : v < 2 ^ n) (h64 : n ≤ 64) : v < 18446744073709551616 := Nat.lt_of_lt_of_le h (pow_le64 h64)
theorem wrap64_nat {a : Nat} (h : a < 18446744073709551616) : IntKind.u64.wrap (a : Int) = (a : Int) := by rw [IntKind.wrap_u64]; omega
theorem or_put (v n x : Nat) (hv : v < 2 ^ n) (hn : n ≤ 56) (hx : x < 256) : bits .or .u64 (v : Int) (IntKind.u64.wrap ((x : Int) * 2 ^ n)) = ((v + x * 2 ^ n : Nat) : Int) := by
 have h1 : x * 2 ^ n < 18446744073709551616 := by
  have := pow_le64 hn
  calc x * 2 ^ n ≤ 255 * 2 ^ 56 := Nat.mul_le_mul (by omega) this
   _ < _ := by decide
 have e : (x : Int) * 2 ^ n = ((x * 2 ^ n : Nat) : Int) := by push_cast; rfl
 rw [e, wrap64_nat h1]
 have h2 := lt_word hv (by omega)
 rw [u64_or_nat v _ h2 h1]
 congr 1
 rw [Nat.or_comm, Nat.mul_comm x, ← Nat.two_pow_add_eq_or_of_lt hv]
 omega
theorem put_lt (v n x : Nat) (hv : v < 2 ^ n) (hx : x < 256) : v + x * 2 ^ n < 2 ^ (n + 8) := by
 have : (x + 1) * 2 ^ n ≤ 256 * 2 ^ n := Nat.mul_le_mul (by omega) (Nat.le_refl _)
 rw [Nat.add_mul] at this
 rw [Nat.pow_add]
 omega
theorem and_mask (v k : Nat) (hv : v < 18446744073709551616) (hk : k ≤ 32) : bits .and .u64 (v : Int) (IntKind.u64.wrap (IntKind.u64.wrap (2 ^ k) - 1)) % 4294967296 = ((v % 2 ^ k : Nat) : Int) := by
 have h1 : 2 ^ k ≤ 4294967296 := pow_le64 hk
 have h0 : 0 < 2 ^ k := Nat.two_pow_pos k
 have e : (2 : Int) ^ k = ((2 ^ k : Nat) : Int) := by push_cast; rfl
 rw [e, wrap64_nat (by omega)]
 have e2 : ((2 ^ k : Nat) : Int) - 1 = ((2 ^ k - 1 : Nat) : Int) := by omega
 rw [e2, wrap64_nat (by omega), u64_and_nat v _ hv (by omega), Nat.and_two_pow_sub_one_eq_mod]
 have : v % 2 ^ k < 2 ^ k := Nat.mod_lt _ h0
 omega
theorem div_nat (v k : Nat) : (v : Int) / 2 ^ k = ((v / 2 ^ k : Nat) : Int) := by push_cast; rfl
theorem div_lt (v n k : Nat) (hv : v < 2 ^ n) (hk : k ≤ n) : v / 2 ^ k < 2 ^ (n - k) := by
 rw [Nat.div_lt_iff_lt_mul (Nat.two_pow_pos k), ← Nat.pow_add]
 rw [show n - k + k = n by omega]; exact hv
end Go.Proofs.YtpihipbeagpgpaaGreatDoor

/-
 Lists of bits and their numbers: what a list behind another one, its first bits and what is left behind them come to.
-/
namespace Go.Proofs.YtpihipbeagpgpaaGreatDoor
def nm : List Bool → Nat
 | [] => 0
 | b :: r => b.toNat + 2 * nm r
theorem nm_lt : ∀ l : List Bool, nm l < 2 ^ l.length
 | [] => by simp [nm]
 | b :: r => by
  have := nm_lt r
  rw [nm, List.length_cons, Nat.pow_succ]
  have : b.toNat ≤ 1 := Bool.toNat_le b
  omega
theorem nm_append : ∀ l r : List Bool, nm (l ++ r) = nm l + nm r * 2 ^ l.length
 | [], r => by simp [nm]
 | b :: l, r => by
  rw [List.cons_append, nm, nm, nm_append l r, List.length_cons, Nat.pow_succ', Nat.mul_left_comm]
  omega
theorem nm_take : ∀ (k : Nat) (l : List Bool), nm (l.take k) = nm l % 2 ^ k
 | 0, l => by simp [nm, Nat.mod_one]
 | k + 1, [] => by simp [nm]
 | k + 1, b :: l => by
  rw [List.take_succ_cons, nm, nm, nm_take k l, Nat.pow_succ', Nat.mod_mul]
  have : b.toNat ≤ 1 := Bool.toNat_le b
  rw [show (b.toNat + 2 * nm l) % 2 = b.toNat by omega, show (b.toNat + 2 * nm l) / 2 = nm l by omega]
theorem nm_drop : ∀ (k : Nat) (l : List Bool), nm (l.drop k) = nm l / 2 ^ k
 | 0, l => by simp
 | k + 1, [] => by simp [nm]
 | k + 1, b :: l => by
  rw [List.drop_succ_cons, nm, nm_drop k l, Nat.pow_succ', ← Nat.div_div_eq_div_mul]
  have : b.toNat ≤ 1 := Bool.toNat_le b
  rw [show (b.toNat + 2 * nm l) / 2 = nm l by omega]
def bitsOf (k x : Nat) : List Bool := (List.range k).map fun i => x / 2 ^ i % 2 == 1
theorem bitsOf_length (k x : Nat) : (bitsOf k x).length = k := by simp [bitsOf]
theorem bitsOf_succ (k x : Nat) : bitsOf (k + 1) x = bitsOf k x ++ [x / 2 ^ k % 2 == 1] := by
 simp [bitsOf, List.range_succ]
theorem nm_bitsOf : ∀ (k x : Nat), nm (bitsOf k x) = x % 2 ^ k
 | 0, x => by simp [bitsOf, nm, Nat.mod_one]
 | k + 1, x => by
  rw [bitsOf_succ, nm_append, nm_bitsOf k x, bitsOf_length, nm, nm, Nat.pow_succ, Nat.mod_mul]
  have h2 : x / 2 ^ k % 2 = 0 ∨ x / 2 ^ k % 2 = 1 := by omega
  rcases h2 with h2 | h2 <;> rw [h2] <;> simp
theorem nm_byte (x : Nat) (h : x < 256) : nm (bitsOf 8 x) = x := by rw [nm_bitsOf]; exact Nat.mod_eq_of_lt h
theorem nm_ahead (l : List Bool) (k : Nat) (h : k < l.length) : nm (l.drop k) = (l[k]).toNat + 2 * nm (l.drop (k + 1)) := by
 rw [List.drop_eq_getElem_cons h, nm]
end Go.Proofs.YtpihipbeagpgpaaGreatDoor

/-
 What the document's own Bits and Number come to: a byte's bits as a list that is the call's own, and the number of a list of bits.
 Conditions: the byte is one; the list has at most 64 bits.
-/
namespace Go.Proofs.YtpihipbeagpgpaaGreatDoor
open Go.RowKit
theorem info4 : (Tryz.prog.info? 4).map (fun i => (i.zero, i.size, i.bytes)) = some (some (.bool false), 1, 1) := by kernel_rfl
def vb (l : List Bool) : List Value := l.map Value.bool
end Go.Proofs.YtpihipbeagpgpaaGreatDoor

/-
 The document's table in memory, and how a code is laid into it. No walk in this text.
-/
namespace Go.Proofs.YtpihipbeagpgpaaGreatDoor
open Go.RowKit
set_option linter.unusedVariables false
theorem info42 : (Tryz.prog.info? 162).map (fun i => (i.zero, i.size, i.bytes)) = some (some (.slice none 0 0), 1, 24) := by kernel_rfl
theorem made_bools (n : Nat) (hn : n ≤ 1048576) (w : World) : (Instr.makeSlice 162 (.int .i64 (n : Int)) (.int .i64 (n : Int))).run Tryz.prog w = .ok (.slice (some ⟨w.heap.size, 0, none⟩) n n) (w.alloc (.cells (vb (List.replicate n false)).toArray 4)) := by
 obtain ⟨i, hi, hz, hs, hb⟩ := info_parts info4
 have := run_make (P := Tryz.prog) w 162 4 i _ Tryz.underlying162 hi hz .i64 .i64 n n (by omega) (by omega) (by rw [hb]; omega) (by omega)
 rw [this, hs]
 have e : madeCells (Value.bool false).cells ((n : Int).toNat * 1) = (vb (List.replicate n false)).toArray := by
  apply Array.toList_inj.1
  show (madeCells #[Value.bool false] _).toList = _
  rw [toList_madeCells_one]
  simp [vb]
 rw [e]
 simp
theorem made_rows (n : Nat) (hn : n ≤ 1048576) (w : World) : (Instr.makeSlice 159 (.int .i64 (n : Int)) (.int .i64 (n : Int))).run Tryz.prog w = .ok (.slice (some ⟨w.heap.size, 0, none⟩) n n) (w.alloc (.cells (List.replicate n (Value.slice none 0 0)).toArray 162)) := by
 obtain ⟨i, hi, hz, hs, hb⟩ := info_parts info42
 have := run_make (P := Tryz.prog) w 159 162 i _ Tryz.underlying159 hi hz .i64 .i64 n n (by omega) (by omega) (by rw [hb]; omega) (by omega)
 rw [this, hs]
 have e : madeCells (Value.slice none 0 0).cells ((n : Int).toNat * 1) = (List.replicate n (Value.slice none 0 0)).toArray := by
  apply Array.toList_inj.1
  show (madeCells #[Value.slice none 0 0] _).toList = _
  rw [toList_madeCells_one]
  simp
 rw [e]
 simp
def Bb (w : World) (b : Nat) (l : List Bool) : Prop := Cells w b (vb l).toArray 4
structure Tl (w0 w : World) (T g : Nat) (ls : List Nat) (n i : Nat) : Prop where
 t : Cells w T #[.slice (some ⟨g, 0, none⟩) ls.length ls.length] 161
 row : ∃ rows, Cells w g rows 162 ∧ rows.size = ls.length ∧ ∀ (j m : Nat), ls[j]? = some m → (0 < m ∧ (m < n ∨ (m = n ∧ j < i)) → ∃ b, rows[j]? = some (.slice (some ⟨b, 0, none⟩) m m) ∧ Bb w b (bitsB m (code ls j m)) ∧ w0.heap.size ≤ b) ∧ (¬ (0 < m ∧ (m < n ∨ (m = n ∧ j < i))) → rows[j]? = some (.slice none 0 0))
 bel : Below w0.heap.size w0 w
 tb : w0.heap.size ≤ T
 gb : w0.heap.size ≤ g
theorem Tl.below {w0 w u : World} {T g : Nat} {ls : List Nat} {n i : Nat} (h : Tl w0 w T g ls n i) (k : Below w.heap.size w u) : Tl w0 u T g ls n i := by
 obtain ⟨rows, h1, h2, h3⟩ := h.row
 refine ⟨h.t.below k h.t.lt, ⟨rows, h1.below k h1.lt, h2, fun j m hj => ⟨fun hc => ?_, (h3 j m hj).2⟩⟩, h.bel.trans (k.mono h.bel.size), h.tb, h.gb⟩
 obtain ⟨b, e1, e2, e3⟩ := (h3 j m hj).1 hc
 exact ⟨b, e1, Cells.below e2 k (Cells.lt e2), e3⟩
theorem Tl.skip {w0 w : World} {T g : Nat} {ls : List Nat} {n i m : Nat} (h : Tl w0 w T g ls n i) (hi : ls[i]? = some m) (hm : m ≠ n) : Tl w0 w T g ls n (i + 1) := by
 obtain ⟨rows, h1, h2, h3⟩ := h.row
 refine ⟨h.t, ⟨rows, h1, h2, fun j k hj => ⟨fun hc => (h3 j k hj).1 ⟨hc.1, ?_⟩, fun hc => (h3 j k hj).2 fun hc2 => hc ⟨hc2.1, ?_⟩⟩⟩, h.bel, h.tb, h.gb⟩
 ·rcases hc.2 with hlt | ⟨e, hlt⟩
  ·exact Or.inl hlt
  ·right
   refine ⟨e, ?_⟩
   rcases Nat.lt_or_ge j i with h4 | h4
   ·exact h4
   ·have e2 : j = i := by omega
    subst e2
    rw [hi] at hj; cases hj
    exact absurd e hm
 ·rcases hc2.2 with hlt | ⟨e, hlt⟩
  ·exact Or.inl hlt
  ·exact Or.inr ⟨e, by omega⟩
theorem Tl.put {w0 w : World} {T g b : Nat} {ls : List Nat} {n i : Nat} (h : Tl w0 w T g ls n i) (hi : ls[i]? = some n) (hn : 0 < n) (hbw : w0.heap.size ≤ b) (hb : Bb w b (bitsB n (code ls i n))) : Tl w0 (w.setCell ⟨g, i, none⟩ (.slice (some ⟨b, 0, none⟩) n n)) T g ls n (i + 1) := by
 obtain ⟨rows, h1, h2, h3⟩ := h.row
 have hTg : T ≠ g := fun e => by
  have := h.t; unfold Cells at this h1; rw [e, h1] at this; cases this
 have hil := (List.getElem?_eq_some_iff.1 hi).1
 have far : ∀ {c : Nat} {l : List Bool}, Bb w c l → Bb (w.setCell ⟨g, i, none⟩ (.slice (some ⟨b, 0, none⟩) n n)) c l := by
  intro c l hc
  have hne : c ≠ g := fun e => by unfold Bb Cells at hc; unfold Cells at h1; rw [e, h1] at hc; cases hc
  unfold Bb Cells at *
  rw [Below.heap_setCell _ _ _ _ hne]; exact hc
 refine ⟨?_, ⟨_, h1.set i _, by rw [Array.size_setIfInBounds]; exact h2, fun j m hj => ⟨fun hc => ?_, fun hc => ?_⟩⟩, h.bel.setCell (p := ⟨g, i, none⟩) h.gb _, h.tb, h.gb⟩
 ·have ht := h.t
  unfold Cells at *
  rw [Below.heap_setCell _ _ _ _ hTg]; exact ht
 ·rw [Array.getElem?_setIfInBounds]
  by_cases e : i = j
  ·subst e
   rw [hi] at hj; cases hj
   rw [if_pos rfl, if_pos (by omega)]
   exact ⟨b, rfl, far hb, hbw⟩
  ·rw [if_neg e]
   obtain ⟨c, e1, e2, e5⟩ := (h3 j m hj).1 ⟨hc.1, by
    rcases hc.2 with hlt | ⟨e4, hlt⟩
    ·exact Or.inl hlt
    ·exact Or.inr ⟨e4, by omega⟩⟩
   exact ⟨c, e1, far e2, e5⟩
 ·rw [Array.getElem?_setIfInBounds]
  by_cases e : i = j
  ·subst e
   rw [hi] at hj; cases hj
   exact absurd ⟨hn, Or.inr ⟨rfl, by omega⟩⟩ hc
  ·rw [if_neg e]
   refine (h3 j m hj).2 fun hc2 => hc ⟨hc2.1, ?_⟩
   rcases hc2.2 with hlt | ⟨e4, hlt⟩
   ·exact Or.inl hlt
   ·exact Or.inr ⟨e4, by omega⟩
theorem Tl.next {w0 w : World} {T g : Nat} {ls : List Nat} {n i : Nat} (h : Tl w0 w T g ls n i) (hi : i = ls.length) : Tl w0 w T g ls (n + 1) 0 := by
 obtain ⟨rows, h1, h2, h3⟩ := h.row
 refine ⟨h.t, ⟨rows, h1, h2, fun j m hj => ?_⟩, h.bel, h.tb, h.gb⟩
 have hjl := (List.getElem?_eq_some_iff.1 hj).1
 refine ⟨fun hc => (h3 j m hj).1 ⟨hc.1, by omega⟩, fun hc => (h3 j m hj).2 fun hc2 => hc ⟨hc2.1, by omega⟩⟩
structure Tb (w : World) (T : Nat) (ls : List Nat) : Prop where
 cells : ∃ g rows, w.cell? ⟨T, 0, none⟩ = some (.slice (some ⟨g, 0, none⟩) ls.length ls.length) ∧ Cells w g rows 162 ∧ ∀ (j m : Nat), ls[j]? = some m → (0 < m → ∃ b, rows[j]? = some (.slice (some ⟨b, 0, none⟩) m m) ∧ Bb w b (bitsB m (code ls j m))) ∧ (m = 0 → rows[j]? = some (.slice none 0 0))
 kind : ∃ cs, Cells w T cs 161
theorem Tl.tb_ {w0 w : World} {T g : Nat} {ls : List Nat} {i : Nat} (h : Tl w0 w T g ls 16 i) (h15 : ∀ l ∈ ls, l ≤ 15) : Tb w T ls ∧ ∀ u, (∀ k, w0.heap.size ≤ k → k < w.heap.size → u.heap[k]? = w.heap[k]?) → Tb u T ls := by
 obtain ⟨rows, h1, h2, h3⟩ := h.row
 have key : ∀ u, (∀ k, w0.heap.size ≤ k → k < w.heap.size → u.heap[k]? = w.heap[k]?) → Tb u T ls := by
  intro u hk
  have ht : Cells u T #[.slice (some ⟨g, 0, none⟩) ls.length ls.length] 161 := (hk T h.tb h.t.lt).trans h.t
  have hr : Cells u g rows 162 := (hk g h.gb h1.lt).trans h1
  refine ⟨⟨g, rows, Cells.cell ht 0, hr, fun j m hj => ⟨fun hm => ?_, fun hm => (h3 j m hj).2 fun hc => by omega⟩⟩, _, ht⟩
  have := h15 m (List.mem_of_getElem? hj)
  obtain ⟨b, e1, e2, e3⟩ := (h3 j m hj).1 ⟨hm, Or.inl (by omega)⟩
  exact ⟨b, e1, (hk b e3 (Cells.lt e2)).trans e2⟩
 exact ⟨key w fun _ _ _ => rfl, key⟩
theorem bits_last : ∀ (n j x : Nat), j < n → (bitsB n x)[j]? = some (x / 2 ^ (n - 1 - j) % 2 == 1)
 | 0, j, x, h => by omega
 | n + 1, 0, x, _ => by simp [bitsB]
 | n + 1, j + 1, x, h => by
  rw [bitsB, List.getElem?_cons_succ, bits_last n j x (by omega), show n + 1 - 1 - (j + 1) = n - 1 - j by omega]
theorem bits_row {n j c : Nat} (hj : 0 < j) (hjn : j ≤ n) : (List.replicate j false ++ (bitsB n c).drop j).set (j - 1) (c / 2 ^ (n - j) % 2 == 1) = List.replicate (j - 1) false ++ (bitsB n c).drop (j - 1) := by
 have hb := bits_last n (j - 1) c (by omega)
 rw [show n - 1 - (j - 1) = n - j by omega] at hb
 have hl : j - 1 < (bitsB n c).length := by rw [bitsB_len]; omega
 have hd : (bitsB n c).drop (j - 1) = (c / 2 ^ (n - j) % 2 == 1) :: (bitsB n c).drop j := by
  rw [List.drop_eq_getElem_cons hl, show j - 1 + 1 = j by omega]
  congr 1
  rw [List.getElem?_eq_getElem hl] at hb
  exact Option.some.inj hb
 rw [hd]
 obtain ⟨q, rfl⟩ : ∃ q, j = q + 1 := ⟨j - 1, by omega⟩
 rw [List.replicate_succ', List.append_assoc, show q + 1 - 1 = q by omega, List.set_append_right _ _ (by simp), List.length_replicate, Nat.sub_self]
 rfl
theorem Bb.set {w : World} {b : Nat} {l : List Bool} (h : Bb w b l) (i : Nat) (x : Bool) : Bb (w.setCell ⟨b, i, none⟩ (.bool x)) b (l.set i x) := by
 have := Cells.set h i (.bool x)
 unfold Bb
 have e : (vb (l.set i x)).toArray = (vb l).toArray.setIfInBounds i (.bool x) := by
  apply Array.toList_inj.1
  simp [vb, List.map_set]
 rw [e]; exact this
end Go.Proofs.YtpihipbeagpgpaaGreatDoor

/-
 What the document's New comes to: an error, or the table of the lengths' codes.
 Conditions: the lengths lie in memory.
-/
namespace Go.Proofs.YtpihipbeagpgpaaGreatDoor
open Go.RowKit
set_option linter.unusedVariables false
def used (ls : List Nat) : Nat := ls.countP fun l => decide (0 < l)
abbrev Under (ls : List Nat) : Prop := kr ls < 32768 ∧ 0 < used ls ∧ (1 < used ls ∨ ls.count 1 ≠ 1)
def nerr (zs : List Int) : Nat := if ¬ Okl zs then 2 else if 32768 < kr (lens zs) then 80 else if Under (lens zs) then 81 else 0
theorem nerr_ok {zs : List Int} (h : nerr zs = 0) : Okl zs ∧ kr (lens zs) ≤ 32768 ∧ ¬ Under (lens zs) := by
 unfold nerr at h
 split at h
 ·omega
 ·rename_i h1
  split at h
  ·omega
  ·rename_i h2
   split at h
   ·omega
   ·rename_i h3
    exact ⟨Decidable.not_not.1 h1, by omega, h3⟩
theorem lens_15 {zs : List Int} (h : Okl zs) : ∀ l ∈ lens zs, l ≤ 15 := by
 intro l hl
 obtain ⟨z, hz, rfl⟩ := List.mem_map.1 hl
 have := h.2 z hz; omega
theorem lens_at {zs : List Int} (h : Okl zs) {i l : Nat} (hl : (lens zs)[i]? = some l) : zs[i]? = some (l : Int) := by
 unfold lens at hl
 rw [List.getElem?_map] at hl
 cases hz : zs[i]? with
 | none => rw [hz] at hl; simp at hl
 | some z =>
  rw [hz] at hl
  have e : z.toNat = l := by simpa using hl
  have := h.2 z (List.mem_of_getElem? hz)
  congr 1; omega
theorem lens_len (zs : List Int) : (lens zs).length = zs.length := by simp [lens]
theorem used_snoc (ls : List Nat) (l : Nat) : used (ls ++ [l]) = used ls + (if 0 < l then 1 else 0) := by
 unfold used
 rw [List.countP_append, List.countP_cons, List.countP_nil]
 by_cases h : 0 < l <;> simp [h]
theorem count_snoc (ls : List Nat) (l m : Nat) : (ls ++ [l]).count m = ls.count m + (if l = m then 1 else 0) := by
 rw [List.count_append, List.count_cons, List.count_nil]
 by_cases h : l = m <;> simp [h]
theorem used_le (ls : List Nat) : used ls ≤ ls.length := List.countP_le_length
set_option maxRecDepth 100000 in
set_option maxHeartbeats 8000000 in
theorem rnew_rest (a : Option Addr) (zs : List Int) (L C : Nat) (w : World) (h : Lens w a zs) (hL : zs.length = L) (ho : Okl zs) (hk0 : kr (lens zs) ≤ 32768) :
  Calls Tryz.prog 73 #[.slice a L C] w fun e w' => (Under (lens zs) ∧ e = .returned (.tuple #[.pointer none, .int .i64 81]) ∧ w = w') ∨ (¬ Under (lens zs) ∧ ∃ T, e = .returned (.tuple #[.pointer (some ⟨T, 0, none⟩), .int .i64 0]) ∧ Tb w' T (lens zs) ∧ Below w.heap.size w w' ∧ ∀ u, (∀ k, w.heap.size ≤ k → k < w'.heap.size → u.heap[k]? = w'.heap[k]?) → Tb u T (lens zs)) := by
 obtain ⟨r, hr⟩ : ∃ r, kr (lens zs) = r := ⟨_, rfl⟩
 have hk := rkraft_c a zs L C r true w h hL (by have := ho.1; omega) (Or.inl ⟨ho, hr.symm, rfl⟩)
 have h1 : ¬ (32768 : Int) < (r : Int) := by omega
 have AH : Aside (Lens w a zs ∧ zs.length = L ∧ Okl zs ∧ kr (lens zs) ≤ 32768 ∧ kr (lens zs) = r ∧ L ≤ 320 ∧ (lens zs).length = L ∧ part (lens zs) 15 ≤ 32768) := ⟨h, hL, ho, hk0, hr, by have := ho.1; omega, by rw [lens_len]; exact hL, by rw [← kr_part (lens_15 ho)]; exact hk0⟩
 have hLs : (L : Int) ≤ 320 := by have := AH.out; omega
 clear h hL ho hk0 hr
 go_enter Tryz.func73, Tryz.ntmps73
 go_upto_region 7 with (go_at_call 101; refine hk.mono ?_; rintro e2 w2 ⟨rfl, rfl⟩)
 clear hk h1
 go_wp2_with fail
 go_loopg [6, 7, 8] L (fun g su so si wr => ∃ (u o i : Nat), su = .int .i64 u ∧ so = .int .i64 o ∧ si = .int .i64 i ∧ Aside (i + g = L ∧ u = used ((lens zs).take i) ∧ o = ((lens zs).take i).count 1) ∧ w = wr)
 case atStart => exact ⟨0, 0, 0, rfl, rfl, rfl, ⟨by omega, rfl, rfl⟩, rfl⟩
 case round =>
  obtain ⟨u, o, i, rfl, rfl, rfl, hI, hw⟩ := hrel
  subst hw
  by_cases hiL : i < L
  ·have hi : (i : Int) < (L : Int) := by omega
   obtain ⟨l, hl⟩ : ∃ l, (lens zs)[i]? = some l := ⟨_, List.getElem?_eq_getElem (by have := AH.out; omega)⟩
   have hz := lens_at AH.out.2.2.1 hl
   rcases AH.out.1 with e | ⟨b, o1, rfl, hc⟩
   ·rw [e] at hz; simp at hz
   have cz := hc i _ hz
   have hub : u ≤ 320 ∧ o ≤ 320 := by
    have h2 := used_le ((lens zs).take i)
    have h3 := List.count_le_length (a := 1) (l := (lens zs).take i)
    have h4 : ((lens zs).take i).length ≤ 320 := by rw [List.length_take]; have := AH.out; omega
    have := hI.out
    omega
   have AZ : Aside (i < L ∧ (lens zs).take (i + 1) = (lens zs).take i ++ [l] ∧ u ≤ 320 ∧ o ≤ 320) := ⟨hiL, take_one hl, hub⟩
   have hub1 : (u : Int) ≤ 320 := by omega
   have hub2 : (o : Int) ≤ 320 := by omega
   clear hc hz hl hiL hub
   by_cases hl1 : l = 1
   ·subst hl1
    go_wp2_with fail
    have h1 := hI.out; have h2 := AZ.out
    go_roundg (L - (i + 1))
    case measure => omega
    case rel => exact ⟨u + 1, o + 1, i + 1, by go_num, by go_num, by go_num, ⟨by omega, by rw [h2.2.1, used_snoc, h1.2.1]; rfl, by rw [h2.2.1, count_snoc, h1.2.2]; rfl⟩, rfl⟩
   ·by_cases hl0 : l = 0
    ·subst hl0
     go_wp2_with fail
     have h1 := hI.out; have h2 := AZ.out
     go_roundg (L - (i + 1))
     case measure => omega
     case rel => exact ⟨u, o, i + 1, rfl, rfl, by go_num, ⟨by omega, by rw [h2.2.1, used_snoc, h1.2.1]; rfl, by rw [h2.2.1, count_snoc, h1.2.2]; rfl⟩, rfl⟩
    ·have t1 : (0 : Int) < (l : Int) := by omega
     have t2 : ¬ (l : Int) = 1 := by omega
     have t3 : ((l : Int) == 1) = false := by rw [beq_eq_false_iff_ne]; exact t2
     have AL : Aside (0 < l ∧ l ≠ 1) := ⟨by omega, hl1⟩
     clear hl0 hl1
     go_wp2_with fail
     have h1 := hI.out; have h2 := AZ.out; have h3 := AL.out
     go_roundg (L - (i + 1))
     case measure => omega
     case rel => exact ⟨u + 1, o, i + 1, by go_num, rfl, by go_num, ⟨by omega, by rw [h2.2.1, used_snoc, h1.2.1, if_pos h3.1], by rw [h2.2.1, count_snoc, h1.2.2, if_neg h3.2]; rfl⟩, rfl⟩
  ·have hi : ¬ (i : Int) < (L : Int) := by omega
   have AF : Aside (u = used (lens zs) ∧ o = (lens zs).count 1) := by
    have e : (lens zs).take i = lens zs := List.take_of_length_le (by have := AH.out; omega)
    have := hI.out; rw [e] at this
    exact this.2
   clear hiL hI
   obtain ⟨U, hU⟩ : ∃ U : Bool, decide (Under (lens zs)) = U := ⟨_, rfl⟩
   have AU : Aside (decide (Under (lens zs)) = U) := hU
   have hUr : U = decide (r < 32768 ∧ 0 < u ∧ (1 < u ∨ o ≠ 1)) := by
    rw [← hU]
    apply decide_eq_decide.2
    unfold Under
    rw [AH.out.2.2.2.2.1, AF.out.1, AF.out.2]
   clear hU
   go_upto_region 14 with fail
   go_cut [58] (fun s58 wc => s58 = .bool U ∧ w = wc)
   case first =>
    by_cases hr : r < 32768
    ·obtain ⟨lim, hlim⟩ : ∃ lim : Int, lim = 32768 := ⟨_, rfl⟩
     have r1 : ((r : Int) < 32768) = True := eq_true (by omega)
     have r2 : (r < 32768) = True := eq_true hr
     clear hlim
     by_cases hu0 : 0 < u
     ·have u0 : (0 : Int) < (u : Int) := by omega
      by_cases hu1 : 1 < u
      ·have u1 : (1 : Int) < (u : Int) := by omega
       have e : U = true := by rw [hUr]; exact decide_eq_true ⟨hr, hu0, Or.inl hu1⟩
       subst e
       clear hUr hr hu0 hu1
       go_wp2_with fail
       go_meet
       exact ⟨rfl, rfl⟩
      ·have u1 : ¬ (1 : Int) < (u : Int) := by omega
       by_cases ho : o = 1
       ·have e : U = false := by rw [hUr]; exact decide_eq_false (by omega)
        subst e
        subst ho
        clear hUr hr hu0 hu1
        go_wp2_with fail
        go_meet
        exact ⟨rfl, rfl⟩
       ·have o1 : ¬ (o : Int) = 1 := by omega
        have o2 : ((o : Int) != 1) = true := by rw [bne_iff_ne]; exact o1
        have e : U = true := by rw [hUr]; exact decide_eq_true ⟨hr, hu0, Or.inr ho⟩
        subst e
        clear hUr hr hu0 hu1 ho
        go_wp2_with fail
        go_meet
        exact ⟨rfl, rfl⟩
     ·have u0 : ¬ (0 : Int) < (u : Int) := by omega
      have e : U = false := by rw [hUr]; exact decide_eq_false (by omega)
      subst e
      clear hUr hr hu0
      go_wp2_with fail
      go_meet
      exact ⟨rfl, rfl⟩
    ·have r1 : ¬ (r : Int) < 32768 := by omega
     have e : U = false := by rw [hUr]; exact decide_eq_false (by omega)
     subst e
     clear hUr hr
     go_wp2_with fail
     go_meet
     exact ⟨rfl, rfl⟩
   case rest =>
    obtain ⟨rfl, rfl⟩ := hcut
    clear hUr
    cases U with
    | true =>
     go_wp2_with fail
     first | go_ret | go_ret2
     exact Or.inl ⟨of_decide_eq_true AU.out, rfl, rfl⟩
    | false =>
     obtain ⟨g, hg⟩ : ∃ g, w.heap.size = g := ⟨_, rfl⟩
     have hmk := made_rows L (by have := AH.out; omega) w
     rw [hg] at hmk
     obtain ⟨wa, hwa⟩ : ∃ wa, wa = w.alloc (.cells (Array.replicate L (Value.slice none 0 0)) 162) := ⟨_, rfl⟩
     have hsa : wa.heap.size = g + 1 := by rw [hwa, ← hg]; show (w.heap.push _).size = _; simp
     obtain ⟨wb, hwb⟩ : ∃ wb, wb = wa.alloc (.cells #[.slice (some ⟨g, 0, none⟩) L L] 161) := ⟨_, rfl⟩
     have A0 : Aside (Tl w wb (g + 1) g (lens zs) 1 0) := by
      have ba : Below w.heap.size w wa := by rw [hwa]; exact (Below.refl _ w).alloc (Nat.le_refl _) _
      have bb : Below wa.heap.size wa wb := by rw [hwb]; exact (Below.refl _ wa).alloc (Nat.le_refl _) _
      refine ⟨?_, ⟨_, Cells.below (w := wa) (by rw [hwa, ← hg]; exact Cells.new w _ 162) bb (by omega), by simp [AH.out.2.2.2.2.2.2.1], fun j m hj => ⟨fun hc => by omega, fun _ => ?_⟩⟩, ba.trans (bb.mono ba.size), by omega, by omega⟩
      ·rw [hwb, ← hsa, AH.out.2.2.2.2.2.2.1]; exact Cells.new wa _ 161
      ·have := (List.getElem?_eq_some_iff.1 hj).1
       rw [AH.out.2.2.2.2.2.2.1] at this
       simp [this]
     go_upto_region 17 with fail
     rw [← hwa, ← hwb]
     clear hwb hmk hwa hsa hg AF
     go_wp2_with fail
     go_loopg [10, 11] 15 (fun gg sx sn wr => ∃ (nx n : Nat), sx = .int .i64 nx ∧ sn = .int .i64 n ∧ Aside (n + gg = 16 ∧ 1 ≤ n ∧ nx = part (lens zs) (n - 1) ∧ Tl w wr (g + 1) g (lens zs) n 0))
     case atStart => exact ⟨0, 1, rfl, rfl, ⟨by omega, by omega, rfl, A0.out⟩⟩
     case round =>
      obtain ⟨nx, n, rfl, rfl, hN⟩ := hrel
      by_cases hn15 : n ≤ 15
      ·have hn : (n : Int) ≤ 15 := by omega
       have hnb : nx ≤ 32768 := by
        have h2 := part_fits (ls := lens zs) AH.out.2.2.2.2.2.2.2 (n := n - 1) (by omega)
        have h3 : (2 : Nat) ^ (n - 1) ≤ 2 ^ 15 := Nat.pow_le_pow_right (by decide) (by omega)
        have := hN.out.2.2.1
        omega
       have hnb1 : (nx : Int) ≤ 32768 := by omega
       have AN : Aside (n ≤ 15 ∧ 1 ≤ n ∧ nx + nx = first (lens zs) n) := ⟨hn15, hN.out.2.1, by
        obtain ⟨q, rfl⟩ : ∃ q, n = q + 1 := ⟨n - 1, by have := hN.out; omega⟩
        have := hN.out.2.2.1
        rw [show q + 1 - 1 = q by omega] at this
        show _ = 2 * part (lens zs) q
        omega⟩
       clear hnb hn15
       go_upto_region 22 with fail
       obtain ⟨f0, hf0⟩ : ∃ f0, nx + nx = f0 := ⟨_, rfl⟩
       rw [show (2 * (nx : Int)) = (f0 : Int) by omega]
       have AF : Aside (f0 = first (lens zs) n ∧ f0 ≤ 65536) := ⟨by rw [← hf0]; exact AN.out.2.2, by omega⟩
       clear hf0 hnb1
       go_wp2_with fail
       go_loopg [10, 12] L (fun gg sx si wr => ∃ (x i : Nat), sx = .int .i64 x ∧ si = .int .i64 i ∧ Aside (i + gg = L ∧ x = f0 + ((lens zs).take i).count n ∧ Tl w wr (g + 1) g (lens zs) n i))
       case atStart => exact ⟨f0, 0, rfl, rfl, ⟨by omega, by simp, hN.out.2.2.2⟩⟩
       case round =>
        obtain ⟨x, i, rfl, rfl, hI⟩ := hrel
        by_cases hiL : i < L
        ·have hi : (i : Int) < (L : Int) := by omega
         obtain ⟨l, hl⟩ : ∃ l, (lens zs)[i]? = some l := ⟨_, List.getElem?_eq_getElem (by have := AH.out; omega)⟩
         have hz := lens_at AH.out.2.2.1 hl
         rcases AH.out.1 with e | ⟨b0, o0, rfl, hc⟩
         ·rw [e] at hz; simp at hz
         have cz0 := hc i _ hz
         have cz : wr.cell? ⟨b0, o0 + i, none⟩ = some (.int .i64 (l : Int)) := (hI.out.2.2.bel.cell (p := ⟨b0, o0 + i, none⟩) (World.block_lt_of_cell? w ⟨b0, o0 + i, none⟩ cz0)).trans cz0
         have AZ : Aside (i < L ∧ (lens zs)[i]? = some l) := ⟨hiL, hl⟩
         have hib : (i : Int) < 320 := by omega
         clear hc hz hl hiL cz0
         by_cases hln : l = n
         ·subst hln
          obtain ⟨c, hcx⟩ : ∃ c, code (lens zs) i l = c := ⟨_, rfl⟩
          have hxc : x = c := by rw [hI.out.2.1, ← hcx, AF.out.1]; rfl
          subst hxc
          have hxb : x < 32768 := by
           have h2 := code_fits AH.out.2.2.2.2.2.2.2 AZ.out.2 (by have := AN.out; omega) AN.out.1
           have h3 : (2 : Nat) ^ l ≤ 2 ^ 15 := Nat.pow_le_pow_right (by decide) AN.out.1
           omega
          have hxb1 : (x : Int) ≤ 32768 := by omega
          obtain ⟨b, hb⟩ : ∃ b, wr.heap.size = b := ⟨_, rfl⟩
          obtain ⟨wc, hwc⟩ : ∃ wc, wc = wr.alloc (.cells (vb (List.replicate l false)).toArray 4) := ⟨_, rfl⟩
          have AC : Aside (code (lens zs) i l = x ∧ x < 32768 ∧ (∀ u, Only b wc u → Tl w u (g + 1) g (lens zs) l i) ∧ Bb wc b (List.replicate l false) ∧ w.heap.size ≤ b) := by
           refine ⟨hcx, hxb, fun u hu => hI.out.2.2.below (((Below.refl _ wr).alloc (Nat.le_refl _) _).trans (hwc ▸ hu.below (Nat.le_of_eq hb))), ?_, by rw [← hb]; exact hI.out.2.2.bel.size⟩
           unfold Bb
           rw [hwc, ← hb]; exact Cells.new wr _ 4
          have hmk := made_bools l (by have := AN.out; omega) wr
          rw [hb] at hmk
          have hn0 : (0 : Int) ≤ (l : Int) := by omega
          clear hcx hxb
          go_upto_region 28 with fail
          rw [← hwc]
          clear hmk hwc hb
          go_wp2_with fail
          go_loopg [14, 15] l (fun gg sx sk wr => ∃ (y j : Nat), sx = .int .i64 y ∧ sk = .int .i64 ((j : Int) - 1) ∧ Aside (j = gg ∧ j ≤ l ∧ y = x / 2 ^ (l - j) ∧ Bb wr b (List.replicate j false ++ (bitsB l x).drop j) ∧ Only b wc wr))
          case atStart => exact ⟨x, l, rfl, rfl, ⟨rfl, Nat.le_refl _, by rw [Nat.sub_self, Nat.pow_zero, Nat.div_one], by rw [List.drop_eq_nil_of_le (by rw [bitsB_len]; exact Nat.le_refl _), List.append_nil]; exact AC.out.2.2.2.1, Only.refl _ _⟩⟩
          case round =>
           obtain ⟨y, j, rfl, hsk, hJ⟩ := hrel
           by_cases hj0 : 0 < j
           ·obtain ⟨q, rfl⟩ : ∃ q, j = q + 1 := ⟨j - 1, by omega⟩
            rw [show ((q + 1 : Nat) : Int) - 1 = (q : Int) by omega] at hsk
            subst hsk
            have hq : (q : Int) < (l : Int) := by have := hJ.out; omega
            have hyx : y ≤ x := by rw [hJ.out.2.2.1]; exact Nat.div_le_self _ _
            have hyb : (y : Int) ≤ 32768 := by have := AC.out; omega
            clear hyx
            have hq0 : (0 : Int) ≤ (q : Int) := by omega
            have hlen : q < (List.replicate (q + 1) false ++ (bitsB l x).drop (q + 1)).length := by rw [List.length_append, List.length_replicate]; omega
            have cq : wr.cell? ⟨b, q, none⟩ = some (.bool false) := by
             have h1 := Cells.cell hJ.out.2.2.2.1 q
             rw [h1, List.getElem?_toArray, vb, List.getElem?_map, List.getElem?_append_left (by rw [List.length_replicate]; omega), List.getElem?_replicate, if_pos (by omega)]
             rfl
            have fq : wr.frozen? ⟨b, q, none⟩ = false := Cells.frozen hJ.out.2.2.2.1 q
            obtain ⟨bt, hbt⟩ : ∃ bt : Bool, (y % 2 == 1) = bt := ⟨_, rfl⟩
            have hbti : ((y : Int) % 2 == 1) = bt := by
             rw [← hbt]
             by_cases h : y % 2 = 1
             ·rw [h, beq_iff_eq.2 (show (y : Int) % 2 = 1 by omega)]; rfl
             ·rw [beq_eq_false_iff_ne.2 (show ¬ (y : Int) % 2 = 1 by omega), beq_eq_false_iff_ne.2 h]
            have A5 : Aside (Bb (wr.setCell ⟨b, q, none⟩ (.bool bt)) b (List.replicate q false ++ (bitsB l x).drop q) ∧ Only b wc (wr.setCell ⟨b, q, none⟩ (.bool bt)) ∧ y / 2 = x / 2 ^ (l - q)) := by
             have h1 := hJ.out
             refine ⟨?_, h1.2.2.2.2.setCell q _, ?_⟩
             ·have h2 := h1.2.2.2.1.set q bt
              have h3 := bits_row (n := l) (j := q + 1) (c := x) (by omega) h1.2.1
              rw [← h1.2.2.1, show q + 1 - 1 = q by omega, hbt] at h3
              rw [h3] at h2
              exact h2
             ·rw [h1.2.2.1, Nat.div_div_eq_div_mul, show (2 : Nat) ^ (l - (q + 1)) * 2 = 2 ^ (l - q) by rw [← Nat.pow_succ]; congr 1; omega]
            clear hlen hj0
            go_upto_region 32 with fail
            obtain ⟨wd, hwd⟩ : ∃ wd, wd = wr.setCell ⟨b, q, none⟩ (.bool bt) := ⟨_, rfl⟩
            rw [← hwd] at A5 ⊢
            clear cq fq hbt hbti hwd
            go_wp2_with fail
            have h1 := hJ.out; have h2 := A5.out
            go_roundg q
            case measure => omega
            case rel => exact ⟨y / 2, q, by go_num, by go_num, ⟨rfl, by omega, h2.2.2, h2.1, h2.2.1⟩⟩
           ·have hj : j = 0 := by omega
            subst hj
            rw [show (((0 : Nat) : Int) - 1) = -1 by rfl] at hsk
            subst hsk
            have h2 := hJ.out.2.2.2.1
            rw [List.replicate_zero, List.nil_append, List.drop_zero] at h2
            have hT := AC.out.2.2.1 wr hJ.out.2.2.2.2
            have hput := hT.put AZ.out.2 (by have := AN.out; omega) AC.out.2.2.2.2 (by rw [AC.out.1]; exact h2)
            obtain ⟨rows, r1, r2, r3⟩ := hT.row
            have cT : wr.cell? ⟨g + 1, 0, none⟩ = some (.slice (some ⟨g, 0, none⟩) L L) := by
             have := Cells.cell hT.t 0
             rw [AH.out.2.2.2.2.2.2.1] at this
             exact this
            have cR : wr.cell? ⟨g, i, none⟩ = some (.slice none 0 0) := by
             rw [Cells.cell r1 i]
             exact (r3 i l AZ.out.2).2 (by omega)
            have fR : wr.frozen? ⟨g, i, none⟩ = false := Cells.frozen r1 i
            have A7 : Aside (Tl w (wr.setCell ⟨g, i, none⟩ (.slice (some ⟨b, 0, none⟩) l l)) (g + 1) g (lens zs) l (i + 1)) := hput
            have hxb2 : (x : Int) ≤ 32768 := by have := AC.out; omega
            clear hput hT r1 r2 r3 h2 hj0
            go_upto_region 34 with fail
            obtain ⟨wd, hwd⟩ : ∃ wd, wd = wr.setCell ⟨g, i, none⟩ (.slice (some ⟨b, 0, none⟩) l l) := ⟨_, rfl⟩
            rw [← hwd] at A7 ⊢
            clear hwd cT cR fR
            go_wp2_with fail
            have h1 := hI.out; have h2 := AZ.out
            go_roundg (L - (i + 1))
            case measure => omega
            case rel => exact ⟨x + 1, i + 1, by go_num, by go_num, ⟨by omega, by rw [rank_step h2.2 l, if_pos rfl]; omega, A7.out⟩⟩
         ·have t1 : ¬ (l : Int) = (n : Int) := by omega
          have t2 : ((l : Int) != (n : Int)) = true := by rw [bne_iff_ne]; exact t1
          have AL : Aside (l ≠ n) := hln
          clear hln
          go_wp2_with fail
          have h1 := hI.out; have h2 := AZ.out; have h3 := AL.out
          go_roundg (L - (i + 1))
          case measure => omega
          case rel => exact ⟨x, i + 1, rfl, by go_num, ⟨by omega, by rw [rank_step h2.2 n, if_neg h3]; exact h1.2.1, h1.2.2.skip h2.2 h3⟩⟩
        ·have hi : ¬ (i : Int) < (L : Int) := by omega
         have A8 : Aside (x = part (lens zs) n ∧ Tl w wr (g + 1) g (lens zs) (n + 1) 0) := by
          have e : (lens zs).take i = lens zs := List.take_of_length_le (by have := AH.out; omega)
          have h1 := hI.out
          rw [e] at h1
          refine ⟨?_, h1.2.2.next (by have := AH.out; omega)⟩
          rw [h1.2.1, AF.out.1, first_le (lens zs) n (by have := AN.out; omega)]
         have hnb2 : (n : Int) ≤ 15 := hn
         clear hiL hI
         go_wp2_with fail
         have h1 := hN.out; have h2 := AN.out; have h3 := A8.out
         go_roundg (16 - (n + 1))
         case measure => omega
         case rel => exact ⟨x, n + 1, rfl, by go_num, ⟨by omega, by omega, by rw [show n + 1 - 1 = n by omega]; exact h3.1, h3.2⟩⟩
      ·have hn : ¬ (n : Int) ≤ 15 := by omega
       have A9 : Aside (Tb wr (g + 1) (lens zs) ∧ Below w.heap.size w wr ∧ ∀ u, (∀ k, w.heap.size ≤ k → k < wr.heap.size → u.heap[k]? = wr.heap[k]?) → Tb u (g + 1) (lens zs)) := by
        have e : n = 16 := by have := hN.out; omega
        have h4 := hN.out.2.2.2
        rw [e] at h4
        exact ⟨(h4.tb_ (lens_15 AH.out.2.2.1)).1, h4.bel, (h4.tb_ (lens_15 AH.out.2.2.1)).2⟩
       clear hn15
       go_wp2_with fail
       first | go_ret | go_ret2
       exact Or.inr ⟨(by intro k1 k2; have h0 := of_decide_eq_false AU.out; unfold Under at h0; omega), _, rfl, A9.out⟩
end Go.Proofs.YtpihipbeagpgpaaGreatDoor
