/-
  Own texts of this seat, one behind the other: what each says stands ahead of it.
-/
import Derived.Test.YtikdpnpkmmmacabDoorMa
import Derived.Deep.WholeRow
import Derived.Laws.Rows
import Derived.Laws.Tables
import Derived.Laws.ResultCell
import Derived.WalkKit
import Derived.Laws.BitsAllLaws
import Derived.Laws.Bits64
import Derived.Laws.Bits64b
import Derived.Test.YtikdpnpkmmmacabDoorProg
import Derived.WalkSpells
import Derived.OwnWalk
import Derived.Laws.AppendOwn
import Derived.Deep.LoopGhost
import Derived.WalkMore
/-
  Rows of sixteen numbers, as the program counts lengths in them: how they are read and written whole, and what the program's count comes to.
  Conditions: the lengths lie in memory.
-/
namespace Go.Proofs.YtikdpnpkmmmacabDoor
open Go.RowKit
set_option linter.unusedVariables false
def rw16 (f : Nat → Nat) : Array Value := ((List.range 16).map fun j => Value.int .u32 (f j : Nat)).toArray
theorem rw16_size (f : Nat → Nat) : (rw16 f).size = 16 := by simp [rw16]
theorem rw16_at (f : Nat → Nat) (j : Nat) (h : j < 16) : (rw16 f)[j]? = some (.int .u32 (f j : Nat)) := by simp [rw16, h]
theorem rw16_congr {f g : Nat → Nat} (h : ∀ j, j < 16 → f j = g j) : rw16 f = rw16 g := by
  unfold rw16
  exact congrArg List.toArray (List.map_congr_left fun j hj => by rw [h j (List.mem_range.1 hj)])
theorem rw16_set (f : Nat → Nat) (i x : Nat) : (rw16 f).setIfInBounds i (.int .u32 (x : Nat)) = rw16 (fun j => if j = i then x else f j) := by
  apply Array.ext_getElem?
  intro j
  by_cases hj : j < 16
  · rw [Array.getElem?_setIfInBounds, rw16_at _ _ hj, rw16_at _ _ hj, rw16_size]
    by_cases e : i = j
    · subst e; rw [if_pos rfl, if_pos hj, if_pos rfl]
    · rw [if_neg e, if_neg (fun h => e h.symm)]
  · rw [Array.getElem?_eq_none (by simp [rw16_size]; omega), Array.getElem?_eq_none (by rw [rw16_size]; omega)]
theorem rw16_one (f : Nat → Nat) : (rw16 f).all (·.oneCell') = true := by simp [rw16, Value.oneCell']
theorem set_row {w : World} {b : Nat} {cs : Array Value} {t : TypeId} (h : Cells w b cs t) (c : Array Value) : Cells (w.setRow b c) b c t := by
  unfold Cells at *
  simp [World.setRow, Array.getElem?_modify, h]
theorem only_row {w : World} {b : Nat} {cs : Array Value} {t : TypeId} (h : Cells w b cs t) (c : Array Value) : Only b w (w.setRow b c) :=
  ⟨rfl, rfl, rfl, by simp [World.setRow], fun k hk => by
    have : b ≠ k := fun e => hk e.symm
    simp [World.setRow, Array.getElem?_modify, this]⟩
theorem size59 : (Tryd.prog.info? 72).map (·.size) = some 16 := by kernel_rfl
theorem zero59 : Value.agg (rw16 fun _ => 0) = .agg #[.int .u32 0, .int .u32 0, .int .u32 0, .int .u32 0, .int .u32 0, .int .u32 0, .int .u32 0, .int .u32 0, .int .u32 0, .int .u32 0, .int .u32 0, .int .u32 0, .int .u32 0, .int .u32 0, .int .u32 0, .int .u32 0] := by rfl
theorem ret59 {w : World} {B : Nat} {f : Nat → Nat} (h : Cells w B (rw16 f) 72) : (loadVar 72 ⟨B, 0, none⟩).run Tryd.prog w = .ok (.agg (rw16 f)) w :=
  run_loadVar_row _ _ 72 72 _ (0, 0) _ h Tryd.underlying72 rfl (by rw [rw16_size]; exact size59)
set_option maxRecDepth 100000 in
set_option maxHeartbeats 2000000 in
theorem count_c (a : Option Addr) (zs : List Int) (L C : Nat) (f : Nat → Nat) (ok : Bool) (w : World) (h : Lens w a zs) (hL : zs.length = L) (hLb : L < 140737488355328) (hr : (Okl zs ∧ (f = fun j => (lens zs).count j) ∧ ok = true) ∨ (¬ Okl zs ∧ (f = fun _ => 0) ∧ ok = false)) :
    Calls Tryd.prog 36 #[.slice a L C] w fun e w' => e = .returned (.tuple #[.agg (rw16 f), .bool ok]) ∧ Below w.heap.size w w' := by
  have AH : Aside (Lens w a zs ∧ zs.length = L ∧ L < 140737488355328) := ⟨h, hL, hLb⟩
  have AR : Aside ((Okl zs ∧ (f = fun j => (lens zs).count j) ∧ ok = true) ∨ (¬ Okl zs ∧ (f = fun _ => 0) ∧ ok = false)) := hr
  clear h hL hLb hr
  obtain ⟨B, hB⟩ : ∃ B, w.heap.size = B := ⟨_, rfl⟩
  obtain ⟨w1, hw1⟩ : ∃ w1, w1 = w.alloc (.cells (rw16 fun _ => 0) 72) := ⟨_, rfl⟩
  obtain ⟨w2, hw2⟩ : ∃ w2, w2 = w1.alloc (.cells (rw16 fun _ => 0) 72) := ⟨_, rfl⟩
  have hB1 : w1.heap.size = B + 1 := by rw [hw1, ← hB]; exact Array.size_push _
  have c0 : Cells w2 B (rw16 fun _ => 0) 72 := by rw [hw2]; refine Cells.alloc ?_ _; rw [hw1, ← hB]; exact Cells.new w _ 72
  have c1 : Cells w2 (B + 1) (rw16 fun _ => 0) 72 := by rw [hw2, ← hB1]; exact Cells.new w1 _ 72
  have bel : Below B w w2 := by
    rw [hw2, hw1, ← hB]; exact ((Below.refl _ w).alloc (Nat.le_refl _) _).alloc (by show w.heap.size ≤ (w.heap.push _).size; rw [Array.size_push]; omega) _
  have AW : Aside (Cells w2 B (rw16 fun _ => 0) 72 ∧ Cells w2 (B + 1) (rw16 fun _ => 0) 72 ∧ Below B w w2 ∧ w.heap.size = B) := ⟨c0, c1, bel, hB⟩
  clear c0 c1 bel
  have hz : ∀ w', (zeroValue 72).run Tryd.prog w' = .ok (.agg (rw16 fun _ => 0)) w' := fun w' => by kernel_rfl
  have hb : (Tryd.prog.built 72 []).getD #[] = rw16 fun _ => 0 := by kernel_rfl
  have hf : (Tryd.prog.built 72 []).isSome = true := by kernel_rfl
  by_cases h320 : 320 < L
  · have h1 : (320 : Int) < (L : Int) := by omega
    have hno : Aside ((f = fun _ => 0) ∧ ok = false) := by
      rcases AR.out with ⟨h, _⟩ | h
      · have := h.1; have := AH.out; omega
      · exact h.2
    clear h320
    go_enter Tryd.func36, Tryd.ntmps36
    go_upto_region 3 with fail
    rw [← hw1, ← hw2]
    clear hw1 hw2 hB hB1
    go_wp2_with (refine wpList_store_row rfl 72 (.tmp 2) (.tmp 10) rfl B (rw16 fun _ => 0) rfl rfl 72 (rw16 fun _ => 0) AW.out.1 (by rw [rw16_size]; exact size59) rfl (rw16_one _) ?_)
    have hc := set_row AW.out.1 (rw16 fun _ => 0)
    have hbel := AW.out.2.2.1.trans ((only_row AW.out.1 (rw16 fun _ => 0)).below (Nat.le_refl _))
    (try simp only [Exit.inBlock, Exit.then])
    refine bodyPost_ret (v := .tuple #[.agg (rw16 fun _ => 0), .bool false]) ?_ rfl ?_
    · rw [results_cell_tmp rfl]
      simp [asAddr, Result.andThen, ret59 hc]
    · obtain ⟨rfl, rfl⟩ := hno.out
      exact ⟨rfl, by rw [AW.out.2.2.2]; exact hbel⟩
  have h1 : ¬ (320 : Int) < (L : Int) := by omega
  have hLs : (L : Int) ≤ 320 := by omega
  go_enter Tryd.func36, Tryd.ntmps36
  go_upto_region 4 with fail
  rw [← hw1, ← hw2]
  clear hw1 hw2 hB hB1 h320 h1
  go_wp2_with fail
  go_loopg [13] L (fun g si wr => ∃ (i : Nat), si = .int .i64 i ∧ Aside (i + g = L ∧ (∀ z ∈ zs.take i, 0 ≤ z ∧ z ≤ 15) ∧ Cells wr B (rw16 fun _ => 0) 72 ∧ Cells wr (B + 1) (rw16 fun j => (lens (zs.take i)).count j) 72 ∧ Below B w wr))
  case atStart => exact ⟨0, rfl, ⟨by omega, by simp, AW.out.1, AW.out.2.1, AW.out.2.2.1⟩⟩
  case round =>
    obtain ⟨i, rfl, hI⟩ := hrel
    by_cases hiL : i < L
    · have hi : (i : Int) < (L : Int) := by omega
      obtain ⟨z, hz1⟩ : ∃ z, zs[i]? = some z := ⟨_, List.getElem?_eq_getElem (by have := AH.out; omega)⟩
      rcases AH.out.1 with e | ⟨b, o, rfl, hc⟩
      · rw [e] at hz1; simp at hz1
      have hcw := hc i z hz1
      have cz : wr.cell? ⟨b, o + i, none⟩ = some (.int .i64 z) := (hI.out.2.2.2.2.cell (p := ⟨b, o + i, none⟩) (by have := World.block_lt_of_cell? w ⟨b, o + i, none⟩ hcw; rw [AW.out.2.2.2] at this; exact this)).trans hcw
      have AZ : Aside (zs[i]? = some z ∧ i < L) := ⟨hz1, hiL⟩
      clear hc hz1 hiL hcw
      by_cases hbad : z < 0 ∨ 15 < z
      · have hno : Aside ((f = fun _ => 0) ∧ ok = false) := by
          rcases AR.out with ⟨h, _⟩ | h
          · have := h.2 z (List.mem_of_getElem? AZ.out.1); omega
          · exact h.2
        have hc := set_row hI.out.2.2.1 (rw16 fun _ => 0)
        have hbel := hI.out.2.2.2.2.trans ((only_row hI.out.2.2.1 (rw16 fun _ => 0)).below (Nat.le_refl _))
        have AC : Aside (Cells (wr.setRow B (rw16 fun _ => 0)) B (rw16 fun _ => 0) 72 ∧ Below B w (wr.setRow B (rw16 fun _ => 0))) := ⟨hc, hbel⟩
        clear hc hbel
        by_cases hneg : z < 0
        · clear hbad
          go_wp2_with (refine wpList_store_row rfl 72 (.tmp 2) (.tmp 23) rfl B (rw16 fun _ => 0) rfl rfl 72 (rw16 fun _ => 0) hI.out.2.2.1 (by rw [rw16_size]; exact size59) rfl (rw16_one _) ?_)
          (try simp only [Exit.inBlock, Exit.then])
          refine bodyPost_ret (v := .tuple #[.agg (rw16 fun _ => 0), .bool false]) ?_ rfl ?_
          · rw [results_cell_tmp rfl]
            simp [asAddr, Result.andThen, ret59 AC.out.1]
          · obtain ⟨rfl, rfl⟩ := hno.out
            exact ⟨rfl, by rw [AW.out.2.2.2]; exact AC.out.2⟩
        · have hgt : 15 < z := by omega
          clear hbad
          go_wp2_with (refine wpList_store_row rfl 72 (.tmp 2) (.tmp 23) rfl B (rw16 fun _ => 0) rfl rfl 72 (rw16 fun _ => 0) hI.out.2.2.1 (by rw [rw16_size]; exact size59) rfl (rw16_one _) ?_)
          (try simp only [Exit.inBlock, Exit.then])
          refine bodyPost_ret (v := .tuple #[.agg (rw16 fun _ => 0), .bool false]) ?_ rfl ?_
          · rw [results_cell_tmp rfl]
            simp [asAddr, Result.andThen, ret59 AC.out.1]
          · obtain ⟨rfl, rfl⟩ := hno.out
            exact ⟨rfl, by rw [AW.out.2.2.2]; exact AC.out.2⟩
      · have hz0 : ¬ z < 0 := by omega
        have hz15 : ¬ 15 < z := by omega
        obtain ⟨l, rfl⟩ : ∃ l : Nat, z = (l : Int) := ⟨z.toNat, by omega⟩
        have hl16 : l < 16 := by omega
        have hnx : Aside ((∀ z ∈ zs.take (i + 1), 0 ≤ z ∧ z ≤ 15) ∧ ∀ j, (lens (zs.take (i + 1))).count j = if j = l then (lens (zs.take i)).count l + 1 else (lens (zs.take i)).count j) := by
          have e1 : lens (zs.take (i + 1)) = lens (zs.take i) ++ [l] := by rw [take_one AZ.out.1]; simp [lens]
          refine ⟨?_, ?_⟩
          · intro y hy
            rw [take_one AZ.out.1] at hy
            rcases List.mem_append.1 hy with hy | hy
            · exact hI.out.2.1 y hy
            · rw [List.mem_singleton.1 hy]; omega
          · intro j
            rw [e1, List.count_append]
            by_cases e : j = l
            · subst e; rw [if_pos rfl]; simp
            · rw [if_neg e]
              have : List.count j [l] = 0 := by rw [List.count_cons, List.count_nil]; simp; exact fun h => e h.symm
              omega
        obtain ⟨q, hq⟩ : ∃ q, (lens (zs.take i)).count l = q := ⟨_, rfl⟩
        have hqb : q ≤ 320 := by
          rw [← hq]
          have h2 := List.count_le_length (a := l) (l := lens (zs.take i))
          have h3 : (lens (zs.take i)).length ≤ 320 := by unfold lens; rw [List.length_map, List.length_take]; omega
          omega
        have cq : wr.cell? ⟨B + 1, l, none⟩ = some (.int .u32 (q : Int)) := by rw [hI.out.2.2.2.1.cell, rw16_at _ _ hl16, hq]
        have fq := hI.out.2.2.2.1.frozen l
        have AQ : Aside ((lens (zs.take i)).count l = q) := hq
        clear hbad hq
        have hlI : (l : Int) < 16 := by omega
        go_wp2_with fail
        go_roundg (L - (i + 1))
        case measure => have := hI.out.1; have := AZ.out.2; omega
        case rel =>
          refine ⟨i + 1, by go_num, ⟨by have := AZ.out.2; omega, hnx.out.1, ?_, ?_, ?_⟩⟩
          · exact hI.out.2.2.1.only ((Only.refl (B + 1) wr).setCell l _) (by omega)
          · have := hI.out.2.2.2.1.set l (.int .u32 ((q + 1 : Nat) : Int))
            rw [rw16_set] at this
            have e : (rw16 fun j => if j = l then q + 1 else (lens (zs.take i)).count j) = rw16 fun j => (lens (zs.take (i + 1))).count j := rw16_congr fun j _ => by
              rw [hnx.out.2 j, AQ.out]
            rw [e] at this
            exact this
          · exact hI.out.2.2.2.2.setCell (p := ⟨B + 1, l, none⟩) (by show B ≤ B + 1; omega) _
    · have hieq : i = L := by have := hI.out.1; omega
      have hni : ¬ (i : Int) < (L : Int) := by omega
      have hall : zs.take i = zs := List.take_of_length_le (by have := AH.out.2.1; omega)
      have hI2 := hI.out
      rw [hall] at hI2
      have hyes : Aside ((f = fun j => (lens zs).count j) ∧ ok = true) := by
        rcases AR.out with h | ⟨h, _⟩
        · exact h.2
        · exact absurd ⟨by have := AH.out.2.1; omega, hI2.2.1⟩ h
      have hc := set_row hI2.2.2.1 (rw16 fun j => (lens zs).count j)
      have hbel := hI2.2.2.2.2.trans ((only_row hI2.2.2.1 (rw16 fun j => (lens zs).count j)).below (Nat.le_refl _))
      have hc1 := hI2.2.2.2.1
      have hc0 := hI2.2.2.1
      obtain ⟨R, hR⟩ : ∃ R, (rw16 fun j => (lens zs).count j) = R := ⟨_, rfl⟩
      have hRs : R.size = 16 := by rw [← hR]; exact rw16_size _
      have hR1 : R.all (·.oneCell') = true := by rw [← hR]; exact rw16_one _
      rw [hR] at hc hbel hc1
      have AC : Aside (Cells (wr.setRow B R) B R 72 ∧ Below B w (wr.setRow B R) ∧ (rw16 fun j => (lens zs).count j) = R) := ⟨hc, hbel, hR⟩
      clear hI2 hI hc hbel hR hall hieq hiL
      go_wp2_with (first
        | (refine wpList_load_row rfl 72 (.tmp 4) rfl (B + 1) rfl 72 _ (0, 0) _ hc1 Tryd.underlying72 rfl (by rw [hRs]; exact size59) ?_)
        | (refine wpList_store_row rfl 72 (.tmp 2) (.tmp 30) rfl B R rfl rfl 72 (rw16 fun _ => 0) hc0 (by rw [hRs]; exact size59) (by rw [hRs]; rfl) hR1 ?_))
      (try simp only [Exit.inBlock, Exit.then])
      refine bodyPost_ret (v := .tuple #[.agg R, .bool true]) ?_ rfl ?_
      · rw [results_cell_tmp rfl]
        have := AC.out.1
        rw [← AC.out.2.2] at this ⊢
        simp [asAddr, Result.andThen, ret59 this]
      · obtain ⟨rfl, rfl⟩ := hyes.out
        exact ⟨by rw [AC.out.2.2], by rw [AW.out.2.2.2]; exact AC.out.2.1⟩
end Go.Proofs.YtikdpnpkmmmacabDoor

/-
  Numbers and their bits: what a shift, a mask and an 'or' come to, as sums, quotients and remainders.
-/
namespace Go.Proofs.YtikdpnpkmmmacabDoor
open Go.RowKit
theorem pow_le64 {n m : Nat} (h : n ≤ m) : 2 ^ n ≤ 2 ^ m := Nat.pow_le_pow_right (by decide) h
theorem lt_word {v n : Nat} (h : v < 2 ^ n) (h64 : n ≤ 64) : v < 18446744073709551616 := Nat.lt_of_lt_of_le h (pow_le64 h64)
theorem wrap64_nat {a : Nat} (h : a < 18446744073709551616) : IntKind.u64.wrap (a : Int) = (a : Int) := by rw [IntKind.wrap_u64]; omega
/-- A byte laid upon the bits below it. -/
theorem or_put (v n x : Nat) (hv : v < 2 ^ n) (hn : n ≤ 56) (hx : x < 256) : bits .or .u64 (v : Int) (IntKind.u64.wrap ((x : Int) * 2 ^ n)) = ((v + x * 2 ^ n : Nat) : Int) := by
  have h1 : x * 2 ^ n < 18446744073709551616 := by
    have := pow_le64 hn
    calc x * 2 ^ n ≤ 255 * 2 ^ 56 := Nat.mul_le_mul (by omega) this
      _ < _ := by decide
  have e : (x : Int) * 2 ^ n = ((x * 2 ^ n : Nat) : Int) := by push_cast; rfl
  rw [e, wrap64_nat h1]
  have h2 := lt_word hv (by omega)
  rw [u64_or_nat v _ h2 h1]
  congr 1
  rw [Nat.or_comm, Nat.mul_comm x, ← Nat.two_pow_add_eq_or_of_lt hv]
  omega
theorem put_lt (v n x : Nat) (hv : v < 2 ^ n) (hx : x < 256) : v + x * 2 ^ n < 2 ^ (n + 8) := by
  have : (x + 1) * 2 ^ n ≤ 256 * 2 ^ n := Nat.mul_le_mul (by omega) (Nat.le_refl _)
  rw [Nat.add_mul] at this
  rw [Nat.pow_add]
  omega
/-- The lowest k bits. -/
theorem and_mask (v k : Nat) (hv : v < 18446744073709551616) (hk : k ≤ 32) : bits .and .u64 (v : Int) (IntKind.u64.wrap (IntKind.u64.wrap (2 ^ k) - 1)) % 4294967296 = ((v % 2 ^ k : Nat) : Int) := by
  have h1 : 2 ^ k ≤ 4294967296 := pow_le64 hk
  have h0 : 0 < 2 ^ k := Nat.two_pow_pos k
  have e : (2 : Int) ^ k = ((2 ^ k : Nat) : Int) := by push_cast; rfl
  rw [e, wrap64_nat (by omega)]
  have e2 : ((2 ^ k : Nat) : Int) - 1 = ((2 ^ k - 1 : Nat) : Int) := by omega
  rw [e2, wrap64_nat (by omega), u64_and_nat v _ hv (by omega), Nat.and_two_pow_sub_one_eq_mod]
  have : v % 2 ^ k < 2 ^ k := Nat.mod_lt _ h0
  omega
theorem div_nat (v k : Nat) : (v : Int) / 2 ^ k = ((v / 2 ^ k : Nat) : Int) := by push_cast; rfl
theorem div_lt (v n k : Nat) (hv : v < 2 ^ n) (hk : k ≤ n) : v / 2 ^ k < 2 ^ (n - k) := by
  rw [Nat.div_lt_iff_lt_mul (Nat.two_pow_pos k), ← Nat.pow_add]
  rw [show n - k + k = n by omega]; exact hv
end Go.Proofs.YtikdpnpkmmmacabDoor

/-
  Lists of bits and their numbers: what a list behind another one, its first bits and what is left behind them come to.
-/
namespace Go.Proofs.YtikdpnpkmmmacabDoor
/-- The number of some bits, the first one lowest. -/
def nm : List Bool → Nat
  | [] => 0
  | b :: r => b.toNat + 2 * nm r
theorem nm_lt : ∀ l : List Bool, nm l < 2 ^ l.length
  | [] => by simp [nm]
  | b :: r => by
    have := nm_lt r
    rw [nm, List.length_cons, Nat.pow_succ]
    have : b.toNat ≤ 1 := Bool.toNat_le b
    omega
theorem nm_append : ∀ l r : List Bool, nm (l ++ r) = nm l + nm r * 2 ^ l.length
  | [], r => by simp [nm]
  | b :: l, r => by
    rw [List.cons_append, nm, nm, nm_append l r, List.length_cons, Nat.pow_succ', Nat.mul_left_comm]
    omega
theorem nm_take : ∀ (k : Nat) (l : List Bool), nm (l.take k) = nm l % 2 ^ k
  | 0, l => by simp [nm, Nat.mod_one]
  | k + 1, [] => by simp [nm]
  | k + 1, b :: l => by
    rw [List.take_succ_cons, nm, nm, nm_take k l, Nat.pow_succ', Nat.mod_mul]
    have : b.toNat ≤ 1 := Bool.toNat_le b
    rw [show (b.toNat + 2 * nm l) % 2 = b.toNat by omega, show (b.toNat + 2 * nm l) / 2 = nm l by omega]
theorem nm_drop : ∀ (k : Nat) (l : List Bool), nm (l.drop k) = nm l / 2 ^ k
  | 0, l => by simp
  | k + 1, [] => by simp [nm]
  | k + 1, b :: l => by
    rw [List.drop_succ_cons, nm, nm_drop k l, Nat.pow_succ', ← Nat.div_div_eq_div_mul]
    have : b.toNat ≤ 1 := Bool.toNat_le b
    rw [show (b.toNat + 2 * nm l) / 2 = nm l by omega]
/-- The lowest k bits of a number, the lowest one first. -/
def bitsOf (k x : Nat) : List Bool := (List.range k).map fun i => x / 2 ^ i % 2 == 1
theorem bitsOf_length (k x : Nat) : (bitsOf k x).length = k := by simp [bitsOf]
theorem bitsOf_succ (k x : Nat) : bitsOf (k + 1) x = bitsOf k x ++ [x / 2 ^ k % 2 == 1] := by
  simp [bitsOf, List.range_succ]
theorem nm_bitsOf : ∀ (k x : Nat), nm (bitsOf k x) = x % 2 ^ k
  | 0, x => by simp [bitsOf, nm, Nat.mod_one]
  | k + 1, x => by
    rw [bitsOf_succ, nm_append, nm_bitsOf k x, bitsOf_length, nm, nm, Nat.pow_succ, Nat.mod_mul]
    have h2 : x / 2 ^ k % 2 = 0 ∨ x / 2 ^ k % 2 = 1 := by omega
    rcases h2 with h2 | h2 <;> rw [h2] <;> simp
theorem nm_byte (x : Nat) (h : x < 256) : nm (bitsOf 8 x) = x := by rw [nm_bitsOf]; exact Nat.mod_eq_of_lt h
/-- From the end: one bit more ahead of what stands behind it. -/
theorem nm_ahead (l : List Bool) (k : Nat) (h : k < l.length) : nm (l.drop k) = (l[k]).toNat + 2 * nm (l.drop (k + 1)) := by
  rw [List.drop_eq_getElem_cons h, nm]
end Go.Proofs.YtikdpnpkmmmacabDoor

/-
  What the document's own Bits and Number come to: a byte's bits as a list that is the call's own, and the number of a list of bits.
  Conditions: the byte is one; the list has at most 64 bits.
-/
namespace Go.Proofs.YtikdpnpkmmmacabDoor
open Go.RowKit
theorem info4 : (Tryd.prog.info? 4).map (fun i => (i.zero, i.size, i.bytes)) = some (some (.bool false), 1, 1) := by kernel_rfl
/-- The values of some bits. -/
def vb (l : List Bool) : List Value := l.map Value.bool
theorem vb_length (l : List Bool) : (vb l).length = l.length := by simp [vb]
theorem vb_one {l : List Bool} : ∀ u ∈ vb l, u.oneCell' = true := by
  intro u hu
  obtain ⟨b, _, rfl⟩ := List.mem_map.1 hu
  rfl

/-- Where the bits of a list lie: nowhere, if it has none; else cell by cell. -/
def Lie (w : World) (a : Option Addr) (l : List Bool) : Prop := l = [] ∨ ∃ g off, a = some ⟨g, off, none⟩ ∧ ∀ i (h : i < l.length), w.cell? ⟨g, off + i, none⟩ = some (.bool l[i])

end Go.Proofs.YtikdpnpkmmmacabDoor

/-
  The document's table in memory, and how a code is laid into it. No walk in this text.
-/
namespace Go.Proofs.YtikdpnpkmmmacabDoor
open Go.RowKit
set_option linter.unusedVariables false
/-- A list of bits in a block of its own. -/
def Bb (w : World) (b : Nat) (l : List Bool) : Prop := Cells w b (vb l).toArray 4
/-- The table while it is laid: those of fewer than n bits, and of n bits ahead of symbol i. -/
structure Tl (w0 w : World) (T g : Nat) (ls : List Nat) (n i : Nat) : Prop where
  t : Cells w T #[.slice (some ⟨g, 0, none⟩) ls.length ls.length] 91
  row : ∃ rows, Cells w g rows 92 ∧ rows.size = ls.length ∧ ∀ (j m : Nat), ls[j]? = some m → (0 < m ∧ (m < n ∨ (m = n ∧ j < i)) → ∃ b, rows[j]? = some (.slice (some ⟨b, 0, none⟩) m m) ∧ Bb w b (bitsB m (code ls j m)) ∧ w0.heap.size ≤ b) ∧ (¬ (0 < m ∧ (m < n ∨ (m = n ∧ j < i))) → rows[j]? = some (.slice none 0 0))
  bel : Below w0.heap.size w0 w
  tb : w0.heap.size ≤ T
  gb : w0.heap.size ≤ g
theorem Tl.below {w0 w u : World} {T g : Nat} {ls : List Nat} {n i : Nat} (h : Tl w0 w T g ls n i) (k : Below w.heap.size w u) : Tl w0 u T g ls n i := by
  obtain ⟨rows, h1, h2, h3⟩ := h.row
  refine ⟨h.t.below k h.t.lt, ⟨rows, h1.below k h1.lt, h2, fun j m hj => ⟨fun hc => ?_, (h3 j m hj).2⟩⟩, h.bel.trans (k.mono h.bel.size), h.tb, h.gb⟩
  obtain ⟨b, e1, e2, e3⟩ := (h3 j m hj).1 hc
  exact ⟨b, e1, Cells.below e2 k (Cells.lt e2), e3⟩
/-- A symbol of another length: nothing is laid. -/
theorem Tl.skip {w0 w : World} {T g : Nat} {ls : List Nat} {n i m : Nat} (h : Tl w0 w T g ls n i) (hi : ls[i]? = some m) (hm : m ≠ n) : Tl w0 w T g ls n (i + 1) := by
  obtain ⟨rows, h1, h2, h3⟩ := h.row
  refine ⟨h.t, ⟨rows, h1, h2, fun j k hj => ⟨fun hc => (h3 j k hj).1 ⟨hc.1, ?_⟩, fun hc => (h3 j k hj).2 fun hc2 => hc ⟨hc2.1, ?_⟩⟩⟩, h.bel, h.tb, h.gb⟩
  · rcases hc.2 with hlt | ⟨e, hlt⟩
    · exact Or.inl hlt
    · right
      refine ⟨e, ?_⟩
      rcases Nat.lt_or_ge j i with h4 | h4
      · exact h4
      · have e2 : j = i := by omega
        subst e2
        rw [hi] at hj; cases hj
        exact absurd e hm
  · rcases hc2.2 with hlt | ⟨e, hlt⟩
    · exact Or.inl hlt
    · exact Or.inr ⟨e, by omega⟩
/-- A symbol's code is laid. -/
theorem Tl.put {w0 w : World} {T g b : Nat} {ls : List Nat} {n i : Nat} (h : Tl w0 w T g ls n i) (hi : ls[i]? = some n) (hn : 0 < n) (hbw : w0.heap.size ≤ b) (hb : Bb w b (bitsB n (code ls i n))) : Tl w0 (w.setCell ⟨g, i, none⟩ (.slice (some ⟨b, 0, none⟩) n n)) T g ls n (i + 1) := by
  obtain ⟨rows, h1, h2, h3⟩ := h.row
  have hTg : T ≠ g := fun e => by
    have := h.t; unfold Cells at this h1; rw [e, h1] at this; cases this
  have hil := (List.getElem?_eq_some_iff.1 hi).1
  have far : ∀ {c : Nat} {l : List Bool}, Bb w c l → Bb (w.setCell ⟨g, i, none⟩ (.slice (some ⟨b, 0, none⟩) n n)) c l := by
    intro c l hc
    have hne : c ≠ g := fun e => by unfold Bb Cells at hc; unfold Cells at h1; rw [e, h1] at hc; cases hc
    unfold Bb Cells at *
    rw [Below.heap_setCell _ _ _ _ hne]; exact hc
  refine ⟨?_, ⟨_, h1.set i _, by rw [Array.size_setIfInBounds]; exact h2, fun j m hj => ⟨fun hc => ?_, fun hc => ?_⟩⟩, h.bel.setCell (p := ⟨g, i, none⟩) h.gb _, h.tb, h.gb⟩
  · have ht := h.t
    unfold Cells at *
    rw [Below.heap_setCell _ _ _ _ hTg]; exact ht
  · rw [Array.getElem?_setIfInBounds]
    by_cases e : i = j
    · subst e
      rw [hi] at hj; cases hj
      rw [if_pos rfl, if_pos (by omega)]
      exact ⟨b, rfl, far hb, hbw⟩
    · rw [if_neg e]
      obtain ⟨c, e1, e2, e5⟩ := (h3 j m hj).1 ⟨hc.1, by
        rcases hc.2 with hlt | ⟨e4, hlt⟩
        · exact Or.inl hlt
        · exact Or.inr ⟨e4, by omega⟩⟩
      exact ⟨c, e1, far e2, e5⟩
  · rw [Array.getElem?_setIfInBounds]
    by_cases e : i = j
    · subst e
      rw [hi] at hj; cases hj
      exact absurd ⟨hn, Or.inr ⟨rfl, by omega⟩⟩ hc
    · rw [if_neg e]
      refine (h3 j m hj).2 fun hc2 => hc ⟨hc2.1, ?_⟩
      rcases hc2.2 with hlt | ⟨e4, hlt⟩
      · exact Or.inl hlt
      · exact Or.inr ⟨e4, by omega⟩
/-- The next length. -/
theorem Tl.next {w0 w : World} {T g : Nat} {ls : List Nat} {n i : Nat} (h : Tl w0 w T g ls n i) (hi : i = ls.length) : Tl w0 w T g ls (n + 1) 0 := by
  obtain ⟨rows, h1, h2, h3⟩ := h.row
  refine ⟨h.t, ⟨rows, h1, h2, fun j m hj => ?_⟩, h.bel, h.tb, h.gb⟩
  have hjl := (List.getElem?_eq_some_iff.1 hj).1
  refine ⟨fun hc => (h3 j m hj).1 ⟨hc.1, by omega⟩, fun hc => (h3 j m hj).2 fun hc2 => hc ⟨hc2.1, by omega⟩⟩
/-- The document's table of some lengths. -/
structure Tb (w : World) (T : Nat) (ls : List Nat) : Prop where
  cells : ∃ g rows, w.cell? ⟨T, 0, none⟩ = some (.slice (some ⟨g, 0, none⟩) ls.length ls.length) ∧ Cells w g rows 92 ∧ ∀ (j m : Nat), ls[j]? = some m → (0 < m → ∃ b, rows[j]? = some (.slice (some ⟨b, 0, none⟩) m m) ∧ Bb w b (bitsB m (code ls j m))) ∧ (m = 0 → rows[j]? = some (.slice none 0 0))
theorem Tl.tb_ {w0 w : World} {T g : Nat} {ls : List Nat} {i : Nat} (h : Tl w0 w T g ls 16 i) (h15 : ∀ l ∈ ls, l ≤ 15) : Tb w T ls ∧ ∀ u, (∀ k, w0.heap.size ≤ k → k < w.heap.size → u.heap[k]? = w.heap[k]?) → Tb u T ls := by
  obtain ⟨rows, h1, h2, h3⟩ := h.row
  have key : ∀ u, (∀ k, w0.heap.size ≤ k → k < w.heap.size → u.heap[k]? = w.heap[k]?) → Tb u T ls := by
    intro u hk
    have ht : Cells u T #[.slice (some ⟨g, 0, none⟩) ls.length ls.length] 91 := (hk T h.tb h.t.lt).trans h.t
    have hr : Cells u g rows 92 := (hk g h.gb h1.lt).trans h1
    refine ⟨g, rows, Cells.cell ht 0, hr, fun j m hj => ⟨fun hm => ?_, fun hm => (h3 j m hj).2 fun hc => by omega⟩⟩
    have := h15 m (List.mem_of_getElem? hj)
    obtain ⟨b, e1, e2, e3⟩ := (h3 j m hj).1 ⟨hm, Or.inl (by omega)⟩
    exact ⟨b, e1, (hk b e3 (Cells.lt e2)).trans e2⟩
  exact ⟨key w fun _ _ _ => rfl, key⟩
theorem Tb.below {w u : World} {T : Nat} {ls : List Nat} (h : Tb w T ls) (k : Below w.heap.size w u) : Tb u T ls := by
  obtain ⟨g, rows, c0, h1, h3⟩ := h.cells
  refine ⟨g, rows, (k.cell (p := ⟨T, 0, none⟩) (World.block_lt_of_cell? w ⟨T, 0, none⟩ c0)).trans c0, h1.below k h1.lt, fun j m hj => ⟨fun hm => ?_, (h3 j m hj).2⟩⟩
  obtain ⟨b, e1, e2⟩ := (h3 j m hj).1 hm
  exact ⟨b, e1, Cells.below e2 k (Cells.lt e2)⟩
theorem bits_last : ∀ (n j x : Nat), j < n → (bitsB n x)[j]? = some (x / 2 ^ (n - 1 - j) % 2 == 1)
  | 0, j, x, h => by omega
  | n + 1, 0, x, _ => by simp [bitsB]
  | n + 1, j + 1, x, h => by
    rw [bitsB, List.getElem?_cons_succ, bits_last n j x (by omega), show n + 1 - 1 - (j + 1) = n - 1 - j by omega]
theorem bits_row {n j c : Nat} (hj : 0 < j) (hjn : j ≤ n) : (List.replicate j false ++ (bitsB n c).drop j).set (j - 1) (c / 2 ^ (n - j) % 2 == 1) = List.replicate (j - 1) false ++ (bitsB n c).drop (j - 1) := by
  have hb := bits_last n (j - 1) c (by omega)
  rw [show n - 1 - (j - 1) = n - j by omega] at hb
  have hl : j - 1 < (bitsB n c).length := by rw [bitsB_len]; omega
  have hd : (bitsB n c).drop (j - 1) = (c / 2 ^ (n - j) % 2 == 1) :: (bitsB n c).drop j := by
    rw [List.drop_eq_getElem_cons hl, show j - 1 + 1 = j by omega]
    congr 1
    rw [List.getElem?_eq_getElem hl] at hb
    exact Option.some.inj hb
  rw [hd]
  obtain ⟨q, rfl⟩ : ∃ q, j = q + 1 := ⟨j - 1, by omega⟩
  rw [List.replicate_succ', List.append_assoc, show q + 1 - 1 = q by omega, List.set_append_right _ _ (by simp), List.length_replicate, Nat.sub_self]
  rfl
theorem Bb.set {w : World} {b : Nat} {l : List Bool} (h : Bb w b l) (i : Nat) (x : Bool) : Bb (w.setCell ⟨b, i, none⟩ (.bool x)) b (l.set i x) := by
  have := Cells.set h i (.bool x)
  unfold Bb
  have e : (vb (l.set i x)).toArray = (vb l).toArray.setIfInBounds i (.bool x) := by
    apply Array.toList_inj.1
    simp [vb, List.map_set]
  rw [e]; exact this
end Go.Proofs.YtikdpnpkmmmacabDoor

/-
  What the document's New comes to: an error, or the table of the lengths' codes.
  Conditions: the lengths lie in memory.
-/
namespace Go.Proofs.YtikdpnpkmmmacabDoor
open Go.RowKit
set_option linter.unusedVariables false
def used (ls : List Nat) : Nat := ls.countP fun l => decide (0 < l)
/-- Codes that leave room, and more than one, or not of one bit. -/
abbrev Under (ls : List Nat) : Prop := kr ls < 32768 ∧ 0 < used ls ∧ (1 < used ls ∨ ls.count 1 ≠ 1)
/-- New's error. -/
def nerr (zs : List Int) : Nat := if ¬ Okl zs then 2 else if 32768 < kr (lens zs) then 80 else if Under (lens zs) then 81 else 0
theorem nerr_ok {zs : List Int} (h : nerr zs = 0) : Okl zs ∧ kr (lens zs) ≤ 32768 ∧ ¬ Under (lens zs) := by
  unfold nerr at h
  split at h
  · omega
  · rename_i h1
    split at h
    · omega
    · rename_i h2
      split at h
      · omega
      · rename_i h3
        exact ⟨Decidable.not_not.1 h1, by omega, h3⟩
theorem lens_15 {zs : List Int} (h : Okl zs) : ∀ l ∈ lens zs, l ≤ 15 := by
  intro l hl
  obtain ⟨z, hz, rfl⟩ := List.mem_map.1 hl
  have := h.2 z hz; omega
theorem lens_at {zs : List Int} (h : Okl zs) {i l : Nat} (hl : (lens zs)[i]? = some l) : zs[i]? = some (l : Int) := by
  unfold lens at hl
  rw [List.getElem?_map] at hl
  cases hz : zs[i]? with
  | none => rw [hz] at hl; simp at hl
  | some z =>
    rw [hz] at hl
    have e : z.toNat = l := by simpa using hl
    have := h.2 z (List.mem_of_getElem? hz)
    congr 1; omega
theorem lens_len (zs : List Int) : (lens zs).length = zs.length := by simp [lens]
theorem used_snoc (ls : List Nat) (l : Nat) : used (ls ++ [l]) = used ls + (if 0 < l then 1 else 0) := by
  unfold used
  rw [List.countP_append, List.countP_cons, List.countP_nil]
  by_cases h : 0 < l <;> simp [h]
theorem count_snoc (ls : List Nat) (l m : Nat) : (ls ++ [l]).count m = ls.count m + (if l = m then 1 else 0) := by
  rw [List.count_append, List.count_cons, List.count_nil]
  by_cases h : l = m <;> simp [h]
theorem used_le (ls : List Nat) : used ls ≤ ls.length := List.countP_le_length
end Go.Proofs.YtikdpnpkmmmacabDoor

/-
  What the program's sum, check, firsts and Kraft come to, over rows of sixteen counts.
-/
namespace Go.Proofs.YtikdpnpkmmmacabDoor
open Go.RowKit
set_option linter.unusedVariables false
/-- The sum of a row: what the codes of n bits or fewer take. -/
def psum (f : Nat → Nat) : Nat → Nat
  | 0 => 0
  | n + 1 => psum f n * 2 + f (n + 1)
theorem psum_part (ls : List Nat) : ∀ n, psum (fun j => ls.count j) n = part ls n
  | 0 => rfl
  | n + 1 => by rw [psum, part, psum_part ls n]; omega
theorem psum_zero : ∀ n, psum (fun _ => 0) n = 0
  | 0 => rfl
  | n + 1 => by rw [psum, psum_zero n]
theorem psum_le {f : Nat → Nat} (h : ∀ j, f j ≤ 320) : ∀ n, psum f n + 320 ≤ 320 * 2 ^ n
  | 0 => by simp [psum]
  | n + 1 => by
    have h1 := psum_le h n
    have h2 := h (n + 1)
    rw [psum, Nat.pow_succ]
    omega
theorem psum_step (f : Nat → Nat) (n : Nat) (h : n < 15) : psum f n * 2 ^ (15 - n) + f (n + 1) * 2 ^ (15 - (n + 1)) = psum f (n + 1) * 2 ^ (15 - (n + 1)) := by
  rw [psum, Nat.add_mul, show 15 - n = (15 - (n + 1)) + 1 by omega, Nat.pow_succ, Nat.mul_assoc, Nat.mul_comm 2]
theorem sw64_cast {n : Nat} (h : n < 9223372036854775808) : wrap64 (n : Int) = (n : Int) := by unfold wrap64; omega
theorem w64_nat {q d : Nat} (h : q * 2 ^ d < 9223372036854775808) : wrap64 ((q : Int) * 2 ^ d) = (q : Int) * 2 ^ d := by
  have e : (q : Int) * 2 ^ d = ((q * 2 ^ d : Nat) : Int) := by push_cast; rfl
  rw [e, sw64_cast h]
set_option maxRecDepth 100000 in
set_option maxHeartbeats 2000000 in
theorem sum_c (f : Nat → Nat) (hf : ∀ j, f j ≤ 320) (w : World) :
    Calls Tryd.prog 45 #[.agg (rw16 f)] w fun e w' => e = .returned (.int .i64 (psum f 15 : Nat)) ∧ Below w.heap.size w w' := by
  obtain ⟨B, hB⟩ : ∃ B, w.heap.size = B := ⟨_, rfl⟩
  obtain ⟨w1, hw1⟩ : ∃ w1, w1 = w.alloc (.cells (rw16 f) 72) := ⟨_, rfl⟩
  have c0 : Cells w1 B (rw16 f) 72 := by rw [hw1, ← hB]; exact Cells.new w _ 72
  have bel : Below B w w1 := by rw [hw1, ← hB]; exact (Below.refl _ w).alloc (Nat.le_refl _) _
  obtain ⟨R, hR⟩ : ∃ R, rw16 f = R := ⟨_, rfl⟩
  rw [hR] at hw1 ⊢
  have hRs : R.size = 16 := by rw [← hR]; exact rw16_size _
  have AW : Aside (Cells w1 B (rw16 f) 72 ∧ Below B w w1 ∧ w.heap.size = B ∧ rw16 f = R) := ⟨c0, bel, hB, hR⟩
  clear c0 bel hR
  go_enter Tryd.func45, Tryd.ntmps45
  go_upto_region 2 with fail
  rw [← hw1]
  clear hw1 hB
  go_wp2_with fail
  go_loopg [3, 4] 15 (fun g st sl wr => ∃ (n s : Nat), st = .int .i64 (s : Int) ∧ sl = .int .i64 ((n + 1 : Nat) : Int) ∧ Aside (n + g = 15 ∧ s = psum f n * 2 ^ (15 - n)) ∧ w1 = wr)
  case atStart => exact ⟨0, 0, rfl, rfl, ⟨by omega, by simp [psum]⟩, rfl⟩
  case round =>
    obtain ⟨n, s, rfl, rfl, hI, hw⟩ := hrel
    subst hw
    by_cases hn : n < 15
    · obtain ⟨q, hq⟩ : ∃ q, f (n + 1) = q := ⟨_, rfl⟩
      have hqb : q ≤ 320 := by rw [← hq]; exact hf _
      obtain ⟨l, hl⟩ : ∃ l, n + 1 = l := ⟨_, rfl⟩
      rw [hl]
      have hl15 : (l : Int) ≤ 15 := by omega
      have hl0 : (0 : Int) ≤ l := by omega
      have cq : w1.cell? ⟨B, l, none⟩ = some (.int .u32 (q : Int)) := by rw [AW.out.1.cell, rw16_at _ _ (by omega), ← hl, hq]
      have hbig : s + q * 2 ^ (15 - l) ≤ 320 * 2 ^ 15 := by
        have e1 := psum_step f n hn
        rw [hq, ← hI.out.2, hl] at e1
        rw [e1]
        have h2 := psum_le hf l
        have h3 : psum f l * 2 ^ (15 - l) ≤ (320 * 2 ^ l) * 2 ^ (15 - l) := Nat.mul_le_mul_right _ (by omega)
        rw [Nat.mul_assoc, ← Nat.pow_add, show l + (15 - l) = 15 by omega] at h3
        exact h3
      have hnx : Aside (s + q * 2 ^ (15 - l) = psum f l * 2 ^ (15 - l) ∧ n < 15 ∧ n + 1 = l) := by
        refine ⟨?_, hn, hl⟩
        have e1 := psum_step f n hn
        rw [hq, ← hI.out.2, hl] at e1
        exact e1
      obtain ⟨P, hP⟩ : ∃ P, 2 ^ (15 - l) = P := ⟨_, rfl⟩
      have hPI : (2 : Int) ^ (15 - (l : Int)).toNat = (P : Int) := by rw [← hP, show (15 - (l : Int)).toNat = 15 - l by omega]; push_cast; rfl
      clear hq
      go_wp2_with fail
      have e1 : wrap64 ((q : Int) * 2 ^ (15 - l)) = ((q * 2 ^ (15 - l) : Nat) : Int) := by
        rw [w64_nat (by omega)]
        · push_cast; rfl
      have e2 : wrap64 ((s : Int) + ((q * 2 ^ (15 - l) : Nat) : Int)) = ((s + q * 2 ^ (15 - l) : Nat) : Int) := by
        rw [← Int.natCast_add, sw64_cast (by omega)]
      rw [e1, e2]
      go_roundg (15 - (n + 1))
      case measure => have := hI.out.1; have := hnx.out.2.1; omega
      case rel =>
        refine ⟨n + 1, s + q * 2 ^ (15 - l), rfl, by have := hnx.out.2.2; subst this; go_num, ⟨by have := hnx.out.2.1; omega, ?_⟩, rfl⟩
        rw [hnx.out.1, hnx.out.2.2]
    · have hn15 : n = 15 := by have := hI.out.1; omega
      subst hn15
      have hs : s = psum f 15 := by have := hI.out.2; simpa using this
      clear hn hI
      go_wp2_with fail
      first | go_ret | go_ret2
      exact ⟨by rw [hs]; rfl, by rw [AW.out.2.2.1]; exact AW.out.2.1⟩
/-- What the check comes to. -/
def cerr (f : Nat → Nat) : Nat := if 32768 < psum f 15 then 80 else if psum f 15 = 32768 ∨ psum f 15 = 0 ∨ (psum f 15 = 16384 ∧ f 1 = 1) then 0 else 81
set_option maxRecDepth 100000 in
set_option maxHeartbeats 2000000 in
theorem check_c (f : Nat → Nat) (hf : ∀ j, f j ≤ 320) (e0 : Nat) (he : cerr f = e0) (w : World) :
    Calls Tryd.prog 37 #[.agg (rw16 f)] w fun e w' => e = .returned (.int .i64 (e0 : Int)) ∧ Below w.heap.size w w' := by
  obtain ⟨B, hB⟩ : ∃ B, w.heap.size = B := ⟨_, rfl⟩
  obtain ⟨w1, hw1⟩ : ∃ w1, w1 = w.alloc (.cells (rw16 f) 72) := ⟨_, rfl⟩
  have c0 : Cells w1 B (rw16 f) 72 := by rw [hw1, ← hB]; exact Cells.new w _ 72
  have bel : Below B w w1 := by rw [hw1, ← hB]; exact (Below.refl _ w).alloc (Nat.le_refl _) _
  have hB1 : w1.heap.size = B + 1 := by rw [hw1, ← hB]; exact Array.size_push _
  have hsum := sum_c f hf w1
  obtain ⟨s, hs⟩ : ∃ s, psum f 15 = s := ⟨_, rfl⟩
  obtain ⟨q, hq⟩ : ∃ q, f 1 = q := ⟨_, rfl⟩
  have hqb : q ≤ 320 := by rw [← hq]; exact hf 1
  have cq : (rw16 f)[1]? = some (.int .u32 (q : Int)) := by rw [rw16_at _ _ (by omega), hq]
  unfold cerr at he
  rw [hs, hq] at he
  rw [hs] at hsum
  obtain ⟨R, hR⟩ : ∃ R, rw16 f = R := ⟨_, rfl⟩
  rw [hR] at hw1 hsum c0 cq ⊢
  have hRs : R.size = 16 := by rw [← hR]; exact rw16_size _
  have AW : Aside (Cells w1 B R 72 ∧ Below B w w1 ∧ w.heap.size = B ∧ w1.heap.size = B + 1) := ⟨c0, bel, hB, hB1⟩
  have AE : Aside ((if 32768 < s then 80 else if s = 32768 ∨ s = 0 ∨ (s = 16384 ∧ q = 1) then 0 else 81) = e0) := he
  clear bel hR hB1 he hs hq
  go_enter Tryd.func37, Tryd.ntmps37
  go_upto_region 1 with fail
  rw [← hw1]
  clear hw1 hB
  go_upto_region 2 with (first
    | (refine wpList_load_row rfl 72 (.tmp 1) rfl B rfl 72 _ (0, 0) _ c0 Tryd.underlying72 rfl (by rw [hRs]; exact size59) ?_)
    | (go_at_call 45; refine hsum.mono ?_; rintro e2 w2 ⟨rfl, hb2⟩))
  have c1 : w2.cell? ⟨B, 1, none⟩ = some (.int .u32 (q : Int)) := ((AW.out.1.below hb2 (by rw [AW.out.2.2.2]; omega)).cell 1).trans cq
  have AB : Aside (Below B w w2) := AW.out.2.1.trans (hb2.mono (by rw [AW.out.2.2.2]; omega))
  clear c0 hb2 hsum cq
  by_cases h1 : 32768 < s
  · have t1 : ((32768 : Int) < (s : Int)) = True := eq_true (by omega)
    have he2 : e0 = 80 := by have := AE.out; rw [if_pos h1] at this; exact this.symm
    clear h1
    go_wp2_with fail
    first | go_ret | go_ret2
    exact ⟨by rw [he2]; rfl, by rw [AW.out.2.2.1]; exact AB.out⟩
  have t1 : ((32768 : Int) < (s : Int)) = False := eq_false (by omega)
  have AE2 : Aside ((if s = 32768 ∨ s = 0 ∨ (s = 16384 ∧ q = 1) then 0 else 81) = e0) := by have := AE.out; rw [if_neg h1] at this; exact this
  clear AE h1
  by_cases h2 : s = 32768
  · have he2 : e0 = 0 := by have := AE2.out; rw [if_pos (Or.inl h2)] at this; exact this.symm
    have t2 : ((s : Int) == 32768) = true := beq_iff_eq.2 (by omega)
    clear h2
    go_wp2_with fail
    first | go_ret | go_ret2
    exact ⟨by rw [he2]; rfl, by rw [AW.out.2.2.1]; exact AB.out⟩
  by_cases h3 : s = 0
  · have he2 : e0 = 0 := by have := AE2.out; rw [if_pos (Or.inr (Or.inl h3))] at this; exact this.symm
    have t2 : ((s : Int) == 32768) = false := beq_eq_false_iff_ne.2 (by omega)
    have t3 : ((s : Int) == 0) = true := beq_iff_eq.2 (by omega)
    clear h2 h3
    go_wp2_with fail
    first | go_ret | go_ret2
    exact ⟨by rw [he2]; rfl, by rw [AW.out.2.2.1]; exact AB.out⟩
  have t2 : ((s : Int) == 32768) = false := beq_eq_false_iff_ne.2 (by omega)
  have t3 : ((s : Int) == 0) = false := beq_eq_false_iff_ne.2 (by omega)
  by_cases h4 : s = 16384
  · have t4 : ((s : Int) == 16384) = true := beq_iff_eq.2 (by omega)
    by_cases h5 : q = 1
    · have he2 : e0 = 0 := by have := AE2.out; rw [if_pos (Or.inr (Or.inr ⟨h4, h5⟩))] at this; exact this.symm
      have t5 : ((q : Int) == 1) = true := beq_iff_eq.2 (by omega)
      clear h2 h3 h4 h5
      go_wp2_with fail
      first | go_ret | go_ret2
      exact ⟨by rw [he2]; rfl, by rw [AW.out.2.2.1]; exact AB.out⟩
    · have he2 : e0 = 81 := by have := AE2.out; rw [if_neg (by omega)] at this; exact this.symm
      have t5 : ((q : Int) == 1) = false := beq_eq_false_iff_ne.2 (by omega)
      clear h2 h3 h4 h5
      go_wp2_with fail
      first | go_ret | go_ret2
      exact ⟨by rw [he2]; rfl, by rw [AW.out.2.2.1]; exact AB.out⟩
  · have he2 : e0 = 81 := by have := AE2.out; rw [if_neg (by omega)] at this; exact this.symm
    have t4 : ((s : Int) == 16384) = false := beq_eq_false_iff_ne.2 (by omega)
    clear h2 h3 h4
    go_wp2_with fail
    first | go_ret | go_ret2
    exact ⟨by rw [he2]; rfl, by rw [AW.out.2.2.1]; exact AB.out⟩
theorem psum_cell {f : Nat → Nat} (hf : ∀ j, f j ≤ 320) (n : Nat) (h : n ≤ 15) : psum f n ≤ 10485760 := by
  have h1 := psum_le hf n
  have h2 : 2 ^ n ≤ 2 ^ 15 := Nat.pow_le_pow_right (by decide) h
  omega
/-- The first code of each length. -/
def frs (f : Nat → Nat) (j : Nat) : Nat := if j = 0 then 0 else 2 * psum f (j - 1)
theorem frs_first (ls : List Nat) : ∀ j, frs (fun j => ls.count j) j = first ls j
  | 0 => rfl
  | n + 1 => by unfold frs first; rw [if_neg (by omega), show n + 1 - 1 = n by omega, psum_part]
set_option maxRecDepth 100000 in
set_option maxHeartbeats 2000000 in
theorem firsts_c (f : Nat → Nat) (hf : ∀ j, f j ≤ 320) (w : World) :
    Calls Tryd.prog 38 #[.agg (rw16 f)] w fun e w' => e = .returned (.agg (rw16 (frs f))) ∧ Below w.heap.size w w' := by
  obtain ⟨B, hB⟩ : ∃ B, w.heap.size = B := ⟨_, rfl⟩
  obtain ⟨w1, hw1⟩ : ∃ w1, w1 = w.alloc (.cells (rw16 f) 72) := ⟨_, rfl⟩
  obtain ⟨w2, hw2⟩ : ∃ w2, w2 = w1.alloc (.cells (rw16 fun _ => 0) 72) := ⟨_, rfl⟩
  obtain ⟨w3, hw3⟩ : ∃ w3, w3 = w2.alloc (.cells (rw16 fun _ => 0) 72) := ⟨_, rfl⟩
  have hB1 : w1.heap.size = B + 1 := by rw [hw1, ← hB]; exact Array.size_push _
  have hB2 : w2.heap.size = B + 2 := by rw [hw2, show B + 2 = B + 1 + 1 from rfl, ← hB1]; exact Array.size_push _
  have c0 : Cells w3 B (rw16 f) 72 := by rw [hw3, hw2]; refine Cells.alloc (Cells.alloc ?_ _) _; rw [hw1, ← hB]; exact Cells.new w _ 72
  have c1 : Cells w3 (B + 1) (rw16 fun _ => 0) 72 := by rw [hw3]; refine Cells.alloc ?_ _; rw [hw2, ← hB1]; exact Cells.new w1 _ 72
  have c2 : Cells w3 (B + 2) (rw16 fun _ => 0) 72 := by rw [hw3, ← hB2]; exact Cells.new w2 _ 72
  have bel : Below B w w3 := by
    rw [hw3, hw2]
    refine Below.alloc (Below.alloc ?_ (by rw [hB1]; omega) _) (by rw [← hw2, hB2]; omega) _
    rw [hw1, ← hB]; exact (Below.refl _ w).alloc (Nat.le_refl _) _
  obtain ⟨R, hR⟩ : ∃ R, rw16 f = R := ⟨_, rfl⟩
  rw [hR] at hw1 ⊢
  have hRs : R.size = 16 := by rw [← hR]; exact rw16_size _
  have AW : Aside (Cells w3 B (rw16 f) 72 ∧ Cells w3 (B + 1) (rw16 fun _ => 0) 72 ∧ Cells w3 (B + 2) (rw16 fun _ => 0) 72 ∧ Below B w w3 ∧ w.heap.size = B) := ⟨c0, c1, c2, bel, hB⟩
  clear c0 c1 c2 bel hR
  have hz : ∀ w', (zeroValue 72).run Tryd.prog w' = .ok (.agg (rw16 fun _ => 0)) w' := fun w' => by kernel_rfl
  go_enter Tryd.func38, Tryd.ntmps38
  go_upto_region 2 with fail
  rw [← hw1, ← hw2, ← hw3]
  clear hw1 hw2 hw3 hB hB1 hB2
  go_wp2_with fail
  go_loopg [4] 14 (fun g sl wr => ∃ (n : Nat), sl = .int .i64 ((n + 2 : Nat) : Int) ∧ Aside (n + g = 14 ∧ Cells wr B (rw16 f) 72 ∧ Cells wr (B + 1) (rw16 fun _ => 0) 72 ∧ Cells wr (B + 2) (rw16 fun j => if j < n + 2 then frs f j else 0) 72 ∧ Below B w wr))
  case atStart =>
    refine ⟨0, rfl, ⟨by omega, AW.out.1, AW.out.2.1, ?_, AW.out.2.2.2.1⟩⟩
    have e : (rw16 fun j => if j < 0 + 2 then frs f j else 0) = rw16 fun _ => 0 := rw16_congr fun j _ => by
      split
      · unfold frs
        rcases (show j = 0 ∨ j = 1 by omega) with rfl | rfl <;> rfl
      · rfl
    rw [e]; exact AW.out.2.2.1
  case round =>
    obtain ⟨n, rfl, hI⟩ := hrel
    by_cases hn : n < 14
    · obtain ⟨l, hl⟩ : ∃ l, n + 2 = l := ⟨_, rfl⟩
      rw [hl]
      have hl15 : (l : Int) ≤ 15 := by omega
      have hl2 : (2 : Int) ≤ l := by omega
      obtain ⟨k, hk⟩ : ∃ k, n + 1 = k := ⟨_, rfl⟩
      have elk : (l : Int) - 1 = (k : Int) := by omega
      obtain ⟨q, hq⟩ : ∃ q, f k = q := ⟨_, rfl⟩
      obtain ⟨r, hr⟩ : ∃ r, frs f k = r := ⟨_, rfl⟩
      have hqb : q ≤ 320 := by rw [← hq]; exact hf _
      have hrb : r ≤ 20971520 := by rw [← hr]; unfold frs; rw [if_neg (by omega)]; have := psum_cell hf (k - 1) (by omega); omega
      have cq : wr.cell? ⟨B, k, none⟩ = some (.int .u32 (q : Int)) := by rw [hI.out.2.1.cell, rw16_at _ _ (by omega), hq]
      have cr : wr.cell? ⟨B + 2, k, none⟩ = some (.int .u32 (r : Int)) := by rw [hI.out.2.2.2.1.cell, rw16_at _ _ (by omega), if_pos (by omega), hr]
      have fq := hI.out.2.2.2.1.frozen l
      have hnx : Aside (frs f l = 2 * (r + q) ∧ n < 14 ∧ n + 2 = l) := by
        refine ⟨?_, hn, hl⟩
        rw [← hr, ← hq, ← hl, ← hk]
        unfold frs
        rw [if_neg (by omega), if_neg (by omega), show n + 2 - 1 = n + 1 by omega, psum, show n + 1 - 1 = n by omega]
        omega
      have hcell : ∃ v, wr.cell? ⟨B + 2, l, none⟩ = some v := ⟨_, by rw [hI.out.2.2.2.1.cell, rw16_at _ _ (by omega)]⟩
      obtain ⟨v, hv⟩ := hcell
      clear hq hr hl hk
      have hwr : ∀ z : Int, (z = (l : Int) - 1) → IntKind.i64.wrap z = (k : Int) := by
        intro z hz
        rw [hz, elk, IntKind.wrap_i64]; omega
      go_upto_region 5 with fail
      go_region
      go_wp2_with fail
      go_roundg (14 - (n + 1))
      case measure => have := hI.out.1; have := hnx.out.2.1; omega
      case rel =>
        refine ⟨n + 1, by have := hnx.out.2.2; subst this; go_num, ⟨by have := hnx.out.2.1; omega, ?_, ?_, ?_, ?_⟩⟩
        · exact (hI.out.2.1.only ((Only.refl (B + 2) wr).setCell l _) (by omega)).drew
        · exact (hI.out.2.2.1.only ((Only.refl (B + 2) wr).setCell l _) (by omega)).drew
        · have := hI.out.2.2.2.1.set l (.int .u32 ((2 * (r + q) : Nat) : Int))
          rw [rw16_set] at this
          have e : (rw16 fun j => if j = l then 2 * (r + q) else if j < n + 2 then frs f j else 0) = rw16 fun j => if j < n + 1 + 2 then frs f j else 0 := rw16_congr fun j _ => by
            have := hnx.out.2.2
            by_cases e : j = l
            · rw [if_pos e, if_pos (by omega), e, hnx.out.1]
            · rw [if_neg e]
              by_cases h2 : j < n + 2
              · rw [if_pos h2, if_pos (by omega)]
              · rw [if_neg h2, if_neg (by omega)]
          rw [e] at this
          have := this.drew
          push_cast at this
          exact this
        · exact (hI.out.2.2.2.2.setCell (p := ⟨B + 2, l, none⟩) (by show B ≤ B + 2; omega) _).drew
    · have hn14 : n = 14 := by have := hI.out.1; omega
      subst hn14
      have hc0 := hI.out.2.2.1
      have hc1 := hI.out.2.2.2.1
      have e : (rw16 fun j => if j < 14 + 2 then frs f j else 0) = rw16 (frs f) := rw16_congr fun j hj => if_pos (by omega)
      rw [e] at hc1
      have hc := set_row hc0 (rw16 (frs f))
      have hbel := hI.out.2.2.2.2.trans ((only_row hc0 (rw16 (frs f))).below (by omega))
      have AC : Aside (Cells (wr.setRow (B + 1) (rw16 (frs f))) (B + 1) (rw16 (frs f)) 72 ∧ Below B w (wr.setRow (B + 1) (rw16 (frs f)))) := ⟨hc, hbel⟩
      clear hI hc hbel e hn
      go_wp2_with (first
        | (refine wpList_load_row rfl 72 (.tmp 3) rfl (B + 2) rfl 72 _ (0, 0) _ hc1 Tryd.underlying72 rfl (by rw [rw16_size]; exact size59) ?_)
        | (refine wpList_store_row rfl 72 (.tmp 2) (.tmp 21) rfl (B + 1) (rw16 (frs f)) rfl rfl 72 (rw16 fun _ => 0) hc0 (by rw [rw16_size]; exact size59) rfl (rw16_one _) ?_))
      (try simp only [Exit.inBlock, Exit.then])
      refine bodyPost_ret (v := .agg (rw16 (frs f))) ?_ rfl ?_
      · exact results_cell_row rfl _ _ (B + 1) 72 _ (0, 0) _ rfl AC.out.1 Tryd.underlying72 rfl (by rw [rw16_size]; exact size59)
      · exact ⟨rfl, by rw [AW.out.2.2.2.2]; exact AC.out.2⟩
set_option maxRecDepth 100000 in
set_option maxHeartbeats 2000000 in
theorem kraft_c (a : Option Addr) (zs : List Int) (L C r : Nat) (ok : Bool) (w : World) (h : Lens w a zs) (hL : zs.length = L) (hLb : L < 140737488355328) (hr : (Okl zs ∧ r = kr (lens zs) ∧ ok = true) ∨ (¬ Okl zs ∧ r = 0 ∧ ok = false)) :
    Calls Tryd.prog 43 #[.slice a L C] w fun e w' => e = .returned (.tuple #[.int .i64 (r : Int), .bool ok]) ∧ Below w.heap.size w w' := by
  obtain ⟨f, hf, hfb, hfs⟩ : ∃ f : Nat → Nat, ((Okl zs ∧ (f = fun j => (lens zs).count j) ∧ ok = true) ∨ (¬ Okl zs ∧ (f = fun _ => 0) ∧ ok = false)) ∧ (∀ j, f j ≤ 320) ∧ psum f 15 = r := by
    rcases hr with ⟨h1, h2, h3⟩ | ⟨h1, h2, h3⟩
    · refine ⟨fun j => (lens zs).count j, Or.inl ⟨h1, rfl, h3⟩, fun j => ?_, ?_⟩
      · have e1 := List.count_le_length (a := j) (l := lens zs)
        have e2 : (lens zs).length ≤ 320 := by unfold lens; rw [List.length_map]; exact h1.1
        exact Nat.le_trans e1 e2
      · rw [psum_part, h2, kr_part]
        intro l hl
        unfold lens at hl
        obtain ⟨z, hz, rfl⟩ := List.mem_map.1 hl
        have := h1.2 z hz
        omega
    · exact ⟨fun _ => 0, Or.inr ⟨h1, rfl, h3⟩, fun _ => Nat.zero_le _, by rw [psum_zero, h2]⟩
  have hcount := count_c a zs L C f ok w h hL hLb hf
  have hsum : ∀ u, Calls Tryd.prog 45 #[.agg (rw16 f)] u fun e w' => e = .returned (.int .i64 (r : Int)) ∧ Below u.heap.size u w' := fun u => by have := sum_c f hfb u; rw [hfs] at this; exact this
  obtain ⟨R, hR⟩ : ∃ R, rw16 f = R := ⟨_, rfl⟩
  rw [hR] at hcount hsum
  have hRs : R.size = 16 := by rw [← hR]; exact rw16_size _
  have hR1 : R.all (·.oneCell') = true := by rw [← hR]; exact rw16_one _
  have hz : ∀ w', (zeroValue 72).run Tryd.prog w' = .ok (.agg (rw16 fun _ => 0)) w' := fun w' => by kernel_rfl
  clear h hL hLb hr hf hfb hfs hR
  go_enter Tryd.func43, Tryd.ntmps43
  go_upto_region 2 with (first
    | (go_at_call 36; refine hcount.mono ?_; rintro e2 w2 ⟨rfl, hb2⟩
       have c2 := Cells.new w2 (rw16 fun _ => 0) 72
       have b2 : Aside (Below w.heap.size w w2) := hb2
       clear hb2)
    | (refine wpList_store_row rfl 72 (.tmp 4) (.tmp 9) rfl w2.heap.size R rfl rfl 72 (rw16 fun _ => 0) c2 (by rw [hRs]; exact size59) (by rw [hRs]; rfl) hR1 ?_))
  have c3 := set_row c2 R
  have b3 : Aside (Below w.heap.size w ((w2.alloc (.cells (rw16 fun _ => 0) 72)).setRow w2.heap.size R)) := (b2.out.alloc b2.out.size _).trans ((only_row c2 R).below b2.out.size)
  obtain ⟨w3, hw3⟩ : ∃ w3, w3 = (w2.alloc (.cells (rw16 fun _ => 0) 72)).setRow w2.heap.size R := ⟨_, rfl⟩
  rw [← hw3] at c3 b3 ⊢
  obtain ⟨D, hD⟩ : ∃ D, w2.heap.size = D := ⟨_, rfl⟩
  rw [hD] at c3 ⊢
  clear c2 hw3 hD b2
  go_wp2_with (first
    | (refine wpList_load_row rfl 72 (.tmp 4) rfl D rfl 72 _ (0, 0) _ c3 Tryd.underlying72 rfl (by rw [hRs]; exact size59) ?_)
    | (go_at_call 45; refine (hsum _).mono ?_; rintro e4 w4 ⟨rfl, hb4⟩))
  first | go_ret | go_ret2
  exact ⟨rfl, b3.out.trans (hb4.mono b3.out.size)⟩
end Go.Proofs.YtikdpnpkmmmacabDoor
